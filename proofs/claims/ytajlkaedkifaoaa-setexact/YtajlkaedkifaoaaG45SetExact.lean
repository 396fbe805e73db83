/-
  Texts of the proof of SetExact, one behind the other.
-/
import Derived.Test.YtajlkaedkifaoaaRows
import Derived.Test.YtajlkaedkifaoaaG39SetExact
import Derived.Test.YtajlkaedkifaoaaG44SetExact
import Derived.Test.YtajlkaedkifaoaaG18SetExact
import Derived.Test.YtajlkaedkifaoaaG37SetExact
namespace Go.Proofs.Ytajlkaedkifaoaa
open Go.RowKit Go.Lib
set_option linter.unusedVariables false

theorem GivesZ.base {w w1 w' : World} {e : Ending} {r : List PI × Int} (h : GivesZ w1 w' e r) (hb : Below w.heap.size w w1) : GivesZ w w' e r := by
  obtain ⟨v, Z, he, hz, hr, hb'⟩ := h
  exact ⟨v, Z, he, hz, hr.base hb.size, chain hb hb'⟩

theorem all_ok_no {X : List PI} {k : Nat} (hk : k < X.length) (h : okI X[k] = false) : X.all okI = false := by
  rw [Bool.eq_false_iff]
  intro ha
  have := List.all_eq_true.1 ha _ (List.getElem_mem hk)
  rw [h] at this
  cases this

theorem all_ok_step {X : List PI} {k : Nat} (hk : k < X.length) (h : (X.take k).all okI = true) (h1 : okI X[k] = true) : (X.take (k + 1)).all okI = true := by
  rw [List.take_succ_eq_append_getElem hk, List.all_append, h]
  simp [h1]

set_option maxRecDepth 100000 in
set_option maxHeartbeats 4000000 in
theorem zMake_any (a : Option Addr) (n cap : Nat) (X : List PI) (w : World) (hn : X.length = n) (h4 : n ≤ 32768) (hr : RdZ w a X) :
    Calls Try.prog 11 #[.slice a n cap] w fun e w' => GivesZ w w' e (makeZ X) := by
  have HN : Hid (X.length = n) := hn
  have HR : Hid (RdZ w a X) := hr
  clear hn hr
  go_enter Try.func11, Try.ntmps11
  go_wp2
  go_loopw [8] (fun i wr => ∃ k : Nat, k ≤ n ∧ i = .int .i64 k ∧ Hid ((X.take k).all okI = true) ∧ Hid (Below w.heap.size w wr)) (fun i _ => n - (RowKit.intOf i).toNat)
  case atStart => exact ⟨0, Nat.zero_le _, rfl, rfl, Below.refl _ _⟩
  case round =>
    obtain ⟨k, hk, rfl, hT, hB⟩ := hrel
    by_cases hlt : k < n
    · have hkl : k < X.length := by rw [HN.out]; exact hlt
      obtain ⟨b, off, ra, rc, rfl, x0, x1, hz⟩ := (HR.out.later hB.out).at_ hkl
      have BW : Hid (Below wr.heap.size wr (wr.alloc (.cells #[.slice ra X[k].row.length rc, .int .i64 X[k].wt] 40))) := alloc_below _ _
      have CR : Calls Try.prog 32 #[.agg #[.slice ra X[k].row.length rc, .int .i64 X[k].wt]] (wr.alloc (.cells #[.slice ra X[k].row.length rc, .int .i64 X[k].wt] 40)) fun e w' => e = .returned (.bool (okI X[k])) ∧ Below (wr.alloc (.cells #[.slice ra X[k].row.length rc, .int .i64 X[k].wt] 40)).heap.size (wr.alloc (.cells #[.slice ra X[k].row.length rc, .int .i64 X[k].wt] 40)) w' := zRight_any _ X[k] _ (hz.later BW.out)
      have HNP : Hid (okI X[k] = false → makeZ X = ([], 1)) := fun h => by show _ = _; unfold makeZ; rw [all_ok_no hkl h]; rfl
      have HST : Hid (okI X[k] = true → (X.take (k + 1)).all okI = true) := all_ok_step hkl hT.out
      clear hz hT
      generalize okI X[k] = q at *
      generalize X[k].wt = p at *
      generalize X[k].row.length = rn at *
      cases q with
      | false =>
        have HNO : Hid (makeZ X = ([], 1)) := HNP.out rfl
        clear HNP HST
        go_wp2_with fail
        refine CR.mono ?_
        rintro e w1 ⟨rfl, hb⟩
        have HB1 : Hid (Below w.heap.size w w1) := chain hB.out (chain BW.out hb)
        clear CR hb BW
        go_wp2
        go_ret2
        rw [HNO.out]
        exact GivesZ.no rfl HB1.out
      | true =>
        have HT' : Hid ((X.take (k + 1)).all okI = true) := HST.out rfl
        clear HNP HST
        go_wp2_with fail
        refine CR.mono ?_
        rintro e w1 ⟨rfl, hb⟩
        have HB1 : Hid (Below w.heap.size w w1) := chain hB.out (chain BW.out hb)
        clear CR hb BW
        go_wp2
        go_roundw
        case rel => exact ⟨k + 1, by omega, by go_num, HT'.out, HB1.out⟩
        case measure => simp [RowKit.intOf]; omega
    · obtain rfl : k = n := by omega
      have hall := hT.out
      rw [List.take_of_length_le (by rw [HN.out]; exact Nat.le_refl _)] at hall
      have HALL : Hid (X.all okI = true) := hall
      obtain ⟨Z, hZX, hrk, hlz⟩ := HR.out.later hB.out
      have hZn : Z.length = k := by rw [← HN.out, ← hZX, List.length_map]
      have HW1 : Hid (Below wr.heap.size wr (wr.alloc (.cells #[.slice a k cap] 22))) := alloc_below _ _
      have hbs : (wr.alloc (.cells #[.slice a k cap] 22)).cell? ⟨wr.heap.size, 0, none⟩ = some (.slice a k cap) := by
        have hb : (wr.alloc (.cells #[.slice a k cap] 22)).heap[wr.heap.size]? = some (.cells #[.slice a k cap] 22 (0, 0)) := by
          show (wr.heap.push _)[wr.heap.size]? = _
          simp
        unfold World.cell?
        rw [hb]
        rfl
      have CS := zsorted_any wr.heap.size k cap a Z (wr.alloc (.cells #[.slice a k cap] 22)) hZn (by omega) hbs (hrk.later HW1.out) (fun z hz => (hlz z hz).later HW1.out)
      rw [hZX] at CS
      clear hall hT hZX hrk hlz hZn hbs
      go_wp2_with fail
      refine (zvalues_any _ _ _ _).mono ?_
      rintro e w1 ⟨rfl, hw1⟩
      subst hw1
      go_wp2_with fail
      refine CS.mono ?_
      rintro e w2 ⟨a', cap', Y, rfl, hc, hp, hs, hrd, hb2⟩
      have hYn : Y.length = k := by rw [← hp.length_eq]; exact HN.out
      have CG := zgathered_any a' k cap' Y w2 hYn h4 hrd
      rw [← makeZ_of HALL.out hs hp] at CG
      have HB2 : Hid (Below w.heap.size w w2) := chain hB.out (chain HW1.out hb2)
      clear CS hc hp hs hrd hb2 hYn
      go_wp2_with fail
      refine CG.mono ?_
      rintro e w3 h3
      have h3' := h3.base HB2.out
      obtain ⟨v, Z3, rfl, h31, h32, h33⟩ := h3'
      obtain ⟨a3, c3, rfl, -⟩ := h32.form
      have H3 : Hid (Z3.map (·.2) = (makeZ X).1 ∧ RowZ w3 w.heap.size (.slice a3 Z3.length c3) Z3 ∧ Below w.heap.size w w3) := ⟨h31, h32, h33⟩
      clear CG h3 h31 h32 h33
      obtain ⟨er, her⟩ : ∃ er, (makeZ X).2 = er := ⟨_, rfl⟩
      have HER : Hid ((makeZ X).2 = er) := her
      rw [her]
      clear her
      go_wp2
      go_ret2
      exact ⟨_, Z3, by rw [HER.out]; rfl, H3.out.1, H3.out.2.1, H3.out.2.2⟩

end Go.Proofs.Ytajlkaedkifaoaa

namespace Go.Proofs.Ytajlkaedkifaoaa
open Go.RowKit Go.Lib
set_option linter.unusedVariables false

theorem chkZ_cases (X : List PI) : (riseZ X = true ∧ chkZ X = 0) ∨ (riseZ X = false ∧ chkZ X = 1) := by
  cases h : riseZ X with
  | true => exact .inl ⟨rfl, chkZ_yes h⟩
  | false => exact .inr ⟨rfl, chkZ_no h⟩

/-- A row of Items that came in, from whatever world on. -/
theorem left_of {w : World} {a : Option Addr} {n cap : Nat} {X : List PI} (hn : X.length = n) (hc : n ≤ cap) (hnil : a = none → X = [] ∧ cap = 0) (hr : RdZ w a X) : ∃ Z, Z.map (·.2) = X ∧ LeftZ w.heap.size w a n cap Z := by
  obtain ⟨Z, rfl, hk, hl⟩ := hr
  rw [List.length_map] at hn
  refine ⟨Z, rfl, hn, hc, hk, fun z hz => ((hl z hz).now).less fun b hb => .inr hb, fun e => ?_, fun h0 b o e => ?_⟩
  · have := hnil e
    rw [List.map_eq_nil_iff] at this
    exact this
  · subst e
    obtain ⟨b', off', e', hcs⟩ := hk (by rw [List.length_map]; exact h0)
    cases e'
    obtain ⟨ra, rc, hz, -⟩ := hl _ (List.getElem_mem h0)
    exact cellZ_lt (hcs 0 (by rw [List.length_map]; exact h0) 0 (.slice ra Z[0].2.row.length rc) (by rw [List.getElem_map, hz]; rfl))

set_option maxRecDepth 100000 in
set_option maxHeartbeats 4000000 in
theorem zAdd_any (a c : Option Addr) (n m cap dap : Nat) (X Y : List PI) (w : World) (hn : X.length = n) (hm : Y.length = m) (h4 : n ≤ 16384) (h5 : m ≤ 16384) (hc : n ≤ cap) (hd : m ≤ dap) (hnil : a = none → X = [] ∧ cap = 0) (hnil2 : c = none → Y = [] ∧ dap = 0) (hX : RdZ w a X) (hY : RdZ w c Y) :
    Calls Try.prog 20 #[.slice a n cap, .slice c m dap] w fun e w' => GivesZ w w' e (addZ X Y) := by
  have C1 := zCheck_any a n cap X w hn (by omega) hX
  rcases chkZ_cases X with ⟨hx, ex⟩ | ⟨hx, ex⟩
  rotate_left
  · have HNO : Hid (addZ X Y = ([], 1)) := by show _ = _; unfold addZ; rw [hx]; rfl
    rw [ex] at C1
    clear hX hY hnil hnil2 hn hm hx ex
    go_enter Try.func20, Try.ntmps20
    go_wp2_with fail
    refine C1.mono ?_
    rintro e w1 ⟨rfl, hb⟩
    clear C1
    go_wp2
    go_ret2
    rw [HNO.out]
    exact GivesZ.no rfl hb
  rcases chkZ_cases Y with ⟨hy, ey⟩ | ⟨hy, ey⟩
  rotate_left
  · have HNO : Hid (addZ X Y = ([], 1)) := by show _ = _; unfold addZ; rw [hx, hy]; rfl
    have C2 := fun V (hb : Below w.heap.size w V) => zCheck_any c m dap Y V hm (by omega) (hY.later hb)
    rw [ex] at C1
    rw [ey] at C2
    clear hX hY hnil hnil2 hn hm hx ex hy ey
    go_enter Try.func20, Try.ntmps20
    go_wp2_with fail
    refine C1.mono ?_
    rintro e w1 ⟨rfl, hb⟩
    have HB1 : Hid (Below w.heap.size w w1) := hb
    clear C1 hb
    go_wp2_with fail
    refine (C2 _ HB1.out).mono ?_
    rintro e w2 ⟨rfl, hb⟩
    have HB2 : Hid (Below w.heap.size w w2) := chain HB1.out hb
    clear C2 hb HB1
    go_wp2
    go_ret2
    rw [HNO.out]
    exact GivesZ.no rfl HB2.out
  have C2 := fun V (hb : Below w.heap.size w V) => zCheck_any c m dap Y V hm (by omega) (hY.later hb)
  have C3 := fun V (hb : Below w.heap.size w V) => (fun (hl : ∃ Z, Z.map (·.2) = X ∧ LeftZ V.heap.size V a n cap Z) (hl2 : ∃ Z, Z.map (·.2) = Y ∧ LeftZ V.heap.size V c m dap Z) => (show Calls Try.prog 44 #[.slice a n cap, .slice c m dap] V fun e w' => ∃ v Z, e = .returned v ∧ Z.map (·.2) = mergeZ X Y ∧ Z.length = n + m ∧ SharedZ w' V.heap.size v Z ∧ Below V.heap.size V w' from by
    obtain ⟨ZX, rfl, l1⟩ := hl
    obtain ⟨ZY, rfl, l2⟩ := hl2
    exact zmerged_any a c n m cap dap ZX ZY V h4 h5 l1 l2)) (left_of hn hc hnil (hX.later hb)) (left_of hm hd hnil2 (hY.later hb))
  have HA : Hid (addZ X Y = ansZ (gatherZ (mergeZ X Y))) := addZ_merge hx hy
  rw [ex] at C1
  rw [ey] at C2
  clear hX hY hnil hnil2 hn hm hx ex hy ey
  go_enter Try.func20, Try.ntmps20
  go_wp2_with fail
  refine C1.mono ?_
  rintro e w1 ⟨rfl, hb⟩
  have HB1 : Hid (Below w.heap.size w w1) := hb
  clear C1 hb
  go_wp2_with fail
  refine (C2 _ HB1.out).mono ?_
  rintro e w2 ⟨rfl, hb⟩
  have HB2 : Hid (Below w.heap.size w w2) := chain HB1.out hb
  clear C2 hb HB1
  go_wp2_with fail
  refine (C3 _ HB2.out).mono ?_
  rintro e w3 ⟨v, Z, rfl, hZ, hZn, hS, hb3⟩
  obtain ⟨a3, c3, e3, hc3, r3, -⟩ := hS.form
  rw [hZn] at e3
  subst e3
  have CG := zgathered_any a3 (n + m) c3 (Z.map (·.2)) w3 (by rw [List.length_map]; exact hZn) (by omega) r3
  rw [hZ, ← HA.out] at CG
  have HB3 : Hid (Below w.heap.size w w3) := chain HB2.out hb3
  clear C3 hZ hZn hS hb3 hc3 r3
  go_wp2_with fail
  refine CG.mono ?_
  rintro e w4 h4'
  have h5' := h4'.base HB3.out
  obtain ⟨v, Z4, rfl, h41, h42, h43⟩ := h5'
  obtain ⟨a4, c4, rfl, -⟩ := h42.form
  have H4 : Hid (Z4.map (·.2) = (addZ X Y).1 ∧ RowZ w4 w.heap.size (.slice a4 Z4.length c4) Z4 ∧ Below w.heap.size w w4) := ⟨h41, h42, h43⟩
  clear CG h4' h41 h42 h43
  obtain ⟨er, her⟩ : ∃ er, (addZ X Y).2 = er := ⟨_, rfl⟩
  have HER : Hid ((addZ X Y).2 = er) := her
  rw [her]
  clear her
  go_wp2
  go_ret2
  exact ⟨_, Z4, by rw [HER.out]; rfl, H4.out.1, H4.out.2.1, H4.out.2.2⟩

/-- The sum of all weights' sizes, at most so much. -/
def absZ (x : PI) : Int := max x.wt (-x.wt)
def sizeTo (X : List PI) : Int := X.foldl (fun n x => min (n + absZ x) 1152921504606846976) 0
def sizeZ (X : List PI) : Int := if riseZ X = true then sizeTo X else 0

theorem sizeTo_snoc (X : List PI) (x : PI) : sizeTo (X ++ [x]) = min (sizeTo X + absZ x) 1152921504606846976 := by simp [sizeTo]

theorem sizeTo_from : ∀ (X : List PI) (n : Int), 0 ≤ n → n ≤ 1152921504606846976 → 0 ≤ X.foldl (fun n x => min (n + absZ x) 1152921504606846976) n ∧ X.foldl (fun n x => min (n + absZ x) 1152921504606846976) n ≤ 1152921504606846976
  | [], n, h, h' => ⟨h, h'⟩
  | x :: X, n, h, h' => by
    rw [List.foldl_cons]
    exact sizeTo_from X _ (by unfold absZ; omega) (by omega)

theorem sizeTo_in (X : List PI) : 0 ≤ sizeTo X ∧ sizeTo X ≤ 1152921504606846976 := sizeTo_from X 0 (Int.le_refl _) (by omega)

set_option maxRecDepth 100000 in
set_option maxHeartbeats 4000000 in
theorem zSize_any (a : Option Addr) (n cap : Nat) (X : List PI) (w : World) (hn : X.length = n) (h4 : n ≤ 32768) (hr : RdZ w a X) :
    Calls Try.prog 16 #[.slice a n cap] w fun e w' => e = .returned (.int .i64 (sizeZ X)) ∧ Below w.heap.size w w' := by
  have C1 := zCheck_any a n cap X w hn (by omega) hr
  rcases chkZ_cases X with ⟨hx, ex⟩ | ⟨hx, ex⟩
  rotate_left
  · have HNO : Hid (sizeZ X = 0) := by show _ = _; unfold sizeZ; rw [hx]; rfl
    rw [ex] at C1
    clear hr hn hx ex
    go_enter Try.func16, Try.ntmps16
    go_wp2_with fail
    refine C1.mono ?_
    rintro e w1 ⟨rfl, hb⟩
    clear C1
    go_wp2
    go_ret
    exact ⟨by rw [HNO.out]; rfl, hb⟩
  have HS : Hid (sizeZ X = sizeTo X) := by show _ = _; unfold sizeZ; rw [if_pos hx]
  have HN : Hid (X.length = n) := hn
  have HR : Hid (RdZ w a X) := hr
  have HW : Hid (∀ i (h : i < X.length), -72057594037927936 ≤ X[i].wt ∧ X[i].wt ≤ 72057594037927936) := fun i h => by
    have := ((riseZ_iff.1 hx).1 _ (List.getElem_mem h)).1
    unfold okI at this
    exact isW_iff.1 (Bool.and_eq_true_iff.1 this).2
  rw [ex] at C1
  clear hr hn hx ex
  go_enter Try.func16, Try.ntmps16
  go_wp2_with fail
  refine C1.mono ?_
  rintro e w1 ⟨rfl, hb⟩
  have HB1 : Hid (Below w.heap.size w w1) := hb
  clear C1 hb
  go_wp2
  go_loopw [3, 11] (fun v i wr => ∃ k : Nat, k ≤ n ∧ i = .int .i64 k ∧ v = .int .i64 (sizeTo (X.take k)) ∧ Hid (Below w.heap.size w wr)) (fun _ i _ => n - (RowKit.intOf i).toNat)
  case atStart => exact ⟨0, Nat.zero_le _, rfl, rfl, HB1.out⟩
  case round =>
    clear HB1
    obtain ⟨k, hk, rfl, rfl, hB⟩ := hrel
    have hin := sizeTo_in (X.take k)
    by_cases hlt : k < n
    · have hkl : k < X.length := by rw [HN.out]; exact hlt
      obtain ⟨b, off, ra, rc, rfl, x0, x1, -⟩ := (HR.out.later hB.out).at_ hkl
      have hwt := HW.out k hkl
      have HT : Hid (sizeTo (X.take (k + 1)) = min (sizeTo (X.take k) + absZ X[k]) 1152921504606846976) := by
        show _ = _
        rw [List.take_succ_eq_append_getElem hkl, sizeTo_snoc]
      have HA : Hid (absZ X[k] = max X[k].wt (-X[k].wt)) := rfl
      generalize absZ X[k] = ab at *
      generalize X[k].wt = p at *
      generalize X[k].row.length = rn at *
      generalize sizeTo (X.take k) = s at *
      go_wp2
      go_roundw
      case rel => exact ⟨k + 1, by omega, by go_num, by rw [HT.out, HA.out], chain hB.out (alloc_below _ _)⟩
      case measure => simp [RowKit.intOf]; omega
    · obtain rfl : k = n := by omega
      have HT : Hid (sizeZ X = sizeTo (X.take k)) := by
        show _ = _
        rw [HS.out, List.take_of_length_le (by rw [HN.out]; exact Nat.le_refl _)]
      generalize sizeTo (X.take k) = s at *
      go_wp2
      go_ret
      exact ⟨by rw [HT.out]; rfl, hB.out⟩

end Go.Proofs.Ytajlkaedkifaoaa

namespace Go.Proofs.Ytajlkaedkifaoaa
open Go.RowKit Go.Lib
set_option linter.unusedVariables false

theorem RdZ.take {w : World} {a : Option Addr} {X : List PI} (h : RdZ w a X) (k : Nat) : RdZ w a (X.take k) := by
  obtain ⟨Z, rfl, hr, hl⟩ := h
  exact ⟨Z.take k, by rw [List.map_take], by rw [List.map_take]; exact hr.take k, fun z hz => hl z (List.mem_of_mem_take hz)⟩

theorem RdZ.drop {w : World} {b off : Nat} {X : List PI} (h : RdZ w (some ⟨b, off, none⟩) X) (k : Nat) : RdZ w (some ⟨b, off + k * 2, none⟩) (X.drop k) := by
  obtain ⟨Z, rfl, hr, hl⟩ := h
  exact ⟨Z.drop k, by rw [List.map_drop], by rw [List.map_drop]; exact hr.drop k, fun z hz => hl z (List.mem_of_mem_drop hz)⟩

/-- What sorted hands back of n Items. -/
def SortedR (w w' : World) (e : Ending) (n : Nat) (X : List PI) : Prop :=
  ∃ a c Y, e = .returned (.slice a n c) ∧ X.Perm Y ∧ SortZ Y ∧ n ≤ c ∧ (a = none → Y = [] ∧ c = 0) ∧ RdZ w' a Y ∧ Below w.heap.size w w'

set_option maxRecDepth 100000 in
set_option maxHeartbeats 16000000 in
theorem rsorted_step (a : Option Addr) (n cap : Nat) (X : List PI) (w : World) (hn : X.length = n) (h4 : n ≤ 16384) (hc : n ≤ cap) (hnil : a = none → X = [] ∧ cap = 0) (hX : RdZ w a X)
    (IH : ∀ (a' : Option Addr) (n' cap' : Nat) (X' : List PI) (V : World), n' < n → X'.length = n' → n' ≤ cap' → (a' = none → X' = [] ∧ cap' = 0) → RdZ V a' X' → Calls Try.prog 38 #[.slice a' n' cap'] V fun e w' => SortedR V w' e n' X') :
    Calls Try.prog 38 #[.slice a n cap] w fun e w' => SortedR w w' e n X := by
  by_cases h2 : n < 2
  · have HF : Hid (SortedR w w (.returned (.slice a n cap)) n X) := ⟨a, cap, X, rfl, List.Perm.refl _, by
      match X, hn with
      | [], _ => exact List.Pairwise.nil
      | [x], _ => exact List.pairwise_singleton _ _
      | x :: y :: l, hn => simp at hn; omega, hc, hnil, hX, Below.refl _ _⟩
    have d2 : decide ((n : Int) < 2) = true := decide_eq_true (by omega)
    have d3 : ((n : Int) < 2) = True := eq_true (by omega)
    clear hX hnil IH hn
    go_enter Try.func38, Try.ntmps38
    go_wp2
    go_ret
    exact HF.out
  have d2 : decide ((n : Int) < 2) = false := decide_eq_false (by omega)
  have d3 : ((n : Int) < 2) = False := eq_false (by omega)
  obtain ⟨b, off, -, -, rfl, -⟩ := hX.at_ (i := 0) (by omega)
  obtain ⟨n1, hn1⟩ : ∃ k, n / 2 = k := ⟨_, rfl⟩
  obtain ⟨n2, hn2⟩ : ∃ k, n - n1 = k := ⟨_, rfl⟩
  have hnn : n1 + n2 = n := by omega
  have hd1 : ((n : Int).tdiv 2) = (n1 : Int) := by
    rw [Int.tdiv_eq_ediv_of_nonneg (by omega)]
    omega
  have hd2 : IntKind.i64.wrap (n1 : Int) = (n1 : Int) := by rw [IntKind.wrap_i64]; omega
  have HN1 : Hid ((X.take n1).length = n1) := by show _ = _; rw [List.length_take]; omega
  have HN2 : Hid ((X.drop n1).length = n2) := by show _ = _; rw [List.length_drop]; omega
  have HXX : Hid (X.take n1 ++ X.drop n1 = X) := List.take_append_drop _ _
  have C1 : ∀ V, Below w.heap.size w V → Calls Try.prog 38 #[.slice (some ⟨b, off, none⟩) n1 cap] V fun e w' => SortedR V w' e n1 (X.take n1) := fun V hb => IH _ _ _ _ V (by omega) HN1.out (by omega) (fun h => by cases h) ((hX.later hb).take n1)
  have C2 : ∀ V, Below w.heap.size w V → Calls Try.prog 38 #[.slice (some ⟨b, off + n1 * 2, none⟩) n2 (cap - n1)] V fun e w' => SortedR V w' e n2 (X.drop n1) := fun V hb => IH _ _ _ _ V (by omega) HN2.out (by omega) (fun h => by cases h) ((hX.later hb).drop n1)
  have hcap : (cap = n1) = False := eq_false (by omega)
  have hlt1 : (n1 : Int) ≤ (n : Int) := by omega
  have hlt2 : (n1 : Int) ≤ (cap : Int) := by omega
  have hlt3 : (0 : Int) ≤ (n1 : Int) := by omega
  have hlt4 : (n : Int) ≤ (cap : Int) := by omega
  have IHH : True := trivial
  have HS : Hid (Below w.heap.size w w.drew) := (Below.refl _ _).drew
  clear hX hnil IH hn hn1
  go_enter Try.func38, Try.ntmps38
  go_upto_region 3 with fail
  refine wp_region_held_drew (S := (fun w' => Hid (Below w.heap.size w w'))) (by kernel_rfl) HS (fun hHeld => ?_)
  refine heldTake (v := ?_) 0 10 rfl rfl (by kernel_rfl) (by kernel_rfl) (by kernel_rfl) (fun _ _ _ h => h) (by rfl) (fun w hSw => ?_) (by assumption) ?_
  rotate_left
  · (try dsimp only at hSw); first | (go_simp; done) | (go_simp; with_reducible rfl)
  simp only [List.setIfInBounds_toArray, List.set_cons_zero, List.set_cons_succ]
  refine heldTake (v := ?_) 1 11 rfl rfl (by kernel_rfl) (by kernel_rfl) (by kernel_rfl) (fun _ _ _ h => h) (by rfl) (fun w hSw => ?_) (by assumption) ?_
  rotate_left
  · (try dsimp only at hSw); first | (go_simp; done) | (go_simp; with_reducible rfl)
  simp only [List.setIfInBounds_toArray, List.set_cons_zero, List.set_cons_succ]
  refine heldTake (v := ?_) 2 12 rfl rfl (by kernel_rfl) (by kernel_rfl) (by kernel_rfl) (fun _ _ _ h => h) (by rfl) (fun w hSw => ?_) (by assumption) ?_
  rotate_left
  · (try dsimp only at hSw); first | (go_simp; done) | (go_simp; with_reducible rfl)
  simp only [List.setIfInBounds_toArray, List.set_cons_zero, List.set_cons_succ]
  refine heldTake (v := ?_) 3 13 rfl rfl (by kernel_rfl) (by kernel_rfl) (by kernel_rfl) (fun _ _ _ h => h) (by rfl) (fun w hSw => ?_) (by assumption) ?_
  rotate_left
  · (try dsimp only at hSw); first | (go_simp; done) | (go_simp; with_reducible rfl)
  simp only [List.setIfInBounds_toArray, List.set_cons_zero, List.set_cons_succ]
  refine heldTake (v := ?_) 4 14 rfl rfl (by kernel_rfl) (by kernel_rfl) (by kernel_rfl) (fun _ _ _ h => h) (by rfl) (fun w hSw => ?_) (by assumption) ?_
  rotate_left
  · (try dsimp only at hSw); first | (go_simp; done) | (go_simp; with_reducible rfl)
  simp only [List.setIfInBounds_toArray, List.set_cons_zero, List.set_cons_succ]
  refine heldTake (v := ?_) 6 16 rfl rfl (by kernel_rfl) (by kernel_rfl) (by kernel_rfl) (fun _ _ _ h => h) (by rfl) (fun w hSw => ?_) (by assumption) ?_
  rotate_left
  · (try dsimp only at hSw); first | (go_simp; done) | (go_simp; with_reducible rfl)
  simp only [List.setIfInBounds_toArray, List.set_cons_zero, List.set_cons_succ]
  refine heldTake (v := ?_) 7 17 rfl rfl (by kernel_rfl) (by kernel_rfl) (by kernel_rfl) (fun _ _ _ h => h) (by rfl) (fun w hSw => ?_) (by assumption) ?_
  rotate_left
  · (try dsimp only at hSw); first | (go_simp; done) | (go_simp; with_reducible rfl)
  simp only [List.setIfInBounds_toArray, List.set_cons_zero, List.set_cons_succ]
  refine heldTake (v := ?_) 8 18 rfl rfl (by kernel_rfl) (by kernel_rfl) (by kernel_rfl) (fun _ _ _ h => h) (by rfl) (fun w hSw => ?_) (by assumption) ?_
  rotate_left
  · (try dsimp only at hSw); first | (go_simp; done) | (go_simp; with_reducible rfl)
  simp only [List.setIfInBounds_toArray, List.set_cons_zero, List.set_cons_succ]
  refine heldTake (v := ?_) 9 19 rfl rfl (by kernel_rfl) (by kernel_rfl) (by kernel_rfl) (fun _ _ _ h => h) (by rfl) (fun w hSw => ?_) (by assumption) ?_
  rotate_left
  · (try dsimp only at hSw); first | (go_simp; done) | (go_simp; with_reducible rfl)
  simp only [List.setIfInBounds_toArray, List.set_cons_zero, List.set_cons_succ]
  refine heldTake (v := ?_) 10 20 rfl rfl (by kernel_rfl) (by kernel_rfl) (by kernel_rfl) (fun _ _ _ h => h) (by rfl) (fun w hSw => ?_) (by assumption) ?_
  rotate_left
  · (try dsimp only at hSw); first | (go_simp; done) | (go_simp; with_reducible rfl)
  simp only [List.setIfInBounds_toArray, List.set_cons_zero, List.set_cons_succ]
  refine heldOne 5 rfl (by kernel_rfl) (by rfl) (fun K2 hK => ?_)
  go_simp
  refine (C1 _ hHeld.out).mono ?_
  rintro e wy ⟨a1, c1, Y1', rfl, hp1, hs1, hf1, hn1', hr1, hb1⟩
  simp only []
  refine hK.out _ _ ?_ (fun hHeld => ?_)
  · exact chain hHeld.out hb1
  clear hK K2
  try simp only [List.setIfInBounds_toArray, List.set_cons_zero, List.set_cons_succ]
  refine heldOne 11 rfl (by kernel_rfl) (by rfl) (fun K2 hK => ?_)
  go_simp
  refine (C2 _ hHeld.out).mono ?_
  rintro e wb ⟨a2, c2, Y2, rfl, hp2, hs2, hf2, hn2', hr2, hb2⟩
  simp only []
  refine hK.out _ _ ?_ (fun hHeld => ?_)
  · exact chain hHeld.out hb2
  clear hK K2
  try simp only [List.setIfInBounds_toArray, List.set_cons_zero, List.set_cons_succ]
  refine heldTake (v := ?_) 12 3 rfl rfl (by kernel_rfl) (by kernel_rfl) (by kernel_rfl) (fun _ _ _ h => h) (by rfl) (fun w hSw => ?_) (by assumption) ?_
  rotate_left
  · (try dsimp only at hSw); first | (go_simp; done) | (go_simp; with_reducible rfl)
  simp only [List.setIfInBounds_toArray, List.set_cons_zero, List.set_cons_succ]
  refine heldTake (v := ?_) 13 4 rfl rfl (by kernel_rfl) (by kernel_rfl) (by kernel_rfl) (fun _ _ _ h => h) (by rfl) (fun w hSw => ?_) (by assumption) ?_
  rotate_left
  · (try dsimp only at hSw); first | (go_simp; done) | (go_simp; with_reducible rfl)
  simp only [List.setIfInBounds_toArray, List.set_cons_zero, List.set_cons_succ]
  refine wpAnyH_done (by kernel_rfl) ?_ _
  have HBb : Hid (Below w.heap.size w wb) := hHeld
  have R2 : RdZ wb a2 Y2 := hr2
  have R1 : RdZ wb a1 Y1' := hr1.later hb2
  obtain ⟨X1, hX1, hL1⟩ := left_of (n := n1) (by rw [← hp1.length_eq]; exact HN1.out) hf1 hn1' R1
  obtain ⟨Y1, hY1, hL2⟩ := left_of (n := n2) (by rw [← hp2.length_eq]; exact HN2.out) hf2 hn2' R2
  have HFIN : Hid (∀ (v : Value) (Z : List (List Value × PI)) (w9 : World) (k9 : Nat) , True) := fun _ _ _ _ => trivial
  clear HFIN
  have HFIN : Hid (∀ (k9 c9 : Nat) (w9 : World) (a9 : Option Addr) (Z : List (List Value × PI)), Z.map (·.2) = mergeZ (X1.map (·.2)) (Y1.map (·.2)) → Z.length = n → k9 = n → SharedZ w9 wb.heap.size (.slice a9 k9 c9) Z → Below wb.heap.size wb w9 → SortedR w w9 (.returned (.slice a9 k9 c9)) n X) := fun k9 c9 w9 a9 Z hm hl hk hs hb => by
    obtain ⟨a', c', e', hc', hr', hn'⟩ := hs.form
    cases e'
    refine ⟨a9, c9, Z.map (·.2), by rw [hl], ?_, ?_, by omega, fun h => ?_, hr', chain HBb.out hb⟩
    · rw [hm, hX1, hY1]
      refine List.Perm.trans ?_ (mergeZ_perm _ _ _ (Nat.le_refl _)).symm
      have := hp1.append hp2
      rw [HXX.out] at this
      exact this
    · rw [hm, hX1, hY1]
      exact mergeZ_sorted _ (Nat.le_refl _) hs1 hs2
    · have := (hn' h).1
      rw [this]
      exact ⟨rfl, (hn' h).2⟩
  have HX0 : Hid (LeftZ wb.heap.size wb a1 n1 c1 X1) := hL1
  have HY0 : Hid (LeftZ wb.heap.size wb a2 n2 c2 Y1) := hL2
  clear hHeld HS C1 C2 hr1 hr2 hb1 hb2 hp1 hp2 hs1 hs2 hf1 hf2 hn1' hn2' R1 R2 hX1 hY1 hL1 hL2 HN1 HN2 HXX IHH
  go_wp2
  go_loopw [3, 4, 5] (fun va vb vo wr => ∃ (ZA ZB Zo : List (List Value × PI)) (aa ab ao : Option Addr) (na nb k ca cb co : Nat), va = .slice aa na ca ∧ vb = .slice ab nb cb ∧ vo = .slice ao k co ∧ Zo.length = k ∧ k + na + nb = n ∧ Hid (mergeZ (X1.map (·.2)) (Y1.map (·.2)) = Zo.map (·.2) ++ mergeZ (ZA.map (·.2)) (ZB.map (·.2))) ∧ Hid (LeftZ wb.heap.size wr aa na ca ZA) ∧ Hid (LeftZ wb.heap.size wr ab nb cb ZB) ∧ Hid (SharedZ wr wb.heap.size (.slice ao k co) Zo) ∧ Hid (Below wb.heap.size wb wr)) (fun va vb _ _ => lenV va + lenV vb)
  case atStart => exact ⟨X1, Y1, [], a1, a2, none, n1, n2, 0, c1, c2, 0, rfl, rfl, rfl, rfl, by omega, rfl, HX0.out, HY0.out, ⟨OwnK.nought _ _ _ _, fun z hz => by cases hz⟩, Below.refl _ _⟩
  case round =>
    clear HX0 HY0
    obtain ⟨ZA, ZB, Zo, aa, ab, ao, na, nb, k, ca, cb, co, rfl, rfl, rfl, hZo, hlen, hM, hA, hBl, hO, hB⟩ := hrel
    have HZo : Hid (Zo.length = k) := hZo
    clear hZo
    cases ZA with
    | nil =>
      have hna := hA.out.len
      simp only [List.length_nil] at hna
      subst hna
      obtain ⟨a8, c8, w8, hrun8, hO8, hb8⟩ := shared_more 22 hO.out HZo.out (by omega) (by omega) hA.out hB.out.size
      have hB8 := hBl.out.kept (sz_of_below hb8)
      have hBB8 : Below wb.heap.size wb w8 := hB.out.trans hb8
      obtain ⟨a9, c9, w9, hrun9, hO9, hb9⟩ := shared_more 22 hO8 (k := k + 0) (by rw [List.length_append, HZo.out, hA.out.len]) (by omega) (by omega) hB8 hBB8.size
      have HF : Hid (((Zo ++ ([] : List (List Value × PI))) ++ ZB).map (·.2) = mergeZ (X1.map (·.2)) (Y1.map (·.2))) := by
        show _ = _
        rw [hM.out, List.map_nil, mergeZ_nil_left]
        simp
      have HL9 : Hid (((Zo ++ ([] : List (List Value × PI))) ++ ZB).length = n) := by
        have e1 := HZo.out
        have e2 := hA.out.len
        have e3 := hBl.out.len
        show _ = _
        rw [List.length_append, List.length_append]
        rw [List.length_nil] at *
        omega
      have HO9 : Hid (SharedZ w9 wb.heap.size (.slice a9 (k + 0 + nb) c9) ((Zo ++ ([] : List (List Value × PI))) ++ ZB)) := hO9
      have HB9 : Hid (Below wb.heap.size wb w9) := hBB8.trans hb9
      have HK9 : Hid (k + 0 + nb = n) := by show _ = _; omega
      clear hM hA hBl hO hB hO8 hb8 hB8 hBB8 hO9 hb9 HZo
      simp only [Nat.add_zero] at hrun8 hrun9 HO9 HK9
      go_wp2_with (first | (at_builtin; refine wpList_append_run rfl _ _ 22 22 rfl _ _ _ _ rfl rfl hrun8 ?_) | (at_builtin; refine wpList_append_run rfl _ _ 22 22 rfl _ _ _ _ rfl rfl hrun9 ?_))
      go_ret
      exact HFIN.out _ _ _ _ _ HF.out HL9.out HK9.out HO9.out HB9.out
    | cons za ZA =>
      cases ZB with
      | nil =>
        have hnb := hBl.out.len
        have hna := hA.out.len
        simp only [List.length_nil] at hnb
        simp only [List.length_cons] at hna
        subst hnb
        obtain ⟨a8, c8, w8, hrun8, hO8, hb8⟩ := shared_more 22 hO.out HZo.out (by omega) (by omega) hA.out hB.out.size
        have hB8 := hBl.out.kept (sz_of_below hb8)
        have hBB8 : Below wb.heap.size wb w8 := hB.out.trans hb8
        obtain ⟨a9, c9, w9, hrun9, hO9, hb9⟩ := shared_more 22 hO8 (k := k + na) (by rw [List.length_append, HZo.out, hA.out.len]) (by omega) (by omega) hB8 hBB8.size
        have HF : Hid (((Zo ++ (za :: ZA)) ++ ([] : List (List Value × PI))).map (·.2) = mergeZ (X1.map (·.2)) (Y1.map (·.2))) := by
          show _ = _
          rw [hM.out, List.map_nil, mergeZ_nil_right]
          simp
        have HL9 : Hid (((Zo ++ (za :: ZA)) ++ ([] : List (List Value × PI))).length = n) := by
          have e1 := HZo.out
          have e2 := hA.out.len
          have e3 := hBl.out.len
          show _ = _
          rw [List.length_append, List.length_append]
          rw [List.length_nil] at *
          omega
        have HO9 : Hid (SharedZ w9 wb.heap.size (.slice a9 (k + na + 0) c9) ((Zo ++ (za :: ZA)) ++ ([] : List (List Value × PI)))) := hO9
        have HB9 : Hid (Below wb.heap.size wb w9) := hBB8.trans hb9
        have HK9 : Hid (k + na + 0 = n) := by show _ = _; omega
        have i0 : decide ((0 : Int) < (na : Int)) = true := decide_eq_true (by omega)
        clear hM hA hBl hO hB hO8 hb8 hB8 hBB8 hO9 hb9 HZo
        simp only [Nat.add_zero] at hrun8 hrun9 HO9 HK9
        go_wp2_with (first | (at_builtin; refine wpList_append_run rfl _ _ 22 22 rfl _ _ _ _ rfl rfl hrun8 ?_) | (at_builtin; refine wpList_append_run rfl _ _ 22 22 rfl _ _ _ _ rfl rfl hrun9 ?_))
        go_ret
        exact HFIN.out _ _ _ _ _ HF.out HL9.out HK9.out HO9.out HB9.out
      | cons zb ZB =>
        have hna := hA.out.len
        have hnb := hBl.out.len
        have hca := hA.out.fits
        have hcb := hBl.out.fits
        simp only [List.length_cons] at hna hnb
        obtain ⟨b1, o1, ra, rc, rfl, ea, x0, x1, la⟩ := hA.out.head
        obtain ⟨b2, o2, sa, sc, rfl, eb, y0, y1, lb⟩ := hBl.out.head
        have HLA : Hid (za.1 = [.slice ra za.2.row.length rc, .int .i64 za.2.wt] ∧ LiesZ (fun b => wb.heap.size ≤ b) wr [.slice ra za.2.row.length rc, .int .i64 za.2.wt] za.2) := ⟨ea, la⟩
        have HLB : Hid (zb.1 = [.slice sa zb.2.row.length sc, .int .i64 zb.2.wt] ∧ LiesZ (fun b => wb.heap.size ≤ b) wr [.slice sa zb.2.row.length sc, .int .i64 zb.2.wt] zb.2) := ⟨eb, lb⟩
        have CC : ∀ V, Below wr.heap.size wr V → Calls Try.prog 39 #[.slice ra za.2.row.length rc, .slice sa zb.2.row.length sc] V fun e w' => e = .returned (.int .i64 (cmpZ za.2 zb.2)) ∧ Below V.heap.size V w' := fun V hb => by
          obtain ⟨a8, c8, e8, r8, l8, -⟩ := HLA.out.2.later hb
          obtain ⟨a9, c9, e9, r9, l9, -⟩ := HLB.out.2.later hb
          cases e8
          cases e9
          exact rCompareRows_any _ _ _ _ _ _ _ _ V rfl rfl l8 l9 r8 r9
        have HLE : Hid (cmpZ za.2 zb.2 ≤ 0 → mergeZ (X1.map (·.2)) (Y1.map (·.2)) = (Zo ++ [za]).map (·.2) ++ mergeZ (ZA.map (·.2)) ((zb :: ZB).map (·.2))) := fun h => by
          rw [hM.out, List.map_cons, List.map_cons, mergeZ_le h, List.map_append]
          simp
        have HGT : Hid (¬ cmpZ za.2 zb.2 ≤ 0 → mergeZ (X1.map (·.2)) (Y1.map (·.2)) = (Zo ++ [zb]).map (·.2) ++ mergeZ ((za :: ZA).map (·.2)) (ZB.map (·.2))) := fun h => by
          rw [hM.out, List.map_cons, List.map_cons, mergeZ_gt h, List.map_append]
          simp
        clear hM ea eb la lb
        obtain ⟨q1, hq1⟩ : ∃ q, cmpZ za.2 zb.2 = q := ⟨_, rfl⟩
        rw [hq1] at CC HLE HGT
        obtain ⟨p, hp⟩ : ∃ p, za.2.wt = p := ⟨_, rfl⟩
        obtain ⟨q, hq⟩ : ∃ q, zb.2.wt = q := ⟨_, rfl⟩
        obtain ⟨rn, hrn⟩ : ∃ p, za.2.row.length = p := ⟨_, rfl⟩
        obtain ⟨sn, hsn⟩ : ∃ p, zb.2.row.length = p := ⟨_, rfl⟩
        rw [hp] at x1 HLA
        rw [hrn] at x0 HLA CC
        rw [hq] at y1 HLB
        rw [hsn] at y0 HLB CC
        clear hp hq hrn hsn hq1
        have i0 : decide ((0 : Int) < (na : Int)) = true := decide_eq_true (by omega)
        have i1 : decide ((0 : Int) < (nb : Int)) = true := decide_eq_true (by omega)
        have i2 : (0 : Int) < (na : Int) := by omega
        have i4 : (1 : Int) ≤ (na : Int) := by omega
        have i5 : (1 : Int) ≤ (nb : Int) := by omega
        have i3 : (0 : Int) < (nb : Int) := by omega
        have HS3 : wr.drew.cell? ⟨b1, o1, none⟩ = some (.slice ra rn rc) ∧ wr.drew.cell? ⟨b1, o1 + 1, none⟩ = some (.int .i64 p) ∧ wr.drew.cell? ⟨b2, o2, none⟩ = some (.slice sa sn sc) ∧ wr.drew.cell? ⟨b2, o2 + 1, none⟩ = some (.int .i64 q) ∧ Hid (Below wr.heap.size wr wr.drew) := ⟨x0, x1, y0, y1, (Below.refl _ _).drew⟩
        by_cases hc : q1 ≤ 0
        · have c1' : decide (q1 ≤ 0) = true := decide_eq_true hc
          have HM2 : Hid _ := HLE.out hc
          clear HLE HGT
          go_upto_region 6 with fail
          refine wp_region_held_drew (S := (fun w' => w'.cell? ⟨b1, o1, none⟩ = some (.slice ra rn rc) ∧ w'.cell? ⟨b1, o1 + 1, none⟩ = some (.int .i64 p) ∧ w'.cell? ⟨b2, o2, none⟩ = some (.slice sa sn sc) ∧ w'.cell? ⟨b2, o2 + 1, none⟩ = some (.int .i64 q) ∧ Hid (Below wr.heap.size wr w'))) (by kernel_rfl) HS3 (fun hHeld => ?_)
          refine heldTake (v := ?_) 0 30 rfl rfl (by kernel_rfl) (by kernel_rfl) (by kernel_rfl) (fun _ _ _ h => h) (by rfl) (fun w hSw => ?_) (by assumption) ?_
          rotate_left
          · (try dsimp only at hSw); first | (go_simp; done) | (go_simp; with_reducible rfl)
          simp only [List.setIfInBounds_toArray, List.set_cons_zero, List.set_cons_succ]
          refine heldTake (v := ?_) 1 31 rfl rfl (by kernel_rfl) (by kernel_rfl) (by kernel_rfl) (fun _ _ _ h => h) (by rfl) (fun w hSw => ?_) (by assumption) ?_
          rotate_left
          · (try dsimp only at hSw); first | (go_simp; done) | (go_simp; with_reducible rfl)
          simp only [List.setIfInBounds_toArray, List.set_cons_zero, List.set_cons_succ]
          refine heldTake (v := ?_) 2 32 rfl rfl (by kernel_rfl) (by kernel_rfl) (by kernel_rfl) (fun _ _ _ h => h) (by rfl) (fun w hSw => ?_) (by assumption) ?_
          rotate_left
          · (try dsimp only at hSw); first | (go_simp; done) | (go_simp; with_reducible rfl)
          simp only [List.setIfInBounds_toArray, List.set_cons_zero, List.set_cons_succ]
          refine heldTake (v := ?_) 3 33 rfl rfl (by kernel_rfl) (by kernel_rfl) (by kernel_rfl) (fun _ _ _ h => h) (by rfl) (fun w hSw => ?_) (by assumption) ?_
          rotate_left
          · (try dsimp only at hSw); first | (go_simp; done) | (go_simp; with_reducible rfl)
          simp only [List.setIfInBounds_toArray, List.set_cons_zero, List.set_cons_succ]
          refine heldTake (v := ?_) 4 34 rfl rfl (by kernel_rfl) (by kernel_rfl) (by kernel_rfl) (fun _ _ _ h => h) (by rfl) (fun w hSw => ?_) (by assumption) ?_
          rotate_left
          · (try dsimp only at hSw); first | (go_simp; done) | (go_simp; with_reducible rfl)
          simp only [List.setIfInBounds_toArray, List.set_cons_zero, List.set_cons_succ]
          refine heldTake (v := ?_) 5 35 rfl rfl (by kernel_rfl) (by kernel_rfl) (by kernel_rfl) (fun _ _ _ h => h) (by rfl) (fun w hSw => ?_) (by assumption) ?_
          rotate_left
          · (try dsimp only at hSw); first | (go_simp; done) | (go_simp; with_reducible rfl)
          simp only [List.setIfInBounds_toArray, List.set_cons_zero, List.set_cons_succ]
          refine heldTake (v := ?_) 6 36 rfl rfl (by kernel_rfl) (by kernel_rfl) (by kernel_rfl) (fun _ _ _ h => h) (by rfl) (fun w hSw => ?_) (by assumption) ?_
          rotate_left
          · (try dsimp only at hSw); first | (go_simp; done) | (go_simp; with_reducible rfl)
          simp only [List.setIfInBounds_toArray, List.set_cons_zero, List.set_cons_succ]
          refine heldTake (v := ?_) 7 37 rfl rfl (by kernel_rfl) (by kernel_rfl) (by kernel_rfl) (fun _ _ _ h => h) (by rfl) (fun w hSw => ?_) (by assumption) ?_
          rotate_left
          · (try dsimp only at hSw); first | (go_simp; done) | (go_simp; with_reducible rfl)
          simp only [List.setIfInBounds_toArray, List.set_cons_zero, List.set_cons_succ]
          refine heldOne 8 rfl (by kernel_rfl) (by rfl) (fun K2 hK => ?_)
          go_simp
          refine (CC _ hHeld.2.2.2.2.out).mono ?_
          rintro e wz ⟨rfl, hb⟩
          simp only []
          refine hK.out _ _ ?_ (fun hHeld => ?_)
          · exact keep4Z hb (by assumption)
          clear hK K2
          try simp only [List.setIfInBounds_toArray, List.set_cons_zero, List.set_cons_succ]
          refine heldTake (v := ?_) 9 39 rfl rfl (by kernel_rfl) (by kernel_rfl) (by kernel_rfl) (fun _ _ _ h => h) (by rfl) (fun w hSw => ?_) (by assumption) ?_
          rotate_left
          · (try dsimp only at hSw); first | (go_simp; done) | (go_simp; with_reducible rfl)
          simp only [List.setIfInBounds_toArray, List.set_cons_zero, List.set_cons_succ]
          refine wpAnyH_done (by kernel_rfl) ?_ _
          have HBZ : Hid (Below wr.heap.size wr wz) := hHeld.2.2.2.2
          have X0 := hHeld.1
          have X1' := hHeld.2.1
          clear hHeld HS3 CC x0 x1 y0 y1
          have HBD : Below wr.heap.size wr wz.drew := HBZ.out.drew
          have hAz := hA.out.later HBD
          have hBz := hBl.out.later HBD
          have hOz := hO.out.later HBD
          have hB2 : Below wb.heap.size wb wz.drew := chain hB.out HBD
          obtain ⟨a', c', w6, hrun, hO6, hb6⟩ := shared_one (w := wz.drew) 22 (z := za) hOz HZo.out (by omega) HLA.out.1 (HLA.out.2.later HBD) hB2.size
          have HA6 : Hid (LeftZ wb.heap.size w6 _ _ _ ZA) := hAz.tail.kept (sz_of_below hb6)
          have HB6 : Hid (LeftZ wb.heap.size w6 _ _ _ (zb :: ZB)) := hBz.kept (sz_of_below hb6)
          have HO6 : Hid (SharedZ w6 wb.heap.size (.slice a' (k + 1) c') (Zo ++ [za])) := hO6
          have HBB : Hid (Below wb.heap.size wb w6) := hB2.trans hb6
          have HS4 : wz.drew.cell? ⟨b1, o1, none⟩ = some (.slice ra rn rc) ∧ wz.drew.cell? ⟨b1, o1 + 1, none⟩ = some (.int .i64 p) := ⟨X0, X1'⟩
          clear HBD hAz hBz hOz hB2 hO6 hb6 X0 X1' HBZ hA hBl hO hB
          go_upto_region 7 with fail
          refine region_S (S := (fun w' => w'.cell? ⟨b1, o1, none⟩ = some (.slice ra rn rc) ∧ w'.cell? ⟨b1, o1 + 1, none⟩ = some (.int .i64 p))) 4 (by kernel_rfl) HS4 (fun hHeld => ?_)
          refine sPure (v := ?_) 0 40 rfl rfl (by kernel_rfl) (by kernel_rfl) (by kernel_rfl) (by decide) (fun _ _ _ h => h) (by rfl) (fun w => ?_) (.inr (by assumption)) ?_
          rotate_left
          · first | (go_simp; done) | (go_simp; with_reducible rfl)
          simp only [List.setIfInBounds_toArray, List.set_cons_zero, List.set_cons_succ]
          refine sPure (v := ?_) 1 41 rfl rfl (by kernel_rfl) (by kernel_rfl) (by kernel_rfl) (by decide) (fun _ _ _ h => h) (by rfl) (fun w => ?_) (.inr (by assumption)) ?_
          rotate_left
          · first | (go_simp; done) | (go_simp; with_reducible rfl)
          simp only [List.setIfInBounds_toArray, List.set_cons_zero, List.set_cons_succ]
          refine sPure (v := ?_) 2 42 rfl rfl (by kernel_rfl) (by kernel_rfl) (by kernel_rfl) (by decide) (fun _ _ _ h => h) (by rfl) (fun w => ?_) (.inr (by assumption)) ?_
          rotate_left
          · first | (go_simp; done) | (go_simp; with_reducible rfl)
          simp only [List.setIfInBounds_toArray, List.set_cons_zero, List.set_cons_succ]
          refine sTake (v := ?_) 3 43 rfl rfl (by kernel_rfl) (by kernel_rfl) (by kernel_rfl) (by kernel_rfl) (by kernel_rfl) (fun _ _ _ h => h) (by rfl) (fun w hSw => ?_) (by assumption) ?_
          rotate_left
          · (try dsimp only at hSw); first | (go_simp; done) | (go_simp; with_reducible rfl)
          simp only [List.setIfInBounds_toArray, List.set_cons_zero, List.set_cons_succ]
          refine sPure (v := ?_) 6 46 rfl rfl (by kernel_rfl) (by kernel_rfl) (by kernel_rfl) (by decide) (fun _ _ _ h => h) (by rfl) (fun w => ?_) (.inr (by assumption)) ?_
          rotate_left
          · first | (go_simp; done) | (go_simp; with_reducible rfl)
          simp only [List.setIfInBounds_toArray, List.set_cons_zero, List.set_cons_succ]
          refine sPure (v := ?_) 7 47 rfl rfl (by kernel_rfl) (by kernel_rfl) (by kernel_rfl) (by decide) (fun _ _ _ h => h) (by rfl) (fun w => ?_) (.inr (by assumption)) ?_
          rotate_left
          · first | (go_simp; done) | (go_simp; with_reducible rfl)
          simp only [List.setIfInBounds_toArray, List.set_cons_zero, List.set_cons_succ]
          refine sOne 4 rfl (by kernel_rfl) (by rfl) (fun K2 hK => ?_)
          go_simp
          refine hK.out _ _ ?_ (fun hHeld => ?_)
          · exact .inl (by rfl)
          clear hK K2 hHeld
          try simp only [List.setIfInBounds_toArray, List.set_cons_zero, List.set_cons_succ]
          refine sOne 5 rfl (by kernel_rfl) (by rfl) (fun K2 hK => ?_)
          refine wp_append_z _ _ 22 22 rfl _ _ _ _ rfl rfl hrun ?_
          go_simp
          refine hK.out _ _ ?_ (fun hHeld => ?_)
          · exact .inl (by rfl)
          clear hK K2 hHeld
          try simp only [List.setIfInBounds_toArray, List.set_cons_zero, List.set_cons_succ]
          refine sPure (v := ?_) 8 5 rfl rfl (by kernel_rfl) (by kernel_rfl) (by kernel_rfl) (by decide) (fun _ _ _ h => h) (by rfl) (fun w => ?_) (.inl (by rfl)) ?_
          rotate_left
          · first | (go_simp; done) | (go_simp; with_reducible rfl)
          simp only [List.setIfInBounds_toArray, List.set_cons_zero, List.set_cons_succ]
          refine sPure (v := ?_) 9 3 rfl rfl (by kernel_rfl) (by kernel_rfl) (by kernel_rfl) (by decide) (fun _ _ _ h => h) (by rfl) (fun w => ?_) (.inl (by rfl)) ?_
          rotate_left
          · first | (go_simp; done) | (go_simp; with_reducible rfl)
          simp only [List.setIfInBounds_toArray, List.set_cons_zero, List.set_cons_succ]
          refine sDone (by kernel_rfl) ?_ _
          clear hrun HS4
          go_wp2
          go_roundw
          case rel => exact ⟨ZA, zb :: ZB, Zo ++ [za], _, _, a', na - 1, nb, k + 1, ca - 1, cb, c', rfl, rfl, rfl, by rw [List.length_append, HZo.out]; rfl, by omega, HM2.out, HA6.out, HB6.out, HO6.out, HBB.out⟩
          case measure => simp [lenV]; omega
        · have c1' : decide (q1 ≤ 0) = false := decide_eq_false hc
          have c2' : (q1 ≤ 0) = False := eq_false hc
          have HM2 : Hid _ := HGT.out hc
          clear HLE HGT
          go_upto_region 6 with fail
          refine wp_region_held_drew (S := (fun w' => w'.cell? ⟨b1, o1, none⟩ = some (.slice ra rn rc) ∧ w'.cell? ⟨b1, o1 + 1, none⟩ = some (.int .i64 p) ∧ w'.cell? ⟨b2, o2, none⟩ = some (.slice sa sn sc) ∧ w'.cell? ⟨b2, o2 + 1, none⟩ = some (.int .i64 q) ∧ Hid (Below wr.heap.size wr w'))) (by kernel_rfl) HS3 (fun hHeld => ?_)
          refine heldTake (v := ?_) 0 30 rfl rfl (by kernel_rfl) (by kernel_rfl) (by kernel_rfl) (fun _ _ _ h => h) (by rfl) (fun w hSw => ?_) (by assumption) ?_
          rotate_left
          · (try dsimp only at hSw); first | (go_simp; done) | (go_simp; with_reducible rfl)
          simp only [List.setIfInBounds_toArray, List.set_cons_zero, List.set_cons_succ]
          refine heldTake (v := ?_) 1 31 rfl rfl (by kernel_rfl) (by kernel_rfl) (by kernel_rfl) (fun _ _ _ h => h) (by rfl) (fun w hSw => ?_) (by assumption) ?_
          rotate_left
          · (try dsimp only at hSw); first | (go_simp; done) | (go_simp; with_reducible rfl)
          simp only [List.setIfInBounds_toArray, List.set_cons_zero, List.set_cons_succ]
          refine heldTake (v := ?_) 2 32 rfl rfl (by kernel_rfl) (by kernel_rfl) (by kernel_rfl) (fun _ _ _ h => h) (by rfl) (fun w hSw => ?_) (by assumption) ?_
          rotate_left
          · (try dsimp only at hSw); first | (go_simp; done) | (go_simp; with_reducible rfl)
          simp only [List.setIfInBounds_toArray, List.set_cons_zero, List.set_cons_succ]
          refine heldTake (v := ?_) 3 33 rfl rfl (by kernel_rfl) (by kernel_rfl) (by kernel_rfl) (fun _ _ _ h => h) (by rfl) (fun w hSw => ?_) (by assumption) ?_
          rotate_left
          · (try dsimp only at hSw); first | (go_simp; done) | (go_simp; with_reducible rfl)
          simp only [List.setIfInBounds_toArray, List.set_cons_zero, List.set_cons_succ]
          refine heldTake (v := ?_) 4 34 rfl rfl (by kernel_rfl) (by kernel_rfl) (by kernel_rfl) (fun _ _ _ h => h) (by rfl) (fun w hSw => ?_) (by assumption) ?_
          rotate_left
          · (try dsimp only at hSw); first | (go_simp; done) | (go_simp; with_reducible rfl)
          simp only [List.setIfInBounds_toArray, List.set_cons_zero, List.set_cons_succ]
          refine heldTake (v := ?_) 5 35 rfl rfl (by kernel_rfl) (by kernel_rfl) (by kernel_rfl) (fun _ _ _ h => h) (by rfl) (fun w hSw => ?_) (by assumption) ?_
          rotate_left
          · (try dsimp only at hSw); first | (go_simp; done) | (go_simp; with_reducible rfl)
          simp only [List.setIfInBounds_toArray, List.set_cons_zero, List.set_cons_succ]
          refine heldTake (v := ?_) 6 36 rfl rfl (by kernel_rfl) (by kernel_rfl) (by kernel_rfl) (fun _ _ _ h => h) (by rfl) (fun w hSw => ?_) (by assumption) ?_
          rotate_left
          · (try dsimp only at hSw); first | (go_simp; done) | (go_simp; with_reducible rfl)
          simp only [List.setIfInBounds_toArray, List.set_cons_zero, List.set_cons_succ]
          refine heldTake (v := ?_) 7 37 rfl rfl (by kernel_rfl) (by kernel_rfl) (by kernel_rfl) (fun _ _ _ h => h) (by rfl) (fun w hSw => ?_) (by assumption) ?_
          rotate_left
          · (try dsimp only at hSw); first | (go_simp; done) | (go_simp; with_reducible rfl)
          simp only [List.setIfInBounds_toArray, List.set_cons_zero, List.set_cons_succ]
          refine heldOne 8 rfl (by kernel_rfl) (by rfl) (fun K2 hK => ?_)
          go_simp
          refine (CC _ hHeld.2.2.2.2.out).mono ?_
          rintro e wz ⟨rfl, hb⟩
          simp only []
          refine hK.out _ _ ?_ (fun hHeld => ?_)
          · exact keep4Z hb (by assumption)
          clear hK K2
          try simp only [List.setIfInBounds_toArray, List.set_cons_zero, List.set_cons_succ]
          refine heldTake (v := ?_) 9 39 rfl rfl (by kernel_rfl) (by kernel_rfl) (by kernel_rfl) (fun _ _ _ h => h) (by rfl) (fun w hSw => ?_) (by assumption) ?_
          rotate_left
          · (try dsimp only at hSw); first | (go_simp; done) | (go_simp; with_reducible rfl)
          simp only [List.setIfInBounds_toArray, List.set_cons_zero, List.set_cons_succ]
          refine wpAnyH_done (by kernel_rfl) ?_ _
          have HBZ : Hid (Below wr.heap.size wr wz) := hHeld.2.2.2.2
          have X0 := hHeld.2.2.1
          have X1' := hHeld.2.2.2.1
          clear hHeld HS3 CC x0 x1 y0 y1
          have HBD : Below wr.heap.size wr wz.drew := HBZ.out.drew
          have hAz := hA.out.later HBD
          have hBz := hBl.out.later HBD
          have hOz := hO.out.later HBD
          have hB2 : Below wb.heap.size wb wz.drew := chain hB.out HBD
          obtain ⟨a', c', w6, hrun, hO6, hb6⟩ := shared_one (w := wz.drew) 22 (z := zb) hOz HZo.out (by omega) HLB.out.1 (HLB.out.2.later HBD) hB2.size
          have HA6 : Hid (LeftZ wb.heap.size w6 _ _ _ (za :: ZA)) := hAz.kept (sz_of_below hb6)
          have HB6 : Hid (LeftZ wb.heap.size w6 _ _ _ ZB) := hBz.tail.kept (sz_of_below hb6)
          have HO6 : Hid (SharedZ w6 wb.heap.size (.slice a' (k + 1) c') (Zo ++ [zb])) := hO6
          have HBB : Hid (Below wb.heap.size wb w6) := hB2.trans hb6
          have HS4 : wz.drew.cell? ⟨b2, o2, none⟩ = some (.slice sa sn sc) ∧ wz.drew.cell? ⟨b2, o2 + 1, none⟩ = some (.int .i64 q) := ⟨X0, X1'⟩
          clear HBD hAz hBz hOz hB2 hO6 hb6 X0 X1' HBZ hA hBl hO hB
          go_upto_region 8 with fail
          refine region_S (S := (fun w' => w'.cell? ⟨b2, o2, none⟩ = some (.slice sa sn sc) ∧ w'.cell? ⟨b2, o2 + 1, none⟩ = some (.int .i64 q))) 4 (by kernel_rfl) HS4 (fun hHeld => ?_)
          refine sPure (v := ?_) 0 48 rfl rfl (by kernel_rfl) (by kernel_rfl) (by kernel_rfl) (by decide) (fun _ _ _ h => h) (by rfl) (fun w => ?_) (.inr (by assumption)) ?_
          rotate_left
          · first | (go_simp; done) | (go_simp; with_reducible rfl)
          simp only [List.setIfInBounds_toArray, List.set_cons_zero, List.set_cons_succ]
          refine sPure (v := ?_) 1 49 rfl rfl (by kernel_rfl) (by kernel_rfl) (by kernel_rfl) (by decide) (fun _ _ _ h => h) (by rfl) (fun w => ?_) (.inr (by assumption)) ?_
          rotate_left
          · first | (go_simp; done) | (go_simp; with_reducible rfl)
          simp only [List.setIfInBounds_toArray, List.set_cons_zero, List.set_cons_succ]
          refine sPure (v := ?_) 2 50 rfl rfl (by kernel_rfl) (by kernel_rfl) (by kernel_rfl) (by decide) (fun _ _ _ h => h) (by rfl) (fun w => ?_) (.inr (by assumption)) ?_
          rotate_left
          · first | (go_simp; done) | (go_simp; with_reducible rfl)
          simp only [List.setIfInBounds_toArray, List.set_cons_zero, List.set_cons_succ]
          refine sTake (v := ?_) 3 51 rfl rfl (by kernel_rfl) (by kernel_rfl) (by kernel_rfl) (by kernel_rfl) (by kernel_rfl) (fun _ _ _ h => h) (by rfl) (fun w hSw => ?_) (by assumption) ?_
          rotate_left
          · (try dsimp only at hSw); first | (go_simp; done) | (go_simp; with_reducible rfl)
          simp only [List.setIfInBounds_toArray, List.set_cons_zero, List.set_cons_succ]
          refine sPure (v := ?_) 6 54 rfl rfl (by kernel_rfl) (by kernel_rfl) (by kernel_rfl) (by decide) (fun _ _ _ h => h) (by rfl) (fun w => ?_) (.inr (by assumption)) ?_
          rotate_left
          · first | (go_simp; done) | (go_simp; with_reducible rfl)
          simp only [List.setIfInBounds_toArray, List.set_cons_zero, List.set_cons_succ]
          refine sPure (v := ?_) 7 55 rfl rfl (by kernel_rfl) (by kernel_rfl) (by kernel_rfl) (by decide) (fun _ _ _ h => h) (by rfl) (fun w => ?_) (.inr (by assumption)) ?_
          rotate_left
          · first | (go_simp; done) | (go_simp; with_reducible rfl)
          simp only [List.setIfInBounds_toArray, List.set_cons_zero, List.set_cons_succ]
          refine sOne 4 rfl (by kernel_rfl) (by rfl) (fun K2 hK => ?_)
          go_simp
          refine hK.out _ _ ?_ (fun hHeld => ?_)
          · exact .inl (by rfl)
          clear hK K2 hHeld
          try simp only [List.setIfInBounds_toArray, List.set_cons_zero, List.set_cons_succ]
          refine sOne 5 rfl (by kernel_rfl) (by rfl) (fun K2 hK => ?_)
          refine wp_append_z _ _ 22 22 rfl _ _ _ _ rfl rfl hrun ?_
          go_simp
          refine hK.out _ _ ?_ (fun hHeld => ?_)
          · exact .inl (by rfl)
          clear hK K2 hHeld
          try simp only [List.setIfInBounds_toArray, List.set_cons_zero, List.set_cons_succ]
          refine sPure (v := ?_) 8 5 rfl rfl (by kernel_rfl) (by kernel_rfl) (by kernel_rfl) (by decide) (fun _ _ _ h => h) (by rfl) (fun w => ?_) (.inl (by rfl)) ?_
          rotate_left
          · first | (go_simp; done) | (go_simp; with_reducible rfl)
          simp only [List.setIfInBounds_toArray, List.set_cons_zero, List.set_cons_succ]
          refine sPure (v := ?_) 9 4 rfl rfl (by kernel_rfl) (by kernel_rfl) (by kernel_rfl) (by decide) (fun _ _ _ h => h) (by rfl) (fun w => ?_) (.inl (by rfl)) ?_
          rotate_left
          · first | (go_simp; done) | (go_simp; with_reducible rfl)
          simp only [List.setIfInBounds_toArray, List.set_cons_zero, List.set_cons_succ]
          refine sDone (by kernel_rfl) ?_ _
          clear hrun HS4
          go_wp2
          go_roundw
          case rel => exact ⟨za :: ZA, ZB, Zo ++ [zb], _, _, a', na, nb - 1, k + 1, ca, cb - 1, c', rfl, rfl, rfl, by rw [List.length_append, HZo.out]; rfl, by omega, HM2.out, HA6.out, HB6.out, HO6.out, HBB.out⟩
          case measure => simp [lenV]; omega

theorem rsorted_any : ∀ (N : Nat) (a : Option Addr) (n cap : Nat) (X : List PI) (w : World), n < N → X.length = n → n ≤ 16384 → n ≤ cap → (a = none → X = [] ∧ cap = 0) → RdZ w a X → Calls Try.prog 38 #[.slice a n cap] w fun e w' => SortedR w w' e n X
  | 0, _, _, _, _, _, h, _, _, _, _, _ => absurd h (by omega)
  | N + 1, a, n, cap, X, w, hN, hn, h4, hc, hnil, hX => rsorted_step a n cap X w hn h4 hc hnil hX fun a' n' cap' X' V hlt hn' hc' hnil' hX' => rsorted_any N a' n' cap' X' V (by omega) hn' (by omega) hc' hnil' hX'

end Go.Proofs.Ytajlkaedkifaoaa

namespace Go.Proofs.Ytajlkaedkifaoaa
open Go.RowKit Go.Lib
set_option linter.unusedVariables false

set_option maxHeartbeats 400000 in
theorem rIn_any (n lo hi : Int) (w : World) :
    Calls Try.prog 37 #[.int .i64 n, .int .i64 lo, .int .i64 hi] w fun e w' => e = .returned (.bool (decide (lo ≤ n) && decide (n ≤ hi))) ∧ w' = w := by
  by_cases h : lo ≤ n
  · have hd : decide (lo ≤ n) = true := decide_eq_true h
    go_enter Try.func37, Try.ntmps37
    go_wp2
    go_ret
    exact ⟨by simp [h], rfl⟩
  · have hd : decide (lo ≤ n) = false := decide_eq_false h
    go_enter Try.func37, Try.ntmps37
    go_wp2
    go_ret
    exact ⟨by simp, rfl⟩

theorem okI_parts {x : PI} : okI x = true ↔ chkR x.row = 0 ∧ isW x.wt = true := by
  unfold okI
  simp

theorem make_bad_at {X : List PI} {k : Nat} (hk : k < X.length) (h : okI X[k] = false) : makeZ X = ([], 1) := by
  unfold makeZ
  rw [if_neg]
  intro ha
  have := List.all_eq_true.1 ha _ (List.getElem_mem hk)
  rw [h] at this
  cases this

theorem isW_in (n : Int) : (decide ((-72057594037927936 : Int) ≤ n) && decide (n ≤ 72057594037927936)) = isW n := rfl

set_option maxRecDepth 100000 in
set_option maxHeartbeats 4000000 in
theorem rMake_bad (a : Option Addr) (n cap : Nat) (X : List PI) (w : World) (hn : X.length = n) (h4 : n ≤ 65536) (hr : RdZ w a X) (hbad : X.all okI = false) :
    Calls Try.prog 12 #[.slice a n cap] w fun e w' => e = .returned (.tuple #[.slice none 0 0, .int .i64 1]) ∧ Below w.heap.size w w' := by
  have HN : Hid (X.length = n) := hn
  have HR : Hid (RdZ w a X) := hr
  have HBD : Hid (X.all okI = false) := hbad
  clear hn hr hbad
  go_enter Try.func12, Try.ntmps12
  go_wp2
  go_loopw [4] (fun i wr => ∃ k : Nat, k ≤ n ∧ i = .int .i64 k ∧ Hid ((X.take k).all okI = true) ∧ Hid (Below w.heap.size w wr)) (fun i _ => n - (RowKit.intOf i).toNat)
  case atStart => exact ⟨0, Nat.zero_le _, rfl, rfl, Below.refl _ _⟩
  case round =>
    obtain ⟨k, hk, rfl, hT, hB⟩ := hrel
    have hlt : k < n := by
      rcases Nat.lt_or_ge k n with h | h
      · exact h
      · have e := hT.out
        rw [List.take_of_length_le (by rw [HN.out]; exact h), HBD.out] at e
        cases e
    have hkl : k < X.length := by rw [HN.out]; exact hlt
    obtain ⟨b, off, ra, rc, rfl, x0, x1, hz⟩ := (HR.out.later hB.out).at_ hkl
    have CR : Calls Try.prog 27 #[.slice ra X[k].row.length rc] wr fun e w' => e = .returned (.int .i64 (chkR X[k].row)) ∧ Below wr.heap.size wr w' := by
      obtain ⟨a1, c1, e1, r1, l1, -⟩ := hz
      cases e1
      exact rRow_any ra _ rc X[k].row wr rfl l1 r1
    have CI := rIn_any X[k].wt (-72057594037927936) 72057594037927936
    rw [isW_in] at CI
    have HST : Hid (okI X[k] = true → (X.take (k + 1)).all okI = true) := fun h => by
      rw [List.take_succ_eq_append_getElem hkl, List.all_append, hT.out, List.all_cons, h]
      rfl
    have HOK : Hid (chkR X[k].row = 0 → isW X[k].wt = true → okI X[k] = true) := fun h1 h2 => okI_parts.2 ⟨h1, h2⟩
    clear hz
    generalize chkR X[k].row = c at *
    generalize hq : isW X[k].wt = q at *
    generalize okI X[k] = o at *
    generalize X[k].wt = p at *
    generalize X[k].row.length = rn at *
    clear hkl hT
    by_cases hc : c = 0
    · subst hc
      cases q with
      | true =>
        have HT2 : Hid ((X.take (k + 1)).all okI = true) := HST.out (HOK.out rfl rfl)
        clear HST HOK hq
        go_wp2_with fail
        refine CR.mono ?_
        rintro e w1 ⟨rfl, hb1⟩
        have HB1 : Hid (Below w.heap.size w w1) := chain hB.out hb1
        have y1 := cell_later hb1 x1
        clear CR x0 x1 hb1
        go_wp2_with fail
        refine (CI _).mono ?_
        rintro e w2 ⟨rfl, hw⟩
        subst hw
        clear CI y1
        go_wp2
        go_roundw
        case rel => exact ⟨k + 1, by omega, by go_num, HT2.out, HB1.out⟩
        case measure => simp [RowKit.intOf]; omega
      | false =>
        clear HST HOK hq
        go_wp2_with fail
        refine CR.mono ?_
        rintro e w1 ⟨rfl, hb1⟩
        have HB1 : Hid (Below w.heap.size w w1) := chain hB.out hb1
        have y1 := cell_later hb1 x1
        clear CR x0 x1 hb1
        go_wp2_with fail
        refine (CI _).mono ?_
        rintro e w2 ⟨rfl, hw⟩
        subst hw
        clear CI y1
        go_wp2
        go_ret2
        exact ⟨rfl, HB1.out⟩
    · have c1 : (c != 0) = true := by simpa using hc
      have c2 : (c = 0) = False := eq_false hc
      clear HST HOK hq CI hc
      go_wp2_with fail
      refine CR.mono ?_
      rintro e w1 ⟨rfl, hb1⟩
      have HB1 : Hid (Below w.heap.size w w1) := chain hB.out hb1
      clear CR x0 x1 hb1
      go_wp2
      go_ret2
      exact ⟨rfl, HB1.out⟩

end Go.Proofs.Ytajlkaedkifaoaa

namespace Go.Proofs.Ytajlkaedkifaoaa
open Go.RowKit Go.Lib
set_option linter.unusedVariables false

theorem mask32 (n : Int) : bits BinOp.and IntKind.i64 n 4294967295 = n % 4294967296 := by
  have hk : (BitVec.ofInt 64 (4294967295 : Int)).toNat = 2 ^ 32 - 1 := by rfl
  have key : (BitVec.ofInt 64 n &&& BitVec.ofInt 64 (4294967295 : Int)).toNat = (n % ((2 ^ 64 : Nat) : Int)).toNat % 2 ^ 32 := by
    rw [BitVec.toNat_and, BitVec.toNat_ofInt, hk, Nat.and_two_pow_sub_one_eq_mod]
  show IntKind.i64.wrap ((BitVec.ofInt 64 n &&& BitVec.ofInt 64 (4294967295 : Int)).toNat : Nat) = _
  rw [key, IntKind.wrap_i64]
  omega

/-- What is gathered so far, if no sum was beyond. -/
def SoFar (Y : List PI) (k : Nat) (P : List PI) (ov : Bool) : Prop := gatherZ Y = if ov = true then none else (gatherZ (Y.drop k)).map fun r => P ++ r

theorem SoFar.over {Y : List PI} {k j : Nat} {P P' : List PI} {ov : Bool} (h : SoFar Y k P ov) (hn : gatherZ (Y.drop k) = none) : SoFar Y j P' true := by
  unfold SoFar at h ⊢
  rw [h, hn]
  cases ov <;> rfl

theorem SoFar.none_ {Y : List PI} {k j : Nat} {P : List PI} {ov : Bool} {V : Int} {x : PI} (h : SoFar Y k P ov) (hn : gatherZ (Y.drop k) = (gatherZ (Y.drop j)).map fun r => if V = 0 then r else ⟨x.row, V⟩ :: r) (h0 : V = 0) : SoFar Y j P ov := by
  unfold SoFar at h ⊢
  rw [h, hn]
  cases ov
  · simp [h0]
  · rfl

theorem SoFar.some_ {Y : List PI} {k j : Nat} {P : List PI} {ov : Bool} {V : Int} {x : List PV} (h : SoFar Y k P ov) (hn : gatherZ (Y.drop k) = (gatherZ (Y.drop j)).map fun r => if V = 0 then r else ⟨x, V⟩ :: r) (h0 : V ≠ 0) : SoFar Y j (P ++ [⟨x, V⟩]) ov := by
  unfold SoFar at h ⊢
  rw [h, hn]
  cases ov
  · simp only [Option.map_map, if_neg (show ¬ (false = true) by simp)]
    congr 1
    funext r
    simp [h0]
  · rfl

set_option maxRecDepth 100000 in
set_option maxHeartbeats 16000000 in
theorem rMake_good (a : Option Addr) (n cap : Nat) (X : List PI) (w : World) (hn : X.length = n) (h4 : n ≤ 16384) (hcap : n ≤ cap) (hnil : a = none → X = [] ∧ cap = 0) (hr : RdZ w a X) (hall : X.all okI = true) :
    Calls Try.prog 12 #[.slice a n cap] w fun e w' => GivesZ w w' e (makeZ X) := by
  have HN : Hid (X.length = n) := hn
  have HR : Hid (RdZ w a X) := hr
  have HNI : Hid (a = none → X = [] ∧ cap = 0) := hnil
  have HAL : Hid (X.all okI = true) := hall
  clear hn hr hall hnil
  go_enter Try.func12, Try.ntmps12
  go_wp2
  go_loopw [4] (fun i wr => ∃ k : Nat, k ≤ n ∧ i = .int .i64 k ∧ Hid (Below w.heap.size w wr)) (fun i _ => n - (RowKit.intOf i).toNat)
  case atStart => exact ⟨0, Nat.zero_le _, rfl, Below.refl _ _⟩
  case round =>
    obtain ⟨k, hk, rfl, hB⟩ := hrel
    by_cases hlt : k < n
    · have hkl : k < X.length := by rw [HN.out]; exact hlt
      obtain ⟨b, off, ra, rc, rfl, x0, x1, hz⟩ := (HR.out.later hB.out).at_ hkl
      have CR : Calls Try.prog 27 #[.slice ra X[k].row.length rc] wr fun e w' => e = .returned (.int .i64 (chkR X[k].row)) ∧ Below wr.heap.size wr w' := by
        obtain ⟨a1, c1, e1, r1, l1, -⟩ := hz
        cases e1
        exact rRow_any ra _ rc X[k].row wr rfl l1 r1
      have CI := rIn_any X[k].wt (-72057594037927936) 72057594037927936
      rw [isW_in] at CI
      obtain ⟨o1, o2⟩ := okI_parts.1 (List.all_eq_true.1 HAL.out _ (List.getElem_mem hkl))
      rw [o1] at CR
      rw [o2] at CI
      clear hz o1 o2
      generalize X[k].wt = p at *
      generalize X[k].row.length = rn at *
      clear hkl
      go_wp2_with fail
      refine CR.mono ?_
      rintro e w1 ⟨rfl, hb1⟩
      have HB1 : Hid (Below w.heap.size w w1) := chain hB.out hb1
      have y1 := cell_later hb1 x1
      clear CR x0 x1 hb1
      go_wp2_with fail
      refine (CI _).mono ?_
      rintro e w2 ⟨rfl, hw⟩
      subst hw
      clear CI y1
      go_wp2
      go_roundw
      case rel => exact ⟨k + 1, by omega, by go_num, HB1.out⟩
      case measure => simp [RowKit.intOf]; omega
    · have CS := rsorted_any (n + 1) a n cap X wr (by omega) HN.out h4 hcap HNI.out (HR.out.later hB.out)
      go_wp2_with fail
      refine CS.mono ?_
      rintro e w1 ⟨a1, c1, Y, rfl, hp, hs, hf, hn1, hr1, hb1⟩
      have HGM : Hid (makeZ X = ansZ (gatherZ Y)) := makeZ_of HAL.out hs hp
      have HNY : Hid (Y.length = n) := by show _ = _; rw [← hp.length_eq]; exact HN.out
      have HWY : Hid (∀ y ∈ Y, isW y.wt = true) := fun y hy => (okI_parts.1 (List.all_eq_true.1 HAL.out y (hp.mem_iff.2 hy))).2
      have HRY : Hid (RdZ w1 a1 Y) := hr1
      have HBW : Hid (Below w.heap.size w w1) := chain hB.out hb1
      have HG0 : Hid (SoFar Y 0 (([] : List (List Value × PI)).map (·.2)) false) := by
        show SoFar _ _ _ _
        unfold SoFar
        simp
      clear CS hp hs hf hn1 hr1 hb1 hB HNI HAL HR HN hcap hlt
      go_wp2
      go_loopw [6, 7, 8] (fun v o i wr => ∃ (k : Nat) (Z : List (List Value × PI)) (ao : Option Addr) (co : Nat) (ov : Bool), k ≤ n ∧ i = .int .i64 k ∧ v = .slice ao Z.length co ∧ o = .bool ov ∧ Hid (SoFar Y k (Z.map (·.2)) ov) ∧ Hid (RowZ wr w1.heap.size (.slice ao Z.length co) Z) ∧ Hid (Below w1.heap.size w1 wr) ∧ Z.length ≤ k) (fun _ _ i _ => n - (RowKit.intOf i).toNat)
      case atStart => exact ⟨0, [], none, 0, false, Nat.zero_le _, rfl, rfl, rfl, HG0.out, RowZ.nought _ _, Below.refl _ _, Nat.le_refl _⟩
      case round =>
        clear HG0
        obtain ⟨k, Z, ao, co, ov, hk, rfl, rfl, rfl, hG, HRB, hB, hZk⟩ := hrel
        rename World => ww
        by_cases hlt : k < n
        · have hkl : k < Y.length := by rw [HNY.out]; exact hlt
          obtain ⟨b, off, ra, rc, rfl, x0, x1, hz⟩ := (HRY.out.later hB.out).at_ hkl
          have HX0 : Hid (ww.cell? ⟨b, off + k * 2, none⟩ = some (.slice ra (Y[k]'hkl).row.length rc)) := x0
          have HLZ : Hid (LiesZ (fun _ => False) ww [.slice ra (Y[k]'hkl).row.length rc, .int .i64 (Y[k]'hkl).wt] (Y[k]'hkl)) := hz
          have HR1 : Hid (RdZ ww (some ⟨b, off, none⟩) Y) := HRY.out.later hB.out
          have HS0 : Hid (0 * 4294967296 + 0 = sumTo Y k k) := by show _ = _; rw [sumTo_self]; rfl
          clear x0 x1 hz
          go_wp2
          go_loopw [9, 10, 11] (fun vh vl i wq => ∃ (j : Nat) (h l : Int), k ≤ j ∧ j ≤ n ∧ vh = .int .i64 h ∧ vl = .int .i64 l ∧ i = .int .i64 j ∧ Hid (∀ i (hi : i < Y.length), k ≤ i → i < j → cmpZ Y[i] (Y[k]'hkl) = 0) ∧ Hid (h * 4294967296 + l = sumTo Y k j) ∧ Hid (-(((j - k : Nat) : Int) * 16777217) ≤ h ∧ h ≤ ((j - k : Nat) : Int) * 16777217) ∧ Hid (0 ≤ l ∧ l ≤ ((j - k : Nat) : Int) * 4294967295) ∧ Hid (Below ww.heap.size ww wq)) (fun _ _ i _ => n - (RowKit.intOf i).toNat)
          case atStart =>
            refine ⟨k, 0, 0, Nat.le_refl _, hk, rfl, rfl, rfl, (fun i hi h1 h2 => by omega), HS0.out, ?_, ?_, Below.refl _ _⟩
            · show _ ∧ _
              simp
            · show _ ∧ _
              simp
          case round =>
            clear HS0
            obtain ⟨j, h, l, hkj, hj, rfl, rfl, rfl, hall, hsum, hhb, hlb, hB7⟩ := hrel
            by_cases hjn : j < n
            · have hjl : j < Y.length := by rw [HNY.out]; exact hjn
              obtain ⟨b', off', sa, sc, eb, y0, y1, hz2⟩ := (HR1.out.later hB7.out).at_ hjl
              cases eb
              have HLJ : Hid (LiesZ (fun _ => False) wr [.slice sa Y[j].row.length sc, .int .i64 Y[j].wt] Y[j]) := hz2
              have X6 := cell_later hB7.out HX0.out
              have CC : ∀ V, Below wr.heap.size wr V → Calls Try.prog 39 #[.slice sa Y[j].row.length sc, .slice ra (Y[k]'hkl).row.length rc] V fun e w' => e = .returned (.int .i64 (cmpZ Y[j] (Y[k]'hkl))) ∧ Below V.heap.size V w' := fun V hb => by
                obtain ⟨a8, c8, e8, r8, l8, -⟩ := HLJ.out.later hb
                obtain ⟨a9, c9, e9, r9, l9, -⟩ := (HLZ.out.later hB7.out).later hb
                cases e8
                cases e9
                exact rCompareRows_any _ _ _ _ _ _ _ _ V rfl rfl l8 l9 r8 r9
              have HWT : Hid (-72057594037927936 ≤ Y[j].wt ∧ Y[j].wt ≤ 72057594037927936) := isW_iff.1 (HWY.out _ (List.getElem_mem hjl))
              have HSU : Hid (sumTo Y k (j + 1) = sumTo Y k j + Y[j].wt) := sumTo_succ hkj hjl
              have HALL : Hid (cmpZ Y[j] (Y[k]'hkl) = 0 → ∀ i (hi : i < Y.length), k ≤ i → i < j + 1 → cmpZ Y[i] (Y[k]'hkl) = 0) := fun h0 i hi h1 h2 => by
                by_cases h3 : i = j
                · subst h3; exact h0
                · exact hall.out i hi h1 (by omega)
              have HKJ0 : Hid (cmpZ Y[j] (Y[k]'hkl) ≠ 0 → k < j) := fun h0 => by
                rcases Nat.lt_or_ge k j with h1 | h1
                · exact h1
                · obtain rfl : k = j := by omega
                  exact absurd (cmpZ_self _) h0
              have HRN : Hid (cmpZ Y[j] (Y[k]'hkl) ≠ 0 → gatherZ (Y.drop k) = if isW (sumTo Y k j) = true then (gatherZ (Y.drop j)).map fun r => if sumTo Y k j = 0 then r else ⟨(Y[k]'hkl).row, sumTo Y k j⟩ :: r else none) := fun h0 => gather_run (HKJ0.out h0) (by omega) hall.out (fun _ => h0)
              clear hz2
              obtain ⟨q, hq⟩ : ∃ q, Y[j].wt = q := ⟨_, rfl⟩
              obtain ⟨sn, hsn⟩ : ∃ sn, Y[j].row.length = sn := ⟨_, rfl⟩
              obtain ⟨c, hc⟩ : ∃ c, cmpZ Y[j] (Y[k]'hkl) = c := ⟨_, rfl⟩
              rw [hq] at y1 HWT HSU
              rw [hsn] at y0 CC
              rw [hc] at CC HALL HRN HKJ0
              have jj0 : (0 : Int) ≤ (j : Int) := by omega
              have jj1 : (j : Int) < (n : Int) := by omega
              have jj2 : (0 : Int) ≤ (k : Int) := by omega
              have jj3 : (k : Int) < (n : Int) := by omega
              have jd : decide ((j : Int) < (n : Int)) = true := decide_eq_true jj1
              have HS13 : wr.drew.cell? ⟨b, off + j * 2, none⟩ = some (.slice sa sn sc) ∧ wr.drew.cell? ⟨b, off + k * 2, none⟩ = some (.slice ra (Y[k]'hkl).row.length rc) ∧ wr.drew.cell? ⟨b, off + j * 2 + 1, none⟩ = some (.int .i64 q) ∧ Hid (Below wr.heap.size wr wr.drew) := ⟨y0, X6, y1, (Below.refl _ _).drew⟩
              by_cases hc0 : c = 0
              · have c1' : (c == 0) = true := by simpa using hc0
                have HAL2 : Hid _ := HALL.out hc0
                subst hc0
                clear HALL HRN hall HLJ hq hsn hc HKJ0
                go_upto_region 13 with fail
                refine wp_region_held_drew (S := (fun w' => w'.cell? ⟨b, off + j * 2, none⟩ = some (.slice sa sn sc) ∧ w'.cell? ⟨b, off + k * 2, none⟩ = some (.slice ra (Y[k]'hkl).row.length rc) ∧ w'.cell? ⟨b, off + j * 2 + 1, none⟩ = some (.int .i64 q) ∧ Hid (Below wr.heap.size wr w'))) (by kernel_rfl) HS13 (fun hHeld => ?_)
                refine heldTake (v := ?_) 0 42 rfl rfl (by kernel_rfl) (by kernel_rfl) (by kernel_rfl) (fun _ _ _ h => h) (by rfl) (fun w hSw => ?_) (by assumption) ?_
                rotate_left
                · (try dsimp only at hSw); first | (go_simp; done) | (go_simp; with_reducible rfl)
                simp only [List.setIfInBounds_toArray, List.set_cons_zero, List.set_cons_succ]
                refine heldTake (v := ?_) 1 43 rfl rfl (by kernel_rfl) (by kernel_rfl) (by kernel_rfl) (fun _ _ _ h => h) (by rfl) (fun w hSw => ?_) (by assumption) ?_
                rotate_left
                · (try dsimp only at hSw); first | (go_simp; done) | (go_simp; with_reducible rfl)
                simp only [List.setIfInBounds_toArray, List.set_cons_zero, List.set_cons_succ]
                refine heldTake (v := ?_) 2 44 rfl rfl (by kernel_rfl) (by kernel_rfl) (by kernel_rfl) (fun _ _ _ h => h) (by rfl) (fun w hSw => ?_) (by assumption) ?_
                rotate_left
                · (try dsimp only at hSw); first | (go_simp; done) | (go_simp; with_reducible rfl)
                simp only [List.setIfInBounds_toArray, List.set_cons_zero, List.set_cons_succ]
                refine heldTake (v := ?_) 3 45 rfl rfl (by kernel_rfl) (by kernel_rfl) (by kernel_rfl) (fun _ _ _ h => h) (by rfl) (fun w hSw => ?_) (by assumption) ?_
                rotate_left
                · (try dsimp only at hSw); first | (go_simp; done) | (go_simp; with_reducible rfl)
                simp only [List.setIfInBounds_toArray, List.set_cons_zero, List.set_cons_succ]
                refine heldTake (v := ?_) 4 46 rfl rfl (by kernel_rfl) (by kernel_rfl) (by kernel_rfl) (fun _ _ _ h => h) (by rfl) (fun w hSw => ?_) (by assumption) ?_
                rotate_left
                · (try dsimp only at hSw); first | (go_simp; done) | (go_simp; with_reducible rfl)
                simp only [List.setIfInBounds_toArray, List.set_cons_zero, List.set_cons_succ]
                refine heldTake (v := ?_) 5 47 rfl rfl (by kernel_rfl) (by kernel_rfl) (by kernel_rfl) (fun _ _ _ h => h) (by rfl) (fun w hSw => ?_) (by assumption) ?_
                rotate_left
                · (try dsimp only at hSw); first | (go_simp; done) | (go_simp; with_reducible rfl)
                simp only [List.setIfInBounds_toArray, List.set_cons_zero, List.set_cons_succ]
                refine heldTake (v := ?_) 6 48 rfl rfl (by kernel_rfl) (by kernel_rfl) (by kernel_rfl) (fun _ _ _ h => h) (by rfl) (fun w hSw => ?_) (by assumption) ?_
                rotate_left
                · (try dsimp only at hSw); first | (go_simp; done) | (go_simp; with_reducible rfl)
                simp only [List.setIfInBounds_toArray, List.set_cons_zero, List.set_cons_succ]
                refine heldTake (v := ?_) 7 49 rfl rfl (by kernel_rfl) (by kernel_rfl) (by kernel_rfl) (fun _ _ _ h => h) (by rfl) (fun w hSw => ?_) (by assumption) ?_
                rotate_left
                · (try dsimp only at hSw); first | (go_simp; done) | (go_simp; with_reducible rfl)
                simp only [List.setIfInBounds_toArray, List.set_cons_zero, List.set_cons_succ]
                refine heldTake (v := ?_) 8 50 rfl rfl (by kernel_rfl) (by kernel_rfl) (by kernel_rfl) (fun _ _ _ h => h) (by rfl) (fun w hSw => ?_) (by assumption) ?_
                rotate_left
                · (try dsimp only at hSw); first | (go_simp; done) | (go_simp; with_reducible rfl)
                simp only [List.setIfInBounds_toArray, List.set_cons_zero, List.set_cons_succ]
                refine heldTake (v := ?_) 9 51 rfl rfl (by kernel_rfl) (by kernel_rfl) (by kernel_rfl) (fun _ _ _ h => h) (by rfl) (fun w hSw => ?_) (by assumption) ?_
                rotate_left
                · (try dsimp only at hSw); first | (go_simp; done) | (go_simp; with_reducible rfl)
                simp only [List.setIfInBounds_toArray, List.set_cons_zero, List.set_cons_succ]
                refine heldTake (v := ?_) 10 52 rfl rfl (by kernel_rfl) (by kernel_rfl) (by kernel_rfl) (fun _ _ _ h => h) (by rfl) (fun w hSw => ?_) (by assumption) ?_
                rotate_left
                · (try dsimp only at hSw); first | (go_simp; done) | (go_simp; with_reducible rfl)
                simp only [List.setIfInBounds_toArray, List.set_cons_zero, List.set_cons_succ]
                refine heldTake (v := ?_) 11 53 rfl rfl (by kernel_rfl) (by kernel_rfl) (by kernel_rfl) (fun _ _ _ h => h) (by rfl) (fun w hSw => ?_) (by assumption) ?_
                rotate_left
                · (try dsimp only at hSw); first | (go_simp; done) | (go_simp; with_reducible rfl)
                simp only [List.setIfInBounds_toArray, List.set_cons_zero, List.set_cons_succ]
                refine heldTake (v := ?_) 12 54 rfl rfl (by kernel_rfl) (by kernel_rfl) (by kernel_rfl) (fun _ _ _ h => h) (by rfl) (fun w hSw => ?_) (by assumption) ?_
                rotate_left
                · (try dsimp only at hSw); first | (go_simp; done) | (go_simp; with_reducible rfl)
                simp only [List.setIfInBounds_toArray, List.set_cons_zero, List.set_cons_succ]
                refine heldTake (v := ?_) 13 55 rfl rfl (by kernel_rfl) (by kernel_rfl) (by kernel_rfl) (fun _ _ _ h => h) (by rfl) (fun w hSw => ?_) (by assumption) ?_
                rotate_left
                · (try dsimp only at hSw); first | (go_simp; done) | (go_simp; with_reducible rfl)
                simp only [List.setIfInBounds_toArray, List.set_cons_zero, List.set_cons_succ]
                refine heldTake (v := ?_) 14 56 rfl rfl (by kernel_rfl) (by kernel_rfl) (by kernel_rfl) (fun _ _ _ h => h) (by rfl) (fun w hSw => ?_) (by assumption) ?_
                rotate_left
                · (try dsimp only at hSw); first | (go_simp; done) | (go_simp; with_reducible rfl)
                simp only [List.setIfInBounds_toArray, List.set_cons_zero, List.set_cons_succ]
                refine heldOne 15 rfl (by kernel_rfl) (by rfl) (fun K2 hK => ?_)
                go_simp
                refine (CC _ hHeld.2.2.2.out).mono ?_
                rintro e wz ⟨rfl, hb⟩
                simp only []
                refine hK.out _ _ ?_ (fun hHeld => ?_)
                · exact keep3W hb (by assumption)
                clear hK K2
                try simp only [List.setIfInBounds_toArray, List.set_cons_zero, List.set_cons_succ]
                refine heldTake (v := ?_) 16 58 rfl rfl (by kernel_rfl) (by kernel_rfl) (by kernel_rfl) (fun _ _ _ h => h) (by rfl) (fun w hSw => ?_) (by assumption) ?_
                rotate_left
                · (try dsimp only at hSw); first | (go_simp; done) | (go_simp; with_reducible rfl)
                simp only [List.setIfInBounds_toArray, List.set_cons_zero, List.set_cons_succ]
                refine heldTake (v := ?_) 17 59 rfl rfl (by kernel_rfl) (by kernel_rfl) (by kernel_rfl) (fun _ _ _ h => h) (by rfl) (fun w hSw => ?_) (by assumption) ?_
                rotate_left
                · (try dsimp only at hSw); first | (go_simp; done) | (go_simp; with_reducible rfl)
                simp only [List.setIfInBounds_toArray, List.set_cons_zero, List.set_cons_succ]
                refine wpAnyH_done (by kernel_rfl) ?_ _
                have HBZ : Hid (Below wr.heap.size wr wz) := hHeld.2.2.2
                have HB7 : Hid (Below ww.heap.size ww wz) := chain hB7.out HBZ.out
                have Y1' := hHeld.2.2.1
                clear hHeld HS13 CC y0 y1 hB7 HBZ X6
                have hqb := HWT.out
                have hhb' := hhb.out
                have hlb' := hlb.out
                have HJK : ((j + 1 - k : Nat) : Int) = ((j - k : Nat) : Int) + 1 := by omega
                have e1 : wrap64 (h + q / 4294967296) = h + q / 4294967296 := wrap_in (by omega)
                have e2 : wrap64 (l + bits BinOp.and IntKind.i64 q 4294967295) = l + q % 4294967296 := by rw [mask32]; exact wrap_in (by omega)
                have e3 : IntKind.i64.wrap (h + q / 4294967296) = h + q / 4294967296 := by rw [IntKind.wrap_i64]; omega
                have e4 : IntKind.i64.wrap (l + bits BinOp.and IntKind.i64 q 4294967295) = l + q % 4294967296 := by rw [mask32, IntKind.wrap_i64]; omega
                have HVF : Hid ((h + q / 4294967296) * 4294967296 + (l + q % 4294967296) = sumTo Y k (j + 1)) := by
                  have e1 := hsum.out
                  have e2 := HSU.out
                  show _ = _
                  omega
                have HHF : Hid (-(((j + 1 - k : Nat) : Int) * 16777217) ≤ h + q / 4294967296 ∧ h + q / 4294967296 ≤ ((j + 1 - k : Nat) : Int) * 16777217) := by
                  show _ ∧ _
                  rw [HJK]
                  omega
                have HLF : Hid (0 ≤ l + q % 4294967296 ∧ l + q % 4294967296 ≤ ((j + 1 - k : Nat) : Int) * 4294967295) := by
                  show _ ∧ _
                  rw [HJK]
                  omega
                have HS14 : wz.drew.cell? ⟨b, off + j * 2 + 1, none⟩ = some (.int .i64 q) ∧ Hid (Below wz.heap.size wz wz.drew) := ⟨Y1', (Below.refl _ _).drew⟩
                clear hqb hhb' hlb' HJK hsum HSU hhb hlb HWT Y1'
                go_upto_region 14 with fail
                refine wp_region_held_drew (S := (fun w' => w'.cell? ⟨b, off + j * 2 + 1, none⟩ = some (.int .i64 q) ∧ Hid (Below wz.heap.size wz w'))) (by kernel_rfl) HS14 (fun hHeld => ?_)
                refine heldTake (v := ?_) 0 60 rfl rfl (by kernel_rfl) (by kernel_rfl) (by kernel_rfl) (fun _ _ _ h => h) (by rfl) (fun w hSw => ?_) (by assumption) ?_
                rotate_left
                · (try dsimp only at hSw); first | (go_simp; done) | (go_simp; with_reducible rfl)
                simp only [List.setIfInBounds_toArray, List.set_cons_zero, List.set_cons_succ]
                refine heldTake (v := ?_) 1 61 rfl rfl (by kernel_rfl) (by kernel_rfl) (by kernel_rfl) (fun _ _ _ h => h) (by rfl) (fun w hSw => ?_) (by assumption) ?_
                rotate_left
                · (try dsimp only at hSw); first | (go_simp; done) | (go_simp; with_reducible rfl)
                simp only [List.setIfInBounds_toArray, List.set_cons_zero, List.set_cons_succ]
                refine heldTake (v := ?_) 2 62 rfl rfl (by kernel_rfl) (by kernel_rfl) (by kernel_rfl) (fun _ _ _ h => h) (by rfl) (fun w hSw => ?_) (by assumption) ?_
                rotate_left
                · (try dsimp only at hSw); first | (go_simp; done) | (go_simp; with_reducible rfl)
                simp only [List.setIfInBounds_toArray, List.set_cons_zero, List.set_cons_succ]
                refine heldTake (v := ?_) 3 63 rfl rfl (by kernel_rfl) (by kernel_rfl) (by kernel_rfl) (fun _ _ _ h => h) (by rfl) (fun w hSw => ?_) (by assumption) ?_
                rotate_left
                · (try dsimp only at hSw); first | (go_simp; done) | (go_simp; with_reducible rfl)
                simp only [List.setIfInBounds_toArray, List.set_cons_zero, List.set_cons_succ]
                refine heldTake (v := ?_) 4 64 rfl rfl (by kernel_rfl) (by kernel_rfl) (by kernel_rfl) (fun _ _ _ h => h) (by rfl) (fun w hSw => ?_) (by assumption) ?_
                rotate_left
                · (try dsimp only at hSw); first | (go_simp; done) | (go_simp; with_reducible rfl)
                simp only [List.setIfInBounds_toArray, List.set_cons_zero, List.set_cons_succ]
                refine heldTake (v := ?_) 5 65 rfl rfl (by kernel_rfl) (by kernel_rfl) (by kernel_rfl) (fun _ _ _ h => h) (by rfl) (fun w hSw => ?_) (by assumption) ?_
                rotate_left
                · (try dsimp only at hSw); first | (go_simp; done) | (go_simp; with_reducible rfl)
                simp only [List.setIfInBounds_toArray, List.set_cons_zero, List.set_cons_succ]
                refine heldTake (v := ?_) 6 66 rfl rfl (by kernel_rfl) (by kernel_rfl) (by kernel_rfl) (fun _ _ _ h => h) (by rfl) (fun w hSw => ?_) (by assumption) ?_
                rotate_left
                · (try dsimp only at hSw); first | (go_simp; done) | (go_simp; with_reducible rfl)
                simp only [List.setIfInBounds_toArray, List.set_cons_zero, List.set_cons_succ]
                refine heldTake (v := ?_) 7 67 rfl rfl (by kernel_rfl) (by kernel_rfl) (by kernel_rfl) (fun _ _ _ h => h) (by rfl) (fun w hSw => ?_) (by assumption) ?_
                rotate_left
                · (try dsimp only at hSw); first | (go_simp; done) | (go_simp; with_reducible rfl)
                simp only [List.setIfInBounds_toArray, List.set_cons_zero, List.set_cons_succ]
                refine heldTake (v := ?_) 8 68 rfl rfl (by kernel_rfl) (by kernel_rfl) (by kernel_rfl) (fun _ _ _ h => h) (by rfl) (fun w hSw => ?_) (by assumption) ?_
                rotate_left
                · (try dsimp only at hSw); first | (go_simp; done) | (go_simp; with_reducible rfl)
                simp only [List.setIfInBounds_toArray, List.set_cons_zero, List.set_cons_succ]
                refine heldTake (v := ?_) 9 69 rfl rfl (by kernel_rfl) (by kernel_rfl) (by kernel_rfl) (fun _ _ _ h => h) (by rfl) (fun w hSw => ?_) (by assumption) ?_
                rotate_left
                · (try dsimp only at hSw); first | (go_simp; done) | (go_simp; with_reducible rfl)
                simp only [List.setIfInBounds_toArray, List.set_cons_zero, List.set_cons_succ]
                refine heldTake (v := ?_) 10 70 rfl rfl (by kernel_rfl) (by kernel_rfl) (by kernel_rfl) (fun _ _ _ h => h) (by rfl) (fun w hSw => ?_) (by assumption) ?_
                rotate_left
                · (try dsimp only at hSw); first | (go_simp; done) | (go_simp; with_reducible rfl)
                simp only [List.setIfInBounds_toArray, List.set_cons_zero, List.set_cons_succ]
                refine heldTake (v := ?_) 11 71 rfl rfl (by kernel_rfl) (by kernel_rfl) (by kernel_rfl) (fun _ _ _ h => h) (by rfl) (fun w hSw => ?_) (by assumption) ?_
                rotate_left
                · (try dsimp only at hSw); first | (go_simp; done) | (go_simp; with_reducible rfl)
                simp only [List.setIfInBounds_toArray, List.set_cons_zero, List.set_cons_succ]
                refine heldTake (v := ?_) 12 72 rfl rfl (by kernel_rfl) (by kernel_rfl) (by kernel_rfl) (fun _ _ _ h => h) (by rfl) (fun w hSw => ?_) (by assumption) ?_
                rotate_left
                · (try dsimp only at hSw); first | (go_simp; done) | (go_simp; with_reducible rfl)
                simp only [List.setIfInBounds_toArray, List.set_cons_zero, List.set_cons_succ]
                refine heldTake (v := ?_) 13 73 rfl rfl (by kernel_rfl) (by kernel_rfl) (by kernel_rfl) (fun _ _ _ h => h) (by rfl) (fun w hSw => ?_) (by assumption) ?_
                rotate_left
                · (try dsimp only at hSw); first | (go_simp; done) | (go_simp; with_reducible rfl)
                simp only [List.setIfInBounds_toArray, List.set_cons_zero, List.set_cons_succ]
                refine heldTake (v := ?_) 14 74 rfl rfl (by kernel_rfl) (by kernel_rfl) (by kernel_rfl) (fun _ _ _ h => h) (by rfl) (fun w hSw => ?_) (by assumption) ?_
                rotate_left
                · (try dsimp only at hSw); first | (go_simp; done) | (go_simp; with_reducible rfl)
                simp only [List.setIfInBounds_toArray, List.set_cons_zero, List.set_cons_succ]
                refine heldTake (v := ?_) 15 75 rfl rfl (by kernel_rfl) (by kernel_rfl) (by kernel_rfl) (fun _ _ _ h => h) (by rfl) (fun w hSw => ?_) (by assumption) ?_
                rotate_left
                · (try dsimp only at hSw); first | (go_simp; done) | (go_simp; with_reducible rfl)
                simp only [List.setIfInBounds_toArray, List.set_cons_zero, List.set_cons_succ]
                refine heldTake (v := ?_) 16 9 rfl rfl (by kernel_rfl) (by kernel_rfl) (by kernel_rfl) (fun _ _ _ h => h) (by rfl) (fun w hSw => ?_) (by assumption) ?_
                rotate_left
                · (try dsimp only at hSw); first | (go_simp; done) | (go_simp; with_reducible rfl)
                simp only [List.setIfInBounds_toArray, List.set_cons_zero, List.set_cons_succ]
                refine heldTake (v := ?_) 17 10 rfl rfl (by kernel_rfl) (by kernel_rfl) (by kernel_rfl) (fun _ _ _ h => h) (by rfl) (fun w hSw => ?_) (by assumption) ?_
                rotate_left
                · (try dsimp only at hSw); first | (go_simp; done) | (go_simp; with_reducible rfl)
                simp only [List.setIfInBounds_toArray, List.set_cons_zero, List.set_cons_succ]
                refine wpAnyH_done (by kernel_rfl) ?_ _
                have HBY : Hid (Below wz.heap.size wz _) := hHeld.2
                have HBF : Hid (Below ww.heap.size ww _) := chain HB7.out HBY.out
                clear hHeld HS14 HBY HB7
                go_wp2
                go_roundw
                case rel => exact ⟨j + 1, h + q / 4294967296, l + q % 4294967296, by omega, by omega, by first | rfl | rw [e3] | rw [e1], by first | rfl | rw [e4] | rw [e2], by go_num, HAL2.out, HVF.out, HHF.out, HLF.out, HBF.out⟩
                case measure => simp [RowKit.intOf]; omega
              · have c1' : (c == 0) = false := by simpa using hc0
                have c2' : (c = 0) = False := eq_false hc0
                have HRUN : Hid _ := HRN.out hc0
                have HKJ : Hid (k < j) := HKJ0.out hc0
                clear HALL HRN hall HLJ HSU hq hsn hc hc0 HWT HKJ0
                go_upto_region 13 with fail
                refine wp_region_held_drew (S := (fun w' => w'.cell? ⟨b, off + j * 2, none⟩ = some (.slice sa sn sc) ∧ w'.cell? ⟨b, off + k * 2, none⟩ = some (.slice ra (Y[k]'hkl).row.length rc) ∧ w'.cell? ⟨b, off + j * 2 + 1, none⟩ = some (.int .i64 q) ∧ Hid (Below wr.heap.size wr w'))) (by kernel_rfl) HS13 (fun hHeld => ?_)
                refine heldTake (v := ?_) 0 42 rfl rfl (by kernel_rfl) (by kernel_rfl) (by kernel_rfl) (fun _ _ _ h => h) (by rfl) (fun w hSw => ?_) (by assumption) ?_
                rotate_left
                · (try dsimp only at hSw); first | (go_simp; done) | (go_simp; with_reducible rfl)
                simp only [List.setIfInBounds_toArray, List.set_cons_zero, List.set_cons_succ]
                refine heldTake (v := ?_) 1 43 rfl rfl (by kernel_rfl) (by kernel_rfl) (by kernel_rfl) (fun _ _ _ h => h) (by rfl) (fun w hSw => ?_) (by assumption) ?_
                rotate_left
                · (try dsimp only at hSw); first | (go_simp; done) | (go_simp; with_reducible rfl)
                simp only [List.setIfInBounds_toArray, List.set_cons_zero, List.set_cons_succ]
                refine heldTake (v := ?_) 2 44 rfl rfl (by kernel_rfl) (by kernel_rfl) (by kernel_rfl) (fun _ _ _ h => h) (by rfl) (fun w hSw => ?_) (by assumption) ?_
                rotate_left
                · (try dsimp only at hSw); first | (go_simp; done) | (go_simp; with_reducible rfl)
                simp only [List.setIfInBounds_toArray, List.set_cons_zero, List.set_cons_succ]
                refine heldTake (v := ?_) 3 45 rfl rfl (by kernel_rfl) (by kernel_rfl) (by kernel_rfl) (fun _ _ _ h => h) (by rfl) (fun w hSw => ?_) (by assumption) ?_
                rotate_left
                · (try dsimp only at hSw); first | (go_simp; done) | (go_simp; with_reducible rfl)
                simp only [List.setIfInBounds_toArray, List.set_cons_zero, List.set_cons_succ]
                refine heldTake (v := ?_) 4 46 rfl rfl (by kernel_rfl) (by kernel_rfl) (by kernel_rfl) (fun _ _ _ h => h) (by rfl) (fun w hSw => ?_) (by assumption) ?_
                rotate_left
                · (try dsimp only at hSw); first | (go_simp; done) | (go_simp; with_reducible rfl)
                simp only [List.setIfInBounds_toArray, List.set_cons_zero, List.set_cons_succ]
                refine heldTake (v := ?_) 5 47 rfl rfl (by kernel_rfl) (by kernel_rfl) (by kernel_rfl) (fun _ _ _ h => h) (by rfl) (fun w hSw => ?_) (by assumption) ?_
                rotate_left
                · (try dsimp only at hSw); first | (go_simp; done) | (go_simp; with_reducible rfl)
                simp only [List.setIfInBounds_toArray, List.set_cons_zero, List.set_cons_succ]
                refine heldTake (v := ?_) 6 48 rfl rfl (by kernel_rfl) (by kernel_rfl) (by kernel_rfl) (fun _ _ _ h => h) (by rfl) (fun w hSw => ?_) (by assumption) ?_
                rotate_left
                · (try dsimp only at hSw); first | (go_simp; done) | (go_simp; with_reducible rfl)
                simp only [List.setIfInBounds_toArray, List.set_cons_zero, List.set_cons_succ]
                refine heldTake (v := ?_) 7 49 rfl rfl (by kernel_rfl) (by kernel_rfl) (by kernel_rfl) (fun _ _ _ h => h) (by rfl) (fun w hSw => ?_) (by assumption) ?_
                rotate_left
                · (try dsimp only at hSw); first | (go_simp; done) | (go_simp; with_reducible rfl)
                simp only [List.setIfInBounds_toArray, List.set_cons_zero, List.set_cons_succ]
                refine heldTake (v := ?_) 8 50 rfl rfl (by kernel_rfl) (by kernel_rfl) (by kernel_rfl) (fun _ _ _ h => h) (by rfl) (fun w hSw => ?_) (by assumption) ?_
                rotate_left
                · (try dsimp only at hSw); first | (go_simp; done) | (go_simp; with_reducible rfl)
                simp only [List.setIfInBounds_toArray, List.set_cons_zero, List.set_cons_succ]
                refine heldTake (v := ?_) 9 51 rfl rfl (by kernel_rfl) (by kernel_rfl) (by kernel_rfl) (fun _ _ _ h => h) (by rfl) (fun w hSw => ?_) (by assumption) ?_
                rotate_left
                · (try dsimp only at hSw); first | (go_simp; done) | (go_simp; with_reducible rfl)
                simp only [List.setIfInBounds_toArray, List.set_cons_zero, List.set_cons_succ]
                refine heldTake (v := ?_) 10 52 rfl rfl (by kernel_rfl) (by kernel_rfl) (by kernel_rfl) (fun _ _ _ h => h) (by rfl) (fun w hSw => ?_) (by assumption) ?_
                rotate_left
                · (try dsimp only at hSw); first | (go_simp; done) | (go_simp; with_reducible rfl)
                simp only [List.setIfInBounds_toArray, List.set_cons_zero, List.set_cons_succ]
                refine heldTake (v := ?_) 11 53 rfl rfl (by kernel_rfl) (by kernel_rfl) (by kernel_rfl) (fun _ _ _ h => h) (by rfl) (fun w hSw => ?_) (by assumption) ?_
                rotate_left
                · (try dsimp only at hSw); first | (go_simp; done) | (go_simp; with_reducible rfl)
                simp only [List.setIfInBounds_toArray, List.set_cons_zero, List.set_cons_succ]
                refine heldTake (v := ?_) 12 54 rfl rfl (by kernel_rfl) (by kernel_rfl) (by kernel_rfl) (fun _ _ _ h => h) (by rfl) (fun w hSw => ?_) (by assumption) ?_
                rotate_left
                · (try dsimp only at hSw); first | (go_simp; done) | (go_simp; with_reducible rfl)
                simp only [List.setIfInBounds_toArray, List.set_cons_zero, List.set_cons_succ]
                refine heldTake (v := ?_) 13 55 rfl rfl (by kernel_rfl) (by kernel_rfl) (by kernel_rfl) (fun _ _ _ h => h) (by rfl) (fun w hSw => ?_) (by assumption) ?_
                rotate_left
                · (try dsimp only at hSw); first | (go_simp; done) | (go_simp; with_reducible rfl)
                simp only [List.setIfInBounds_toArray, List.set_cons_zero, List.set_cons_succ]
                refine heldTake (v := ?_) 14 56 rfl rfl (by kernel_rfl) (by kernel_rfl) (by kernel_rfl) (fun _ _ _ h => h) (by rfl) (fun w hSw => ?_) (by assumption) ?_
                rotate_left
                · (try dsimp only at hSw); first | (go_simp; done) | (go_simp; with_reducible rfl)
                simp only [List.setIfInBounds_toArray, List.set_cons_zero, List.set_cons_succ]
                refine heldOne 15 rfl (by kernel_rfl) (by rfl) (fun K2 hK => ?_)
                go_simp
                refine (CC _ hHeld.2.2.2.out).mono ?_
                rintro e wz ⟨rfl, hb⟩
                simp only []
                refine hK.out _ _ ?_ (fun hHeld => ?_)
                · exact keep3W hb (by assumption)
                clear hK K2
                try simp only [List.setIfInBounds_toArray, List.set_cons_zero, List.set_cons_succ]
                refine heldTake (v := ?_) 16 58 rfl rfl (by kernel_rfl) (by kernel_rfl) (by kernel_rfl) (fun _ _ _ h => h) (by rfl) (fun w hSw => ?_) (by assumption) ?_
                rotate_left
                · (try dsimp only at hSw); first | (go_simp; done) | (go_simp; with_reducible rfl)
                simp only [List.setIfInBounds_toArray, List.set_cons_zero, List.set_cons_succ]
                refine heldTake (v := ?_) 17 59 rfl rfl (by kernel_rfl) (by kernel_rfl) (by kernel_rfl) (fun _ _ _ h => h) (by rfl) (fun w hSw => ?_) (by assumption) ?_
                rotate_left
                · (try dsimp only at hSw); first | (go_simp; done) | (go_simp; with_reducible rfl)
                simp only [List.setIfInBounds_toArray, List.set_cons_zero, List.set_cons_succ]
                refine wpAnyH_done (by kernel_rfl) ?_ _
                have HBZ : Hid (Below wr.heap.size wr wz) := hHeld.2.2.2
                have HB7 : Hid (Below ww.heap.size ww wz) := chain hB7.out HBZ.out
                have HV : Hid (h * 4294967296 + l = sumTo Y k j) := hsum.out
                have HBD : Hid ((-1125899906842624 ≤ h ∧ h ≤ 1125899906842624) ∧ (0 ≤ l ∧ l ≤ 1152921504606846976)) := by
                  have e1 := hhb.out
                  have e2 := hlb.out
                  show _ ∧ _
                  omega
                clear hHeld HS13 CC y0 y1 hB7 HBZ hsum hhb hlb hkj X6
                have jk0 : k < j := HKJ.out
                have q1 : wrap64 (h + l / 4294967296) = h + l / 4294967296 := wrap_in (by have := HBD.out; omega)
                have q2 := mask32 l
                have hVV : (h + l / 4294967296) * 4294967296 + l % 4294967296 = sumTo Y k j := by have := HV.out; omega
                obtain ⟨H, hH⟩ : ∃ H, h + l / 4294967296 = H := ⟨_, rfl⟩
                obtain ⟨L, hL⟩ : ∃ L, l % 4294967296 = L := ⟨_, rfl⟩
                have hL2 : 0 ≤ L ∧ L ≤ 4294967295 := by omega
                obtain ⟨V, hVe⟩ : ∃ V, sumTo Y k j = V := ⟨_, rfl⟩
                have HRUN2 : Hid (gatherZ (Y.drop k) = if isW V = true then (gatherZ (Y.drop j)).map fun r => if V = 0 then r else ⟨(Y[k]'hkl).row, V⟩ :: r else none) := by rw [← hVe]; exact HRUN.out
                rw [hH, hL, hVe] at hVV
                rw [hH] at q1
                rw [hL] at q2
                have hbd := HBD.out
                have CI1 := rIn_any H (-33554432) 33554432
                have HCUT : Hid ((decide (-33554432 ≤ H) && decide (H ≤ 33554432)) = false → isW V = false) := fun h0 => by
                  cases hw : isW V with
                  | false => rfl
                  | true =>
                    have h1 := isW_iff.1 hw
                    have : (decide (-33554432 ≤ H) && decide (H ≤ 33554432)) = true := by
                      rw [decide_eq_true (by omega), decide_eq_true (by omega)]
                      rfl
                    rw [this] at h0
                    cases h0
                have HHB : Hid ((decide (-33554432 ≤ H) && decide (H ≤ 33554432)) = true → -33554432 ≤ H ∧ H ≤ 33554432) := fun h0 => by simpa using h0
                generalize (decide (-33554432 ≤ H) && decide (H ≤ 33554432)) = i1 at *
                clear HRUN HV hVe hbd HBD
                have HHE : Hid (h + l / 4294967296 = H) := hH
                have HLE2 : Hid (l % 4294967296 = L) := hL
                cases i1 with
                | false =>
                  have HNN : Hid (gatherZ (Y.drop k) = none) := by
                    show _ = _
                    rw [HRUN2.out, HCUT.out rfl]
                    rfl
                  have HG2 : Hid (SoFar Y j (Z.map (·.2)) true) := hG.out.over HNN.out
                  have HR9 : Hid (RowZ wz w1.heap.size (.slice ao Z.length co) Z) := HRB.out.later HB7.out
                  have HB9 : Hid (Below w1.heap.size w1 wz) := chain hB.out HB7.out
                  clear HNN HRUN2 HCUT HHB hG HRB HB7 hL2
                  go_wp2_with fail
                  refine (CI1 _).mono ?_
                  rintro e w9 ⟨rfl, hw⟩
                  subst hw
                  clear CI1
                  go_wp2
                  go_roundw
                  case rel => exact ⟨j, Z, ao, co, true, by omega, rfl, rfl, rfl, HG2.out, HR9.out, HB9.out, by omega⟩
                  case measure => simp [RowKit.intOf]; omega
                | true =>
                  have hHB := HHB.out rfl
                  have q3 : wrap64 (H * 4294967296) = H * 4294967296 := wrap_in (by omega)
                  have q4 : wrap64 (H * 4294967296 + L) = V := by rw [wrap_in (by omega)]; exact hVV
                  have CI2 := rIn_any V (-72057594037927936) 72057594037927936
                  rw [isW_in] at CI2
                  obtain ⟨i2, hi2⟩ : ∃ q, isW V = q := ⟨_, rfl⟩
                  rw [hi2] at CI2
                  have HW2 : Hid (isW V = i2) := hi2
                  clear HCUT HHB hi2
                  cases i2 with
                  | false =>
                    have HNN : Hid (gatherZ (Y.drop k) = none) := by
                      show _ = _
                      rw [HRUN2.out, HW2.out]
                      rfl
                    have HG2 : Hid (SoFar Y j (Z.map (·.2)) true) := hG.out.over HNN.out
                    have HR9 : Hid (RowZ wz w1.heap.size (.slice ao Z.length co) Z) := HRB.out.later HB7.out
                    have HB9 : Hid (Below w1.heap.size w1 wz) := chain hB.out HB7.out
                    clear HNN HRUN2 hG HRB HB7 hL2 hHB HW2 hVV
                    go_wp2_with fail
                    refine (CI1 _).mono ?_
                    rintro e w9 ⟨rfl, hw⟩
                    subst hw
                    clear CI1
                    go_wp2_with fail
                    refine (CI2 _).mono ?_
                    rintro e w9 ⟨rfl, hw⟩
                    subst hw
                    clear CI2
                    go_wp2
                    go_roundw
                    case rel => exact ⟨j, Z, ao, co, true, by omega, rfl, rfl, rfl, HG2.out, HR9.out, HB9.out, by omega⟩
                    case measure => simp [RowKit.intOf]; omega
                  | true =>
                    have HRUN3 : Hid (gatherZ (Y.drop k) = (gatherZ (Y.drop j)).map fun r => if V = 0 then r else ⟨(Y[k]'hkl).row, V⟩ :: r) := by
                      show _ = _
                      rw [HRUN2.out, HW2.out, if_pos rfl]
                    have HVB := isW_iff.1 HW2.out
                    clear HRUN2 HW2
                    by_cases hv0 : V = 0
                    · have HG2 : Hid (SoFar Y j (Z.map (·.2)) ov) := hG.out.none_ HRUN3.out hv0
                      have HR9 : Hid (RowZ wz w1.heap.size (.slice ao Z.length co) Z) := HRB.out.later HB7.out
                      have HB9 : Hid (Below w1.heap.size w1 wz) := chain hB.out HB7.out
                      have v1 : (V == 0) = true := by simpa using hv0
                      have v2 : (V != 0) = false := by simpa using hv0
                      clear HRUN3 hG HRB HB7 hL2 hHB hVV HVB hv0
                      go_wp2_with fail
                      refine (CI1 _).mono ?_
                      rintro e w9 ⟨rfl, hw⟩
                      subst hw
                      clear CI1
                      go_wp2_with fail
                      refine (CI2 _).mono ?_
                      rintro e w9 ⟨rfl, hw⟩
                      subst hw
                      clear CI2
                      go_wp2
                      go_roundw
                      case rel => exact ⟨j, Z, ao, co, ov, by omega, rfl, rfl, rfl, HG2.out, HR9.out, HB9.out, by omega⟩
                      case measure => simp [RowKit.intOf]; omega
                    · have v1 : (V == 0) = false := by simpa using hv0
                      have v2 : (V != 0) = true := by simpa using hv0
                      have HG2 : Hid (SoFar Y j (Z.map (·.2) ++ [⟨(Y[k]'hkl).row, V⟩]) ov) := hG.out.some_ HRUN3.out hv0
                      have HL0 := HLZ.out.later HB7.out
                      obtain ⟨ra', rc', e0, hrd, hl65, hlc, hnil, h64, -⟩ := HL0
                      cases e0
                      have z0 := cell_later HB7.out HX0.out
                      have CV := twinRow_any ra (Y[k]'hkl).row.length rc (Y[k]'hkl).row wz rfl hl65 hnil hrd
                      have HR9 : Hid (RowZ wz w1.heap.size (.slice ao Z.length co) Z) := HRB.out.later HB7.out
                      have HB9 : Hid (Below w1.heap.size w1 wz) := chain hB.out HB7.out
                      have HLR : Hid ((Y[k]'hkl).row.length ≤ 65536) := hl65
                      clear HRUN3 hG HRB HLZ hrd hlc hnil h64 hl65 HX0 HB7 hL2 hHB hVV
                      generalize (Y[k]'hkl).row = vs at *
                      generalize hvl : vs.length = vn at *
                      have HVL : Hid (vs.length = vn) := hvl
                      clear hvl
                      go_wp2_with fail
                      refine (CI1 _).mono ?_
                      rintro e w9 ⟨rfl, hw⟩
                      subst hw
                      clear CI1
                      go_wp2_with fail
                      refine (CI2 _).mono ?_
                      rintro e w9 ⟨rfl, hw⟩
                      subst hw
                      clear CI2
                      go_wp2_with fail
                      refine CV.mono ?_
                      rintro e w10 ⟨a2, c2, rfl, hc2, ho2, hn2, -, hb2⟩
                      obtain ⟨w11, hw11⟩ : ∃ x, x = w10.alloc (.cells #[.slice a2 vn c2, .int .i64 V] 40) := ⟨_, rfl⟩
                      have hb11 : Below w10.heap.size w10 w11 := by rw [hw11]; exact alloc_below _ _
                      have hlx : LiesZ (fun b => b < w1.heap.size ∨ (Value.slice ao Z.length co).ownBlock = some b) w11 [.slice a2 vn c2, .int .i64 V] ⟨vs, V⟩ := by
                        obtain ⟨a3, c3, e3, -, r3, -⟩ := ho2.form
                        rw [HVL.out] at e3
                        cases e3
                        refine ⟨a2, c2, by rw [HVL.out], r3.later hb11, by rw [HVL.out]; exact HLR.out, by rw [HVL.out]; exact hc2, hn2, by show In64 V; unfold In64; omega, fun _ b o s ea hE => ?_⟩
                        subst ea
                        have hge := (World.ownsRow.lt ho2 b rfl).1
                        rcases hE with hE | hE
                        · have := HB9.out.size
                          omega
                        · have := (World.ownsRow.lt HR9.out.1.2 b hE).2
                          omega
                      have hR11 : RowZ w11 w1.heap.size (.slice ao Z.length co) Z := (HR9.out.later hb2).later hb11
                      have hnew := two_cells_new w10 (.slice a2 vn c2) (.int .i64 V) 40
                      rw [← hw11] at hnew
                      have hsz : w1.heap.size ≤ w11.heap.size := Nat.le_trans HB9.out.size (Nat.le_trans hb2.size hb11.size)
                      obtain ⟨v5, w5, hrun, ho5, hg5, hl5⟩ := run_append_k ktItem (ty := 22) (cap := 1) (a := some ⟨w10.heap.size, 0, none⟩) hR11.1 (n := Z.length) (by rw [List.length_map]) (m := 1) (N := [[.slice a2 vn c2, .int .i64 V]]) rfl (Wide.one hlx.wide) (fun _ => ⟨w10.heap.size, 0, rfl, fun i hi j v hj => by
                        have hi0 : i = 0 := by simpa using hi
                        subst hi0
                        simp only [List.getElem_cons_zero] at hj
                        rw [Nat.zero_mul, Nat.add_zero, Nat.zero_add]
                        match j, hj with
                        | 0, hj => cases hj; exact hnew.1
                        | 1, hj => cases hj; exact hnew.2⟩) (fun h => by cases h) (by omega) (by omega) hsz
                      have hrow := hR11.grow (Y := [([.slice a2 vn c2, .int .i64 V], ⟨vs, V⟩)]) (fun z hz => by
                        simp only [List.mem_singleton] at hz
                        subst hz
                        exact hlx) (by simpa using ho5) hg5 hl5
                      obtain ⟨a5, c5, e5, -⟩ := hrow.form
                      rw [List.length_append, List.length_singleton] at e5
                      subst e5
                      have HR5 : Hid (RowZ w5 w1.heap.size (.slice a5 (Z ++ [(([.slice a2 vn c2, .int .i64 V] : List Value), (⟨vs, V⟩ : PI))]).length c5) (Z ++ [([.slice a2 vn c2, .int .i64 V], ⟨vs, V⟩)])) := by
                        show RowZ _ _ _ _
                        rw [List.length_append, List.length_singleton]
                        exact hrow
                      have HG5 : Hid (SoFar Y j ((Z ++ [(([.slice a2 vn c2, .int .i64 V] : List Value), (⟨vs, V⟩ : PI))]).map (·.2)) ov) := by
                        show SoFar _ _ _ _
                        rw [List.map_append]
                        exact HG2.out
                      have HB5 : Hid (Below w1.heap.size w1 w5) := (chain HB9.out (chain hb2 hb11)).grown hg5 hsz (fun j hj => (World.ownsRow.lt hR11.1.2 j hj).1)
                      have HZ5 : Hid ((Z ++ [(([.slice a2 vn c2, .int .i64 V] : List Value), (⟨vs, V⟩ : PI))]).length = Z.length + 1) := by show _ = _; simp
                      clear hlx hR11 hnew ho5 hg5 hl5 hrow HG2 HR9 HB9 ho2 hn2 hb2 hb11 HVB hv0
                      subst hw11
                      go_wp2_with (at_builtin; refine wpList_append_run rfl _ _ 22 22 rfl _ _ _ _ rfl rfl hrun ?_)
                      go_roundw
                      case rel => exact ⟨j, _, a5, c5, ov, by omega, rfl, by rw [HZ5.out], rfl, HG5.out, HR5.out, HB5.out, by rw [HZ5.out]; omega⟩
                      case measure => simp [RowKit.intOf]; omega
            · obtain rfl : j = n := by omega
              have HRUN : Hid (gatherZ (Y.drop k) = if isW (sumTo Y k j) = true then (gatherZ (Y.drop j)).map fun r => if sumTo Y k j = 0 then r else ⟨(Y[k]'hkl).row, sumTo Y k j⟩ :: r else none) := gather_run hlt (by rw [HNY.out]; exact Nat.le_refl _) hall.out (fun h => absurd h (by rw [HNY.out]; omega))
              have HKJ : Hid (k < j) := hlt
              have jd : decide ((j : Int) < (j : Int)) = false := by simp
              have HS13 : Hid (Below wr.heap.size wr wr.drew) := (Below.refl _ _).drew
              clear hall hjn
              go_upto_region 13 with fail
              refine wp_region_held_drew (S := (fun w' => Hid (Below wr.heap.size wr w'))) (by kernel_rfl) HS13 (fun hHeld => ?_)
              refine heldTake (v := ?_) 0 42 rfl rfl (by kernel_rfl) (by kernel_rfl) (by kernel_rfl) (fun _ _ _ h => h) (by rfl) (fun w hSw => ?_) (by assumption) ?_
              rotate_left
              · (try dsimp only at hSw); first | (go_simp; done) | (go_simp; with_reducible rfl)
              simp only [List.setIfInBounds_toArray, List.set_cons_zero, List.set_cons_succ]
              refine heldTake (v := ?_) 1 43 rfl rfl (by kernel_rfl) (by kernel_rfl) (by kernel_rfl) (fun _ _ _ h => h) (by rfl) (fun w hSw => ?_) (by assumption) ?_
              rotate_left
              · (try dsimp only at hSw); first | (go_simp; done) | (go_simp; with_reducible rfl)
              simp only [List.setIfInBounds_toArray, List.set_cons_zero, List.set_cons_succ]
              refine heldTake (v := ?_) 2 44 rfl rfl (by kernel_rfl) (by kernel_rfl) (by kernel_rfl) (fun _ _ _ h => h) (by rfl) (fun w hSw => ?_) (by assumption) ?_
              rotate_left
              · (try dsimp only at hSw); first | (go_simp; done) | (go_simp; with_reducible rfl)
              simp only [List.setIfInBounds_toArray, List.set_cons_zero, List.set_cons_succ]
              refine heldTake (v := ?_) 3 45 rfl rfl (by kernel_rfl) (by kernel_rfl) (by kernel_rfl) (fun _ _ _ h => h) (by rfl) (fun w hSw => ?_) (by assumption) ?_
              rotate_left
              · (try dsimp only at hSw); first | (go_simp; done) | (go_simp; with_reducible rfl)
              simp only [List.setIfInBounds_toArray, List.set_cons_zero, List.set_cons_succ]
              refine heldTake (v := ?_) 4 46 rfl rfl (by kernel_rfl) (by kernel_rfl) (by kernel_rfl) (fun _ _ _ h => h) (by rfl) (fun w hSw => ?_) (by assumption) ?_
              rotate_left
              · (try dsimp only at hSw); first | (go_simp; done) | (go_simp; with_reducible rfl)
              simp only [List.setIfInBounds_toArray, List.set_cons_zero, List.set_cons_succ]
              refine heldSkip 5 47 rfl rfl (by kernel_rfl) (by kernel_rfl) (by kernel_rfl) (fun _ _ _ h => h) (by rfl) (by assumption) ?_
              simp only [List.setIfInBounds_toArray, List.set_cons_zero, List.set_cons_succ]
              refine heldSkip 6 48 rfl rfl (by kernel_rfl) (by kernel_rfl) (by kernel_rfl) (fun _ _ _ h => h) (by rfl) (by assumption) ?_
              simp only [List.setIfInBounds_toArray, List.set_cons_zero, List.set_cons_succ]
              refine heldSkip 7 49 rfl rfl (by kernel_rfl) (by kernel_rfl) (by kernel_rfl) (fun _ _ _ h => h) (by rfl) (by assumption) ?_
              simp only [List.setIfInBounds_toArray, List.set_cons_zero, List.set_cons_succ]
              refine heldSkip 8 50 rfl rfl (by kernel_rfl) (by kernel_rfl) (by kernel_rfl) (fun _ _ _ h => h) (by rfl) (by assumption) ?_
              simp only [List.setIfInBounds_toArray, List.set_cons_zero, List.set_cons_succ]
              refine heldSkip 9 51 rfl rfl (by kernel_rfl) (by kernel_rfl) (by kernel_rfl) (fun _ _ _ h => h) (by rfl) (by assumption) ?_
              simp only [List.setIfInBounds_toArray, List.set_cons_zero, List.set_cons_succ]
              refine heldSkip 10 52 rfl rfl (by kernel_rfl) (by kernel_rfl) (by kernel_rfl) (fun _ _ _ h => h) (by rfl) (by assumption) ?_
              simp only [List.setIfInBounds_toArray, List.set_cons_zero, List.set_cons_succ]
              refine heldSkip 11 53 rfl rfl (by kernel_rfl) (by kernel_rfl) (by kernel_rfl) (fun _ _ _ h => h) (by rfl) (by assumption) ?_
              simp only [List.setIfInBounds_toArray, List.set_cons_zero, List.set_cons_succ]
              refine heldSkip 12 54 rfl rfl (by kernel_rfl) (by kernel_rfl) (by kernel_rfl) (fun _ _ _ h => h) (by rfl) (by assumption) ?_
              simp only [List.setIfInBounds_toArray, List.set_cons_zero, List.set_cons_succ]
              refine heldSkip 13 55 rfl rfl (by kernel_rfl) (by kernel_rfl) (by kernel_rfl) (fun _ _ _ h => h) (by rfl) (by assumption) ?_
              simp only [List.setIfInBounds_toArray, List.set_cons_zero, List.set_cons_succ]
              refine heldSkip 14 56 rfl rfl (by kernel_rfl) (by kernel_rfl) (by kernel_rfl) (fun _ _ _ h => h) (by rfl) (by assumption) ?_
              simp only [List.setIfInBounds_toArray, List.set_cons_zero, List.set_cons_succ]
              refine heldSkip 15 57 rfl rfl (by kernel_rfl) (by kernel_rfl) (by kernel_rfl) (fun _ _ _ h => h) (by rfl) (by assumption) ?_
              simp only [List.setIfInBounds_toArray, List.set_cons_zero, List.set_cons_succ]
              refine heldSkip 16 58 rfl rfl (by kernel_rfl) (by kernel_rfl) (by kernel_rfl) (fun _ _ _ h => h) (by rfl) (by assumption) ?_
              simp only [List.setIfInBounds_toArray, List.set_cons_zero, List.set_cons_succ]
              refine heldTake (v := ?_) 17 59 rfl rfl (by kernel_rfl) (by kernel_rfl) (by kernel_rfl) (fun _ _ _ h => h) (by rfl) (fun w hSw => ?_) (by assumption) ?_
              rotate_left
              · (try dsimp only at hSw); first | (go_simp; done) | (go_simp; with_reducible rfl)
              simp only [List.setIfInBounds_toArray, List.set_cons_zero, List.set_cons_succ]
              refine wpAnyH_done (by kernel_rfl) ?_ _
              clear hHeld HS13
              obtain ⟨wz, hwz⟩ : ∃ x, x = wr.drew := ⟨_, rfl⟩
              have HB7 : Hid (Below ww.heap.size ww wz) := by rw [hwz]; exact hB7.out.drew
              rw [← hwz]
              have HV : Hid (h * 4294967296 + l = sumTo Y k j) := hsum.out
              have HBD : Hid ((-1125899906842624 ≤ h ∧ h ≤ 1125899906842624) ∧ (0 ≤ l ∧ l ≤ 1152921504606846976)) := by
                have e1 := hhb.out
                have e2 := hlb.out
                show _ ∧ _
                omega
              clear hwz hB7 hsum hhb hlb hkj
              have jk0 : k < j := HKJ.out
              have q1 : wrap64 (h + l / 4294967296) = h + l / 4294967296 := wrap_in (by have := HBD.out; omega)
              have q2 := mask32 l
              have hVV : (h + l / 4294967296) * 4294967296 + l % 4294967296 = sumTo Y k j := by have := HV.out; omega
              obtain ⟨H, hH⟩ : ∃ H, h + l / 4294967296 = H := ⟨_, rfl⟩
              obtain ⟨L, hL⟩ : ∃ L, l % 4294967296 = L := ⟨_, rfl⟩
              have hL2 : 0 ≤ L ∧ L ≤ 4294967295 := by omega
              obtain ⟨V, hVe⟩ : ∃ V, sumTo Y k j = V := ⟨_, rfl⟩
              have HRUN2 : Hid (gatherZ (Y.drop k) = if isW V = true then (gatherZ (Y.drop j)).map fun r => if V = 0 then r else ⟨(Y[k]'hkl).row, V⟩ :: r else none) := by rw [← hVe]; exact HRUN.out
              rw [hH, hL, hVe] at hVV
              rw [hH] at q1
              rw [hL] at q2
              have hbd := HBD.out
              have CI1 := rIn_any H (-33554432) 33554432
              have HCUT : Hid ((decide (-33554432 ≤ H) && decide (H ≤ 33554432)) = false → isW V = false) := fun h0 => by
                cases hw : isW V with
                | false => rfl
                | true =>
                  have h1 := isW_iff.1 hw
                  have : (decide (-33554432 ≤ H) && decide (H ≤ 33554432)) = true := by
                    rw [decide_eq_true (by omega), decide_eq_true (by omega)]
                    rfl
                  rw [this] at h0
                  cases h0
              have HHB : Hid ((decide (-33554432 ≤ H) && decide (H ≤ 33554432)) = true → -33554432 ≤ H ∧ H ≤ 33554432) := fun h0 => by simpa using h0
              generalize (decide (-33554432 ≤ H) && decide (H ≤ 33554432)) = i1 at *
              clear HRUN HV hVe hbd HBD
              have HHE : Hid (h + l / 4294967296 = H) := hH
              have HLE2 : Hid (l % 4294967296 = L) := hL
              cases i1 with
              | false =>
                have HNN : Hid (gatherZ (Y.drop k) = none) := by
                  show _ = _
                  rw [HRUN2.out, HCUT.out rfl]
                  rfl
                have HG2 : Hid (SoFar Y j (Z.map (·.2)) true) := hG.out.over HNN.out
                have HR9 : Hid (RowZ wz w1.heap.size (.slice ao Z.length co) Z) := HRB.out.later HB7.out
                have HB9 : Hid (Below w1.heap.size w1 wz) := chain hB.out HB7.out
                clear HNN HRUN2 HCUT HHB hG HRB HB7 hL2
                go_wp2_with fail
                refine (CI1 _).mono ?_
                rintro e w9 ⟨rfl, hw⟩
                subst hw
                clear CI1
                go_wp2
                go_roundw
                case rel => exact ⟨j, Z, ao, co, true, by omega, rfl, rfl, rfl, HG2.out, HR9.out, HB9.out, by omega⟩
                case measure => simp [RowKit.intOf]; omega
              | true =>
                have hHB := HHB.out rfl
                have q3 : wrap64 (H * 4294967296) = H * 4294967296 := wrap_in (by omega)
                have q4 : wrap64 (H * 4294967296 + L) = V := by rw [wrap_in (by omega)]; exact hVV
                have CI2 := rIn_any V (-72057594037927936) 72057594037927936
                rw [isW_in] at CI2
                obtain ⟨i2, hi2⟩ : ∃ q, isW V = q := ⟨_, rfl⟩
                rw [hi2] at CI2
                have HW2 : Hid (isW V = i2) := hi2
                clear HCUT HHB hi2
                cases i2 with
                | false =>
                  have HNN : Hid (gatherZ (Y.drop k) = none) := by
                    show _ = _
                    rw [HRUN2.out, HW2.out]
                    rfl
                  have HG2 : Hid (SoFar Y j (Z.map (·.2)) true) := hG.out.over HNN.out
                  have HR9 : Hid (RowZ wz w1.heap.size (.slice ao Z.length co) Z) := HRB.out.later HB7.out
                  have HB9 : Hid (Below w1.heap.size w1 wz) := chain hB.out HB7.out
                  clear HNN HRUN2 hG HRB HB7 hL2 hHB HW2 hVV
                  go_wp2_with fail
                  refine (CI1 _).mono ?_
                  rintro e w9 ⟨rfl, hw⟩
                  subst hw
                  clear CI1
                  go_wp2_with fail
                  refine (CI2 _).mono ?_
                  rintro e w9 ⟨rfl, hw⟩
                  subst hw
                  clear CI2
                  go_wp2
                  go_roundw
                  case rel => exact ⟨j, Z, ao, co, true, by omega, rfl, rfl, rfl, HG2.out, HR9.out, HB9.out, by omega⟩
                  case measure => simp [RowKit.intOf]; omega
                | true =>
                  have HRUN3 : Hid (gatherZ (Y.drop k) = (gatherZ (Y.drop j)).map fun r => if V = 0 then r else ⟨(Y[k]'hkl).row, V⟩ :: r) := by
                    show _ = _
                    rw [HRUN2.out, HW2.out, if_pos rfl]
                  have HVB := isW_iff.1 HW2.out
                  clear HRUN2 HW2
                  by_cases hv0 : V = 0
                  · have HG2 : Hid (SoFar Y j (Z.map (·.2)) ov) := hG.out.none_ HRUN3.out hv0
                    have HR9 : Hid (RowZ wz w1.heap.size (.slice ao Z.length co) Z) := HRB.out.later HB7.out
                    have HB9 : Hid (Below w1.heap.size w1 wz) := chain hB.out HB7.out
                    have v1 : (V == 0) = true := by simpa using hv0
                    have v2 : (V != 0) = false := by simpa using hv0
                    clear HRUN3 hG HRB HB7 hL2 hHB hVV HVB hv0
                    go_wp2_with fail
                    refine (CI1 _).mono ?_
                    rintro e w9 ⟨rfl, hw⟩
                    subst hw
                    clear CI1
                    go_wp2_with fail
                    refine (CI2 _).mono ?_
                    rintro e w9 ⟨rfl, hw⟩
                    subst hw
                    clear CI2
                    go_wp2
                    go_roundw
                    case rel => exact ⟨j, Z, ao, co, ov, by omega, rfl, rfl, rfl, HG2.out, HR9.out, HB9.out, by omega⟩
                    case measure => simp [RowKit.intOf]; omega
                  · have v1 : (V == 0) = false := by simpa using hv0
                    have v2 : (V != 0) = true := by simpa using hv0
                    have HG2 : Hid (SoFar Y j (Z.map (·.2) ++ [⟨(Y[k]'hkl).row, V⟩]) ov) := hG.out.some_ HRUN3.out hv0
                    have HL0 := HLZ.out.later HB7.out
                    obtain ⟨ra', rc', e0, hrd, hl65, hlc, hnil, h64, -⟩ := HL0
                    cases e0
                    have z0 := cell_later HB7.out HX0.out
                    have CV := twinRow_any ra (Y[k]'hkl).row.length rc (Y[k]'hkl).row wz rfl hl65 hnil hrd
                    have HR9 : Hid (RowZ wz w1.heap.size (.slice ao Z.length co) Z) := HRB.out.later HB7.out
                    have HB9 : Hid (Below w1.heap.size w1 wz) := chain hB.out HB7.out
                    have HLR : Hid ((Y[k]'hkl).row.length ≤ 65536) := hl65
                    clear HRUN3 hG HRB HLZ hrd hlc hnil h64 hl65 HX0 HB7 hL2 hHB hVV
                    generalize (Y[k]'hkl).row = vs at *
                    generalize hvl : vs.length = vn at *
                    have HVL : Hid (vs.length = vn) := hvl
                    clear hvl
                    go_wp2_with fail
                    refine (CI1 _).mono ?_
                    rintro e w9 ⟨rfl, hw⟩
                    subst hw
                    clear CI1
                    go_wp2_with fail
                    refine (CI2 _).mono ?_
                    rintro e w9 ⟨rfl, hw⟩
                    subst hw
                    clear CI2
                    go_wp2_with fail
                    refine CV.mono ?_
                    rintro e w10 ⟨a2, c2, rfl, hc2, ho2, hn2, -, hb2⟩
                    obtain ⟨w11, hw11⟩ : ∃ x, x = w10.alloc (.cells #[.slice a2 vn c2, .int .i64 V] 40) := ⟨_, rfl⟩
                    have hb11 : Below w10.heap.size w10 w11 := by rw [hw11]; exact alloc_below _ _
                    have hlx : LiesZ (fun b => b < w1.heap.size ∨ (Value.slice ao Z.length co).ownBlock = some b) w11 [.slice a2 vn c2, .int .i64 V] ⟨vs, V⟩ := by
                      obtain ⟨a3, c3, e3, -, r3, -⟩ := ho2.form
                      rw [HVL.out] at e3
                      cases e3
                      refine ⟨a2, c2, by rw [HVL.out], r3.later hb11, by rw [HVL.out]; exact HLR.out, by rw [HVL.out]; exact hc2, hn2, by show In64 V; unfold In64; omega, fun _ b o s ea hE => ?_⟩
                      subst ea
                      have hge := (World.ownsRow.lt ho2 b rfl).1
                      rcases hE with hE | hE
                      · have := HB9.out.size
                        omega
                      · have := (World.ownsRow.lt HR9.out.1.2 b hE).2
                        omega
                    have hR11 : RowZ w11 w1.heap.size (.slice ao Z.length co) Z := (HR9.out.later hb2).later hb11
                    have hnew := two_cells_new w10 (.slice a2 vn c2) (.int .i64 V) 40
                    rw [← hw11] at hnew
                    have hsz : w1.heap.size ≤ w11.heap.size := Nat.le_trans HB9.out.size (Nat.le_trans hb2.size hb11.size)
                    obtain ⟨v5, w5, hrun, ho5, hg5, hl5⟩ := run_append_k ktItem (ty := 22) (cap := 1) (a := some ⟨w10.heap.size, 0, none⟩) hR11.1 (n := Z.length) (by rw [List.length_map]) (m := 1) (N := [[.slice a2 vn c2, .int .i64 V]]) rfl (Wide.one hlx.wide) (fun _ => ⟨w10.heap.size, 0, rfl, fun i hi j v hj => by
                      have hi0 : i = 0 := by simpa using hi
                      subst hi0
                      simp only [List.getElem_cons_zero] at hj
                      rw [Nat.zero_mul, Nat.add_zero, Nat.zero_add]
                      match j, hj with
                      | 0, hj => cases hj; exact hnew.1
                      | 1, hj => cases hj; exact hnew.2⟩) (fun h => by cases h) (by omega) (by omega) hsz
                    have hrow := hR11.grow (Y := [([.slice a2 vn c2, .int .i64 V], ⟨vs, V⟩)]) (fun z hz => by
                      simp only [List.mem_singleton] at hz
                      subst hz
                      exact hlx) (by simpa using ho5) hg5 hl5
                    obtain ⟨a5, c5, e5, -⟩ := hrow.form
                    rw [List.length_append, List.length_singleton] at e5
                    subst e5
                    have HR5 : Hid (RowZ w5 w1.heap.size (.slice a5 (Z ++ [(([.slice a2 vn c2, .int .i64 V] : List Value), (⟨vs, V⟩ : PI))]).length c5) (Z ++ [([.slice a2 vn c2, .int .i64 V], ⟨vs, V⟩)])) := by
                      show RowZ _ _ _ _
                      rw [List.length_append, List.length_singleton]
                      exact hrow
                    have HG5 : Hid (SoFar Y j ((Z ++ [(([.slice a2 vn c2, .int .i64 V] : List Value), (⟨vs, V⟩ : PI))]).map (·.2)) ov) := by
                      show SoFar _ _ _ _
                      rw [List.map_append]
                      exact HG2.out
                    have HB5 : Hid (Below w1.heap.size w1 w5) := (chain HB9.out (chain hb2 hb11)).grown hg5 hsz (fun j hj => (World.ownsRow.lt hR11.1.2 j hj).1)
                    have HZ5 : Hid ((Z ++ [(([.slice a2 vn c2, .int .i64 V] : List Value), (⟨vs, V⟩ : PI))]).length = Z.length + 1) := by show _ = _; simp
                    clear hlx hR11 hnew ho5 hg5 hl5 hrow HG2 HR9 HB9 ho2 hn2 hb2 hb11 HVB hv0
                    subst hw11
                    go_wp2_with (at_builtin; refine wpList_append_run rfl _ _ 22 22 rfl _ _ _ _ rfl rfl hrun ?_)
                    go_roundw
                    case rel => exact ⟨j, _, a5, c5, ov, by omega, rfl, by rw [HZ5.out], rfl, HG5.out, HR5.out, HB5.out, by rw [HZ5.out]; omega⟩
                    case measure => simp [RowKit.intOf]; omega
        · obtain rfl : k = n := by omega
          have h := hG.out
          unfold SoFar at h
          rw [gather_nil (by rw [HNY.out]; exact Nat.le_refl _), Option.map_some, List.append_nil] at h
          cases ov with
          | true =>
            have HA : Hid (makeZ X = ([], 11)) := by
              show _ = _
              rw [HGM.out, h]
              rfl
            have HB9 : Hid (Below w.heap.size w ww) := chain HBW.out hB.out
            clear h hG hlt
            go_wp2
            go_ret2
            rw [HA.out]
            exact GivesZ.no rfl HB9.out
          | false =>
            have HA : Hid (makeZ X = (Z.map (·.2), 0)) := by
              show _ = _
              rw [HGM.out, h]
              rfl
            have HB9 : Hid (Below w.heap.size w ww) := chain HBW.out hB.out
            clear h hG hlt
            go_wp2
            go_ret2
            rw [HA.out]
            exact ⟨_, Z, rfl, rfl, HRB.out.base HBW.out.size, HB9.out⟩

theorem rMake_any (a : Option Addr) (n cap : Nat) (X : List PI) (w : World) (hn : X.length = n) (h4 : n ≤ 16384) (hcap : n ≤ cap) (hnil : a = none → X = [] ∧ cap = 0) (hr : RdZ w a X) :
    Calls Try.prog 12 #[.slice a n cap] w fun e w' => GivesZ w w' e (makeZ X) := by
  cases h : X.all okI with
  | true => exact rMake_good a n cap X w hn h4 hcap hnil hr h
  | false =>
    have e : makeZ X = ([], 1) := by unfold makeZ; rw [if_neg (by rw [h]; simp)]
    rw [e]
    refine (rMake_bad a n cap X w hn (by omega) hr h).mono ?_
    rintro e w' ⟨rfl, hb⟩
    exact GivesZ.no rfl hb

end Go.Proofs.Ytajlkaedkifaoaa

namespace Go.Proofs.Ytajlkaedkifaoaa
open Go.RowKit Go.Lib
set_option linter.unusedVariables false

theorem bent_swap {X : List PI} {k : Nat} (hk : k + 1 < X.length) (h : riseZ X = true) : riseZ ((X.set k X[k + 1]).set (k + 1) (X[k]'(by omega))) = false := by
  have hl : ((X.set k X[k + 1]).set (k + 1) (X[k]'(by omega))).length = X.length := by simp
  have hlt := (List.pairwise_iff_getElem.1 (riseZ_iff.1 h).2) k (k + 1) (by omega) hk (by omega)
  refine rise_no_cmp (k := k) (by rw [hl]; exact hk) ?_
  have e1 : ((X.set k X[k + 1]).set (k + 1) (X[k]'(by omega)))[k]'(by rw [hl]; omega) = X[k + 1] := by
    rw [List.getElem_set_ne (by omega), List.getElem_set_self]
  have e2 : ((X.set k X[k + 1]).set (k + 1) (X[k]'(by omega)))[k + 1]'(by rw [hl]; omega) = X[k]'(by omega) := by
    rw [List.getElem_set_self]
  rw [e1, e2, cmpZ_flip]
  omega

theorem bent_twice {X : List PI} {k : Nat} (hk : k + 1 < X.length) : riseZ (X.set (k + 1) (X[k]'(by omega))) = false := by
  refine rise_no_cmp (k := k) (by rw [List.length_set]; exact hk) ?_
  rw [List.getElem_set_self, List.getElem_set_ne (by omega), cmpZ_self]
  exact Int.le_refl _

theorem bent_nought {X : List PI} {k : Nat} (hk : k < X.length) : riseZ (X.set k ⟨X[k].row, 0⟩) = false := by
  refine rise_no_wt (k := k) (by rw [List.length_set]; exact hk) ?_
  rw [List.getElem_set_self]

theorem bent_great {X : List PI} {k : Nat} (hk : k < X.length) : riseZ (X.set k ⟨X[k].row, 72057594037927937⟩) = false := by
  refine rise_no_ok (k := k) (by rw [List.length_set]; exact hk) ?_
  rw [List.getElem_set_self]
  unfold okI
  rw [show isW 72057594037927937 = false by decide, Bool.and_false]

theorem add_bent {X : List PI} (h : riseZ X = false) : addZ X [] = ([], 1) := by
  unfold addZ
  rw [h]
  rfl

theorem size_bent {X : List PI} (h : riseZ X = false) : sizeZ X = 0 := by
  unfold sizeZ
  rw [h]
  rfl

set_option maxRecDepth 100000 in
set_option maxHeartbeats 2000000 in
theorem zNeg_bad (a : Option Addr) (n cap : Nat) (X : List PI) (w : World) (hn : X.length = n) (h4 : n ≤ 65536) (hr : RdZ w a X) (h : riseZ X = false) :
    Calls Try.prog 21 #[.slice a n cap] w fun e w' => e = .returned (.tuple #[.slice none 0 0, .int .i64 1]) ∧ Below w.heap.size w w' := by
  have C1 := zCheck_any a n cap X w hn h4 hr
  rw [chkZ_no h] at C1
  clear hr hn h
  go_enter Try.func21, Try.ntmps21
  go_wp2_with fail
  refine C1.mono ?_
  rintro e w1 ⟨rfl, hb⟩
  have HB : Hid (Below w.heap.size w w1) := hb
  clear C1 hb
  go_wp2
  go_ret2
  exact ⟨rfl, HB.out⟩

end Go.Proofs.Ytajlkaedkifaoaa
