/-
  Texts of the proof of SetSorted, one behind the other.
-/
import Derived.Test.YthjebjbjkkgjpaaRows
import Derived.Test.YthjebjbjkkgjpaaG39SetSorted
import Derived.Test.YthjebjbjkkgjpaaG42SetSorted
namespace Go.Proofs.Ythjebjbjkkgjpaa
open Go.RowKit Go.Lib
set_option linter.unusedVariables false

theorem GivesZ.base {w w1 w' : World} {e : Ending} {r : List PI × Int} (h : GivesZ w1 w' e r) (hb : Below w.heap.size w w1) : GivesZ w w' e r := by
  obtain ⟨v, Z, he, hz, hr, hb'⟩ := h
  exact ⟨v, Z, he, hz, hr.base hb.size, chain hb hb'⟩

theorem all_ok_no {X : List PI} {k : Nat} (hk : k < X.length) (h : okI X[k] = false) : X.all okI = false := by
  rw [Bool.eq_false_iff]
  intro ha
  have := List.all_eq_true.1 ha _ (List.getElem_mem hk)
  rw [h] at this
  cases this

theorem all_ok_step {X : List PI} {k : Nat} (hk : k < X.length) (h : (X.take k).all okI = true) (h1 : okI X[k] = true) : (X.take (k + 1)).all okI = true := by
  rw [List.take_succ_eq_append_getElem hk, List.all_append, h]
  simp [h1]

set_option maxRecDepth 100000 in
set_option maxHeartbeats 4000000 in
theorem zMake_any (a : Option Addr) (n cap : Nat) (X : List PI) (w : World) (hn : X.length = n) (h4 : n ≤ 32768) (hr : RdZ w a X) :
    Calls Try.prog 12 #[.slice a n cap] w fun e w' => GivesZ w w' e (makeZ X) := by
  have HN : Hid (X.length = n) := hn
  have HR : Hid (RdZ w a X) := hr
  clear hn hr
  go_enter Try.func12, Try.ntmps12
  go_wp2
  go_loopw [8] (fun i wr => ∃ k : Nat, k ≤ n ∧ i = .int .i64 k ∧ Hid ((X.take k).all okI = true) ∧ Hid (Below w.heap.size w wr)) (fun i _ => n - (RowKit.intOf i).toNat)
  case atStart => exact ⟨0, Nat.zero_le _, rfl, rfl, Below.refl _ _⟩
  case round =>
    obtain ⟨k, hk, rfl, hT, hB⟩ := hrel
    by_cases hlt : k < n
    · have hkl : k < X.length := by rw [HN.out]; exact hlt
      obtain ⟨b, off, ra, rc, rfl, x0, x1, hz⟩ := (HR.out.later hB.out).at_ hkl
      have BW : Hid (Below wr.heap.size wr (wr.alloc (.cells #[.slice ra X[k].row.length rc, .int .i64 X[k].wt] 40))) := alloc_below _ _
      have CR : Calls Try.prog 35 #[.agg #[.slice ra X[k].row.length rc, .int .i64 X[k].wt]] (wr.alloc (.cells #[.slice ra X[k].row.length rc, .int .i64 X[k].wt] 40)) fun e w' => e = .returned (.bool (okI X[k])) ∧ Below (wr.alloc (.cells #[.slice ra X[k].row.length rc, .int .i64 X[k].wt] 40)).heap.size (wr.alloc (.cells #[.slice ra X[k].row.length rc, .int .i64 X[k].wt] 40)) w' := zRight_any _ X[k] _ (hz.later BW.out)
      have HNP : Hid (okI X[k] = false → makeZ X = ([], 1)) := fun h => by show _ = _; unfold makeZ; rw [all_ok_no hkl h]; rfl
      have HST : Hid (okI X[k] = true → (X.take (k + 1)).all okI = true) := all_ok_step hkl hT.out
      clear hz hT
      generalize okI X[k] = q at *
      generalize X[k].wt = p at *
      generalize X[k].row.length = rn at *
      cases q with
      | false =>
        have HNO : Hid (makeZ X = ([], 1)) := HNP.out rfl
        clear HNP HST
        go_wp2_with fail
        refine CR.mono ?_
        rintro e w1 ⟨rfl, hb⟩
        have HB1 : Hid (Below w.heap.size w w1) := chain hB.out (chain BW.out hb)
        clear CR hb BW
        go_wp2
        go_ret2
        rw [HNO.out]
        exact GivesZ.no rfl HB1.out
      | true =>
        have HT' : Hid ((X.take (k + 1)).all okI = true) := HST.out rfl
        clear HNP HST
        go_wp2_with fail
        refine CR.mono ?_
        rintro e w1 ⟨rfl, hb⟩
        have HB1 : Hid (Below w.heap.size w w1) := chain hB.out (chain BW.out hb)
        clear CR hb BW
        go_wp2
        go_roundw
        case rel => exact ⟨k + 1, by omega, by go_num, HT'.out, HB1.out⟩
        case measure => simp [RowKit.intOf]; omega
    · obtain rfl : k = n := by omega
      have hall := hT.out
      rw [List.take_of_length_le (by rw [HN.out]; exact Nat.le_refl _)] at hall
      have HALL : Hid (X.all okI = true) := hall
      obtain ⟨Z, hZX, hrk, hlz⟩ := HR.out.later hB.out
      have hZn : Z.length = k := by rw [← HN.out, ← hZX, List.length_map]
      have HW1 : Hid (Below wr.heap.size wr (wr.alloc (.cells #[.slice a k cap] 22))) := alloc_below _ _
      have hbs : (wr.alloc (.cells #[.slice a k cap] 22)).cell? ⟨wr.heap.size, 0, none⟩ = some (.slice a k cap) := by
        have hb : (wr.alloc (.cells #[.slice a k cap] 22)).heap[wr.heap.size]? = some (.cells #[.slice a k cap] 22 (0, 0)) := by
          show (wr.heap.push _)[wr.heap.size]? = _
          simp
        unfold World.cell?
        rw [hb]
        rfl
      have CS := zsorted_any wr.heap.size k cap a Z (wr.alloc (.cells #[.slice a k cap] 22)) hZn (by omega) hbs (hrk.later HW1.out) (fun z hz => (hlz z hz).later HW1.out)
      rw [hZX] at CS
      clear hall hT hZX hrk hlz hZn hbs
      go_wp2_with fail
      refine (zvalues_any _ _ _ _).mono ?_
      rintro e w1 ⟨rfl, hw1⟩
      subst hw1
      go_wp2_with fail
      refine CS.mono ?_
      rintro e w2 ⟨a', cap', Y, rfl, hc, hp, hs, hrd, hb2⟩
      have hYn : Y.length = k := by rw [← hp.length_eq]; exact HN.out
      have CG := zgathered_any a' k cap' Y w2 hYn h4 hrd
      rw [← makeZ_of HALL.out hs hp] at CG
      have HB2 : Hid (Below w.heap.size w w2) := chain hB.out (chain HW1.out hb2)
      clear CS hc hp hs hrd hb2 hYn
      go_wp2_with fail
      refine CG.mono ?_
      rintro e w3 h3
      have h3' := h3.base HB2.out
      obtain ⟨v, Z3, rfl, h31, h32, h33⟩ := h3'
      obtain ⟨a3, c3, rfl, -⟩ := h32.form
      have H3 : Hid (Z3.map (·.2) = (makeZ X).1 ∧ RowZ w3 w.heap.size (.slice a3 Z3.length c3) Z3 ∧ Below w.heap.size w w3) := ⟨h31, h32, h33⟩
      clear CG h3 h31 h32 h33
      obtain ⟨er, her⟩ : ∃ er, (makeZ X).2 = er := ⟨_, rfl⟩
      have HER : Hid ((makeZ X).2 = er) := her
      rw [her]
      clear her
      go_wp2
      go_ret2
      exact ⟨_, Z3, by rw [HER.out]; rfl, H3.out.1, H3.out.2.1, H3.out.2.2⟩

end Go.Proofs.Ythjebjbjkkgjpaa

namespace Go.Proofs.Ythjebjbjkkgjpaa
open Go.RowKit Go.Lib
set_option linter.unusedVariables false

theorem chkZ_cases (X : List PI) : (riseZ X = true ∧ chkZ X = 0) ∨ (riseZ X = false ∧ chkZ X = 1) := by
  cases h : riseZ X with
  | true => exact .inl ⟨rfl, chkZ_yes h⟩
  | false => exact .inr ⟨rfl, chkZ_no h⟩

/-- A row of Items that came in, from whatever world on. -/
theorem left_of {w : World} {a : Option Addr} {n cap : Nat} {X : List PI} (hn : X.length = n) (hc : n ≤ cap) (hnil : a = none → X = [] ∧ cap = 0) (hr : RdZ w a X) : ∃ Z, Z.map (·.2) = X ∧ LeftZ w.heap.size w a n cap Z := by
  obtain ⟨Z, rfl, hk, hl⟩ := hr
  rw [List.length_map] at hn
  refine ⟨Z, rfl, hn, hc, hk, fun z hz => ((hl z hz).now).less fun b hb => .inr hb, fun e => ?_, fun h0 b o e => ?_⟩
  · have := hnil e
    rw [List.map_eq_nil_iff] at this
    exact this
  · subst e
    obtain ⟨b', off', e', hcs⟩ := hk (by rw [List.length_map]; exact h0)
    cases e'
    obtain ⟨ra, rc, hz, -⟩ := hl _ (List.getElem_mem h0)
    exact cellZ_lt (hcs 0 (by rw [List.length_map]; exact h0) 0 (.slice ra Z[0].2.row.length rc) (by rw [List.getElem_map, hz]; rfl))

set_option maxRecDepth 100000 in
set_option maxHeartbeats 4000000 in
theorem zAdd_any (a c : Option Addr) (n m cap dap : Nat) (X Y : List PI) (w : World) (hn : X.length = n) (hm : Y.length = m) (h4 : n ≤ 16384) (h5 : m ≤ 16384) (hc : n ≤ cap) (hd : m ≤ dap) (hnil : a = none → X = [] ∧ cap = 0) (hnil2 : c = none → Y = [] ∧ dap = 0) (hX : RdZ w a X) (hY : RdZ w c Y) :
    Calls Try.prog 21 #[.slice a n cap, .slice c m dap] w fun e w' => GivesZ w w' e (addZ X Y) := by
  have C1 := zCheck_any a n cap X w hn (by omega) hX
  rcases chkZ_cases X with ⟨hx, ex⟩ | ⟨hx, ex⟩
  rotate_left
  · have HNO : Hid (addZ X Y = ([], 1)) := by show _ = _; unfold addZ; rw [hx]; rfl
    rw [ex] at C1
    clear hX hY hnil hnil2 hn hm hx ex
    go_enter Try.func21, Try.ntmps21
    go_wp2_with fail
    refine C1.mono ?_
    rintro e w1 ⟨rfl, hb⟩
    clear C1
    go_wp2
    go_ret2
    rw [HNO.out]
    exact GivesZ.no rfl hb
  rcases chkZ_cases Y with ⟨hy, ey⟩ | ⟨hy, ey⟩
  rotate_left
  · have HNO : Hid (addZ X Y = ([], 1)) := by show _ = _; unfold addZ; rw [hx, hy]; rfl
    have C2 := fun V (hb : Below w.heap.size w V) => zCheck_any c m dap Y V hm (by omega) (hY.later hb)
    rw [ex] at C1
    rw [ey] at C2
    clear hX hY hnil hnil2 hn hm hx ex hy ey
    go_enter Try.func21, Try.ntmps21
    go_wp2_with fail
    refine C1.mono ?_
    rintro e w1 ⟨rfl, hb⟩
    have HB1 : Hid (Below w.heap.size w w1) := hb
    clear C1 hb
    go_wp2_with fail
    refine (C2 _ HB1.out).mono ?_
    rintro e w2 ⟨rfl, hb⟩
    have HB2 : Hid (Below w.heap.size w w2) := chain HB1.out hb
    clear C2 hb HB1
    go_wp2
    go_ret2
    rw [HNO.out]
    exact GivesZ.no rfl HB2.out
  have C2 := fun V (hb : Below w.heap.size w V) => zCheck_any c m dap Y V hm (by omega) (hY.later hb)
  have C3 := fun V (hb : Below w.heap.size w V) => (fun (hl : ∃ Z, Z.map (·.2) = X ∧ LeftZ V.heap.size V a n cap Z) (hl2 : ∃ Z, Z.map (·.2) = Y ∧ LeftZ V.heap.size V c m dap Z) => (show Calls Try.prog 46 #[.slice a n cap, .slice c m dap] V fun e w' => ∃ v Z, e = .returned v ∧ Z.map (·.2) = mergeZ X Y ∧ Z.length = n + m ∧ SharedZ w' V.heap.size v Z ∧ Below V.heap.size V w' from by
    obtain ⟨ZX, rfl, l1⟩ := hl
    obtain ⟨ZY, rfl, l2⟩ := hl2
    exact zmerged_any a c n m cap dap ZX ZY V h4 h5 l1 l2)) (left_of hn hc hnil (hX.later hb)) (left_of hm hd hnil2 (hY.later hb))
  have HA : Hid (addZ X Y = ansZ (gatherZ (mergeZ X Y))) := addZ_merge hx hy
  rw [ex] at C1
  rw [ey] at C2
  clear hX hY hnil hnil2 hn hm hx ex hy ey
  go_enter Try.func21, Try.ntmps21
  go_wp2_with fail
  refine C1.mono ?_
  rintro e w1 ⟨rfl, hb⟩
  have HB1 : Hid (Below w.heap.size w w1) := hb
  clear C1 hb
  go_wp2_with fail
  refine (C2 _ HB1.out).mono ?_
  rintro e w2 ⟨rfl, hb⟩
  have HB2 : Hid (Below w.heap.size w w2) := chain HB1.out hb
  clear C2 hb HB1
  go_wp2_with fail
  refine (C3 _ HB2.out).mono ?_
  rintro e w3 ⟨v, Z, rfl, hZ, hZn, hS, hb3⟩
  obtain ⟨a3, c3, e3, hc3, r3, -⟩ := hS.form
  rw [hZn] at e3
  subst e3
  have CG := zgathered_any a3 (n + m) c3 (Z.map (·.2)) w3 (by rw [List.length_map]; exact hZn) (by omega) r3
  rw [hZ, ← HA.out] at CG
  have HB3 : Hid (Below w.heap.size w w3) := chain HB2.out hb3
  clear C3 hZ hZn hS hb3 hc3 r3
  go_wp2_with fail
  refine CG.mono ?_
  rintro e w4 h4'
  have h5' := h4'.base HB3.out
  obtain ⟨v, Z4, rfl, h41, h42, h43⟩ := h5'
  obtain ⟨a4, c4, rfl, -⟩ := h42.form
  have H4 : Hid (Z4.map (·.2) = (addZ X Y).1 ∧ RowZ w4 w.heap.size (.slice a4 Z4.length c4) Z4 ∧ Below w.heap.size w w4) := ⟨h41, h42, h43⟩
  clear CG h4' h41 h42 h43
  obtain ⟨er, her⟩ : ∃ er, (addZ X Y).2 = er := ⟨_, rfl⟩
  have HER : Hid ((addZ X Y).2 = er) := her
  rw [her]
  clear her
  go_wp2
  go_ret2
  exact ⟨_, Z4, by rw [HER.out]; rfl, H4.out.1, H4.out.2.1, H4.out.2.2⟩

/-- The sum of all weights' sizes, at most so much. -/
def absZ (x : PI) : Int := max x.wt (-x.wt)
def sizeTo (X : List PI) : Int := X.foldl (fun n x => min (n + absZ x) 1152921504606846976) 0
def sizeZ (X : List PI) : Int := if riseZ X = true then sizeTo X else 0

theorem sizeTo_snoc (X : List PI) (x : PI) : sizeTo (X ++ [x]) = min (sizeTo X + absZ x) 1152921504606846976 := by simp [sizeTo]

theorem sizeTo_from : ∀ (X : List PI) (n : Int), 0 ≤ n → n ≤ 1152921504606846976 → 0 ≤ X.foldl (fun n x => min (n + absZ x) 1152921504606846976) n ∧ X.foldl (fun n x => min (n + absZ x) 1152921504606846976) n ≤ 1152921504606846976
  | [], n, h, h' => ⟨h, h'⟩
  | x :: X, n, h, h' => by
    rw [List.foldl_cons]
    exact sizeTo_from X _ (by unfold absZ; omega) (by omega)

theorem sizeTo_in (X : List PI) : 0 ≤ sizeTo X ∧ sizeTo X ≤ 1152921504606846976 := sizeTo_from X 0 (Int.le_refl _) (by omega)

set_option maxRecDepth 100000 in
set_option maxHeartbeats 4000000 in
theorem zSize_any (a : Option Addr) (n cap : Nat) (X : List PI) (w : World) (hn : X.length = n) (h4 : n ≤ 32768) (hr : RdZ w a X) :
    Calls Try.prog 17 #[.slice a n cap] w fun e w' => e = .returned (.int .i64 (sizeZ X)) ∧ Below w.heap.size w w' := by
  have C1 := zCheck_any a n cap X w hn (by omega) hr
  rcases chkZ_cases X with ⟨hx, ex⟩ | ⟨hx, ex⟩
  rotate_left
  · have HNO : Hid (sizeZ X = 0) := by show _ = _; unfold sizeZ; rw [hx]; rfl
    rw [ex] at C1
    clear hr hn hx ex
    go_enter Try.func17, Try.ntmps17
    go_wp2_with fail
    refine C1.mono ?_
    rintro e w1 ⟨rfl, hb⟩
    clear C1
    go_wp2
    go_ret
    exact ⟨by rw [HNO.out]; rfl, hb⟩
  have HS : Hid (sizeZ X = sizeTo X) := by show _ = _; unfold sizeZ; rw [if_pos hx]
  have HN : Hid (X.length = n) := hn
  have HR : Hid (RdZ w a X) := hr
  have HW : Hid (∀ i (h : i < X.length), -72057594037927936 ≤ X[i].wt ∧ X[i].wt ≤ 72057594037927936) := fun i h => by
    have := ((riseZ_iff.1 hx).1 _ (List.getElem_mem h)).1
    unfold okI at this
    exact isW_iff.1 (Bool.and_eq_true_iff.1 this).2
  rw [ex] at C1
  clear hr hn hx ex
  go_enter Try.func17, Try.ntmps17
  go_wp2_with fail
  refine C1.mono ?_
  rintro e w1 ⟨rfl, hb⟩
  have HB1 : Hid (Below w.heap.size w w1) := hb
  clear C1 hb
  go_wp2
  go_loopw [3, 11] (fun v i wr => ∃ k : Nat, k ≤ n ∧ i = .int .i64 k ∧ v = .int .i64 (sizeTo (X.take k)) ∧ Hid (Below w.heap.size w wr)) (fun _ i _ => n - (RowKit.intOf i).toNat)
  case atStart => exact ⟨0, Nat.zero_le _, rfl, rfl, HB1.out⟩
  case round =>
    clear HB1
    obtain ⟨k, hk, rfl, rfl, hB⟩ := hrel
    have hin := sizeTo_in (X.take k)
    by_cases hlt : k < n
    · have hkl : k < X.length := by rw [HN.out]; exact hlt
      obtain ⟨b, off, ra, rc, rfl, x0, x1, -⟩ := (HR.out.later hB.out).at_ hkl
      have hwt := HW.out k hkl
      have HT : Hid (sizeTo (X.take (k + 1)) = min (sizeTo (X.take k) + absZ X[k]) 1152921504606846976) := by
        show _ = _
        rw [List.take_succ_eq_append_getElem hkl, sizeTo_snoc]
      have HA : Hid (absZ X[k] = max X[k].wt (-X[k].wt)) := rfl
      generalize absZ X[k] = ab at *
      generalize X[k].wt = p at *
      generalize X[k].row.length = rn at *
      generalize sizeTo (X.take k) = s at *
      go_wp2
      go_roundw
      case rel => exact ⟨k + 1, by omega, by go_num, by rw [HT.out, HA.out], chain hB.out (alloc_below _ _)⟩
      case measure => simp [RowKit.intOf]; omega
    · obtain rfl : k = n := by omega
      have HT : Hid (sizeZ X = sizeTo (X.take k)) := by
        show _ = _
        rw [HS.out, List.take_of_length_le (by rw [HN.out]; exact Nat.le_refl _)]
      generalize sizeTo (X.take k) = s at *
      go_wp2
      go_ret
      exact ⟨by rw [HT.out]; rfl, hB.out⟩

end Go.Proofs.Ythjebjbjkkgjpaa
