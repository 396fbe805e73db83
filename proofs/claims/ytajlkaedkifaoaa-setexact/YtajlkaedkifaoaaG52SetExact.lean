/-
  Texts of the proof of SetExact, one behind the other.
-/
import Derived.Test.YtajlkaedkifaoaaRows
import Derived.Test.YtajlkaedkifaoaaG51SetExact
import Derived.Test.YtajlkaedkifaoaaG41SetExact
import Derived.Test.YtajlkaedkifaoaaG50SetExact
import Derived.Test.YtajlkaedkifaoaaG48SetExact
import Derived.Test.YtajlkaedkifaoaaG32SetExact
import Derived.Lib.SmallJoins
namespace Go.Proofs.Ytajlkaedkifaoaa
open Go.RowKit Go.Lib
set_option linter.unusedVariables false

theorem ReadZ.atN {w : World} {b off i : Nat} {Z : List (List Value × PI)} (h : ReadZ w b off Z) (hi : i < Z.length) : ∃ ra rc, Z[i].1 = [.slice ra Z[i].2.row.length rc, .int .i64 Z[i].2.wt] ∧ w.cell? ⟨b, off + i * 2 + 1, none⟩ = some (.int .i64 Z[i].2.wt) := by
  obtain ⟨ra, rc, e, -⟩ := h.lies _ (List.getElem_mem hi)
  obtain ⟨b', off', e', hc⟩ := h.rd (by rw [List.length_map]; omega)
  cases e'
  have hm : i < (Z.map (·.1)).length := by rw [List.length_map]; exact hi
  have hz : (Z.map (·.1))[i] = [.slice ra Z[i].2.row.length rc, .int .i64 Z[i].2.wt] := by rw [List.getElem_map, e]
  exact ⟨ra, rc, e, hc i hm 1 _ (by rw [hz]; rfl)⟩

/-- The first k turned about. -/
def negTo (X : List PI) (k : Nat) : List PI := negZ (X.take k) ++ X.drop k

theorem negTo_len (X : List PI) (k : Nat) : (negTo X k).length = X.length := by
  unfold negTo
  rw [List.length_append, negZ_len, List.length_take, List.length_drop]
  omega

theorem negTo_at {X : List PI} {k : Nat} (hk : k < X.length) (h : k < (negTo X k).length) : (negTo X k)[k] = X[k] := by
  have hl : (negZ (X.take k)).length = k := by rw [negZ_len, List.length_take]; omega
  simp only [negTo]
  rw [List.getElem_append_right (by omega), List.getElem_drop]
  congr 1
  omega

theorem negTo_step {X : List PI} {k : Nat} (hk : k < X.length) : (negTo X k).set k ⟨X[k].row, -X[k].wt⟩ = negTo X (k + 1) := by
  have hl : (negZ (X.take k)).length = k := by rw [negZ_len, List.length_take]; omega
  unfold negTo
  rw [List.set_append_right _ _ (by omega), hl, Nat.sub_self, List.drop_eq_getElem_cons hk, List.set_cons_zero, List.take_succ_eq_append_getElem hk]
  unfold negZ
  rw [List.map_append, List.append_assoc]
  rfl

set_option maxHeartbeats 2000000 in
theorem rNeg_any (a : Option Addr) (n cap : Nat) (X : List PI) (w : World) (hn : X.length = n) (h4 : n ≤ 65536) (hX : RdZ w a X) (hri : riseZ X = true) :
    Calls Try.prog 24 #[.slice a n cap] w fun e w' => ∃ a' cap', e = .returned (.slice a' n cap') ∧ RdZ w' a' (negZ X) ∧ Below w.heap.size w w' := by
  have HN : Hid (X.length = n) := hn
  have CT := twinSet_any a n cap X w hn h4 hX
  have HW : Hid (∀ x ∈ X, -72057594037927936 ≤ x.wt ∧ x.wt ≤ 72057594037927936) := fun x hx => isW_iff.1 (okI_parts.1 ((riseZ_iff.1 hri).1 x hx).1).2
  clear hn hX hri
  go_enter Try.func24, Try.ntmps24
  go_wp2_with fail
  refine CT.mono ?_
  rintro e w1 ⟨v, Z, rfl, hZ, hO, hb⟩
  obtain ⟨a1, c1, rfl, -, -, hr1, hn1, hB1⟩ := hO.1.form
  have hzl : Z.length = n := by rw [← HN.out, ← hZ, List.length_map]
  rw [hzl] at hO ⊢
  rw [hZ] at hr1
  have HB1 : Hid (Below w.heap.size w w1) := hb
  rcases Nat.eq_zero_or_pos n with h0 | h0
  · subst h0
    have hX0 : X = [] := by have := HN.out; exact List.length_eq_zero_iff.1 this
    have HR1 : Hid (RdZ w1 a1 (negZ X)) := by subst hX0; exact RdZ.nil _ _
    clear CT hO hr1 hn1 hB1 hb hzl hZ hX0 HW
    go_wp2
    go_loopw [4] (fun i wr => i = .int .i64 0 ∧ wr = w1) (fun i _ => 0)
    case atStart => exact ⟨rfl, rfl⟩
    case round =>
      obtain ⟨rfl, rfl⟩ := hrel
      go_wp2
      go_ret
      exact ⟨_, _, rfl, HR1.out, HB1.out⟩
  · have hf : ∃ g, a1 = some ⟨g, 0, none⟩ ∧ w.heap.size ≤ g ∧ ∃ cs : Array Value, w1.heap[g]? = some (.cells cs 40 (0, 0)) := by
      obtain ⟨-, ⟨e0, -⟩ | ⟨g2, cap2, cur, e0, hg2, hh, -⟩⟩ := hO.1.1.2
      · cases e0
        omega
      · cases e0
        exact ⟨g2, rfl, hg2, cur, hh⟩
    obtain ⟨g, rfl, hgB, hcs⟩ := hf
    have HG : Hid (w.heap.size ≤ g) := hgB
    have HR0 : Hid (ReadZ w1 g 0 Z) := hO.1.readZ
    have HC0 : Hid (∃ cs : Array Value, w1.heap[g]? = some (.cells cs 40 (0, 0))) := hcs
    have HZ0 : Hid (Z.map (·.2) = negTo X 0) := by show _ = _; rw [hZ]; simp [negTo, negZ]
    clear CT hO hr1 hn1 hB1 hb hcs hgB hZ
    go_wp2
    go_loopw [4] (fun i wr => ∃ (k : Nat) (Zk : List (List Value × PI)), k ≤ n ∧ i = .int .i64 k ∧ Hid (ReadZ wr g 0 Zk) ∧ Hid (Zk.map (·.2) = negTo X k) ∧ Hid (∃ cs : Array Value, wr.heap[g]? = some (.cells cs 40 (0, 0))) ∧ Hid (Below w.heap.size w wr)) (fun i _ => n - (RowKit.intOf i).toNat)
    case atStart => exact ⟨0, Z, Nat.zero_le _, rfl, HR0, HZ0, HC0, HB1⟩
    case round =>
      clear HR0 HZ0 HC0 HB1
      obtain ⟨k, Zk, hk, rfl, hR, hZk, hC, hB⟩ := hrel
      rename World => wr
      by_cases hlt : k < n
      · have hkX : k < X.length := by rw [HN.out]; exact hlt
        have hkT : k < (negTo X k).length := by rw [negTo_len]; exact hkX
        have hkZ : k < Zk.length := by have := congrArg List.length hZk.out; rw [List.length_map, negTo_len] at this; omega
        have hel : Zk[k].2 = X[k] := by
          have e : (Zk.map (·.2))[k]'(by rw [List.length_map]; exact hkZ) = Zk[k].2 := List.getElem_map _
          rw [← e]
          simp only [hZk.out]
          exact negTo_at hkX hkT
        obtain ⟨ra, rc, e1, x1⟩ := hR.out.atN hkZ
        have hwk := HW.out _ (List.getElem_mem hkX)
        have hP := hR.out.put1 hkZ e1 (p := -X[k].wt) (by constructor <;> omega)
        have HP : Hid (ReadZ (wr.setCell ⟨g, k * 2 + 1, none⟩ (.int .i64 (-X[k].wt))) g 0 (Zk.set k ([.slice ra Zk[k].2.row.length rc, .int .i64 (-X[k].wt)], ⟨Zk[k].2.row, -X[k].wt⟩))) := by
          show ReadZ _ _ _ _
          rw [Nat.zero_add] at hP
          exact hP
        have HZ2 : Hid ((Zk.set k ([.slice ra Zk[k].2.row.length rc, .int .i64 (-X[k].wt)], ⟨Zk[k].2.row, -X[k].wt⟩)).map (·.2) = negTo X (k + 1)) := by
          show _ = _
          rw [List.map_set, hZk.out, ← negTo_step hkX, hel]
        obtain ⟨cs, hcs⟩ := hC.out
        have HC2 : Hid (∃ cs : Array Value, (wr.setCell ⟨g, k * 2 + 1, none⟩ (.int .i64 (-X[k].wt))).heap[g]? = some (.cells cs 40 (0, 0))) := ⟨_, Go.heap_setCell_same _ _ _ _ _ _ hcs⟩
        have HB2 : Hid (Below w.heap.size w (wr.setCell ⟨g, k * 2 + 1, none⟩ (.int .i64 (-X[k].wt)))) := hB.out.setCell (p := ⟨g, k * 2 + 1, none⟩) HG.out _
        have f1 : wr.frozen? ⟨g, k * 2 + 1, none⟩ = false := by simp [World.frozen?, hcs]
        rw [Nat.zero_add, hel] at x1
        have nw : wrap64 (-X[k].wt) = -X[k].wt := wrap_in (by omega)
        clear hP hcs hR hZk hC hB e1 hel
        generalize X[k].wt = p at *
        clear hwk
        have k0 : (0 : Int) ≤ (k : Int) := by omega
        have k1 : (k : Int) < (n : Int) := by omega
        go_wp2
        go_roundw
        case rel => exact ⟨k + 1, _, by omega, by go_num, HP, HZ2, HC2, HB2⟩
        case measure => simp [RowKit.intOf]; omega
      · obtain rfl : k = n := by omega
        have hZ2 := hZk.out
        have hr := hR.out.rdZ
        rw [hZ2] at hr
        have e : negTo X k = negZ X := by
          unfold negTo
          rw [List.take_of_length_le (by rw [HN.out]; exact Nat.le_refl _), List.drop_of_length_le (by rw [HN.out]; exact Nat.le_refl _), List.append_nil]
        rw [e] at hr
        have HRF : Hid (RdZ wr (some ⟨g, 0, none⟩) (negZ X)) := hr
        clear hr hZ2 e hR hZk hC
        go_wp2
        go_ret
        exact ⟨_, _, rfl, HRF.out, hB.out⟩

set_option maxRecDepth 100000 in
set_option maxHeartbeats 2000000 in
theorem rAdd_any (a c : Option Addr) (n m cap dap : Nat) (X Y : List PI) (w : World) (hn : X.length = n) (hm : Y.length = m) (h4 : n ≤ 8192) (h5 : m ≤ 8192) (hc : n ≤ cap) (hd : m ≤ dap) (hnil : a = none → X = [] ∧ cap = 0) (hnil2 : c = none → Y = [] ∧ dap = 0) (hX : RdZ w a X) (hY : RdZ w c Y) :
    Calls Try.prog 23 #[.slice a n cap, .slice c m dap] w fun e w' => GivesZ w w' e (makeZ (X ++ Y)) := by
  obtain ⟨ZX, hZX, lX⟩ := left_of hn hc hnil hX
  obtain ⟨ZY, hZY, lY⟩ := left_of hm hd hnil2 hY
  have hO : SharedZ w w.heap.size (.slice none 0 0) [] := ⟨OwnK.nought _ _ _ _, fun z hz => by cases hz⟩
  obtain ⟨a8, c8, w8, hrun8, hO8, hb8⟩ := shared_more 22 hO (k := 0) rfl (by omega) (by omega) lX (Nat.le_refl _)
  have lY8 := lY.kept (sz_of_below hb8)
  obtain ⟨a9, c9, w9, hrun9, hO9, hb9⟩ := shared_more 22 hO8 (k := 0 + n) (by rw [List.length_append, lX.len]; rfl) (by omega) (by omega) lY8 hb8.size
  obtain ⟨a7, c7, e7, hc7, hr7, hn7⟩ := hO9.form
  simp only [Value.slice.injEq] at e7
  obtain ⟨rfl, e8, rfl⟩ := e7
  have hmap : ((([] : List (List Value × PI)) ++ ZX) ++ ZY).map (·.2) = X ++ Y := by rw [List.map_append, List.nil_append, hZX, hZY]
  rw [hmap] at hr7
  have hlen : (X ++ Y).length = n + m := by rw [List.length_append, hn, hm]
  have hl9 : ((([] : List (List Value × PI)) ++ ZX) ++ ZY).length = n + m := by rw [← hlen, ← hmap, List.length_map]
  rw [hl9] at hc7
  have HB9 : Hid (Below w.heap.size w w9) := hb8.trans hb9
  have CM := rMake_any a9 (n + m) c9 (X ++ Y) w9 hlen (by omega) hc7 (fun h => ⟨by rw [← hmap, (hn7 h).1]; rfl, (hn7 h).2⟩) hr7
  simp only [Nat.zero_add] at hrun8 hrun9
  clear hX hY hnil hnil2 hO hO8 hO9 lX lY lY8 hb8 hb9 hn7 hr7 hmap hl9 hlen e8 hZX hZY
  go_enter Try.func23, Try.ntmps23
  go_wp2_with (first | (at_builtin; refine wpList_append_run rfl _ _ 22 22 rfl _ _ _ _ rfl rfl hrun8 ?_) | (at_builtin; refine wpList_append_run rfl _ _ 22 22 rfl _ _ _ _ rfl rfl hrun9 ?_))
  refine CM.mono ?_
  rintro e w6 ⟨v, Z6, rfl, hZ6, hRz6, hb6⟩
  have HF : Hid (GivesZ w w6 (.returned (.tuple #[v, .int .i64 (makeZ (X ++ Y)).2])) (makeZ (X ++ Y))) := ⟨v, Z6, rfl, hZ6, hRz6.base HB9.out.size, chain HB9.out hb6⟩
  clear CM hZ6 hRz6 hb6 hrun8 hrun9
  go_wp2
  go_ret2
  exact HF.out

theorem sizeTo_stay : ∀ (X : List PI), X.foldl (fun n x => min (n + absZ x) 1152921504606846976) (1152921504606846976 : Int) = 1152921504606846976
  | [] => rfl
  | x :: X => by
    have h := absZ_nn x
    rw [List.foldl_cons, Int.min_eq_right (by omega)]
    exact sizeTo_stay X

theorem sizeTo_full {X : List PI} {k : Nat} (h : sizeTo (X.take k) = 1152921504606846976) : sizeTo X = 1152921504606846976 := by
  unfold sizeTo at h ⊢
  rw [← List.take_append_drop k X, List.foldl_append, h]
  exact sizeTo_stay _

set_option maxRecDepth 100000 in
set_option maxHeartbeats 4000000 in
theorem lSize_any (a : Option Addr) (n cap : Nat) (X : List PI) (w : World) (hn : X.length = n) (h4 : n ≤ 65536) (hX : RdZ w a X) :
    Calls Try.prog 17 #[.slice a n cap] w fun e w' => e = .returned (.int .i64 (sizeZ X)) ∧ Below w.heap.size w w' := by
  have C1 := rSet_any a n cap X w hn h4 hX
  cases hri : riseZ X with
  | false =>
    rw [hri] at C1
    have e : sizeZ X = 0 := size_bent hri
    rw [e]
    go_enter Try.func17, Try.ntmps17
    go_wp2_with fail
    refine C1.mono ?_
    rintro e w1 ⟨rfl, hb⟩
    go_wp2
    go_ret
    exact ⟨rfl, hb⟩
  | true =>
    rw [hri] at C1
    have HN : Hid (X.length = n) := hn
    have HX : Hid (RdZ w a X) := hX
    have HW : Hid (∀ x ∈ X, -72057594037927936 ≤ x.wt ∧ x.wt ≤ 72057594037927936) := fun x hx => isW_iff.1 (okI_parts.1 ((riseZ_iff.1 hri).1 x hx).1).2
    have HSZ : Hid (sizeZ X = sizeTo X) := by show _ = _; unfold sizeZ; rw [if_pos hri]
    clear hn hX hri
    go_enter Try.func17, Try.ntmps17
    go_wp2_with fail
    refine C1.mono ?_
    rintro e w1 ⟨rfl, hb⟩
    have HB1 : Hid (Below w.heap.size w w1) := hb
    clear C1 hb
    go_wp2
    go_loopw [3, 4] (fun v i wr => ∃ (k : Nat) (s : Int), k ≤ n ∧ i = .int .i64 k ∧ v = .int .i64 s ∧ 0 ≤ s ∧ s ≤ 1224979098644774912 ∧ Hid (sizeTo (X.take k) = min s 1152921504606846976) ∧ Hid (Below w.heap.size w wr)) (fun _ i _ => n - (RowKit.intOf i).toNat)
    case atStart => exact ⟨0, 0, Nat.zero_le _, rfl, rfl, Int.le_refl _, by omega, by show _ = _; rw [Int.min_eq_left (by omega)]; simp [sizeTo], HB1⟩
    case round =>
      clear HB1
      obtain ⟨k, s, hk, rfl, rfl, hs0, hs1, hT, hB⟩ := hrel
      rename World => wr
      by_cases hlt : k < n
      · by_cases hsm : s < 1152921504606846976
        · have hkl : k < X.length := by rw [HN.out]; exact hlt
          obtain ⟨b, off, ra, rc, rfl, x0, x1, -⟩ := (HX.out.later hB.out).at_ hkl
          have hwk := HW.out _ (List.getElem_mem hkl)
          have HT2 : Hid (sizeTo (X.take (k + 1)) = min (s + max X[k].wt (-X[k].wt)) 1152921504606846976) := by
            show _ = _
            have hmn : min s 1152921504606846976 = s := Int.min_eq_left (by omega)
            rw [List.take_succ_eq_append_getElem hkl, sizeTo_snoc, hT.out, hmn]
            rfl
          clear x0 hT
          generalize X[k].wt = p at *
          clear hkl
          have d1 : decide ((k : Int) < (n : Int)) = true := decide_eq_true (by omega)
          have d2 : decide (s < 1152921504606846976) = true := decide_eq_true hsm
          have n1 : wrap64 (-p) = -p := wrap_in (by omega)
          have n2 : IntKind.i64.wrap (-p) = -p := by rw [IntKind.wrap_i64]; omega
          obtain ⟨q, hq⟩ : ∃ q, max p (-p) = q := ⟨_, rfl⟩
          have hq0 : 0 ≤ q ∧ q ≤ 72057594037927936 := by omega
          rw [hq] at HT2
          have n3 : wrap64 (s + q) = s + q := wrap_in (by omega)
          have n4 : IntKind.i64.wrap (s + q) = s + q := by rw [IntKind.wrap_i64]; omega
          have k0 : (0 : Int) ≤ (k : Int) := by omega
          have k1 : (k : Int) < (n : Int) := by omega
          go_upto_region 7 with fail
          have HS : wr.drew.cell? ⟨b, off + k * 2 + 1, none⟩ = some (.int .i64 p) ∧ Hid (Below wr.heap.size wr wr.drew) := ⟨cell_later (Below.refl _ _).drew x1, (Below.refl _ _).drew⟩
          refine wp_region_held_drew (S := (fun w' => w'.cell? ⟨b, off + k * 2 + 1, none⟩ = some (.int .i64 p) ∧ Hid (Below wr.heap.size wr w'))) (by kernel_rfl) HS (fun hHeld => ?_)
          refine heldTake (v := ?_) 0 18 rfl rfl (by kernel_rfl) (by kernel_rfl) (by kernel_rfl) (fun _ _ _ h => h) (by rfl) (fun w hSw => ?_) (by assumption) ?_
          rotate_left
          · (try dsimp only at hSw); first | (go_simp; done) | (go_simp; with_reducible rfl)
          simp only [List.setIfInBounds_toArray, List.set_cons_zero, List.set_cons_succ]
          refine heldTake (v := ?_) 1 19 rfl rfl (by kernel_rfl) (by kernel_rfl) (by kernel_rfl) (fun _ _ _ h => h) (by rfl) (fun w hSw => ?_) (by assumption) ?_
          rotate_left
          · (try dsimp only at hSw); first | (go_simp; done) | (go_simp; with_reducible rfl)
          simp only [List.setIfInBounds_toArray, List.set_cons_zero, List.set_cons_succ]
          refine heldTake (v := ?_) 2 20 rfl rfl (by kernel_rfl) (by kernel_rfl) (by kernel_rfl) (fun _ _ _ h => h) (by rfl) (fun w hSw => ?_) (by assumption) ?_
          rotate_left
          · (try dsimp only at hSw); first | (go_simp; done) | (go_simp; with_reducible rfl)
          simp only [List.setIfInBounds_toArray, List.set_cons_zero, List.set_cons_succ]
          refine heldTake (v := ?_) 3 21 rfl rfl (by kernel_rfl) (by kernel_rfl) (by kernel_rfl) (fun _ _ _ h => h) (by rfl) (fun w hSw => ?_) (by assumption) ?_
          rotate_left
          · (try dsimp only at hSw); first | (go_simp; done) | (go_simp; with_reducible rfl)
          simp only [List.setIfInBounds_toArray, List.set_cons_zero, List.set_cons_succ]
          refine heldTake (v := ?_) 4 22 rfl rfl (by kernel_rfl) (by kernel_rfl) (by kernel_rfl) (fun _ _ _ h => h) (by rfl) (fun w hSw => ?_) (by assumption) ?_
          rotate_left
          · (try dsimp only at hSw); first | (go_simp; done) | (go_simp; with_reducible rfl)
          simp only [List.setIfInBounds_toArray, List.set_cons_zero, List.set_cons_succ]
          refine heldTake (v := ?_) 5 23 rfl rfl (by kernel_rfl) (by kernel_rfl) (by kernel_rfl) (fun _ _ _ h => h) (by rfl) (fun w hSw => ?_) (by assumption) ?_
          rotate_left
          · (try dsimp only at hSw); first | (go_simp; done) | (go_simp; with_reducible rfl)
          simp only [List.setIfInBounds_toArray, List.set_cons_zero, List.set_cons_succ]
          refine heldTake (v := ?_) 6 24 rfl rfl (by kernel_rfl) (by kernel_rfl) (by kernel_rfl) (fun _ _ _ h => h) (by rfl) (fun w hSw => ?_) (by assumption) ?_
          rotate_left
          · (try dsimp only at hSw); first | (go_simp; done) | (go_simp; with_reducible rfl)
          simp only [List.setIfInBounds_toArray, List.set_cons_zero, List.set_cons_succ]
          refine heldTake (v := ?_) 7 25 rfl rfl (by kernel_rfl) (by kernel_rfl) (by kernel_rfl) (fun _ _ _ h => h) (by rfl) (fun w hSw => ?_) (by assumption) ?_
          rotate_left
          · (try dsimp only at hSw); first | (go_simp; done) | (go_simp; with_reducible rfl)
          simp only [List.setIfInBounds_toArray, List.set_cons_zero, List.set_cons_succ]
          refine heldTake (v := ?_) 8 26 rfl rfl (by kernel_rfl) (by kernel_rfl) (by kernel_rfl) (fun _ _ _ h => h) (by rfl) (fun w hSw => ?_) (by assumption) ?_
          rotate_left
          · (try dsimp only at hSw); first | (go_simp; done) | (go_simp; with_reducible rfl)
          simp only [List.setIfInBounds_toArray, List.set_cons_zero, List.set_cons_succ]
          refine heldTake (v := ?_) 9 27 rfl rfl (by kernel_rfl) (by kernel_rfl) (by kernel_rfl) (fun _ _ _ h => h) (by rfl) (fun w hSw => ?_) (by assumption) ?_
          rotate_left
          · (try dsimp only at hSw); first | (go_simp; done) | (go_simp; with_reducible rfl)
          simp only [List.setIfInBounds_toArray, List.set_cons_zero, List.set_cons_succ]
          refine heldTake (v := ?_) 10 28 rfl rfl (by kernel_rfl) (by kernel_rfl) (by kernel_rfl) (fun _ _ _ h => h) (by rfl) (fun w hSw => ?_) (by assumption) ?_
          rotate_left
          · (try dsimp only at hSw); first | (go_simp; done) | (go_simp; with_reducible rfl)
          simp only [List.setIfInBounds_toArray, List.set_cons_zero, List.set_cons_succ]
          refine heldTake (v := ?_) 11 29 rfl rfl (by kernel_rfl) (by kernel_rfl) (by kernel_rfl) (fun _ _ _ h => h) (by rfl) (fun w hSw => ?_) (by assumption) ?_
          rotate_left
          · (try dsimp only at hSw); first | (go_simp; done) | (go_simp; with_reducible rfl)
          simp only [List.setIfInBounds_toArray, List.set_cons_zero, List.set_cons_succ]
          refine heldTake (v := ?_) 12 30 rfl rfl (by kernel_rfl) (by kernel_rfl) (by kernel_rfl) (fun _ _ _ h => h) (by rfl) (fun w hSw => ?_) (by assumption) ?_
          rotate_left
          · (try dsimp only at hSw); first | (go_simp; done) | (go_simp; with_reducible rfl)
          simp only [List.setIfInBounds_toArray, List.set_cons_zero, List.set_cons_succ]
          refine heldTake (v := ?_) 13 31 rfl rfl (by kernel_rfl) (by kernel_rfl) (by kernel_rfl) (fun _ _ _ h => h) (by rfl) (fun w hSw => ?_) (by assumption) ?_
          rotate_left
          · (try dsimp only at hSw); first | (go_simp; done) | (go_simp; with_reducible rfl)
          simp only [List.setIfInBounds_toArray, List.set_cons_zero, List.set_cons_succ]
          refine heldTake (v := ?_) 14 3 rfl rfl (by kernel_rfl) (by kernel_rfl) (by kernel_rfl) (fun _ _ _ h => h) (by rfl) (fun w hSw => ?_) (by assumption) ?_
          rotate_left
          · (try dsimp only at hSw); first | (go_simp; done) | (go_simp; with_reducible rfl)
          simp only [List.setIfInBounds_toArray, List.set_cons_zero, List.set_cons_succ]
          refine wpAnyH_done (by kernel_rfl) ?_ _
          have HB9 := hHeld.2
          clear hHeld HS x1
          go_wp2
          go_roundw
          case rel => exact ⟨k + 1, _, by omega, by go_num, rfl, by omega, by omega, HT2, chain hB.out HB9.out⟩
          case measure => simp [RowKit.intOf]; omega
        · have d1 : decide ((k : Int) < (n : Int)) = true := decide_eq_true (by omega)
          have d2 : decide (s < 1152921504606846976) = false := decide_eq_false hsm
          have HE : Hid (sizeZ X = 1152921504606846976) := by
            show _ = _
            rw [HSZ.out]
            exact sizeTo_full (by rw [hT.out, Int.min_eq_right (by omega)])
          have hmin : min s 1152921504606846976 = 1152921504606846976 := by omega
          clear hT
          go_wp2
          go_ret
          exact ⟨by rw [HE.out]; first | rfl | simp [hmin], hB.out⟩
      · obtain rfl : k = n := by omega
        have d1 : decide ((k : Int) < (k : Int)) = false := by simp
        have HE : Hid (sizeZ X = min s 1152921504606846976) := by
          show _ = _
          rw [HSZ.out, ← hT.out, List.take_of_length_le (by rw [HN.out]; exact Nat.le_refl _)]
        clear hT
        go_wp2
        go_ret
        exact ⟨by rw [HE.out]; rfl, hB.out⟩

end Go.Proofs.Ytajlkaedkifaoaa

namespace Go.Proofs.Ytajlkaedkifaoaa
open Go.ChangeShapes Go.WideShapes Go.ChangeAt Go.RowKit Go.Lib
set_option linter.unusedVariables false

theorem two_items (w : World) (a b : Option Addr) (n m cap dap : Nat) (X Y : List PI) (hn : X.length = n) (hm : Y.length = m) (n1 : n ≤ 9223372036854775807) (n2 : m ≤ 9223372036854775807) (hX : RdJ w a X) (hY : RdJ w b Y) :
    RdSl (w.alloc (.cells #[.slice a n cap, .slice b m dap] 22)) w.heap.size 0 [(a, cap, X), (b, dap, Y)] := by
  intro i hi
  subst hn hm
  match i, hi with
  | 0, _ =>
    refine ⟨?_, n1, hX.later (alloc_below _ _)⟩
    simp only [World.cell?, new_block]
    rfl
  | 1, _ =>
    refine ⟨?_, n2, hY.later (alloc_below _ _)⟩
    simp only [World.cell?, new_block]
    rfl

set_option maxRecDepth 100000 in
/-- A slice of Items that came in, with its room. -/
theorem items_of2 {H : Type} {enc : TypeId × Value → H} {w : World} {a : Option Addr} {len cap : Nat} {d : DataW H} {p : List MemPlace}
    (h : DataW.Trod enc Try.prog w 0 (fun _ => true) true 22 (Value.slice a len cap) d p) : ∃ X : List PI, X.length = len ∧ len ≤ 9223372036854775807 ∧ RdJ w a X ∧ len ≤ cap ∧ (a = none → X = [] ∧ cap = 0) := by
  obtain ⟨X, h1, h2, h3⟩ := items_of h
  refine ⟨X, h1, h2, h3, ?_⟩
  obtain ⟨fuel, hf⟩ := h
  rcases DataW.trod_slice Try.underlying22 hf with ⟨hcs, _⟩ | ⟨x, l, c, elems, rest, n, _, hcs, _, _, hl, hm, hlen, hel, _, _⟩
  · simp [Value.cells] at hcs
    obtain ⟨rfl, rfl, rfl⟩ := hcs
    exact ⟨Nat.le_refl _, fun _ => ⟨List.length_eq_zero_iff.1 h1, rfl⟩⟩
  · simp [Value.cells] at hcs
    obtain ⟨rfl, rfl, rfl⟩ := hcs
    exact ⟨hl, fun h => by cases h⟩

theorem makeZ_len (X : List PI) : (makeZ X).1.length ≤ X.length := (make_rises X).2

theorem addZ_no {X Y : List PI} (h : riseZ X = false ∨ riseZ Y = false) : addZ X Y = ([], 1) := by
  unfold addZ
  rcases h with h | h
  · rw [if_neg (by rw [h]; simp)]
  · by_cases hx : riseZ X = true
    · rw [if_pos hx, if_neg (by rw [h]; simp)]
    · rw [if_neg hx]

theorem addZ_yes {X Y : List PI} (h : riseZ X = true) (k : riseZ Y = true) : addZ X Y = makeZ (X ++ Y) := by
  unfold addZ
  rw [if_pos h, if_pos k]

/-- What a call hands back that tells a set of its own, with an error. -/
theorem givesW_at {w w' : World} {e : Ending} {r : List PI × Int} (h : GivesW w w' e r) : ∃ a n cap, e = .returned (.tuple #[.slice a n cap, .int .i64 r.2]) ∧ SetAt w' a n cap r.1 ∧ SpoilOK w' w.heap.size w'.heap.size a n ∧ Below w.heap.size w w' := by
  obtain ⟨v, Z, rfl, hZ, hO, hb⟩ := h
  obtain ⟨a, n, cap, rfl, hS⟩ := SetAt.of_row hO.1 hZ
  exact ⟨a, n, cap, rfl, hS, SpoilOK.of_set hO, hb⟩

theorem givesZ_at {w w' : World} {e : Ending} {r : List PI × Int} (h : GivesZ w w' e r) : ∃ a n cap, e = .returned (.tuple #[.slice a n cap, .int .i64 r.2]) ∧ SetAt w' a n cap r.1 ∧ Below w.heap.size w w' := by
  obtain ⟨v, Z, rfl, hZ, hO, hb⟩ := h
  obtain ⟨a, n, cap, rfl, hS⟩ := SetAt.of_row hO hZ
  exact ⟨a, n, cap, rfl, hS, hb⟩

set_option maxRecDepth 100000 in
set_option maxHeartbeats 4000000 in
theorem sexact_heavy (a b c : Option Addr) (n m l cap dap eap : Nat) (X Y : List PI) (r : List PV) (w : World) (hn : X.length = n) (hm : Y.length = m) (n1 : n ≤ 9223372036854775807) (n2 : m ≤ 9223372036854775807) (hX : RdJ w a X) (hY : RdJ w b Y) (hr : IsVals w c l eap r) (hh : (heavyI X || heavyI Y) = true) :
    Calls Try.prog 3 #[.slice a n cap, .slice b m dap, .slice c l eap] w fun e w' => e = .returned (.bool true) ∧ Below w.heap.size w w' := by
  have C1 := heavyZ_any _ _ 2 2 _ _ rfl (by omega) (two_items w a b n m cap dap X Y hn hm n1 n2 hX hY)
  simp only [List.any_cons, List.any_nil, Bool.or_false] at C1
  have HB1 : Hid (Below w.heap.size w (w.alloc (.cells #[.slice a n cap, .slice b m dap] 22))) := alloc_below _ _
  have hls := hr.small
  obtain ⟨hr0, hrc, hrV, hrN⟩ := hr.vals
  have CH : Calls Try.prog 9 #[.slice c l eap] (w.alloc (.cells #[.slice a n cap, .slice b m dap] 22)) fun e w' => e = .returned (.bool (decide (40 < l) || heavyV r)) ∧ w' = w.alloc (.cells #[.slice a n cap, .slice b m dap] 22) := by
    by_cases h40 : 40 < l
    · simpa [h40] using heavy_long c l eap (w.alloc (.cells #[.slice a n cap, .slice b m dap] 22)) h40 hls
    · simpa [h40] using heavy_few c l eap r (w.alloc (.cells #[.slice a n cap, .slice b m dap] 22)) hr0 (by omega) (hrV.later HB1.out)
  rw [hh] at C1
  clear CH hX hY hr hrV hrN hr0 hrc hn hm hh
  go_enter Try.func3, Try.ntmps3
  go_wp2_with fail
  refine C1.mono ?_
  rintro e w1 ⟨rfl, hw⟩
  subst hw
  clear C1
  go_wp2
  go_ret
  exact ⟨by simp, HB1.out⟩

set_option maxRecDepth 100000 in
set_option maxHeartbeats 4000000 in
theorem sexact_row (a b c : Option Addr) (n m l cap dap eap : Nat) (X Y : List PI) (r : List PV) (w : World) (hn : X.length = n) (hm : Y.length = m) (n1 : n ≤ 9223372036854775807) (n2 : m ≤ 9223372036854775807) (hX : RdJ w a X) (hY : RdJ w b Y) (hr : IsVals w c l eap r) (hh : (heavyI X || heavyI Y) = false) (hv : (decide (40 < l) || heavyV r) = true) :
    Calls Try.prog 3 #[.slice a n cap, .slice b m dap, .slice c l eap] w fun e w' => e = .returned (.bool true) ∧ Below w.heap.size w w' := by
  have C1 := heavyZ_any _ _ 2 2 _ _ rfl (by omega) (two_items w a b n m cap dap X Y hn hm n1 n2 hX hY)
  simp only [List.any_cons, List.any_nil, Bool.or_false] at C1
  have HB1 : Hid (Below w.heap.size w (w.alloc (.cells #[.slice a n cap, .slice b m dap] 22))) := alloc_below _ _
  have hls := hr.small
  obtain ⟨hr0, hrc, hrV, hrN⟩ := hr.vals
  have CH : Calls Try.prog 9 #[.slice c l eap] (w.alloc (.cells #[.slice a n cap, .slice b m dap] 22)) fun e w' => e = .returned (.bool (decide (40 < l) || heavyV r)) ∧ w' = w.alloc (.cells #[.slice a n cap, .slice b m dap] 22) := by
    by_cases h40 : 40 < l
    · simpa [h40] using heavy_long c l eap (w.alloc (.cells #[.slice a n cap, .slice b m dap] 22)) h40 hls
    · simpa [h40] using heavy_few c l eap r (w.alloc (.cells #[.slice a n cap, .slice b m dap] 22)) hr0 (by omega) (hrV.later HB1.out)
  rw [hh] at C1
  rw [hv] at CH
  clear hX hY hr hrV hrN hr0 hrc hn hm hh hv
  go_enter Try.func3, Try.ntmps3
  go_wp2_with fail
  refine C1.mono ?_
  rintro e w1 ⟨rfl, hw⟩
  subst hw
  clear C1
  go_wp2_with fail
  refine CH.mono ?_
  rintro e w1 ⟨rfl, hw⟩
  subst hw
  clear CH
  go_wp2
  go_ret
  exact ⟨by simp, HB1.out⟩

set_option maxRecDepth 100000 in
set_option maxHeartbeats 16000000 in
theorem sexact_no (qq : Bool) (a b c : Option Addr) (n m l cap dap eap : Nat) (X Y : List PI) (r : List PV) (w : World) (hn : X.length = n) (hm : Y.length = m) (n1 : n ≤ 9223372036854775807) (n2 : m ≤ 9223372036854775807) (hX : RdJ w a X) (hY : RdJ w b Y) (hr : IsVals w c l eap r) (hcap : n ≤ cap) (hdap : m ≤ dap) (hnil : a = none → X = [] ∧ cap = 0) (hnil2 : b = none → Y = [] ∧ dap = 0) (hh : (heavyI X || heavyI Y) = false) (hv : (decide (40 < l) || heavyV r) = false) (hp : riseZ X = false) (hq : riseZ Y = qq) :
    Calls Try.prog 3 #[.slice a n cap, .slice b m dap, .slice c l eap] w fun e w' => e = .returned (.bool true) ∧ Below w.heap.size w w' := by
  have C1 := heavyZ_any _ _ 2 2 _ _ rfl (by omega) (two_items w a b n m cap dap X Y hn hm n1 n2 hX hY)
  simp only [List.any_cons, List.any_nil, Bool.or_false] at C1
  have HB1 : Hid (Below w.heap.size w (w.alloc (.cells #[.slice a n cap, .slice b m dap] 22))) := alloc_below _ _
  have hls := hr.small
  obtain ⟨hr0, hrc, hrV, hrN⟩ := hr.vals
  have CH : Calls Try.prog 9 #[.slice c l eap] (w.alloc (.cells #[.slice a n cap, .slice b m dap] 22)) fun e w' => e = .returned (.bool (decide (40 < l) || heavyV r)) ∧ w' = w.alloc (.cells #[.slice a n cap, .slice b m dap] 22) := by
    by_cases h40 : 40 < l
    · simpa [h40] using heavy_long c l eap (w.alloc (.cells #[.slice a n cap, .slice b m dap] 22)) h40 hls
    · simpa [h40] using heavy_few c l eap r (w.alloc (.cells #[.slice a n cap, .slice b m dap] 22)) hr0 (by omega) (hrV.later HB1.out)
  have hl40 : l ≤ 40 := by
    simp at hv
    omega
  rw [hh] at C1
  rw [hv] at CH
  have hh' : heavyI X = false ∧ heavyI Y = false := by simpa using hh
  obtain ⟨hx3, hx4⟩ := heavyI_small hh'.1
  obtain ⟨hy3, hy4⟩ := heavyI_small hh'.2
  have hn3 : n ≤ 300 := by omega
  have hm3 : m ≤ 300 := by omega
  have HA0 : Hid (SetAt w a n cap X) := ⟨hn, hcap, hX.rdZ fun x hx => by have := hx4 x hx; omega, hnil⟩
  have HB0 : Hid (SetAt w b m dap Y) := ⟨hm, hdap, hY.rdZ fun x hx => by have := hy4 x hx; omega, hnil2⟩
  have HR0 : Hid (RdV w c r) := hrV
  have HRL : Hid (r.length = l) := hr0
  have HPX : Hid (riseZ X = false) := hp
  have HPY : Hid (riseZ Y = qq) := hq
  have HML : Hid ((makeZ X).1.length ≤ 300) := by have := makeZ_len X; show _ ≤ _; omega
  have HAL : Hid ((addZ X Y).1.length ≤ 600) := by
    show _ ≤ _
    by_cases h1 : riseZ X = true
    · by_cases h2 : riseZ Y = true
      · rw [addZ_yes h1 h2]
        have := makeZ_len (X ++ Y)
        rw [List.length_append] at this
        omega
      · rw [addZ_no (.inr (by simpa using h2))]
        simp
    · rw [addZ_no (.inl (by simpa using h1))]
      simp
  clear hX hY hr hrV hrN hr0 hrc hn hm hh hv hh' hx3 hx4 hy3 hy4 hcap hdap hnil hnil2 hp hq n1 n2 hls
  go_enter Try.func3, Try.ntmps3
  go_wp2_with fail
  refine C1.mono ?_
  rintro e w1 ⟨rfl, hw⟩
  subst hw
  clear C1
  go_wp2_with fail
  refine CH.mono ?_
  rintro e w1 ⟨rfl, hw⟩
  subst hw
  clear CH
  go_wp2_with fail
  refine (twinSet_any a n cap X _ HA0.out.len (by omega) (HA0.out.rd.later HB1.out)).mono ?_
  rintro e w2 ⟨v, Zt, rfl, hZt, hOt, hb⟩
  obtain ⟨a1, x1, c1, rfl, hS⟩ := SetAt.of_row hOt.1 hZt
  have HSX : Hid (SetAt w2 a1 x1 c1 X) := hS
  have HB2 : Hid (Below w.heap.size w w2) := chain HB1.out hb
  clear hZt hOt hS hb HB1
  go_wp2_with fail
  refine (twinSet_any b m dap Y _ HB0.out.len (by omega) (HB0.out.rd.later HB2.out)).mono ?_
  rintro e w3 ⟨v, Zt, rfl, hZt, hOt, hb⟩
  obtain ⟨a2, x2, c2, rfl, hS⟩ := SetAt.of_row hOt.1 hZt
  replace HSX : Hid (SetAt w3 a1 x1 c1 X) := HSX.out.later hb
  have HSY : Hid (SetAt w3 a2 x2 c2 Y) := hS
  have HBW : Hid (Below w.heap.size w w3) := chain HB2.out hb
  have HA : Hid (SetAt w3 a n cap X) := HA0.out.later HBW.out
  have HBs : Hid (SetAt w3 b m dap Y) := HB0.out.later HBW.out
  have HR : Hid (RdV w3 c r) := HR0.out.later HBW.out
  have hx1 : x1 = n := by rw [← HSX.out.len, HA.out.len]
  have hx2 : x2 = m := by rw [← HSY.out.len, HBs.out.len]
  subst hx1 hx2
  have HB : Hid (Below w3.heap.size w3 w3) := Below.refl _ _
  clear hZt hOt hS hb HB2 HA0 HB0 HR0
  go_wp2_with fail
  refine (zMakeO_any a1 x1 c1 X _ HSX.out.len (by omega) HSX.out.rd).mono ?_
  rintro e w4 hg
  obtain ⟨am, nm, cm, rfl, hS, hO, hb⟩ := givesW_at hg
  have HSM : Hid (SetAt w4 am nm cm (makeZ X).1) := hS
  have HOM : Hid (SpoilOK w4 w3.heap.size w4.heap.size am nm) := hO
  have HEM : Hid (w4.heap.size ≤ w4.heap.size) := Nat.le_refl _
  have nmb : nm ≤ 300 := by rw [← HSM.out.len]; exact HML.out
  clear hg hS hO
  replace HB : Hid (Below w3.heap.size w3 w4) := chain HB.out hb
  clear hb
  go_wp2_with fail
  refine (rMake_any a x1 cap X _ HA.out.len (by omega) HA.out.le HA.out.nil (HA.out.rd.later HB.out)).mono ?_
  rintro e w5 hg
  obtain ⟨an, nn, cn, rfl, hS, hb⟩ := givesZ_at hg
  replace HSM : Hid (SetAt w5 am nm cm (makeZ X).1) := HSM.out.later hb
  replace HOM : Hid (SpoilOK w5 w3.heap.size w4.heap.size am nm) := HOM.out.later HEM.out hb
  replace HEM : Hid (w4.heap.size ≤ w5.heap.size) := Nat.le_trans HEM.out hb.size
  have HSN : Hid (SetAt w5 an nn cn (makeZ X).1) := hS
  clear hg hS
  replace HB : Hid (Below w3.heap.size w3 w5) := chain HB.out hb
  clear hb
  generalize (makeZ X).2 = er at *
  generalize (makeZ X).1 = R at *
  go_wp2_with fail
  refine (same_c HSM.out HSN.out (by omega) rfl).mono ?_
  rintro e w6 ⟨rfl, hb⟩
  replace HSM : Hid (SetAt w6 am nm cm R) := HSM.out.later hb
  replace HOM : Hid (SpoilOK w6 w3.heap.size w4.heap.size am nm) := HOM.out.later HEM.out hb
  replace HEM : Hid (w4.heap.size ≤ w6.heap.size) := Nat.le_trans HEM.out hb.size
  replace HSN : Hid (SetAt w6 an nn cn R) := HSN.out.later hb
  replace HB : Hid (Below w3.heap.size w3 w6) := chain HB.out hb
  clear hb
  clear HSN
  go_wp2_with fail
  refine (zWeight_any a1 x1 c1 X c l eap r _ HSX.out.len (by omega) (HSX.out.rd.later HB.out) HRL.out (by omega) (HR.out.later HB.out)).mono ?_
  rintro e w7 ⟨rfl, hb⟩
  replace HSM : Hid (SetAt w7 am nm cm R) := HSM.out.later hb
  replace HOM : Hid (SpoilOK w7 w3.heap.size w4.heap.size am nm) := HOM.out.later HEM.out hb
  replace HEM : Hid (w4.heap.size ≤ w7.heap.size) := Nat.le_trans HEM.out hb.size
  replace HB : Hid (Below w3.heap.size w3 w7) := chain HB.out hb
  clear hb
  go_wp2_with fail
  refine (rWeight_any a x1 cap X c l eap r _ HA.out.len (by omega) (HA.out.rd.later HB.out) HRL.out (by omega) (HR.out.later HB.out)).mono ?_
  rintro e w8 ⟨rfl, hb⟩
  replace HSM : Hid (SetAt w8 am nm cm R) := HSM.out.later hb
  replace HOM : Hid (SpoilOK w8 w3.heap.size w4.heap.size am nm) := HOM.out.later HEM.out hb
  replace HEM : Hid (w4.heap.size ≤ w8.heap.size) := Nat.le_trans HEM.out hb.size
  replace HB : Hid (Below w3.heap.size w3 w8) := chain HB.out hb
  clear hb
  generalize weightZ X r = wx at *
  go_wp2_with fail
  refine (zSize_any a1 x1 c1 X _ HSX.out.len (by omega) (HSX.out.rd.later HB.out)).mono ?_
  rintro e w9 ⟨rfl, hb⟩
  replace HSM : Hid (SetAt w9 am nm cm R) := HSM.out.later hb
  replace HOM : Hid (SpoilOK w9 w3.heap.size w4.heap.size am nm) := HOM.out.later HEM.out hb
  replace HEM : Hid (w4.heap.size ≤ w9.heap.size) := Nat.le_trans HEM.out hb.size
  replace HB : Hid (Below w3.heap.size w3 w9) := chain HB.out hb
  clear hb
  go_wp2_with fail
  refine (lSize_any a x1 cap X _ HA.out.len (by omega) (HA.out.rd.later HB.out)).mono ?_
  rintro e w10 ⟨rfl, hb⟩
  replace HSM : Hid (SetAt w10 am nm cm R) := HSM.out.later hb
  replace HOM : Hid (SpoilOK w10 w3.heap.size w4.heap.size am nm) := HOM.out.later HEM.out hb
  replace HEM : Hid (w4.heap.size ≤ w10.heap.size) := Nat.le_trans HEM.out hb.size
  replace HB : Hid (Below w3.heap.size w3 w10) := chain HB.out hb
  clear hb
  generalize sizeZ X = sx at *
  go_wp2_with fail
  refine (spoil_c cm (by omega) HOM.out).mono ?_
  rintro e w11 ⟨rfl, hb, -⟩
  replace HB : Hid (Below w3.heap.size w3 w11) := HB.out.trans hb
  clear hb HOM HSM HEM
  have CPX := fun V (hb : Below w3.heap.size w3 V) => rSet_any a x1 cap X V HA.out.len (by omega) (HA.out.rd.later hb)
  have CPY := fun V (hb : Below w3.heap.size w3 V) => rSet_any b x2 dap Y V HBs.out.len (by omega) (HBs.out.rd.later hb)
  simp only [HPX.out] at CPX
  simp only [HPY.out] at CPY
  go_wp2_with fail
  refine (CPX _ HB.out).mono ?_
  rintro e w12 ⟨rfl, hb⟩
  replace HB : Hid (Below w3.heap.size w3 w12) := chain HB.out hb
  clear hb
  go_wp2_with fail
  refine (CPY _ HB.out).mono ?_
  rintro e w13 ⟨rfl, hb⟩
  replace HB : Hid (Below w3.heap.size w3 w13) := chain HB.out hb
  clear hb
  clear CPX CPY
  go_wp2_with fail
  refine (zAddO_any a1 a2 x1 x2 c1 c2 X Y _ HSX.out.len HSY.out.len (by omega) (by omega) HSX.out.le HSY.out.le HSX.out.nil HSY.out.nil (HSX.out.rd.later HB.out) (HSY.out.rd.later HB.out)).mono ?_
  rintro e w14 hg
  obtain ⟨a3, ns, cs, rfl, hS, hO, hb⟩ := givesW_at hg
  have HSS : Hid (SetAt w14 a3 ns cs (addZ X Y).1) := hS
  have HOS : Hid (SpoilOK w14 w13.heap.size w14.heap.size a3 ns) := hO
  have HES : Hid (w14.heap.size ≤ w14.heap.size) := Nat.le_refl _
  have HLS : Hid (w3.heap.size ≤ w13.heap.size) := HB.out.size
  have nsb : ns ≤ 600 := by rw [← HSS.out.len]; exact HAL.out
  clear hg hS hO
  replace HB : Hid (Below w3.heap.size w3 w14) := chain HB.out hb
  clear hb
  have hadd : addZ X Y = ([], 1) := addZ_no (.inl HPX.out)
  rw [hadd] at HSS ⊢
  obtain rfl : ns = 0 := by rw [← HSS.out.len]; rfl
  clear hadd HSS
  go_wp2_with fail
  refine (zNeg_bad a1 x1 c1 X _ HSX.out.len (by omega) (HSX.out.rd.later HB.out) HPX.out).mono ?_
  rintro e w15 ⟨rfl, hb⟩
  replace HOS : Hid (SpoilOK w15 w13.heap.size w14.heap.size a3 0) := HOS.out.later HES.out hb
  replace HES : Hid (w14.heap.size ≤ w15.heap.size) := Nat.le_trans HES.out hb.size
  replace HB : Hid (Below w3.heap.size w3 w15) := chain HB.out hb
  clear hb
  have CK := fun V (hb : Below w3.heap.size w3 V) => zCheck_any a1 x1 c1 X V HSX.out.len (by omega) (HSX.out.rd.later hb)
  simp only [chkZ_no HPX.out] at CK
  go_wp2_with fail
  refine (CK _ HB.out).mono ?_
  rintro e w16 ⟨rfl, hb⟩
  replace HOS : Hid (SpoilOK w16 w13.heap.size w14.heap.size a3 0) := HOS.out.later HES.out hb
  replace HES : Hid (w14.heap.size ≤ w16.heap.size) := Nat.le_trans HES.out hb.size
  replace HB : Hid (Below w3.heap.size w3 w16) := chain HB.out hb
  clear hb
  go_wp2_with fail
  refine (CK _ HB.out).mono ?_
  rintro e w17 ⟨rfl, hb⟩
  replace HOS : Hid (SpoilOK w17 w13.heap.size w14.heap.size a3 0) := HOS.out.later HES.out hb
  replace HES : Hid (w14.heap.size ≤ w17.heap.size) := Nat.le_trans HES.out hb.size
  replace HB : Hid (Below w3.heap.size w3 w17) := chain HB.out hb
  clear hb
  clear CK
  go_wp2_with fail
  refine (spoil_c cs (by omega) HOS.out).mono ?_
  rintro e w18 ⟨rfl, hb, hk⟩
  replace HB : Hid (Below w3.heap.size w3 w18) := HB.out.trans (hb.mono HLS.out)
  clear hb hk HOS HES
  go_wp2_with fail
  refine (spoilSet_none none 0 _).mono ?_
  rintro e w19 ⟨rfl, hw⟩
  subst hw
  go_wp2_with fail
  refine (same_c (HSX.out.later HB.out) (HA.out.later HB.out) (by omega) rfl).mono ?_
  rintro e w19 ⟨rfl, hb⟩
  replace HB : Hid (Below w3.heap.size w3 w19) := chain HB.out hb
  clear hb
  go_wp2_with fail
  refine (same_c (HSY.out.later HB.out) (HBs.out.later HB.out) (by omega) rfl).mono ?_
  rintro e w20 ⟨rfl, hb⟩
  replace HB : Hid (Below w3.heap.size w3 w20) := chain HB.out hb
  clear hb
  go_wp2_with fail
  refine (zwakes_any _).mono ?_
  rintro e w21 ⟨rfl, hb⟩
  replace HB : Hid (Below w3.heap.size w3 w21) := chain HB.out hb
  clear hb
  go_wp2
  go_ret
  exact ⟨by simp, chain HBW.out HB.out⟩

set_option maxRecDepth 100000 in
set_option maxHeartbeats 16000000 in
theorem sexact_half (a b c : Option Addr) (n m l cap dap eap : Nat) (X Y : List PI) (r : List PV) (w : World) (hn : X.length = n) (hm : Y.length = m) (n1 : n ≤ 9223372036854775807) (n2 : m ≤ 9223372036854775807) (hX : RdJ w a X) (hY : RdJ w b Y) (hr : IsVals w c l eap r) (hcap : n ≤ cap) (hdap : m ≤ dap) (hnil : a = none → X = [] ∧ cap = 0) (hnil2 : b = none → Y = [] ∧ dap = 0) (hh : (heavyI X || heavyI Y) = false) (hv : (decide (40 < l) || heavyV r) = false) (hp : riseZ X = true) (hq : riseZ Y = false) :
    Calls Try.prog 3 #[.slice a n cap, .slice b m dap, .slice c l eap] w fun e w' => e = .returned (.bool true) ∧ Below w.heap.size w w' := by
  have C1 := heavyZ_any _ _ 2 2 _ _ rfl (by omega) (two_items w a b n m cap dap X Y hn hm n1 n2 hX hY)
  simp only [List.any_cons, List.any_nil, Bool.or_false] at C1
  have HB1 : Hid (Below w.heap.size w (w.alloc (.cells #[.slice a n cap, .slice b m dap] 22))) := alloc_below _ _
  have hls := hr.small
  obtain ⟨hr0, hrc, hrV, hrN⟩ := hr.vals
  have CH : Calls Try.prog 9 #[.slice c l eap] (w.alloc (.cells #[.slice a n cap, .slice b m dap] 22)) fun e w' => e = .returned (.bool (decide (40 < l) || heavyV r)) ∧ w' = w.alloc (.cells #[.slice a n cap, .slice b m dap] 22) := by
    by_cases h40 : 40 < l
    · simpa [h40] using heavy_long c l eap (w.alloc (.cells #[.slice a n cap, .slice b m dap] 22)) h40 hls
    · simpa [h40] using heavy_few c l eap r (w.alloc (.cells #[.slice a n cap, .slice b m dap] 22)) hr0 (by omega) (hrV.later HB1.out)
  have hl40 : l ≤ 40 := by
    simp at hv
    omega
  rw [hh] at C1
  rw [hv] at CH
  have hh' : heavyI X = false ∧ heavyI Y = false := by simpa using hh
  obtain ⟨hx3, hx4⟩ := heavyI_small hh'.1
  obtain ⟨hy3, hy4⟩ := heavyI_small hh'.2
  have hn3 : n ≤ 300 := by omega
  have hm3 : m ≤ 300 := by omega
  have HA0 : Hid (SetAt w a n cap X) := ⟨hn, hcap, hX.rdZ fun x hx => by have := hx4 x hx; omega, hnil⟩
  have HB0 : Hid (SetAt w b m dap Y) := ⟨hm, hdap, hY.rdZ fun x hx => by have := hy4 x hx; omega, hnil2⟩
  have HR0 : Hid (RdV w c r) := hrV
  have HRL : Hid (r.length = l) := hr0
  have HPX : Hid (riseZ X = true) := hp
  have HPY : Hid (riseZ Y = false) := hq
  have HML : Hid ((makeZ X).1.length ≤ 300) := by have := makeZ_len X; show _ ≤ _; omega
  have HAL : Hid ((addZ X Y).1.length ≤ 600) := by
    show _ ≤ _
    by_cases h1 : riseZ X = true
    · by_cases h2 : riseZ Y = true
      · rw [addZ_yes h1 h2]
        have := makeZ_len (X ++ Y)
        rw [List.length_append] at this
        omega
      · rw [addZ_no (.inr (by simpa using h2))]
        simp
    · rw [addZ_no (.inl (by simpa using h1))]
      simp
  clear hX hY hr hrV hrN hr0 hrc hn hm hh hv hh' hx3 hx4 hy3 hy4 hcap hdap hnil hnil2 hp hq n1 n2 hls
  go_enter Try.func3, Try.ntmps3
  go_wp2_with fail
  refine C1.mono ?_
  rintro e w1 ⟨rfl, hw⟩
  subst hw
  clear C1
  go_wp2_with fail
  refine CH.mono ?_
  rintro e w1 ⟨rfl, hw⟩
  subst hw
  clear CH
  go_wp2_with fail
  refine (twinSet_any a n cap X _ HA0.out.len (by omega) (HA0.out.rd.later HB1.out)).mono ?_
  rintro e w2 ⟨v, Zt, rfl, hZt, hOt, hb⟩
  obtain ⟨a1, x1, c1, rfl, hS⟩ := SetAt.of_row hOt.1 hZt
  have HSX : Hid (SetAt w2 a1 x1 c1 X) := hS
  have HB2 : Hid (Below w.heap.size w w2) := chain HB1.out hb
  clear hZt hOt hS hb HB1
  go_wp2_with fail
  refine (twinSet_any b m dap Y _ HB0.out.len (by omega) (HB0.out.rd.later HB2.out)).mono ?_
  rintro e w3 ⟨v, Zt, rfl, hZt, hOt, hb⟩
  obtain ⟨a2, x2, c2, rfl, hS⟩ := SetAt.of_row hOt.1 hZt
  replace HSX : Hid (SetAt w3 a1 x1 c1 X) := HSX.out.later hb
  have HSY : Hid (SetAt w3 a2 x2 c2 Y) := hS
  have HBW : Hid (Below w.heap.size w w3) := chain HB2.out hb
  have HA : Hid (SetAt w3 a n cap X) := HA0.out.later HBW.out
  have HBs : Hid (SetAt w3 b m dap Y) := HB0.out.later HBW.out
  have HR : Hid (RdV w3 c r) := HR0.out.later HBW.out
  have hx1 : x1 = n := by rw [← HSX.out.len, HA.out.len]
  have hx2 : x2 = m := by rw [← HSY.out.len, HBs.out.len]
  subst hx1 hx2
  have HB : Hid (Below w3.heap.size w3 w3) := Below.refl _ _
  clear hZt hOt hS hb HB2 HA0 HB0 HR0
  go_wp2_with fail
  refine (zMakeO_any a1 x1 c1 X _ HSX.out.len (by omega) HSX.out.rd).mono ?_
  rintro e w4 hg
  obtain ⟨am, nm, cm, rfl, hS, hO, hb⟩ := givesW_at hg
  have HSM : Hid (SetAt w4 am nm cm (makeZ X).1) := hS
  have HOM : Hid (SpoilOK w4 w3.heap.size w4.heap.size am nm) := hO
  have HEM : Hid (w4.heap.size ≤ w4.heap.size) := Nat.le_refl _
  have nmb : nm ≤ 300 := by rw [← HSM.out.len]; exact HML.out
  clear hg hS hO
  replace HB : Hid (Below w3.heap.size w3 w4) := chain HB.out hb
  clear hb
  go_wp2_with fail
  refine (rMake_any a x1 cap X _ HA.out.len (by omega) HA.out.le HA.out.nil (HA.out.rd.later HB.out)).mono ?_
  rintro e w5 hg
  obtain ⟨an, nn, cn, rfl, hS, hb⟩ := givesZ_at hg
  replace HSM : Hid (SetAt w5 am nm cm (makeZ X).1) := HSM.out.later hb
  replace HOM : Hid (SpoilOK w5 w3.heap.size w4.heap.size am nm) := HOM.out.later HEM.out hb
  replace HEM : Hid (w4.heap.size ≤ w5.heap.size) := Nat.le_trans HEM.out hb.size
  have HSN : Hid (SetAt w5 an nn cn (makeZ X).1) := hS
  clear hg hS
  replace HB : Hid (Below w3.heap.size w3 w5) := chain HB.out hb
  clear hb
  generalize (makeZ X).2 = er at *
  generalize (makeZ X).1 = R at *
  go_wp2_with fail
  refine (same_c HSM.out HSN.out (by omega) rfl).mono ?_
  rintro e w6 ⟨rfl, hb⟩
  replace HSM : Hid (SetAt w6 am nm cm R) := HSM.out.later hb
  replace HOM : Hid (SpoilOK w6 w3.heap.size w4.heap.size am nm) := HOM.out.later HEM.out hb
  replace HEM : Hid (w4.heap.size ≤ w6.heap.size) := Nat.le_trans HEM.out hb.size
  replace HSN : Hid (SetAt w6 an nn cn R) := HSN.out.later hb
  replace HB : Hid (Below w3.heap.size w3 w6) := chain HB.out hb
  clear hb
  clear HSN
  go_wp2_with fail
  refine (zWeight_any a1 x1 c1 X c l eap r _ HSX.out.len (by omega) (HSX.out.rd.later HB.out) HRL.out (by omega) (HR.out.later HB.out)).mono ?_
  rintro e w7 ⟨rfl, hb⟩
  replace HSM : Hid (SetAt w7 am nm cm R) := HSM.out.later hb
  replace HOM : Hid (SpoilOK w7 w3.heap.size w4.heap.size am nm) := HOM.out.later HEM.out hb
  replace HEM : Hid (w4.heap.size ≤ w7.heap.size) := Nat.le_trans HEM.out hb.size
  replace HB : Hid (Below w3.heap.size w3 w7) := chain HB.out hb
  clear hb
  go_wp2_with fail
  refine (rWeight_any a x1 cap X c l eap r _ HA.out.len (by omega) (HA.out.rd.later HB.out) HRL.out (by omega) (HR.out.later HB.out)).mono ?_
  rintro e w8 ⟨rfl, hb⟩
  replace HSM : Hid (SetAt w8 am nm cm R) := HSM.out.later hb
  replace HOM : Hid (SpoilOK w8 w3.heap.size w4.heap.size am nm) := HOM.out.later HEM.out hb
  replace HEM : Hid (w4.heap.size ≤ w8.heap.size) := Nat.le_trans HEM.out hb.size
  replace HB : Hid (Below w3.heap.size w3 w8) := chain HB.out hb
  clear hb
  generalize weightZ X r = wx at *
  go_wp2_with fail
  refine (zSize_any a1 x1 c1 X _ HSX.out.len (by omega) (HSX.out.rd.later HB.out)).mono ?_
  rintro e w9 ⟨rfl, hb⟩
  replace HSM : Hid (SetAt w9 am nm cm R) := HSM.out.later hb
  replace HOM : Hid (SpoilOK w9 w3.heap.size w4.heap.size am nm) := HOM.out.later HEM.out hb
  replace HEM : Hid (w4.heap.size ≤ w9.heap.size) := Nat.le_trans HEM.out hb.size
  replace HB : Hid (Below w3.heap.size w3 w9) := chain HB.out hb
  clear hb
  go_wp2_with fail
  refine (lSize_any a x1 cap X _ HA.out.len (by omega) (HA.out.rd.later HB.out)).mono ?_
  rintro e w10 ⟨rfl, hb⟩
  replace HSM : Hid (SetAt w10 am nm cm R) := HSM.out.later hb
  replace HOM : Hid (SpoilOK w10 w3.heap.size w4.heap.size am nm) := HOM.out.later HEM.out hb
  replace HEM : Hid (w4.heap.size ≤ w10.heap.size) := Nat.le_trans HEM.out hb.size
  replace HB : Hid (Below w3.heap.size w3 w10) := chain HB.out hb
  clear hb
  generalize sizeZ X = sx at *
  go_wp2_with fail
  refine (spoil_c cm (by omega) HOM.out).mono ?_
  rintro e w11 ⟨rfl, hb, -⟩
  replace HB : Hid (Below w3.heap.size w3 w11) := HB.out.trans hb
  clear hb HOM HSM HEM
  have CPX := fun V (hb : Below w3.heap.size w3 V) => rSet_any a x1 cap X V HA.out.len (by omega) (HA.out.rd.later hb)
  have CPY := fun V (hb : Below w3.heap.size w3 V) => rSet_any b x2 dap Y V HBs.out.len (by omega) (HBs.out.rd.later hb)
  simp only [HPX.out] at CPX
  simp only [HPY.out] at CPY
  go_wp2_with fail
  refine (CPX _ HB.out).mono ?_
  rintro e w12 ⟨rfl, hb⟩
  replace HB : Hid (Below w3.heap.size w3 w12) := chain HB.out hb
  clear hb
  go_wp2_with fail
  refine (CPY _ HB.out).mono ?_
  rintro e w13 ⟨rfl, hb⟩
  replace HB : Hid (Below w3.heap.size w3 w13) := chain HB.out hb
  clear hb
  clear CPX CPY
  go_wp2_with fail
  refine (zAddO_any a1 a2 x1 x2 c1 c2 X Y _ HSX.out.len HSY.out.len (by omega) (by omega) HSX.out.le HSY.out.le HSX.out.nil HSY.out.nil (HSX.out.rd.later HB.out) (HSY.out.rd.later HB.out)).mono ?_
  rintro e w14 hg
  obtain ⟨a3, ns, cs, rfl, hS, hO, hb⟩ := givesW_at hg
  have HSS : Hid (SetAt w14 a3 ns cs (addZ X Y).1) := hS
  have HOS : Hid (SpoilOK w14 w13.heap.size w14.heap.size a3 ns) := hO
  have HES : Hid (w14.heap.size ≤ w14.heap.size) := Nat.le_refl _
  have HLS : Hid (w3.heap.size ≤ w13.heap.size) := HB.out.size
  have HEB : Hid (w13.heap.size ≤ w14.heap.size) := hb.size
  have nsb : ns ≤ 600 := by rw [← HSS.out.len]; exact HAL.out
  clear hg hS hO
  replace HB : Hid (Below w3.heap.size w3 w14) := chain HB.out hb
  clear hb
  have hadd : addZ X Y = ([], 1) := addZ_no (.inr HPY.out)
  rw [hadd] at HSS ⊢
  obtain rfl : ns = 0 := by rw [← HSS.out.len]; rfl
  clear hadd HSS
  go_wp2_with fail
  refine (zNegO_good a1 x1 c1 X _ HSX.out.len (by omega) (HSX.out.rd.later HB.out) HPX.out).mono ?_
  rintro e w15 hg
  obtain ⟨a4, nt, ct, rfl, hS, hO, hb⟩ := givesW_at hg
  replace HOS : Hid (SpoilOK w15 w13.heap.size w14.heap.size a3 0) := HOS.out.later HES.out hb
  replace HES : Hid (w14.heap.size ≤ w15.heap.size) := Nat.le_trans HES.out hb.size
  have HST : Hid (SetAt w15 a4 nt ct (negZ X)) := hS
  have HOT : Hid (SpoilOK w15 w14.heap.size w15.heap.size a4 nt) := hO
  have HET : Hid (w15.heap.size ≤ w15.heap.size) := Nat.le_refl _
  have HLT : Hid (w14.heap.size ≤ w14.heap.size) := Nat.le_refl _
  have ntb : nt ≤ 300 := by rw [← HST.out.len, negZ_len, HA.out.len]; omega
  clear hg hS hO
  replace HB : Hid (Below w3.heap.size w3 w15) := chain HB.out hb
  clear hb
  have CK := fun V (hb : Below w3.heap.size w3 V) => zCheck_any a1 x1 c1 X V HSX.out.len (by omega) (HSX.out.rd.later hb)
  simp only [chkZ_yes HPX.out] at CK
  go_wp2_with fail
  refine (CK _ HB.out).mono ?_
  rintro e w16 ⟨rfl, hb⟩
  replace HOS : Hid (SpoilOK w16 w13.heap.size w14.heap.size a3 0) := HOS.out.later HES.out hb
  replace HES : Hid (w14.heap.size ≤ w16.heap.size) := Nat.le_trans HES.out hb.size
  replace HST : Hid (SetAt w16 a4 nt ct (negZ X)) := HST.out.later hb
  replace HOT : Hid (SpoilOK w16 w14.heap.size w15.heap.size a4 nt) := HOT.out.later HET.out hb
  replace HET : Hid (w15.heap.size ≤ w16.heap.size) := Nat.le_trans HET.out hb.size
  replace HB : Hid (Below w3.heap.size w3 w16) := chain HB.out hb
  clear hb
  clear CK
  go_wp2_with fail
  refine (rNeg_any a x1 cap X _ HA.out.len (by omega) (HA.out.rd.later HB.out) HPX.out).mono ?_
  rintro e w17 ⟨a6, c6, rfl, hS, hb⟩
  replace HOS : Hid (SpoilOK w17 w13.heap.size w14.heap.size a3 0) := HOS.out.later HES.out hb
  replace HES : Hid (w14.heap.size ≤ w17.heap.size) := Nat.le_trans HES.out hb.size
  replace HST : Hid (SetAt w17 a4 nt ct (negZ X)) := HST.out.later hb
  replace HOT : Hid (SpoilOK w17 w14.heap.size w15.heap.size a4 nt) := HOT.out.later HET.out hb
  replace HET : Hid (w15.heap.size ≤ w17.heap.size) := Nat.le_trans HET.out hb.size
  have CQ := keepSet_any a4 a6 nt x1 ct c6 (negZ X) (negZ X) w17 HST.out.len (by rw [negZ_len]; exact HA.out.len) (by omega) (by omega) HST.out.rd hS
  rw [sameIs_yes rfl] at CQ
  clear hS
  replace HB : Hid (Below w3.heap.size w3 w17) := chain HB.out hb
  clear hb
  go_wp2_with fail
  refine (CQ).mono ?_
  rintro e w18 ⟨rfl, hb⟩
  replace HOS : Hid (SpoilOK w18 w13.heap.size w14.heap.size a3 0) := HOS.out.later HES.out hb
  replace HES : Hid (w14.heap.size ≤ w18.heap.size) := Nat.le_trans HES.out hb.size
  replace HST : Hid (SetAt w18 a4 nt ct (negZ X)) := HST.out.later hb
  replace HOT : Hid (SpoilOK w18 w14.heap.size w15.heap.size a4 nt) := HOT.out.later HET.out hb
  replace HET : Hid (w15.heap.size ≤ w18.heap.size) := Nat.le_trans HET.out hb.size
  replace HB : Hid (Below w3.heap.size w3 w18) := chain HB.out hb
  clear hb
  clear CQ HST
  go_wp2_with fail
  refine (spoil_c cs (by omega) HOS.out).mono ?_
  rintro e w19 ⟨rfl, hb, hk⟩
  replace HB : Hid (Below w3.heap.size w3 w19) := HB.out.trans (hb.mono HLS.out)
  replace HOT : Hid (SpoilOK w19 w14.heap.size w15.heap.size a4 nt) := HOT.out.kept fun b hb1 hb2 => hk b (Nat.le_trans HLT.out hb1)
  clear hb hk HOS HES
  go_wp2_with fail
  refine (spoil_c ct (by omega) HOT.out).mono ?_
  rintro e w20 ⟨rfl, hb, -⟩
  replace HB : Hid (Below w3.heap.size w3 w20) := HB.out.trans (hb.mono (Nat.le_trans (Nat.le_trans HLS.out HEB.out) HLT.out))
  clear hb HOT HET
  go_wp2_with fail
  refine (same_c (HSX.out.later HB.out) (HA.out.later HB.out) (by omega) rfl).mono ?_
  rintro e w21 ⟨rfl, hb⟩
  replace HB : Hid (Below w3.heap.size w3 w21) := chain HB.out hb
  clear hb
  go_wp2_with fail
  refine (same_c (HSY.out.later HB.out) (HBs.out.later HB.out) (by omega) rfl).mono ?_
  rintro e w22 ⟨rfl, hb⟩
  replace HB : Hid (Below w3.heap.size w3 w22) := chain HB.out hb
  clear hb
  go_wp2_with fail
  refine (zwakes_any _).mono ?_
  rintro e w23 ⟨rfl, hb⟩
  replace HB : Hid (Below w3.heap.size w3 w23) := chain HB.out hb
  clear hb
  go_wp2
  go_ret
  exact ⟨by simp, chain HBW.out HB.out⟩

set_option maxRecDepth 100000 in
set_option maxHeartbeats 16000000 in
theorem sexact_both (a b c : Option Addr) (n m l cap dap eap : Nat) (X Y : List PI) (r : List PV) (w : World) (hn : X.length = n) (hm : Y.length = m) (n1 : n ≤ 9223372036854775807) (n2 : m ≤ 9223372036854775807) (hX : RdJ w a X) (hY : RdJ w b Y) (hr : IsVals w c l eap r) (hcap : n ≤ cap) (hdap : m ≤ dap) (hnil : a = none → X = [] ∧ cap = 0) (hnil2 : b = none → Y = [] ∧ dap = 0) (hh : (heavyI X || heavyI Y) = false) (hv : (decide (40 < l) || heavyV r) = false) (hp : riseZ X = true) (hq : riseZ Y = true) :
    Calls Try.prog 3 #[.slice a n cap, .slice b m dap, .slice c l eap] w fun e w' => e = .returned (.bool true) ∧ Below w.heap.size w w' := by
  have C1 := heavyZ_any _ _ 2 2 _ _ rfl (by omega) (two_items w a b n m cap dap X Y hn hm n1 n2 hX hY)
  simp only [List.any_cons, List.any_nil, Bool.or_false] at C1
  have HB1 : Hid (Below w.heap.size w (w.alloc (.cells #[.slice a n cap, .slice b m dap] 22))) := alloc_below _ _
  have hls := hr.small
  obtain ⟨hr0, hrc, hrV, hrN⟩ := hr.vals
  have CH : Calls Try.prog 9 #[.slice c l eap] (w.alloc (.cells #[.slice a n cap, .slice b m dap] 22)) fun e w' => e = .returned (.bool (decide (40 < l) || heavyV r)) ∧ w' = w.alloc (.cells #[.slice a n cap, .slice b m dap] 22) := by
    by_cases h40 : 40 < l
    · simpa [h40] using heavy_long c l eap (w.alloc (.cells #[.slice a n cap, .slice b m dap] 22)) h40 hls
    · simpa [h40] using heavy_few c l eap r (w.alloc (.cells #[.slice a n cap, .slice b m dap] 22)) hr0 (by omega) (hrV.later HB1.out)
  have hl40 : l ≤ 40 := by
    simp at hv
    omega
  rw [hh] at C1
  rw [hv] at CH
  have hh' : heavyI X = false ∧ heavyI Y = false := by simpa using hh
  obtain ⟨hx3, hx4⟩ := heavyI_small hh'.1
  obtain ⟨hy3, hy4⟩ := heavyI_small hh'.2
  have hn3 : n ≤ 300 := by omega
  have hm3 : m ≤ 300 := by omega
  have HA0 : Hid (SetAt w a n cap X) := ⟨hn, hcap, hX.rdZ fun x hx => by have := hx4 x hx; omega, hnil⟩
  have HB0 : Hid (SetAt w b m dap Y) := ⟨hm, hdap, hY.rdZ fun x hx => by have := hy4 x hx; omega, hnil2⟩
  have HR0 : Hid (RdV w c r) := hrV
  have HRL : Hid (r.length = l) := hr0
  have HPX : Hid (riseZ X = true) := hp
  have HPY : Hid (riseZ Y = true) := hq
  have HML : Hid ((makeZ X).1.length ≤ 300) := by have := makeZ_len X; show _ ≤ _; omega
  have HAL : Hid ((addZ X Y).1.length ≤ 600) := by
    show _ ≤ _
    by_cases h1 : riseZ X = true
    · by_cases h2 : riseZ Y = true
      · rw [addZ_yes h1 h2]
        have := makeZ_len (X ++ Y)
        rw [List.length_append] at this
        omega
      · rw [addZ_no (.inr (by simpa using h2))]
        simp
    · rw [addZ_no (.inl (by simpa using h1))]
      simp
  clear hX hY hr hrV hrN hr0 hrc hn hm hh hv hh' hx3 hx4 hy3 hy4 hcap hdap hnil hnil2 hp hq n1 n2 hls
  go_enter Try.func3, Try.ntmps3
  go_wp2_with fail
  refine C1.mono ?_
  rintro e w1 ⟨rfl, hw⟩
  subst hw
  clear C1
  go_wp2_with fail
  refine CH.mono ?_
  rintro e w1 ⟨rfl, hw⟩
  subst hw
  clear CH
  go_wp2_with fail
  refine (twinSet_any a n cap X _ HA0.out.len (by omega) (HA0.out.rd.later HB1.out)).mono ?_
  rintro e w2 ⟨v, Zt, rfl, hZt, hOt, hb⟩
  obtain ⟨a1, x1, c1, rfl, hS⟩ := SetAt.of_row hOt.1 hZt
  have HSX : Hid (SetAt w2 a1 x1 c1 X) := hS
  have HB2 : Hid (Below w.heap.size w w2) := chain HB1.out hb
  clear hZt hOt hS hb HB1
  go_wp2_with fail
  refine (twinSet_any b m dap Y _ HB0.out.len (by omega) (HB0.out.rd.later HB2.out)).mono ?_
  rintro e w3 ⟨v, Zt, rfl, hZt, hOt, hb⟩
  obtain ⟨a2, x2, c2, rfl, hS⟩ := SetAt.of_row hOt.1 hZt
  replace HSX : Hid (SetAt w3 a1 x1 c1 X) := HSX.out.later hb
  have HSY : Hid (SetAt w3 a2 x2 c2 Y) := hS
  have HBW : Hid (Below w.heap.size w w3) := chain HB2.out hb
  have HA : Hid (SetAt w3 a n cap X) := HA0.out.later HBW.out
  have HBs : Hid (SetAt w3 b m dap Y) := HB0.out.later HBW.out
  have HR : Hid (RdV w3 c r) := HR0.out.later HBW.out
  have hx1 : x1 = n := by rw [← HSX.out.len, HA.out.len]
  have hx2 : x2 = m := by rw [← HSY.out.len, HBs.out.len]
  subst hx1 hx2
  have HB : Hid (Below w3.heap.size w3 w3) := Below.refl _ _
  clear hZt hOt hS hb HB2 HA0 HB0 HR0
  go_wp2_with fail
  refine (zMakeO_any a1 x1 c1 X _ HSX.out.len (by omega) HSX.out.rd).mono ?_
  rintro e w4 hg
  obtain ⟨am, nm, cm, rfl, hS, hO, hb⟩ := givesW_at hg
  have HSM : Hid (SetAt w4 am nm cm (makeZ X).1) := hS
  have HOM : Hid (SpoilOK w4 w3.heap.size w4.heap.size am nm) := hO
  have HEM : Hid (w4.heap.size ≤ w4.heap.size) := Nat.le_refl _
  have nmb : nm ≤ 300 := by rw [← HSM.out.len]; exact HML.out
  clear hg hS hO
  replace HB : Hid (Below w3.heap.size w3 w4) := chain HB.out hb
  clear hb
  go_wp2_with fail
  refine (rMake_any a x1 cap X _ HA.out.len (by omega) HA.out.le HA.out.nil (HA.out.rd.later HB.out)).mono ?_
  rintro e w5 hg
  obtain ⟨an, nn, cn, rfl, hS, hb⟩ := givesZ_at hg
  replace HSM : Hid (SetAt w5 am nm cm (makeZ X).1) := HSM.out.later hb
  replace HOM : Hid (SpoilOK w5 w3.heap.size w4.heap.size am nm) := HOM.out.later HEM.out hb
  replace HEM : Hid (w4.heap.size ≤ w5.heap.size) := Nat.le_trans HEM.out hb.size
  have HSN : Hid (SetAt w5 an nn cn (makeZ X).1) := hS
  clear hg hS
  replace HB : Hid (Below w3.heap.size w3 w5) := chain HB.out hb
  clear hb
  generalize (makeZ X).2 = er at *
  generalize (makeZ X).1 = R at *
  go_wp2_with fail
  refine (same_c HSM.out HSN.out (by omega) rfl).mono ?_
  rintro e w6 ⟨rfl, hb⟩
  replace HSM : Hid (SetAt w6 am nm cm R) := HSM.out.later hb
  replace HOM : Hid (SpoilOK w6 w3.heap.size w4.heap.size am nm) := HOM.out.later HEM.out hb
  replace HEM : Hid (w4.heap.size ≤ w6.heap.size) := Nat.le_trans HEM.out hb.size
  replace HSN : Hid (SetAt w6 an nn cn R) := HSN.out.later hb
  replace HB : Hid (Below w3.heap.size w3 w6) := chain HB.out hb
  clear hb
  clear HSN
  go_wp2_with fail
  refine (zWeight_any a1 x1 c1 X c l eap r _ HSX.out.len (by omega) (HSX.out.rd.later HB.out) HRL.out (by omega) (HR.out.later HB.out)).mono ?_
  rintro e w7 ⟨rfl, hb⟩
  replace HSM : Hid (SetAt w7 am nm cm R) := HSM.out.later hb
  replace HOM : Hid (SpoilOK w7 w3.heap.size w4.heap.size am nm) := HOM.out.later HEM.out hb
  replace HEM : Hid (w4.heap.size ≤ w7.heap.size) := Nat.le_trans HEM.out hb.size
  replace HB : Hid (Below w3.heap.size w3 w7) := chain HB.out hb
  clear hb
  go_wp2_with fail
  refine (rWeight_any a x1 cap X c l eap r _ HA.out.len (by omega) (HA.out.rd.later HB.out) HRL.out (by omega) (HR.out.later HB.out)).mono ?_
  rintro e w8 ⟨rfl, hb⟩
  replace HSM : Hid (SetAt w8 am nm cm R) := HSM.out.later hb
  replace HOM : Hid (SpoilOK w8 w3.heap.size w4.heap.size am nm) := HOM.out.later HEM.out hb
  replace HEM : Hid (w4.heap.size ≤ w8.heap.size) := Nat.le_trans HEM.out hb.size
  replace HB : Hid (Below w3.heap.size w3 w8) := chain HB.out hb
  clear hb
  generalize weightZ X r = wx at *
  go_wp2_with fail
  refine (zSize_any a1 x1 c1 X _ HSX.out.len (by omega) (HSX.out.rd.later HB.out)).mono ?_
  rintro e w9 ⟨rfl, hb⟩
  replace HSM : Hid (SetAt w9 am nm cm R) := HSM.out.later hb
  replace HOM : Hid (SpoilOK w9 w3.heap.size w4.heap.size am nm) := HOM.out.later HEM.out hb
  replace HEM : Hid (w4.heap.size ≤ w9.heap.size) := Nat.le_trans HEM.out hb.size
  replace HB : Hid (Below w3.heap.size w3 w9) := chain HB.out hb
  clear hb
  go_wp2_with fail
  refine (lSize_any a x1 cap X _ HA.out.len (by omega) (HA.out.rd.later HB.out)).mono ?_
  rintro e w10 ⟨rfl, hb⟩
  replace HSM : Hid (SetAt w10 am nm cm R) := HSM.out.later hb
  replace HOM : Hid (SpoilOK w10 w3.heap.size w4.heap.size am nm) := HOM.out.later HEM.out hb
  replace HEM : Hid (w4.heap.size ≤ w10.heap.size) := Nat.le_trans HEM.out hb.size
  replace HB : Hid (Below w3.heap.size w3 w10) := chain HB.out hb
  clear hb
  generalize sizeZ X = sx at *
  go_wp2_with fail
  refine (spoil_c cm (by omega) HOM.out).mono ?_
  rintro e w11 ⟨rfl, hb, -⟩
  replace HB : Hid (Below w3.heap.size w3 w11) := HB.out.trans hb
  clear hb HOM HSM HEM
  have CPX := fun V (hb : Below w3.heap.size w3 V) => rSet_any a x1 cap X V HA.out.len (by omega) (HA.out.rd.later hb)
  have CPY := fun V (hb : Below w3.heap.size w3 V) => rSet_any b x2 dap Y V HBs.out.len (by omega) (HBs.out.rd.later hb)
  simp only [HPX.out] at CPX
  simp only [HPY.out] at CPY
  go_wp2_with fail
  refine (CPX _ HB.out).mono ?_
  rintro e w12 ⟨rfl, hb⟩
  replace HB : Hid (Below w3.heap.size w3 w12) := chain HB.out hb
  clear hb
  go_wp2_with fail
  refine (CPY _ HB.out).mono ?_
  rintro e w13 ⟨rfl, hb⟩
  replace HB : Hid (Below w3.heap.size w3 w13) := chain HB.out hb
  clear hb
  clear CPX CPY
  go_wp2_with fail
  refine (zAddO_any a1 a2 x1 x2 c1 c2 X Y _ HSX.out.len HSY.out.len (by omega) (by omega) HSX.out.le HSY.out.le HSX.out.nil HSY.out.nil (HSX.out.rd.later HB.out) (HSY.out.rd.later HB.out)).mono ?_
  rintro e w14 hg
  obtain ⟨a3, ns, cs, rfl, hS, hO, hb⟩ := givesW_at hg
  have HSS : Hid (SetAt w14 a3 ns cs (addZ X Y).1) := hS
  have HOS : Hid (SpoilOK w14 w13.heap.size w14.heap.size a3 ns) := hO
  have HES : Hid (w14.heap.size ≤ w14.heap.size) := Nat.le_refl _
  have HLS : Hid (w3.heap.size ≤ w13.heap.size) := HB.out.size
  have HEB : Hid (w13.heap.size ≤ w14.heap.size) := hb.size
  have nsb : ns ≤ 600 := by rw [← HSS.out.len]; exact HAL.out
  clear hg hS hO
  replace HB : Hid (Below w3.heap.size w3 w14) := chain HB.out hb
  clear hb
  have hadd : addZ X Y = makeZ (X ++ Y) := addZ_yes HPX.out HPY.out
  rw [hadd] at HSS ⊢
  clear hadd
  go_wp2_with fail
  refine (zNegO_good a1 x1 c1 X _ HSX.out.len (by omega) (HSX.out.rd.later HB.out) HPX.out).mono ?_
  rintro e w15 hg
  obtain ⟨a4, nt, ct, rfl, hS, hO, hb⟩ := givesW_at hg
  replace HSS : Hid (SetAt w15 a3 ns cs (makeZ (X ++ Y)).1) := HSS.out.later hb
  replace HOS : Hid (SpoilOK w15 w13.heap.size w14.heap.size a3 ns) := HOS.out.later HES.out hb
  replace HES : Hid (w14.heap.size ≤ w15.heap.size) := Nat.le_trans HES.out hb.size
  have HST : Hid (SetAt w15 a4 nt ct (negZ X)) := hS
  have HOT : Hid (SpoilOK w15 w14.heap.size w15.heap.size a4 nt) := hO
  have HET : Hid (w15.heap.size ≤ w15.heap.size) := Nat.le_refl _
  have HLT : Hid (w14.heap.size ≤ w14.heap.size) := Nat.le_refl _
  have ntb : nt ≤ 300 := by rw [← HST.out.len, negZ_len, HA.out.len]; omega
  clear hg hS hO
  replace HB : Hid (Below w3.heap.size w3 w15) := chain HB.out hb
  clear hb
  have CK := fun V (hb : Below w3.heap.size w3 V) => zCheck_any a1 x1 c1 X V HSX.out.len (by omega) (HSX.out.rd.later hb)
  simp only [chkZ_yes HPX.out] at CK
  go_wp2_with fail
  refine (CK _ HB.out).mono ?_
  rintro e w16 ⟨rfl, hb⟩
  replace HSS : Hid (SetAt w16 a3 ns cs (makeZ (X ++ Y)).1) := HSS.out.later hb
  replace HOS : Hid (SpoilOK w16 w13.heap.size w14.heap.size a3 ns) := HOS.out.later HES.out hb
  replace HES : Hid (w14.heap.size ≤ w16.heap.size) := Nat.le_trans HES.out hb.size
  replace HST : Hid (SetAt w16 a4 nt ct (negZ X)) := HST.out.later hb
  replace HOT : Hid (SpoilOK w16 w14.heap.size w15.heap.size a4 nt) := HOT.out.later HET.out hb
  replace HET : Hid (w15.heap.size ≤ w16.heap.size) := Nat.le_trans HET.out hb.size
  replace HB : Hid (Below w3.heap.size w3 w16) := chain HB.out hb
  clear hb
  clear CK
  go_wp2_with fail
  refine (rAdd_any a b x1 x2 cap dap X Y _ HA.out.len HBs.out.len (by omega) (by omega) HA.out.le HBs.out.le HA.out.nil HBs.out.nil (HA.out.rd.later HB.out) (HBs.out.rd.later HB.out)).mono ?_
  rintro e w17 hg
  obtain ⟨a5, nw, cw, rfl, hS, hb⟩ := givesZ_at hg
  replace HSS : Hid (SetAt w17 a3 ns cs (makeZ (X ++ Y)).1) := HSS.out.later hb
  replace HOS : Hid (SpoilOK w17 w13.heap.size w14.heap.size a3 ns) := HOS.out.later HES.out hb
  replace HES : Hid (w14.heap.size ≤ w17.heap.size) := Nat.le_trans HES.out hb.size
  replace HST : Hid (SetAt w17 a4 nt ct (negZ X)) := HST.out.later hb
  replace HOT : Hid (SpoilOK w17 w14.heap.size w15.heap.size a4 nt) := HOT.out.later HET.out hb
  replace HET : Hid (w15.heap.size ≤ w17.heap.size) := Nat.le_trans HET.out hb.size
  have HSW : Hid (SetAt w17 a5 nw cw (makeZ (X ++ Y)).1) := hS
  clear hg hS
  replace HB : Hid (Below w3.heap.size w3 w17) := chain HB.out hb
  clear hb
  generalize (makeZ (X ++ Y)).2 = er2 at *
  generalize (makeZ (X ++ Y)).1 = R2 at *
  go_wp2_with fail
  refine (same_c HSS.out HSW.out (by omega) rfl).mono ?_
  rintro e w18 ⟨rfl, hb⟩
  replace HSS : Hid (SetAt w18 a3 ns cs R2) := HSS.out.later hb
  replace HOS : Hid (SpoilOK w18 w13.heap.size w14.heap.size a3 ns) := HOS.out.later HES.out hb
  replace HES : Hid (w14.heap.size ≤ w18.heap.size) := Nat.le_trans HES.out hb.size
  replace HST : Hid (SetAt w18 a4 nt ct (negZ X)) := HST.out.later hb
  replace HOT : Hid (SpoilOK w18 w14.heap.size w15.heap.size a4 nt) := HOT.out.later HET.out hb
  replace HET : Hid (w15.heap.size ≤ w18.heap.size) := Nat.le_trans HET.out hb.size
  replace HSW : Hid (SetAt w18 a5 nw cw R2) := HSW.out.later hb
  replace HB : Hid (Below w3.heap.size w3 w18) := chain HB.out hb
  clear hb
  clear HSW HSS
  go_wp2_with fail
  refine (rNeg_any a x1 cap X _ HA.out.len (by omega) (HA.out.rd.later HB.out) HPX.out).mono ?_
  rintro e w19 ⟨a6, c6, rfl, hS, hb⟩
  replace HOS : Hid (SpoilOK w19 w13.heap.size w14.heap.size a3 ns) := HOS.out.later HES.out hb
  replace HES : Hid (w14.heap.size ≤ w19.heap.size) := Nat.le_trans HES.out hb.size
  replace HST : Hid (SetAt w19 a4 nt ct (negZ X)) := HST.out.later hb
  replace HOT : Hid (SpoilOK w19 w14.heap.size w15.heap.size a4 nt) := HOT.out.later HET.out hb
  replace HET : Hid (w15.heap.size ≤ w19.heap.size) := Nat.le_trans HET.out hb.size
  have CQ := keepSet_any a4 a6 nt x1 ct c6 (negZ X) (negZ X) w19 HST.out.len (by rw [negZ_len]; exact HA.out.len) (by omega) (by omega) HST.out.rd hS
  rw [sameIs_yes rfl] at CQ
  clear hS
  replace HB : Hid (Below w3.heap.size w3 w19) := chain HB.out hb
  clear hb
  go_wp2_with fail
  refine (CQ).mono ?_
  rintro e w20 ⟨rfl, hb⟩
  replace HOS : Hid (SpoilOK w20 w13.heap.size w14.heap.size a3 ns) := HOS.out.later HES.out hb
  replace HES : Hid (w14.heap.size ≤ w20.heap.size) := Nat.le_trans HES.out hb.size
  replace HST : Hid (SetAt w20 a4 nt ct (negZ X)) := HST.out.later hb
  replace HOT : Hid (SpoilOK w20 w14.heap.size w15.heap.size a4 nt) := HOT.out.later HET.out hb
  replace HET : Hid (w15.heap.size ≤ w20.heap.size) := Nat.le_trans HET.out hb.size
  replace HB : Hid (Below w3.heap.size w3 w20) := chain HB.out hb
  clear hb
  clear CQ HST
  go_wp2_with fail
  refine (spoil_c cs (by omega) HOS.out).mono ?_
  rintro e w21 ⟨rfl, hb, hk⟩
  replace HB : Hid (Below w3.heap.size w3 w21) := HB.out.trans (hb.mono HLS.out)
  replace HOT : Hid (SpoilOK w21 w14.heap.size w15.heap.size a4 nt) := HOT.out.kept fun b hb1 hb2 => hk b (Nat.le_trans HLT.out hb1)
  clear hb hk HOS HES
  go_wp2_with fail
  refine (spoil_c ct (by omega) HOT.out).mono ?_
  rintro e w22 ⟨rfl, hb, -⟩
  replace HB : Hid (Below w3.heap.size w3 w22) := HB.out.trans (hb.mono (Nat.le_trans (Nat.le_trans HLS.out HEB.out) HLT.out))
  clear hb HOT HET
  go_wp2_with fail
  refine (same_c (HSX.out.later HB.out) (HA.out.later HB.out) (by omega) rfl).mono ?_
  rintro e w23 ⟨rfl, hb⟩
  replace HB : Hid (Below w3.heap.size w3 w23) := chain HB.out hb
  clear hb
  go_wp2_with fail
  refine (same_c (HSY.out.later HB.out) (HBs.out.later HB.out) (by omega) rfl).mono ?_
  rintro e w24 ⟨rfl, hb⟩
  replace HB : Hid (Below w3.heap.size w3 w24) := chain HB.out hb
  clear hb
  go_wp2_with fail
  refine (zwakes_any _).mono ?_
  rintro e w25 ⟨rfl, hb⟩
  replace HB : Hid (Below w3.heap.size w3 w25) := chain HB.out hb
  clear hb
  go_wp2
  go_ret
  exact ⟨by simp, chain HBW.out HB.out⟩

theorem sexact_any (a b c : Option Addr) (n m l cap dap eap : Nat) (X Y : List PI) (r : List PV) (w : World) (hn : X.length = n) (hm : Y.length = m) (n1 : n ≤ 9223372036854775807) (n2 : m ≤ 9223372036854775807) (hX : RdJ w a X) (hY : RdJ w b Y) (hr : IsVals w c l eap r) (hcap : n ≤ cap) (hdap : m ≤ dap) (hnil : a = none → X = [] ∧ cap = 0) (hnil2 : b = none → Y = [] ∧ dap = 0) :
    Calls Try.prog 3 #[.slice a n cap, .slice b m dap, .slice c l eap] w fun e w' => e = .returned (.bool true) ∧ Below w.heap.size w w' := by
  cases hh : (heavyI X || heavyI Y) with
  | true => exact sexact_heavy a b c n m l cap dap eap X Y r w hn hm n1 n2 hX hY hr hh
  | false =>
    cases hv : (decide (40 < l) || heavyV r) with
    | true => exact sexact_row a b c n m l cap dap eap X Y r w hn hm n1 n2 hX hY hr hh hv
    | false =>
      cases hp : riseZ X with
      | false => exact sexact_no _ a b c n m l cap dap eap X Y r w hn hm n1 n2 hX hY hr hcap hdap hnil hnil2 hh hv hp rfl
      | true =>
        cases hq : riseZ Y with
        | false => exact sexact_half a b c n m l cap dap eap X Y r w hn hm n1 n2 hX hY hr hcap hdap hnil hnil2 hh hv hp hq
        | true => exact sexact_both a b c n m l cap dap eap X Y r w hn hm n1 n2 hX hY hr hcap hdap hnil hnil2 hh hv hp hq

end Go.Proofs.Ytajlkaedkifaoaa
