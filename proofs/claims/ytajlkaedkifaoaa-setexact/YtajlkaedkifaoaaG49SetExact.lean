/-
  Texts of the proof of SetExact, one behind the other.
-/
import Derived.Test.YtajlkaedkifaoaaRows
import Derived.Test.YtajlkaedkifaoaaG47SetExact
import Derived.Test.YtajlkaedkifaoaaG48SetExact
import Derived.Test.YtajlkaedkifaoaaG45SetExact
namespace Go.Proofs.Ytajlkaedkifaoaa
open Go.RowKit Go.Lib
set_option linter.unusedVariables false

theorem gather_len : ∀ (n : Nat) {X R : List PI}, X.length ≤ n → gatherZ X = some R → R.length ≤ X.length
  | n, [], R, _, h => by
    simp only [gatherZ, Option.some.injEq] at h
    subst h
    exact Nat.le_refl _
  | 0, x :: X, R, hn, _ => by simp at hn
  | n + 1, x :: X, R, hn, h => by
    rw [gatherZ] at h
    split at h
    · rw [Option.map_eq_some_iff] at h
      obtain ⟨S, hS, e⟩ := h
      have h1 := rest_len x X
      have h2 := gather_len n (by simp at hn; omega) hS
      subst e
      split
      · simp
        omega
      · simp
        omega
    · cases h

theorem make_cases (X : List PI) : (∃ R, makeZ X = (R, 0) ∧ riseZ R = true ∧ R.length ≤ X.length) ∨ makeZ X = ([], 1) ∨ makeZ X = ([], 11) := by
  unfold makeZ
  by_cases h : X.all okI = true
  · rw [if_pos h]
    cases hg : gatherZ (sortZ X) with
    | none => exact .inr (.inr rfl)
    | some R =>
      refine .inl ⟨R, rfl, ?_, ?_⟩
      · obtain ⟨h1, h2, -⟩ := gather_spec _ (Nat.le_refl _) (sortZ_sorted X) hg
        refine riseZ_iff.2 ⟨fun r hr => ?_, h1⟩
        obtain ⟨-, h4, h5, x, hx, e⟩ := h2 r hr
        have hx' : x ∈ X := (sortZ_perm X).mem_iff.1 hx
        have := List.all_eq_true.1 h x hx'
        refine ⟨?_, h4⟩
        unfold okI at this ⊢
        rw [e] at this
        rw [h5, Bool.and_true]
        rw [Bool.and_eq_true] at this
        exact this.1
      · have := gather_len _ (Nat.le_refl _) hg
        rw [(sortZ_perm X).length_eq] at this
        exact this
  · rw [if_neg h]
    exact .inr (.inl rfl)

theorem weight_there {R : List PI} {r : List PV} (h : riseZ R = true) : (R.any fun x => sameVs x.row r) = true ↔ weightZ R r ≠ 0 := by
  obtain ⟨h1, -⟩ := riseZ_iff.1 h
  clear h
  induction R with
  | nil => simp [weightZ]
  | cons x R ih =>
    rw [List.any_cons, weightZ]
    by_cases hx : cmpR x.row r = 0
    · rw [if_pos hx, (sameVs_iff _ _).2 ((cmpR_zero _ _).1 hx)]
      have := (h1 x (by simp)).2
      simpa using this
    · rw [if_neg hx]
      have hs : sameVs x.row r = false := by
        cases hc : sameVs x.row r with
        | false => rfl
        | true => exact absurd ((cmpR_zero _ _).2 ((sameVs_iff _ _).1 hc)) hx
      rw [hs, Bool.false_or]
      exact ih fun y hy => h1 y (List.mem_cons_of_mem _ hy)

theorem three_blocks (w : World) (A B C : Obj) : (((w.alloc A).alloc B).alloc C).heap[w.heap.size + 1]? = some B ∧ (((w.alloc A).alloc B).alloc C).heap[w.heap.size + 1 + 1]? = some C := by
  have e : (((w.alloc A).alloc B).alloc C).heap = ((w.heap.push A).push B).push C := rfl
  rw [e]
  refine ⟨?_, ?_⟩
  · simp only [Array.getElem?_push, Array.size_push]
    rw [if_neg (by omega), if_pos trivial]
  · simp only [Array.getElem?_push, Array.size_push]
    rw [if_pos trivial]

/-- A slice of one slice of Items, new. -/
theorem lone_items (w : World) (a : Option Addr) (n cap : Nat) (X : List PI) (hn : X.length = n) (hl : n ≤ 9223372036854775807) (h : RdJ w a X) : RdSl (w.alloc (.cells #[.slice a n cap] 22)) w.heap.size 0 [(a, cap, X)] := by
  intro i hi
  obtain rfl : i = 0 := by simpa using hi
  subst hn
  refine ⟨?_, hl, h.later (alloc_below _ _)⟩
  simp only [World.cell?, new_block]
  rfl

/-- .. and of one of one Item that has no weight. -/
theorem lone_row (w : World) (ar : Option Addr) (nr cr : Nat) (r : List PV) (hn : r.length = nr) (hl : nr ≤ 9223372036854775807) (hc : nr ≤ cr) (hnil : ar = none → r = [] ∧ cr = 0) (h : RdV w ar r) (O : Obj) : RdSl (((w.alloc O).alloc (.cells #[.slice ar nr cr, .int .i64 0] 40)).alloc (.cells #[.slice (some ⟨w.heap.size + 1, 0, none⟩) 1 1] 22)) (w.heap.size + 1 + 1) 0 [(some ⟨w.heap.size + 1, 0, none⟩, 1, [⟨r, 0⟩])] ∧ Below w.heap.size w (((w.alloc O).alloc (.cells #[.slice ar nr cr, .int .i64 0] 40)).alloc (.cells #[.slice (some ⟨w.heap.size + 1, 0, none⟩) 1 1] 22)) := by
  have hb : Below w.heap.size w (((w.alloc O).alloc (.cells #[.slice ar nr cr, .int .i64 0] 40)).alloc (.cells #[.slice (some ⟨w.heap.size + 1, 0, none⟩) 1 1] 22)) := chain (chain (alloc_below _ _) (alloc_below _ _)) (alloc_below _ _)
  obtain ⟨k1, k2⟩ := three_blocks w O (.cells #[.slice ar nr cr, .int .i64 0] 40) (.cells #[.slice (some ⟨w.heap.size + 1, 0, none⟩) 1 1] 22)
  refine ⟨?_, hb⟩
  generalize ((w.alloc O).alloc (.cells #[.slice ar nr cr, .int .i64 0] 40)).alloc (.cells #[.slice (some ⟨w.heap.size + 1, 0, none⟩) 1 1] 22) = V at *
  intro i hi
  obtain rfl : i = 0 := by simpa using hi
  subst hn
  refine ⟨?_, (show 1 ≤ 9223372036854775807 by omega), fun _ => ⟨w.heap.size + 1, 0, rfl, fun i hi => ?_⟩⟩
  · simp only [World.cell?, k2]
    rfl
  · obtain rfl : i = 0 := by simpa using hi
    refine ⟨ar, cr, ?_, ?_, ⟨h.later hb, hl, hc, hnil, by show In64 0; unfold In64; omega⟩⟩
    · simp only [World.cell?, k1]
      rfl
    · simp only [World.cell?, k1]
      rfl

end Go.Proofs.Ytajlkaedkifaoaa

namespace Go.Proofs.Ytajlkaedkifaoaa
open Go.RowKit Go.Lib
set_option linter.unusedVariables false

/-- What Tame makes its set of. -/
def tameL (X : List PI) (k : Nat) : List PI := ((X.take k).filter fun x => decide (chkR x.row = 0)).map fun x => ⟨x.row, x.wt.tmod 100⟩

theorem tame_yes {X : List PI} {k : Nat} (hk : k < X.length) (h : chkR X[k].row = 0) : tameL X (k + 1) = tameL X k ++ [⟨X[k].row, X[k].wt.tmod 100⟩] := by
  unfold tameL
  rw [List.take_succ_eq_append_getElem hk, List.filter_append, List.map_append]
  simp [h]

theorem tame_no {X : List PI} {k : Nat} (hk : k < X.length) (h : chkR X[k].row ≠ 0) : tameL X (k + 1) = tameL X k := by
  unfold tameL
  rw [List.take_succ_eq_append_getElem hk, List.filter_append, List.map_append]
  simp [h]

theorem tame_end {X : List PI} {k : Nat} (h : X.length ≤ k) (h6 : k ≤ 60) : tameL X k = tameL X 60 := by
  unfold tameL
  rw [List.take_of_length_le h, List.take_of_length_le (by omega)]

theorem LiesZ.tame {E : Nat → Prop} {w : World} {ra : Option Addr} {rn rc : Nat} {p : Int} {x : PI} (h : LiesZ E w [.slice ra rn rc, .int .i64 p] x) : LiesZ E w [.slice ra rn rc, .int .i64 (p.tmod 100)] ⟨x.row, p.tmod 100⟩ := by
  obtain ⟨a, cap, e, h1, h2, h3, h4, h5, h6⟩ := h
  cases e
  refine ⟨ra, rc, rfl, h1, h2, h3, h4, ?_, h6⟩
  show In64 (x.wt.tmod 100)
  have b1 := Int.tmod_lt_of_pos x.wt (show (0 : Int) < 100 by omega)
  have b2 : -100 < x.wt.tmod 100 := by
    have := Int.tmod_lt_of_pos (-x.wt) (show (0 : Int) < 100 by omega)
    rw [Int.neg_tmod] at this
    omega
  unfold In64
  omega

theorem keep2B {W w w' : World} {b o0 o1 : Nat} {x0 x1 : Value} (hb : Below W.heap.size w w') (h : w.cell? ⟨b, o0, none⟩ = some x0 ∧ w.cell? ⟨b, o1, none⟩ = some x1 ∧ b < W.heap.size ∧ Hid (Below W.heap.size W w)) :
    w'.cell? ⟨b, o0, none⟩ = some x0 ∧ w'.cell? ⟨b, o1, none⟩ = some x1 ∧ b < W.heap.size ∧ Hid (Below W.heap.size W w') := by
  obtain ⟨h0, h1, h2, h3⟩ := h
  refine ⟨?_, ?_, h2, h3.out.trans hb⟩
  · rw [World.cell?_of_block (hb.block b h2)]
    exact h0
  · rw [World.cell?_of_block (hb.block b h2)]
    exact h1

set_option maxRecDepth 100000 in
set_option maxHeartbeats 8000000 in
theorem tame_any (a : Option Addr) (n cap : Nat) (X : List PI) (w : World) (hn : X.length = n) (h4 : n ≤ 65536) (hr : RdZ w a X) :
    Calls Try.prog 26 #[.slice a n cap] w fun e w' => ∃ v Z, e = .returned v ∧ Z.map (·.2) = (makeZ (tameL X 60)).1 ∧ RowZ w' w.heap.size v Z ∧ Below w.heap.size w w' := by
  have HN : Hid (X.length = n) := hn
  have HR : Hid (RdZ w a X) := hr
  clear hn hr
  go_enter Try.func26, Try.ntmps26
  go_wp2
  go_loopw [3, 4] (fun v i wr => ∃ (k : Nat) (Z : List (List Value × PI)) (ao : Option Addr) (co : Nat), k ≤ n ∧ k ≤ 60 ∧ v = .slice ao Z.length co ∧ i = .int .i64 k ∧ Hid (Z.map (·.2) = tameL X k) ∧ Hid (SharedZ wr w.heap.size (.slice ao Z.length co) Z) ∧ Hid (Below w.heap.size w wr) ∧ Z.length ≤ k) (fun _ i _ => n - (RowKit.intOf i).toNat)
  case atStart => exact ⟨0, [], none, 0, Nat.zero_le _, by omega, rfl, rfl, rfl, ⟨OwnK.nought _ _ _ _, fun z hz => by cases hz⟩, Below.refl _ _, Nat.le_refl _⟩
  case round =>
    obtain ⟨k, Z, ao, co, hk, h60, rfl, rfl, hT, hO, hB, hZk⟩ := hrel
    by_cases hlt : k < n ∧ k < 60
    · have hkl : k < X.length := by rw [HN.out]; exact hlt.1
      have l1 : decide ((k : Int) < (n : Int)) = true := decide_eq_true (by omega)
      have l2 : decide ((k : Int) < 60) = true := decide_eq_true (by omega)
      obtain ⟨b, off, ra, rc, rfl, x0, x1, hz⟩ := HR.out.at_ hkl
      have hzs : LiesZ (fun b => w.heap.size ≤ b) w [.slice ra X[k].row.length rc, .int .i64 X[k].wt] X[k] := (hz.now).less fun b hb => .inr hb
      have CR : Calls Try.prog 27 #[.slice ra X[k].row.length rc] wr fun e w' => e = .returned (.int .i64 (chkR X[k].row)) ∧ Below wr.heap.size wr w' := by
        obtain ⟨a1, c1, e1, r1, l1, -⟩ := hz.later hB.out
        cases e1
        exact rRow_any ra _ rc X[k].row wr rfl l1 r1
      have HY : Hid (chkR X[k].row = 0 → tameL X (k + 1) = tameL X k ++ [⟨X[k].row, X[k].wt.tmod 100⟩]) := fun h => tame_yes hkl h
      have HNO : Hid (chkR X[k].row ≠ 0 → tameL X (k + 1) = tameL X k) := fun h => tame_no hkl h
      have HZS : Hid (LiesZ (fun b => w.heap.size ≤ b) w [.slice ra X[k].row.length rc, .int .i64 (X[k].wt.tmod 100)] ⟨X[k].row, X[k].wt.tmod 100⟩) := hzs.tame
      have hbl : b < w.heap.size := cellZ_lt x0
      have X0 := cell_later hB.out x0
      have X1 := cell_later hB.out x1
      clear hz hzs x0 x1
      generalize chkR X[k].row = c at *
      generalize hrow : X[k].row = row at *
      generalize X[k].wt = p at *
      generalize hrn : row.length = rn at *
      clear hrow hkl
      by_cases hc : c = 0
      · subst hc
        have HT2 : Hid _ := HY.out rfl
        clear HY HNO
        go_wp2_with fail
        refine CR.mono ?_
        rintro e w1 ⟨rfl, hb1⟩
        have Y0 := cell_later hb1 X0
        have Y1 := cell_later hb1 X1
        have HBD : Below wr.heap.size wr w1.drew := hb1.drew
        have hO1 := hO.out.later HBD
        have hB1 : Below w.heap.size w w1.drew := chain hB.out HBD
        obtain ⟨zn, hzn⟩ : ∃ z : List Value × PI, z = ([.slice ra rn rc, .int .i64 (p.tmod 100)], ⟨row, p.tmod 100⟩) := ⟨_, rfl⟩
        obtain ⟨a', c', w6, hrun, hO6, hb6⟩ := shared_one (w := w1.drew) 22 (z := zn) hO1 rfl (by omega) (by rw [hzn]) (by rw [hzn]; exact HZS.out.later hB1) hB1.size
        have HL5 : Hid ((Z ++ [zn]).length = Z.length + 1) := by show _ = _; simp
        have HO5 : Hid (SharedZ w6 w.heap.size (.slice a' (Z ++ [zn]).length c') (Z ++ [zn])) := by
          show SharedZ _ _ _ _
          rw [HL5.out]
          exact hO6
        have HT5 : Hid ((Z ++ [zn]).map (·.2) = tameL X (k + 1)) := by
          show _ = _
          rw [HT2.out, List.map_append, hT.out, hzn]
          rfl
        have HB5 : Hid (Below w.heap.size w w6) := hB1.trans hb6
        have HS4 : w1.drew.cell? ⟨b, off + k * 2, none⟩ = some (.slice ra rn rc) ∧ w1.drew.cell? ⟨b, off + k * 2 + 1, none⟩ = some (.int .i64 p) ∧ b < w.heap.size ∧ Hid (Below w.heap.size w w1.drew) := ⟨Y0, Y1, hbl, hB1⟩
        clear HT2 hT hO1 hB1 hO6 HBD hb1 CR X0 X1 Y0 Y1 hO hB HZS hrn hzn hbl
        go_upto_region 6 with fail
        refine wp_region_held_drew (S := (fun w' => w'.cell? ⟨b, off + k * 2, none⟩ = some (.slice ra rn rc) ∧ w'.cell? ⟨b, off + k * 2 + 1, none⟩ = some (.int .i64 p) ∧ b < w.heap.size ∧ Hid (Below w.heap.size w w'))) (by kernel_rfl) HS4 (fun hHeld => ?_)
        refine heldTake (v := ?_) 0 24 rfl rfl (by kernel_rfl) (by kernel_rfl) (by kernel_rfl) (fun _ _ _ h => h) (by rfl) (fun w hSw => ?_) (by assumption) ?_
        rotate_left
        · (try dsimp only at hSw); first | (go_simp; done) | (go_simp; with_reducible rfl)
        simp only [List.setIfInBounds_toArray, List.set_cons_zero, List.set_cons_succ]
        refine heldTake (v := ?_) 1 25 rfl rfl (by kernel_rfl) (by kernel_rfl) (by kernel_rfl) (fun _ _ _ h => h) (by rfl) (fun w hSw => ?_) (by assumption) ?_
        rotate_left
        · (try dsimp only at hSw); first | (go_simp; done) | (go_simp; with_reducible rfl)
        simp only [List.setIfInBounds_toArray, List.set_cons_zero, List.set_cons_succ]
        refine heldTake (v := ?_) 2 26 rfl rfl (by kernel_rfl) (by kernel_rfl) (by kernel_rfl) (fun _ _ _ h => h) (by rfl) (fun w hSw => ?_) (by assumption) ?_
        rotate_left
        · (try dsimp only at hSw); first | (go_simp; done) | (go_simp; with_reducible rfl)
        simp only [List.setIfInBounds_toArray, List.set_cons_zero, List.set_cons_succ]
        refine heldTake (v := ?_) 3 27 rfl rfl (by kernel_rfl) (by kernel_rfl) (by kernel_rfl) (fun _ _ _ h => h) (by rfl) (fun w hSw => ?_) (by assumption) ?_
        rotate_left
        · (try dsimp only at hSw); first | (go_simp; done) | (go_simp; with_reducible rfl)
        simp only [List.setIfInBounds_toArray, List.set_cons_zero, List.set_cons_succ]
        refine heldTake (v := ?_) 4 28 rfl rfl (by kernel_rfl) (by kernel_rfl) (by kernel_rfl) (fun _ _ _ h => h) (by rfl) (fun w hSw => ?_) (by assumption) ?_
        rotate_left
        · (try dsimp only at hSw); first | (go_simp; done) | (go_simp; with_reducible rfl)
        simp only [List.setIfInBounds_toArray, List.set_cons_zero, List.set_cons_succ]
        refine heldTake (v := ?_) 5 29 rfl rfl (by kernel_rfl) (by kernel_rfl) (by kernel_rfl) (fun _ _ _ h => h) (by rfl) (fun w hSw => ?_) (by assumption) ?_
        rotate_left
        · (try dsimp only at hSw); first | (go_simp; done) | (go_simp; with_reducible rfl)
        simp only [List.setIfInBounds_toArray, List.set_cons_zero, List.set_cons_succ]
        refine heldTake (v := ?_) 6 30 rfl rfl (by kernel_rfl) (by kernel_rfl) (by kernel_rfl) (fun _ _ _ h => h) (by rfl) (fun w hSw => ?_) (by assumption) ?_
        rotate_left
        · (try dsimp only at hSw); first | (go_simp; done) | (go_simp; with_reducible rfl)
        simp only [List.setIfInBounds_toArray, List.set_cons_zero, List.set_cons_succ]
        refine heldTake (v := ?_) 7 31 rfl rfl (by kernel_rfl) (by kernel_rfl) (by kernel_rfl) (fun _ _ _ h => h) (by rfl) (fun w hSw => ?_) (by assumption) ?_
        rotate_left
        · (try dsimp only at hSw); first | (go_simp; done) | (go_simp; with_reducible rfl)
        simp only [List.setIfInBounds_toArray, List.set_cons_zero, List.set_cons_succ]
        refine heldTake (v := ?_) 8 32 rfl rfl (by kernel_rfl) (by kernel_rfl) (by kernel_rfl) (fun _ _ _ h => h) (by rfl) (fun w hSw => ?_) (by assumption) ?_
        rotate_left
        · (try dsimp only at hSw); first | (go_simp; done) | (go_simp; with_reducible rfl)
        simp only [List.setIfInBounds_toArray, List.set_cons_zero, List.set_cons_succ]
        refine heldTake (v := ?_) 9 33 rfl rfl (by kernel_rfl) (by kernel_rfl) (by kernel_rfl) (fun _ _ _ h => h) (by rfl) (fun w hSw => ?_) (by assumption) ?_
        rotate_left
        · (try dsimp only at hSw); first | (go_simp; done) | (go_simp; with_reducible rfl)
        simp only [List.setIfInBounds_toArray, List.set_cons_zero, List.set_cons_succ]
        refine heldTake (v := ?_) 10 34 rfl rfl (by kernel_rfl) (by kernel_rfl) (by kernel_rfl) (fun _ _ _ h => h) (by rfl) (fun w hSw => ?_) (by assumption) ?_
        rotate_left
        · (try dsimp only at hSw); first | (go_simp; done) | (go_simp; with_reducible rfl)
        simp only [List.setIfInBounds_toArray, List.set_cons_zero, List.set_cons_succ]
        refine heldTake (v := ?_) 11 35 rfl rfl (by kernel_rfl) (by kernel_rfl) (by kernel_rfl) (fun _ _ _ h => h) (by rfl) (fun w hSw => ?_) (by assumption) ?_
        rotate_left
        · (try dsimp only at hSw); first | (go_simp; done) | (go_simp; with_reducible rfl)
        simp only [List.setIfInBounds_toArray, List.set_cons_zero, List.set_cons_succ]
        refine heldTake (v := ?_) 12 36 rfl rfl (by kernel_rfl) (by kernel_rfl) (by kernel_rfl) (fun _ _ _ h => h) (by rfl) (fun w hSw => ?_) (by assumption) ?_
        rotate_left
        · (try dsimp only at hSw); first | (go_simp; done) | (go_simp; with_reducible rfl)
        simp only [List.setIfInBounds_toArray, List.set_cons_zero, List.set_cons_succ]
        refine heldOne 13 rfl (by kernel_rfl) (by rfl) (fun K2 hK => ?_)
        go_simp
        refine hK.out _ _ ?_ (fun hHeld => ?_)
        · exact keep2B ((Below.refl _ _).alloc hHeld.2.2.2.out.size _) (by assumption)
        clear hK K2
        try simp only [List.setIfInBounds_toArray, List.set_cons_zero, List.set_cons_succ]
        refine heldOne 14 rfl (by kernel_rfl) (by rfl) (fun K2 hK => ?_)
        refine wp_append_z _ _ 22 22 rfl _ _ _ _ rfl rfl hrun ?_
        go_simp
        refine hK.out _ _ ?_ (fun hHeld => ?_)
        · exact keep2B hb6 HS4
        clear hK K2
        try simp only [List.setIfInBounds_toArray, List.set_cons_zero, List.set_cons_succ]
        refine heldTake (v := ?_) 15 3 rfl rfl (by kernel_rfl) (by kernel_rfl) (by kernel_rfl) (fun _ _ _ h => h) (by rfl) (fun w hSw => ?_) (by assumption) ?_
        rotate_left
        · (try dsimp only at hSw); first | (go_simp; done) | (go_simp; with_reducible rfl)
        simp only [List.setIfInBounds_toArray, List.set_cons_zero, List.set_cons_succ]
        refine wpAnyH_done (by kernel_rfl) ?_ _
        clear hrun HS4 hb6 hHeld
        go_wp2
        go_roundw
        case rel => exact ⟨k + 1, Z ++ [zn], a', c', by omega, by omega, by rw [HL5.out], by go_num, HT5.out, HO5.out, HB5.out, by rw [HL5.out]; omega⟩
        case measure => simp [RowKit.intOf]; omega
      · have HT2 : Hid _ := HNO.out hc
        have c1' : (c == 0) = false := by simpa using hc
        have c2' : (c = 0) = False := eq_false hc
        have HT5 : Hid (Z.map (·.2) = tameL X (k + 1)) := by show _ = _; rw [HT2.out]; exact hT.out
        clear HY HNO HT2 hT hc HZS hrn X1 hbl
        go_wp2_with fail
        refine CR.mono ?_
        rintro e w1 ⟨rfl, hb1⟩
        have HO5 : Hid (SharedZ w1 w.heap.size (.slice ao Z.length co) Z) := hO.out.later hb1
        have HB5 : Hid (Below w.heap.size w w1) := chain hB.out hb1
        clear CR hb1 hO hB X0
        go_wp2
        go_roundw
        case rel => exact ⟨k + 1, Z, ao, co, by omega, by omega, rfl, by go_num, HT5.out, HO5.out, HB5.out, by omega⟩
        case measure => simp [RowKit.intOf]; omega
    · have he : tameL X k = tameL X 60 := by
        rcases Nat.lt_or_ge k n with h | h
        · have : k = 60 := by omega
          rw [this]
        · exact tame_end (by rw [HN.out]; exact h) h60
      obtain ⟨a5, c5, e5, hc5, hr5, hn5⟩ := hO.out.form
      cases e5
      have CM := rMake_any ao Z.length co (Z.map (·.2)) wr (by simp) (by omega) hc5 (fun h => ⟨by rw [(hn5 h).1]; rfl, (hn5 h).2⟩) hr5
      rw [hT.out, he] at CM
      have ll : (k < n ∧ ¬ k < 60) ∨ ¬ k < n := by omega
      obtain ⟨R, hR⟩ : ∃ R, makeZ (tameL X 60) = R := ⟨_, rfl⟩
      rw [hR] at CM
      have HRR : Hid (makeZ (tameL X 60) = R) := hR
      clear hT he hr5 hn5 hO hc5 hlt hR
      generalize Z.length = zl at *
      rcases ll with ⟨m1, m2⟩ | m1
      · have l1 : decide ((k : Int) < (n : Int)) = true := decide_eq_true (by omega)
        have l2 : decide ((k : Int) < 60) = false := decide_eq_false (by omega)
        go_wp2_with fail
        refine CM.mono ?_
        rintro e w5 ⟨v, Z5, rfl, hZ, hRz, hb5⟩
        have HF : Hid (∃ v' Z', Ending.returned v = .returned v' ∧ Z'.map (·.2) = (makeZ (tameL X 60)).1 ∧ RowZ w5 w.heap.size v' Z' ∧ Below w.heap.size w w5) := ⟨v, Z5, rfl, by rw [HRR.out]; exact hZ, hRz.base hB.out.size, chain hB.out hb5⟩
        clear CM hZ hRz hb5
        go_wp2
        go_ret
        exact HF.out
      · have l1 : decide ((k : Int) < (n : Int)) = false := decide_eq_false (by omega)
        go_wp2_with fail
        refine CM.mono ?_
        rintro e w5 ⟨v, Z5, rfl, hZ, hRz, hb5⟩
        have HF : Hid (∃ v' Z', Ending.returned v = .returned v' ∧ Z'.map (·.2) = (makeZ (tameL X 60)).1 ∧ RowZ w5 w.heap.size v' Z' ∧ Below w.heap.size w w5) := ⟨v, Z5, rfl, by rw [HRR.out]; exact hZ, hRz.base hB.out.size, chain hB.out hb5⟩
        clear CM hZ hRz hb5
        go_wp2
        go_ret
        exact HF.out

/-- Whatever is made rises, or is nothing. -/
theorem make_rises (X : List PI) : riseZ (makeZ X).1 = true ∧ (makeZ X).1.length ≤ X.length := by
  rcases make_cases X with ⟨R, h, hr, hl⟩ | h | h
  · rw [h]
    exact ⟨hr, hl⟩
  · rw [h]
    exact ⟨rfl, Nat.zero_le _⟩
  · rw [h]
    exact ⟨rfl, Nat.zero_le _⟩

theorem tame_len (X : List PI) : (tameL X 60).length ≤ 60 := by
  unfold tameL
  rw [List.length_map]
  exact Nat.le_trans (List.length_filter_le _ _) (by rw [List.length_take]; omega)

end Go.Proofs.Ytajlkaedkifaoaa

namespace Go.Proofs.Ytajlkaedkifaoaa
open Go.RowKit Go.Lib
set_option linter.unusedVariables false

theorem rise_unique {R : List PI} (h : RiseZ R) {a b : PI} (ha : a ∈ R) (hb : b ∈ R) (he : cmpZ a b = 0) : a = b := by
  induction R with
  | nil => cases ha
  | cons r R ih =>
    obtain ⟨h1, h2⟩ := List.pairwise_cons.1 h
    rcases List.mem_cons.1 ha with ha' | ha'
    · rcases List.mem_cons.1 hb with hb' | hb'
      · rw [ha', hb']
      · have := h1 b hb'
        rw [ha'] at he
        omega
    · rcases List.mem_cons.1 hb with hb' | hb'
      · have := h1 a ha'
        rw [hb', cmpZ_flip r a] at he
        omega
      · exact ih h2 ha' hb'

/-- In a right set a row weighs what its one Item does. -/
theorem sum_there {R : List PI} (h : RiseZ R) {r : PI} (hr : r ∈ R) : sumZ R r = r.wt := by
  induction R with
  | nil => cases hr
  | cons q R ih =>
    obtain ⟨h1, h2⟩ := List.pairwise_cons.1 h
    show (if cmpZ q r = 0 then q.wt else 0) + sumZ R r = r.wt
    rcases List.mem_cons.1 hr with e | hr'
    · subst e
      rw [if_pos (cmpZ_self r), sumZ_none (fun y hy hc => by have h3 := h1 y hy; have h4 := cmpZ_flip r y; omega)]
      omega
    · have := h1 r hr'
      rw [if_neg (by omega), ih h2 hr']
      omega

theorem sum_in {R : List PI} (h : RiseZ R) (x : PI) (h0 : sumZ R x ≠ 0) : ∃ r ∈ R, cmpZ r x = 0 ∧ r.wt = sumZ R x := by
  by_cases hx : ∃ r ∈ R, cmpZ r x = 0
  · obtain ⟨r, hr, hc⟩ := hx
    exact ⟨r, hr, hc, by rw [← sumZ_congr R hc, sum_there h hr]⟩
  · exact absurd (sumZ_none (fun y hy hc => hx ⟨y, hy, hc⟩)) h0

theorem pi_eq {x y : PI} (h1 : x.row = y.row) (h2 : x.wt = y.wt) : x = y := by
  cases x; cases y; simp only at h1 h2; rw [h1, h2]

/-- Two right sets in which each row weighs alike are one. -/
theorem rise_sums {R S : List PI} (hR : riseZ R = true) (hS : riseZ S = true) (h : ∀ x, sumZ R x = sumZ S x) : R = S := by
  obtain ⟨r1, r2⟩ := riseZ_iff.1 hR
  obtain ⟨s1, s2⟩ := riseZ_iff.1 hS
  have key : ∀ {A B : List PI}, (∀ x ∈ A, okI x = true ∧ x.wt ≠ 0) → RiseZ A → RiseZ B → (∀ x, sumZ A x = sumZ B x) → ∀ a ∈ A, a ∈ B := by
    intro A B a1 a2 b2 hs a ha
    have h1 : sumZ B a ≠ 0 := by rw [← hs a, sum_there a2 ha]; exact (a1 a ha).2
    obtain ⟨b, hb, hc, hw⟩ := sum_in b2 a h1
    have : a = b := pi_eq (cmpZ_zero.1 hc).symm (by rw [hw, ← hs a, sum_there a2 ha])
    rw [this]
    exact hb
  exact rise_ext r2 s2 (key r1 r2 s2 h) (key s1 s2 r2 (fun x => (h x).symm))

/-- What is made of Items whose sums are all weights. -/
theorem make_spec {X : List PI} (hX : X.all okI = true) (hw : ∀ x ∈ X, isW (sumZ X x) = true) : ∃ R, makeZ X = (R, 0) ∧ riseZ R = true ∧ (∀ x, sumZ R x = sumZ X x) ∧ (∀ r ∈ R, ∃ x ∈ X, x.row = r.row) ∧ R.length ≤ X.length := by
  have hp := sortZ_perm X
  have hs := sortZ_sorted X
  unfold makeZ
  rw [if_pos hX]
  cases hg : gatherZ (sortZ X) with
  | none =>
    obtain ⟨x, hx, hn⟩ := gather_none _ (Nat.le_refl _) hs hg
    have := hw x (hp.mem_iff.1 hx)
    rw [← sumZ_perm hp x] at this
    rw [this] at hn
    cases hn
  | some R =>
    obtain ⟨g1, g2, g3⟩ := gather_spec _ (Nat.le_refl _) hs hg
    have hok : ∀ r ∈ R, okI r = true ∧ r.wt ≠ 0 := fun r hr => by
      obtain ⟨e1, e2, e3, x, hx, e4⟩ := g2 r hr
      have ho := List.all_eq_true.1 hX x (hp.mem_iff.1 hx)
      obtain ⟨o1, o2⟩ := okI_parts.1 ho
      exact ⟨okI_parts.2 ⟨by rw [← e4]; exact o1, e3⟩, e2⟩
    have hri : riseZ R = true := riseZ_iff.2 ⟨hok, g1⟩
    refine ⟨R, rfl, hri, fun x => ?_, fun r hr => ?_, ?_⟩
    · rw [← sumZ_perm hp x]
      by_cases hx : ∃ r ∈ R, cmpZ r x = 0
      · obtain ⟨r, hr, hc⟩ := hx
        rw [← sumZ_congr R hc, ← sumZ_congr (sortZ X) hc, sum_there g1 hr]
        exact (g2 r hr).1
      · rw [sumZ_none (fun y hy hc => hx ⟨y, hy, hc⟩)]
        symm
        by_cases hy : ∃ y ∈ sortZ X, cmpZ y x = 0
        · obtain ⟨y, hy, hc⟩ := hy
          rw [← sumZ_congr (sortZ X) hc]
          by_cases h0 : sumZ (sortZ X) y = 0
          · exact h0
          · obtain ⟨r, hr, e⟩ := (g3 y hy).2 h0
            have hry : cmpZ r y = 0 := cmpZ_zero.2 e
            exact absurd ⟨r, hr, by rw [cmpZ_congr_left hry]; exact hc⟩ hx
        · exact sumZ_none (fun y h1 hc => hy ⟨y, h1, hc⟩)
    · obtain ⟨-, -, -, x, hx, e⟩ := g2 r hr
      exact ⟨x, hp.mem_iff.1 hx, e⟩
    · have := gather_len _ (Nat.le_refl _) hg
      rw [hp.length_eq] at this
      exact this

/-- What is made is the one right set in which each row weighs so. -/
theorem make_is {X T : List PI} (hX : X.all okI = true) (hT : riseZ T = true) (h : ∀ x, sumZ X x = sumZ T x) : makeZ X = (T, 0) := by
  obtain ⟨t1, t2⟩ := riseZ_iff.1 hT
  obtain ⟨R, e, hr, hs, -, -⟩ := make_spec hX (fun x hx => by
    rw [h x]
    by_cases h0 : sumZ T x = 0
    · rw [h0]; rfl
    · obtain ⟨t, ht, hc, hw⟩ := sum_in t2 x h0
      rw [← hw]
      exact (okI_parts.1 (t1 t ht).1).2)
  rw [e, rise_sums hr hT (fun x => by rw [hs x, h x])]

theorem make_perm {X Y : List PI} (h : X.Perm Y) : makeZ X = makeZ Y := by
  have ha : X.all okI = Y.all okI := by
    rw [Bool.eq_iff_iff, List.all_eq_true, List.all_eq_true]
    exact ⟨fun k x hx => k x (h.mem_iff.2 hx), fun k x hx => k x (h.mem_iff.1 hx)⟩
  unfold makeZ
  rw [ha, gather_perm (sortZ_sorted X) (sortZ_sorted Y) ((sortZ_perm X).trans (h.trans (sortZ_perm Y).symm))]

theorem make_self {X : List PI} (h : riseZ X = true) : makeZ X = (X, 0) := make_is (rise_all h) h fun _ => rfl

/-- Each row weighs at most so much, either way. -/
def BndZ (B : Int) (X : List PI) : Prop := ∀ x, -B ≤ sumZ X x ∧ sumZ X x ≤ B

theorem BndZ.add {B C : Int} {X Y : List PI} (h : BndZ B X) (k : BndZ C Y) : BndZ (B + C) (X ++ Y) := fun x => by
  rw [sumZ_append]
  have := h x
  have := k x
  omega

theorem BndZ.isW {B : Int} {X : List PI} (h : BndZ B X) (hB : B ≤ 72057594037927936) (x : PI) : isW (sumZ X x) = true := isW_iff.2 (by have := h x; omega)

theorem bnd_items {B : Int} (hB : 0 ≤ B) : ∀ {X : List PI}, (∀ x ∈ X, -B ≤ x.wt ∧ x.wt ≤ B) → BndZ (B * X.length) X
  | [], _, x => by simp [sumZ]
  | y :: X, h, x => by
    have ih := bnd_items hB (fun z hz => h z (List.mem_cons_of_mem _ hz)) x
    have hy := h y (by simp)
    have e : B * ((y :: X).length : Int) = B * (X.length : Int) + B := by
      rw [List.length_cons]; push_cast; rw [Int.mul_add, Int.mul_one]
    rw [e]
    show _ ≤ (if cmpZ y x = 0 then y.wt else 0) + sumZ X x ∧ (if cmpZ y x = 0 then y.wt else 0) + sumZ X x ≤ _
    split <;> omega

/-- The sum of two right sets whose weights are far from the bounds. -/
theorem add_spec {A C : List PI} {a c : Int} (hA : riseZ A = true) (hC : riseZ C = true) (ba : BndZ a A) (bc : BndZ c C) (h : a + c ≤ 72057594037927936) : ∃ S, addZ A C = (S, 0) ∧ riseZ S = true ∧ (∀ x, sumZ S x = sumZ A x + sumZ C x) ∧ BndZ (a + c) S ∧ S.length ≤ A.length + C.length ∧ (∀ s ∈ S, ∃ x ∈ A ++ C, x.row = s.row) := by
  have hb := ba.add bc
  have hall : (A ++ C).all okI = true := by rw [List.all_append, rise_all hA, rise_all hC]; rfl
  obtain ⟨S, e, h1, h2, h3, h4⟩ := make_spec hall (fun x _ => hb.isW h x)
  refine ⟨S, by unfold addZ; rw [if_pos hA, if_pos hC, e], h1, fun x => by rw [h2 x, sumZ_append], fun x => by rw [h2 x]; exact hb x, by rw [List.length_append] at h4; exact h4, h3⟩

theorem add_comm {A C : List PI} (hA : riseZ A = true) (hC : riseZ C = true) : addZ A C = addZ C A := by
  unfold addZ
  rw [if_pos hA, if_pos hC, if_pos hC, if_pos hA]
  exact make_perm List.perm_append_comm

theorem tame_in {X : List PI} : ∀ x ∈ tameL X 60, -99 ≤ x.wt ∧ x.wt ≤ 99 := by
  unfold tameL
  intro x hx
  simp only [List.mem_map, List.mem_filter] at hx
  obtain ⟨y, -, rfl⟩ := hx
  simp only
  have h1 := Int.tmod_lt_of_pos y.wt (show (0 : Int) < 100 by omega)
  have h2 := Int.lt_tmod_of_pos y.wt (show (0 : Int) < 100 by omega)
  omega

end Go.Proofs.Ytajlkaedkifaoaa

namespace Go.Proofs.Ytajlkaedkifaoaa
open Go.RowKit Go.Lib
set_option linter.unusedVariables false

/-- A set k times. -/
def manyZ (k : Nat) (R : List PI) : List PI := if k = 0 then [] else R.map fun x => ⟨x.row, (k : Int) * x.wt⟩

theorem many_zero (R : List PI) : manyZ 0 R = [] := rfl

theorem many_len {k : Nat} (hk : 0 < k) (R : List PI) : (manyZ k R).length = R.length := by
  unfold manyZ
  rw [if_neg (by omega), List.length_map]

theorem many_at {k i : Nat} (hk : 0 < k) (R : List PI) (hi : i < R.length) (hi2 : i < (manyZ k R).length) : (manyZ k R)[i].row = R[i].row ∧ (manyZ k R)[i].wt = (k : Int) * R[i].wt := by
  have e : manyZ k R = R.map fun x => ⟨x.row, (k : Int) * x.wt⟩ := by unfold manyZ; rw [if_neg (by omega)]
  simp only [e, List.getElem_map]
  exact ⟨trivial, trivial⟩

theorem many_sum (k : Nat) : ∀ (R : List PI) (x : PI), sumZ (manyZ k R) x = (k : Int) * sumZ R x := by
  intro R x
  unfold manyZ
  split
  · rename_i h
    subst h
    simp [sumZ]
  · induction R with
    | nil => simp [sumZ]
    | cons y R ih =>
      show (if cmpZ ⟨y.row, (k : Int) * y.wt⟩ x = 0 then (k : Int) * y.wt else 0) + sumZ (R.map _) x = (k : Int) * ((if cmpZ y x = 0 then y.wt else 0) + sumZ R x)
      rw [ih, Int.mul_add]
      have : cmpZ ⟨y.row, (k : Int) * y.wt⟩ x = cmpZ y x := rfl
      rw [this]
      split <;> simp

theorem wt_bnd {B : Int} {R : List PI} (h : RiseZ R) (hb : BndZ B R) : ∀ r ∈ R, -B ≤ r.wt ∧ r.wt ≤ B := fun r hr => by
  have := hb r
  rw [sum_there h hr] at this
  exact this

theorem mul_bnd {k : Nat} {B w : Int} (hk : k ≤ 12) (h : -B ≤ w ∧ w ≤ B) : -(12 * B) ≤ (k : Int) * w ∧ (k : Int) * w ≤ 12 * B := by
  have hB : 0 ≤ B := by omega
  have hk0 : (0 : Int) ≤ (k : Int) := by omega
  have hk1 : (k : Int) ≤ 12 := by omega
  have h1 : (k : Int) * w ≤ (k : Int) * B := Int.mul_le_mul_of_nonneg_left h.2 hk0
  have h2 : (k : Int) * (-B) ≤ (k : Int) * w := Int.mul_le_mul_of_nonneg_left h.1 hk0
  have h3 : (k : Int) * B ≤ 12 * B := Int.mul_le_mul_of_nonneg_right hk1 hB
  rw [Int.mul_neg] at h2
  omega

theorem many_rise {k : Nat} {R : List PI} (hk : k ≤ 12) (h : riseZ R = true) (hb : BndZ 5940 R) : riseZ (manyZ k R) = true := by
  unfold manyZ
  split
  · rfl
  · rename_i h0
    obtain ⟨h1, h2⟩ := riseZ_iff.1 h
    refine riseZ_iff.2 ⟨fun x hx => ?_, ?_⟩
    · obtain ⟨y, hy, rfl⟩ := List.mem_map.1 hx
      obtain ⟨o1, o2⟩ := h1 y hy
      obtain ⟨p1, p2⟩ := okI_parts.1 o1
      have hw := mul_bnd hk (wt_bnd h2 hb y hy)
      refine ⟨okI_parts.2 ⟨p1, isW_iff.2 ⟨by simp only; omega, by simp only; omega⟩⟩, ?_⟩
      exact Int.mul_ne_zero (by omega) o2
    · exact List.pairwise_map.2 (h2.imp fun {a b} hab => hab)

theorem many_step {k : Nat} {R : List PI} (hk : k + 1 ≤ 12) (h : riseZ R = true) (hb : BndZ 5940 R) : addZ (manyZ k R) R = (manyZ (k + 1) R, 0) := by
  have hr := many_rise (by omega) h hb (k := k)
  unfold addZ
  rw [if_pos hr, if_pos h]
  refine make_is (by rw [List.all_append, rise_all hr, rise_all h]; rfl) (many_rise hk h hb) fun x => ?_
  rw [sumZ_append, many_sum, many_sum]
  push_cast
  rw [Int.add_mul, Int.one_mul]

/-- How great a set is, without bounds. -/
def absS (X : List PI) : Int := (X.map absZ).sum

theorem absZ_nn (x : PI) : 0 ≤ absZ x := by unfold absZ; omega

theorem absS_nn : ∀ X : List PI, 0 ≤ absS X
  | [] => by simp [absS]
  | x :: X => by
    have := absS_nn X
    have := absZ_nn x
    unfold absS at *
    simp only [List.map_cons, List.sum_cons]
    omega

theorem size_sum : ∀ (X : List PI) (n : Int), 0 ≤ n → n + absS X ≤ 1152921504606846976 → X.foldl (fun n x => min (n + absZ x) 1152921504606846976) n = n + absS X
  | [], n, _, _ => by simp [absS]
  | x :: X, n, hn, h => by
    have h1 := absS_nn X
    have h2 := absZ_nn x
    have e : absS (x :: X) = absZ x + absS X := by simp [absS]
    rw [e] at h ⊢
    rw [List.foldl_cons, Int.min_eq_left (by omega), size_sum X _ (by omega) (by omega)]
    omega

theorem abs_bnd {B : Int} (hB : 0 ≤ B) : ∀ {X : List PI}, (∀ x ∈ X, -B ≤ x.wt ∧ x.wt ≤ B) → absS X ≤ B * X.length
  | [], _ => by simp [absS]
  | x :: X, h => by
    have ih := abs_bnd hB (fun y hy => h y (List.mem_cons_of_mem _ hy))
    have hx := h x (by simp)
    have hz : absZ x ≤ B := by unfold absZ; omega
    have e : absS (x :: X) = absZ x + absS X := by simp [absS]
    rw [e, List.length_cons]
    push_cast
    rw [Int.mul_add, Int.mul_one]
    omega

theorem size_is {B : Int} {X : List PI} (h : riseZ X = true) (hB : 0 ≤ B) (hb : BndZ B X) (hl : B * X.length ≤ 1152921504606846976) : sizeZ X = absS X := by
  unfold sizeZ
  rw [if_pos h]
  have := abs_bnd hB (wt_bnd (riseZ_iff.1 h).2 hb)
  have e := size_sum X 0 (Int.le_refl _) (by omega)
  rw [Int.zero_add] at e
  exact e

theorem many_abs (k : Nat) (R : List PI) : absS (manyZ k R) = (k : Int) * absS R := by
  unfold manyZ
  split
  · rename_i h
    subst h
    simp [absS]
  · induction R with
    | nil => simp [absS]
    | cons y R ih =>
      have e1 : absS (y :: R) = absZ y + absS R := by simp [absS]
      have e2 : absS ((y :: R).map fun x => (⟨x.row, (k : Int) * x.wt⟩ : PI)) = absZ ⟨y.row, (k : Int) * y.wt⟩ + absS (R.map fun x => (⟨x.row, (k : Int) * x.wt⟩ : PI)) := by simp [absS]
      rw [e1, e2, ih, Int.mul_add]
      congr 1
      have hk0 : (0 : Int) ≤ (k : Int) := by omega
      unfold absZ
      simp only
      rcases Int.le_total 0 y.wt with h | h
      · have := Int.mul_nonneg hk0 h
        rw [Int.max_eq_left (by omega), Int.max_eq_left (by omega)]
      · have : (k : Int) * y.wt ≤ 0 := Int.mul_nonpos_of_nonneg_of_nonpos hk0 h
        rw [Int.max_eq_right (by omega), Int.max_eq_right (by omega), Int.mul_neg]

theorem tame_bnd (X : List PI) : BndZ 5940 (makeZ (tameL X 60)).1 := by
  have h1 := bnd_items (B := 99) (by omega) (tame_in (X := X))
  have h2 := tame_len X
  have hb : BndZ 5940 (tameL X 60) := fun x => by have := h1 x; omega
  rcases make_cases (tameL X 60) with ⟨R, e, hr, -⟩ | e | e
  · by_cases hall : (tameL X 60).all okI = true
    · obtain ⟨R', e', -, hs, -, -⟩ := make_spec hall (fun x _ => hb.isW (by omega) x)
      rw [e']
      exact fun x => by rw [hs x]; exact hb x
    · unfold makeZ
      rw [if_neg hall]
      exact fun x => by simp [sumZ]
  · rw [e]; exact fun x => by simp [sumZ]
  · rw [e]; exact fun x => by simp [sumZ]

theorem many_size {k : Nat} {R : List PI} (hk : k ≤ 12) (h : riseZ R = true) (hb : BndZ 5940 R) (hl : R.length ≤ 60) : sizeZ (manyZ k R) = (k : Int) * sizeZ R := by
  have hr := many_rise hk h hb
  have hb2 : BndZ 71280 (manyZ k R) := fun x => by
    rw [many_sum]
    have := mul_bnd hk (hb x)
    omega
  have hl2 : (manyZ k R).length ≤ 60 := by
    unfold manyZ
    split
    · simp
    · rw [List.length_map]; exact hl
  rw [size_is h (by omega) hb (by omega), size_is hr (by omega) hb2 (by omega), many_abs]

end Go.Proofs.Ytajlkaedkifaoaa
