/-
  Texts of the proof of SetSorted, one behind the other.
-/
import Derived.Test.YthjebjbjkkgjpaaRows
import Derived.Test.YthjebjbjkkgjpaaG45SetSorted
import Derived.Test.YthjebjbjkkgjpaaG46SetSorted
namespace Go.Proofs.Ythjebjbjkkgjpaa
open Go.RowKit Go.Lib
set_option linter.unusedVariables false

theorem gather_len : ∀ (n : Nat) {X R : List PI}, X.length ≤ n → gatherZ X = some R → R.length ≤ X.length
  | n, [], R, _, h => by
    simp only [gatherZ, Option.some.injEq] at h
    subst h
    exact Nat.le_refl _
  | 0, x :: X, R, hn, _ => by simp at hn
  | n + 1, x :: X, R, hn, h => by
    rw [gatherZ] at h
    split at h
    · rw [Option.map_eq_some_iff] at h
      obtain ⟨S, hS, e⟩ := h
      have h1 := rest_len x X
      have h2 := gather_len n (by simp at hn; omega) hS
      subst e
      split
      · simp
        omega
      · simp
        omega
    · cases h

theorem make_cases (X : List PI) : (∃ R, makeZ X = (R, 0) ∧ riseZ R = true ∧ R.length ≤ X.length) ∨ makeZ X = ([], 1) ∨ makeZ X = ([], 11) := by
  unfold makeZ
  by_cases h : X.all okI = true
  · rw [if_pos h]
    cases hg : gatherZ (sortZ X) with
    | none => exact .inr (.inr rfl)
    | some R =>
      refine .inl ⟨R, rfl, ?_, ?_⟩
      · obtain ⟨h1, h2, -⟩ := gather_spec _ (Nat.le_refl _) (sortZ_sorted X) hg
        refine riseZ_iff.2 ⟨fun r hr => ?_, h1⟩
        obtain ⟨-, h4, h5, x, hx, e⟩ := h2 r hr
        have hx' : x ∈ X := (sortZ_perm X).mem_iff.1 hx
        have := List.all_eq_true.1 h x hx'
        refine ⟨?_, h4⟩
        unfold okI at this ⊢
        rw [e] at this
        rw [h5, Bool.and_true]
        rw [Bool.and_eq_true] at this
        exact this.1
      · have := gather_len _ (Nat.le_refl _) hg
        rw [(sortZ_perm X).length_eq] at this
        exact this
  · rw [if_neg h]
    exact .inr (.inl rfl)

theorem weight_there {R : List PI} {r : List PV} (h : riseZ R = true) : (R.any fun x => sameVs x.row r) = true ↔ weightZ R r ≠ 0 := by
  obtain ⟨h1, -⟩ := riseZ_iff.1 h
  clear h
  induction R with
  | nil => simp [weightZ]
  | cons x R ih =>
    rw [List.any_cons, weightZ]
    by_cases hx : cmpR x.row r = 0
    · rw [if_pos hx, (sameVs_iff _ _).2 ((cmpR_zero _ _).1 hx)]
      have := (h1 x (by simp)).2
      simpa using this
    · rw [if_neg hx]
      have hs : sameVs x.row r = false := by
        cases hc : sameVs x.row r with
        | false => rfl
        | true => exact absurd ((cmpR_zero _ _).2 ((sameVs_iff _ _).1 hc)) hx
      rw [hs, Bool.false_or]
      exact ih fun y hy => h1 y (List.mem_cons_of_mem _ hy)

theorem three_blocks (w : World) (A B C : Obj) : (((w.alloc A).alloc B).alloc C).heap[w.heap.size + 1]? = some B ∧ (((w.alloc A).alloc B).alloc C).heap[w.heap.size + 1 + 1]? = some C := by
  have e : (((w.alloc A).alloc B).alloc C).heap = ((w.heap.push A).push B).push C := rfl
  rw [e]
  refine ⟨?_, ?_⟩
  · simp only [Array.getElem?_push, Array.size_push]
    rw [if_neg (by omega), if_pos trivial]
  · simp only [Array.getElem?_push, Array.size_push]
    rw [if_pos trivial]

/-- A slice of one slice of Items, new. -/
theorem lone_items (w : World) (a : Option Addr) (n cap : Nat) (X : List PI) (hn : X.length = n) (hl : n ≤ 9223372036854775807) (h : RdJ w a X) : RdSl (w.alloc (.cells #[.slice a n cap] 22)) w.heap.size 0 [(a, cap, X)] := by
  intro i hi
  obtain rfl : i = 0 := by simpa using hi
  subst hn
  refine ⟨?_, hl, h.later (alloc_below _ _)⟩
  simp only [World.cell?, new_block]
  rfl

/-- .. and of one of one Item that has no weight. -/
theorem lone_row (w : World) (ar : Option Addr) (nr cr : Nat) (r : List PV) (hn : r.length = nr) (hl : nr ≤ 9223372036854775807) (hc : nr ≤ cr) (hnil : ar = none → r = [] ∧ cr = 0) (h : RdV w ar r) (O : Obj) : RdSl (((w.alloc O).alloc (.cells #[.slice ar nr cr, .int .i64 0] 40)).alloc (.cells #[.slice (some ⟨w.heap.size + 1, 0, none⟩) 1 1] 22)) (w.heap.size + 1 + 1) 0 [(some ⟨w.heap.size + 1, 0, none⟩, 1, [⟨r, 0⟩])] ∧ Below w.heap.size w (((w.alloc O).alloc (.cells #[.slice ar nr cr, .int .i64 0] 40)).alloc (.cells #[.slice (some ⟨w.heap.size + 1, 0, none⟩) 1 1] 22)) := by
  have hb : Below w.heap.size w (((w.alloc O).alloc (.cells #[.slice ar nr cr, .int .i64 0] 40)).alloc (.cells #[.slice (some ⟨w.heap.size + 1, 0, none⟩) 1 1] 22)) := chain (chain (alloc_below _ _) (alloc_below _ _)) (alloc_below _ _)
  obtain ⟨k1, k2⟩ := three_blocks w O (.cells #[.slice ar nr cr, .int .i64 0] 40) (.cells #[.slice (some ⟨w.heap.size + 1, 0, none⟩) 1 1] 22)
  refine ⟨?_, hb⟩
  generalize ((w.alloc O).alloc (.cells #[.slice ar nr cr, .int .i64 0] 40)).alloc (.cells #[.slice (some ⟨w.heap.size + 1, 0, none⟩) 1 1] 22) = V at *
  intro i hi
  obtain rfl : i = 0 := by simpa using hi
  subst hn
  refine ⟨?_, (show 1 ≤ 9223372036854775807 by omega), fun _ => ⟨w.heap.size + 1, 0, rfl, fun i hi => ?_⟩⟩
  · simp only [World.cell?, k2]
    rfl
  · obtain rfl : i = 0 := by simpa using hi
    refine ⟨ar, cr, ?_, ?_, ⟨h.later hb, hl, hc, hnil, by show In64 0; unfold In64; omega⟩⟩
    · simp only [World.cell?, k1]
      rfl
    · simp only [World.cell?, k1]
      rfl

end Go.Proofs.Ythjebjbjkkgjpaa

namespace Go.Proofs.Ythjebjbjkkgjpaa
open Go.RowKit Go.Lib
set_option linter.unusedVariables false

set_option maxRecDepth 100000 in
set_option maxHeartbeats 4000000 in
theorem sorted_heavy (a ar : Option Addr) (n cap nr cr : Nat) (X : List PI) (r : List PV) (w : World) (hn : X.length = n) (hl : n ≤ 9223372036854775807) (hX : RdJ w a X) (hr : r.length = nr) (hlr : nr ≤ 9223372036854775807) (hcr : nr ≤ cr) (hnil : ar = none → r = [] ∧ cr = 0) (hR : RdV w ar r) (hh : (heavyI X || heavyI [⟨r, 0⟩]) = true) :
    Calls Try.prog 7 #[.slice a n cap, .slice ar nr cr] w fun e w' => e = .returned (.bool true) ∧ Below w.heap.size w w' := by
  have C1 := heavyZ_any _ _ 1 1 _ _ rfl (by omega) (lone_items w a n cap X hn hl hX)
  simp only [List.any_cons, List.any_nil, Bool.or_false] at C1
  have HB1 : Hid (Below w.heap.size w (w.alloc (.cells #[.slice a n cap] 22))) := alloc_below _ _
  cases h1 : heavyI X with
  | true =>
    rw [h1] at C1
    clear hX hR hn hr h1 hh hnil
    go_enter Try.func7, Try.ntmps7
    go_wp2_with fail
    refine C1.mono ?_
    rintro e w1 ⟨rfl, hw⟩
    subst hw
    clear C1
    go_wp2
    go_ret
    exact ⟨by simp, HB1.out⟩
  | false =>
    rw [h1] at C1 hh
    rw [Bool.false_or] at hh
    obtain ⟨hs, hb⟩ := lone_row w ar nr cr r hr hlr hcr hnil hR (.cells #[.slice a n cap] 22)
    have C2 := heavyZ_any _ _ 1 1 _ _ rfl (by omega) hs
    simp only [List.any_cons, List.any_nil, Bool.or_false] at C2
    rw [hh] at C2
    have HB2 : Hid _ := hb
    clear hX hR hn hr h1 hh hs hb HB1 hnil
    go_enter Try.func7, Try.ntmps7
    go_wp2_with fail
    refine C1.mono ?_
    rintro e w1 ⟨rfl, hw⟩
    subst hw
    clear C1
    go_wp2_with fail
    refine C2.mono ?_
    rintro e w1 ⟨rfl, hw⟩
    subst hw
    clear C2
    go_wp2
    go_ret
    exact ⟨by simp, HB2.out⟩

set_option maxRecDepth 100000 in
set_option maxHeartbeats 16000000 in
theorem sorted_light (a ar : Option Addr) (n cap nr cr : Nat) (X : List PI) (r : List PV) (w : World) (hn : X.length = n) (hl : n ≤ 9223372036854775807) (hX : RdJ w a X) (hr : r.length = nr) (hlr : nr ≤ 9223372036854775807) (hcr : nr ≤ cr) (hnil : ar = none → r = [] ∧ cr = 0) (hR : RdV w ar r) (h1 : heavyI X = false) (h2 : heavyI [⟨r, 0⟩] = false) :
    Calls Try.prog 7 #[.slice a n cap, .slice ar nr cr] w fun e w' => e = .returned (.bool true) ∧ Below w.heap.size w w' := by
  have C1 := heavyZ_any _ _ 1 1 _ _ rfl (by omega) (lone_items w a n cap X hn hl hX)
  simp only [List.any_cons, List.any_nil, Bool.or_false] at C1
  obtain ⟨hs, hb⟩ := lone_row w ar nr cr r hr hlr hcr hnil hR (.cells #[.slice a n cap] 22)
  have C2 := heavyZ_any _ _ 1 1 _ _ rfl (by omega) hs
  simp only [List.any_cons, List.any_nil, Bool.or_false] at C2
  rw [h1] at C1
  rw [h2] at C2
  obtain ⟨hx3, hx4⟩ := heavyI_small h1
  have n300 : n ≤ 300 := by omega
  have nr40 : nr ≤ 40 := by
    have := (heavyI_small h2).2 ⟨r, 0⟩ (by simp)
    simp only at this
    omega
  have CM := zMake_any a n cap X _ hn (by omega) ((hX.rdZ fun x hx => by have := hx4 x hx; omega).later hb)
  have HB2 : Hid _ := hb
  have HR : Hid (RdV w ar r) := hR
  have HNR : Hid (r.length = nr) := hr
  have HNX : Hid (X.length = n) := hn
  clear hX hR hn hr h1 h2 hs hb hx3 hx4 hnil hl hlr
  go_enter Try.func7, Try.ntmps7
  go_wp2_with fail
  refine C1.mono ?_
  rintro e w1 ⟨rfl, hw⟩
  subst hw
  clear C1
  go_wp2_with fail
  refine C2.mono ?_
  rintro e w1 ⟨rfl, hw⟩
  subst hw
  clear C2
  rcases make_cases X with ⟨R, hm, hrise, hlen⟩ | hm | hm
  rotate_left
  · rw [hm] at CM
    clear hm
    go_wp2_with fail
    refine CM.mono ?_
    rintro e w5 ⟨v, Z, rfl, hZ, hRz, hb5⟩
    obtain ⟨a5, c5, rfl, -⟩ := hRz.form
    have hZl : Z.length = 0 := by have := congrArg List.length hZ; simpa using this
    rw [hZl]
    have HB5 : Hid (Below w.heap.size w w5) := chain HB2.out hb5
    clear CM hRz hZ hb5 hZl HB2 HR HNR HNX
    go_wp2_with fail
    refine (zwakes_any _).mono ?_
    rintro e w6 ⟨rfl, hb6⟩
    have HB6 : Hid (Below w.heap.size w w6) := chain HB5.out hb6
    clear hb6
    go_wp2
    go_ret
    exact ⟨by simp, HB6.out⟩
  · rw [hm] at CM
    clear hm
    go_wp2_with fail
    refine CM.mono ?_
    rintro e w5 ⟨v, Z, rfl, hZ, hRz, hb5⟩
    obtain ⟨a5, c5, rfl, -⟩ := hRz.form
    have hZl : Z.length = 0 := by have := congrArg List.length hZ; simpa using this
    rw [hZl]
    have HB5 : Hid (Below w.heap.size w w5) := chain HB2.out hb5
    clear CM hRz hZ hb5 hZl HB2 HR HNR HNX
    go_wp2_with fail
    refine (zwakes_any _).mono ?_
    rintro e w6 ⟨rfl, hb6⟩
    have HB6 : Hid (Below w.heap.size w w6) := chain HB5.out hb6
    clear hb6
    go_wp2
    go_ret
    exact ⟨by simp, HB6.out⟩
  rw [hm] at CM
  clear hm
  go_wp2_with fail
  refine CM.mono ?_
  rintro e w5 ⟨v, Z, rfl, hZ, hRz, hb5⟩
  obtain ⟨a5, c5, rfl, -, -, hr5, -, -⟩ := hRz.form
  have hZl : Z.length = R.length := by have := congrArg List.length hZ; simpa using this
  rw [hZ] at hr5
  rw [hZl]
  have HB5 : Hid (Below w.heap.size w w5) := chain HB2.out hb5
  have HR5 : Hid (RdV w5 ar r) := HR.out.later HB5.out
  have HZ5 : Hid (RdZ w5 a5 R) := hr5
  have HRI : Hid (riseZ R = true) := hrise
  have m300 : R.length ≤ 300 := by have := HNX.out; omega
  clear CM hRz hZ hb5 hZl hr5 HB2 HR hlen
  generalize hM : R.length = m at *
  have HM : Hid (R.length = m) := hM
  clear hM hrise
  go_wp2
  go_loopw [7, 8] (fun t i wr => ∃ k : Nat, k ≤ m ∧ t = .bool ((R.take k).any fun x => sameVs x.row r) ∧ i = .int .i64 k ∧ Hid (Below w5.heap.size w5 wr)) (fun _ i _ => m - (RowKit.intOf i).toNat)
  case atStart => exact ⟨0, Nat.zero_le _, rfl, rfl, Below.refl _ _⟩
  case round =>
    obtain ⟨k, hk, rfl, rfl, hB⟩ := hrel
    by_cases hlt : k < m
    · have hkl : k < R.length := by rw [HM.out]; exact hlt
      obtain ⟨b, off, ra, rc, rfl, x0, x1, hz⟩ := (HZ5.out.later hB.out).at_ hkl
      have hw0 : R[k].wt ≠ 0 := ((riseZ_iff.1 HRI.out).1 _ (List.getElem_mem hkl)).2
      have CK : ∀ V, Below wr.heap.size wr V → Calls Try.prog 29 #[.slice ra R[k].row.length rc, .slice ar nr cr] V fun e w' => e = .returned (.bool (sameVs R[k].row r)) ∧ Below V.heap.size V w' := fun V hb => by
        obtain ⟨a1, c1, e1, r1, l1, -⟩ := hz.later hb
        cases e1
        exact keepRow_any _ _ _ _ _ _ _ _ V rfl HNR.out l1 (by omega) r1 (HR5.out.later (chain hB.out hb))
      have HT : Hid (((R.take (k + 1)).any fun x => sameVs x.row r) = (((R.take k).any fun x => sameVs x.row r) || sameVs R[k].row r)) := by
        show _ = _
        rw [List.take_succ_eq_append_getElem hkl, List.any_append, List.any_cons, List.any_nil, Bool.or_false]
      cases k with
      | zero =>
        have e0 : ((R.take 0).any fun x => sameVs x.row r) = false := rfl
        rw [e0] at HT ⊢
        rw [Nat.zero_mul, Nat.add_zero] at x0 x1
        generalize sameVs R[0].row r = sv at *
        generalize R[0].wt = p at *
        generalize R[0].row.length = rn at *
        have hp1 : (p == 0) = false := by simpa using hw0
        have hp2 : (p = 0) = False := eq_false hw0
        have HS : wr.cell? ⟨b, off, none⟩ = some (.slice ra rn rc) ∧ wr.cell? ⟨b, off + 1, none⟩ = some (.int .i64 p) ∧ Hid (Below wr.heap.size wr wr) := ⟨x0, x1, Below.refl _ _⟩
        clear hz hw0 hkl x0 x1 e0
        go_upto_region 10 with fail
        refine wp_region_held_drew (S := (fun w' => w'.cell? ⟨b, off, none⟩ = some (.slice ra rn rc) ∧ w'.cell? ⟨b, off + 1, none⟩ = some (.int .i64 p) ∧ Hid (Below wr.heap.size wr w'))) (by kernel_rfl) (keep2Z (Below.refl _ _).drew HS) (fun hHeld => ?_)
        refine heldTake (v := ?_) 0 46 rfl rfl (by kernel_rfl) (by kernel_rfl) (by kernel_rfl) (fun _ _ _ h => h) (by rfl) (fun w hSw => ?_) (by assumption) ?_
        rotate_left
        · (try dsimp only at hSw); first | (go_simp; done) | (go_simp; with_reducible rfl)
        simp only [List.setIfInBounds_toArray, List.set_cons_zero, List.set_cons_succ]
        refine heldTake (v := ?_) 1 47 rfl rfl (by kernel_rfl) (by kernel_rfl) (by kernel_rfl) (fun _ _ _ h => h) (by rfl) (fun w hSw => ?_) (by assumption) ?_
        rotate_left
        · (try dsimp only at hSw); first | (go_simp; done) | (go_simp; with_reducible rfl)
        simp only [List.setIfInBounds_toArray, List.set_cons_zero, List.set_cons_succ]
        refine heldTake (v := ?_) 2 48 rfl rfl (by kernel_rfl) (by kernel_rfl) (by kernel_rfl) (fun _ _ _ h => h) (by rfl) (fun w hSw => ?_) (by assumption) ?_
        rotate_left
        · (try dsimp only at hSw); first | (go_simp; done) | (go_simp; with_reducible rfl)
        simp only [List.setIfInBounds_toArray, List.set_cons_zero, List.set_cons_succ]
        refine heldTake (v := ?_) 3 49 rfl rfl (by kernel_rfl) (by kernel_rfl) (by kernel_rfl) (fun _ _ _ h => h) (by rfl) (fun w hSw => ?_) (by assumption) ?_
        rotate_left
        · (try dsimp only at hSw); first | (go_simp; done) | (go_simp; with_reducible rfl)
        simp only [List.setIfInBounds_toArray, List.set_cons_zero, List.set_cons_succ]
        refine heldTake (v := ?_) 4 50 rfl rfl (by kernel_rfl) (by kernel_rfl) (by kernel_rfl) (fun _ _ _ h => h) (by rfl) (fun w hSw => ?_) (by assumption) ?_
        rotate_left
        · (try dsimp only at hSw); first | (go_simp; done) | (go_simp; with_reducible rfl)
        simp only [List.setIfInBounds_toArray, List.set_cons_zero, List.set_cons_succ]
        refine heldTake (v := ?_) 5 51 rfl rfl (by kernel_rfl) (by kernel_rfl) (by kernel_rfl) (fun _ _ _ h => h) (by rfl) (fun w hSw => ?_) (by assumption) ?_
        rotate_left
        · (try dsimp only at hSw); first | (go_simp; done) | (go_simp; with_reducible rfl)
        simp only [List.setIfInBounds_toArray, List.set_cons_zero, List.set_cons_succ]
        refine heldTake (v := ?_) 6 52 rfl rfl (by kernel_rfl) (by kernel_rfl) (by kernel_rfl) (fun _ _ _ h => h) (by rfl) (fun w hSw => ?_) (by assumption) ?_
        rotate_left
        · (try dsimp only at hSw); first | (go_simp; done) | (go_simp; with_reducible rfl)
        simp only [List.setIfInBounds_toArray, List.set_cons_zero, List.set_cons_succ]
        refine heldTake (v := ?_) 7 53 rfl rfl (by kernel_rfl) (by kernel_rfl) (by kernel_rfl) (fun _ _ _ h => h) (by rfl) (fun w hSw => ?_) (by assumption) ?_
        rotate_left
        · (try dsimp only at hSw); first | (go_simp; done) | (go_simp; with_reducible rfl)
        simp only [List.setIfInBounds_toArray, List.set_cons_zero, List.set_cons_succ]
        refine heldTake (v := ?_) 8 54 rfl rfl (by kernel_rfl) (by kernel_rfl) (by kernel_rfl) (fun _ _ _ h => h) (by rfl) (fun w hSw => ?_) (by assumption) ?_
        rotate_left
        · (try dsimp only at hSw); first | (go_simp; done) | (go_simp; with_reducible rfl)
        simp only [List.setIfInBounds_toArray, List.set_cons_zero, List.set_cons_succ]
        refine heldTake (v := ?_) 9 55 rfl rfl (by kernel_rfl) (by kernel_rfl) (by kernel_rfl) (fun _ _ _ h => h) (by rfl) (fun w hSw => ?_) (by assumption) ?_
        rotate_left
        · (try dsimp only at hSw); first | (go_simp; done) | (go_simp; with_reducible rfl)
        simp only [List.setIfInBounds_toArray, List.set_cons_zero, List.set_cons_succ]
        refine heldSkip 10 56 rfl rfl (by kernel_rfl) (by kernel_rfl) (by kernel_rfl) (fun _ _ _ h => h) (by rfl) (by assumption) ?_
        simp only [List.setIfInBounds_toArray, List.set_cons_zero, List.set_cons_succ]
        refine heldSkip 11 57 rfl rfl (by kernel_rfl) (by kernel_rfl) (by kernel_rfl) (fun _ _ _ h => h) (by rfl) (by assumption) ?_
        simp only [List.setIfInBounds_toArray, List.set_cons_zero, List.set_cons_succ]
        refine heldSkip 12 58 rfl rfl (by kernel_rfl) (by kernel_rfl) (by kernel_rfl) (fun _ _ _ h => h) (by rfl) (by assumption) ?_
        simp only [List.setIfInBounds_toArray, List.set_cons_zero, List.set_cons_succ]
        refine heldSkip 13 59 rfl rfl (by kernel_rfl) (by kernel_rfl) (by kernel_rfl) (fun _ _ _ h => h) (by rfl) (by assumption) ?_
        simp only [List.setIfInBounds_toArray, List.set_cons_zero, List.set_cons_succ]
        refine heldSkip 14 60 rfl rfl (by kernel_rfl) (by kernel_rfl) (by kernel_rfl) (fun _ _ _ h => h) (by rfl) (by assumption) ?_
        simp only [List.setIfInBounds_toArray, List.set_cons_zero, List.set_cons_succ]
        refine heldSkip 15 61 rfl rfl (by kernel_rfl) (by kernel_rfl) (by kernel_rfl) (fun _ _ _ h => h) (by rfl) (by assumption) ?_
        simp only [List.setIfInBounds_toArray, List.set_cons_zero, List.set_cons_succ]
        refine heldSkip 16 62 rfl rfl (by kernel_rfl) (by kernel_rfl) (by kernel_rfl) (fun _ _ _ h => h) (by rfl) (by assumption) ?_
        simp only [List.setIfInBounds_toArray, List.set_cons_zero, List.set_cons_succ]
        refine heldSkip 17 63 rfl rfl (by kernel_rfl) (by kernel_rfl) (by kernel_rfl) (fun _ _ _ h => h) (by rfl) (by assumption) ?_
        simp only [List.setIfInBounds_toArray, List.set_cons_zero, List.set_cons_succ]
        refine heldSkip 18 64 rfl rfl (by kernel_rfl) (by kernel_rfl) (by kernel_rfl) (fun _ _ _ h => h) (by rfl) (by assumption) ?_
        simp only [List.setIfInBounds_toArray, List.set_cons_zero, List.set_cons_succ]
        refine heldSkip 19 65 rfl rfl (by kernel_rfl) (by kernel_rfl) (by kernel_rfl) (fun _ _ _ h => h) (by rfl) (by assumption) ?_
        simp only [List.setIfInBounds_toArray, List.set_cons_zero, List.set_cons_succ]
        refine heldSkip 20 66 rfl rfl (by kernel_rfl) (by kernel_rfl) (by kernel_rfl) (fun _ _ _ h => h) (by rfl) (by assumption) ?_
        simp only [List.setIfInBounds_toArray, List.set_cons_zero, List.set_cons_succ]
        refine heldSkip 21 67 rfl rfl (by kernel_rfl) (by kernel_rfl) (by kernel_rfl) (fun _ _ _ h => h) (by rfl) (by assumption) ?_
        simp only [List.setIfInBounds_toArray, List.set_cons_zero, List.set_cons_succ]
        refine heldSkip 22 68 rfl rfl (by kernel_rfl) (by kernel_rfl) (by kernel_rfl) (fun _ _ _ h => h) (by rfl) (by assumption) ?_
        simp only [List.setIfInBounds_toArray, List.set_cons_zero, List.set_cons_succ]
        refine heldTake (v := ?_) 23 69 rfl rfl (by kernel_rfl) (by kernel_rfl) (by kernel_rfl) (fun _ _ _ h => h) (by rfl) (fun w hSw => ?_) (by assumption) ?_
        rotate_left
        · (try dsimp only at hSw); first | (go_simp; done) | (go_simp; with_reducible rfl)
        simp only [List.setIfInBounds_toArray, List.set_cons_zero, List.set_cons_succ]
        refine heldTake (v := ?_) 24 70 rfl rfl (by kernel_rfl) (by kernel_rfl) (by kernel_rfl) (fun _ _ _ h => h) (by rfl) (fun w hSw => ?_) (by assumption) ?_
        rotate_left
        · (try dsimp only at hSw); first | (go_simp; done) | (go_simp; with_reducible rfl)
        simp only [List.setIfInBounds_toArray, List.set_cons_zero, List.set_cons_succ]
        refine wpAnyH_done (by kernel_rfl) ?_ _
        have HBz : Hid (Below wr.heap.size wr _) := hHeld.2.2
        have z0 := hHeld.1
        have CK' := CK _ HBz.out
        clear hHeld HS CK
        go_wp2_with fail
        refine CK'.mono ?_
        rintro e w9 ⟨rfl, hb9⟩
        have HB9 : Hid (Below wr.heap.size wr w9) := chain HBz.out hb9
        clear CK' hb9 z0
        go_wp2
        go_roundw
        case rel => exact ⟨0 + 1, by omega, by rw [HT.out]; rfl, by go_num, chain hB.out HB9.out⟩
        case measure => simp [RowKit.intOf]; omega
      | succ j =>
        have hjl : j < R.length := by omega
        obtain ⟨b', off', sa, sc, e', y0, y1, hz2⟩ := (HZ5.out.later hB.out).at_ hjl
        cases e'
        have hlt2 : cmpR R[j].row R[j + 1].row = -1 := by
          have := (List.pairwise_iff_getElem.1 (riseZ_iff.1 HRI.out).2) j (j + 1) hjl hkl (by omega)
          rcases cmpR_range R[j].row R[j + 1].row with h | h | h
          · exact h
          · unfold cmpZ at this; omega
          · unfold cmpZ at this; omega
        have CC : ∀ V, Below wr.heap.size wr V → Calls Try.prog 32 #[.slice sa R[j].row.length sc, .slice ra R[j + 1].row.length rc] V fun e w' => e = .returned (.int .i64 (-1)) ∧ Lay V w' := fun V hb => by
          obtain ⟨a1, c1, e1, r1, l1, -⟩ := hz.later hb
          obtain ⟨a2, c2, e2, r2, l2, -⟩ := hz2.later hb
          cases e1
          cases e2
          have := rowCompareL sa ra _ _ sc rc _ _ V rfl rfl l2 l1 r2 r1
          rw [hlt2] at this
          exact this
        generalize sameVs R[j + 1].row r = sv at *
        generalize ((R.take (j + 1)).any fun x => sameVs x.row r) = tb at *
        generalize R[j + 1].wt = p at *
        generalize R[j + 1].row.length = rn at *
        generalize R[j].wt = q at *
        generalize R[j].row.length = sn at *
        have hp1 : (p == 0) = false := by simpa using hw0
        have hp2 : (p = 0) = False := eq_false hw0
        have HS : wr.cell? ⟨b, off + j * 2, none⟩ = some (.slice sa sn sc) ∧ wr.cell? ⟨b, off + j * 2 + 1, none⟩ = some (.int .i64 q) ∧ wr.cell? ⟨b, off + (j + 1) * 2, none⟩ = some (.slice ra rn rc) ∧ wr.cell? ⟨b, off + (j + 1) * 2 + 1, none⟩ = some (.int .i64 p) ∧ Hid (Below wr.heap.size wr wr) := ⟨y0, y1, x0, x1, Below.refl _ _⟩
        have jw : IntKind.i64.wrap ((j : Int) + 1 - 1) = (j : Int) := by rw [show ((j : Int) + 1 - 1) = (j : Int) by omega, IntKind.wrap_i64]; omega
        have jw2 : IntKind.i64.wrap (j : Int) = (j : Int) := by rw [IntKind.wrap_i64]; omega
        have j0 : (0 : Int) ≤ (j : Int) := by omega
        have j1 : (j : Int) < (m : Int) := by omega
        have j2 : decide ((0 : Int) < (j : Int) + 1) = true := decide_eq_true (by omega)
        have j3 : ((0 : Int) < (j : Int) + 1) = True := eq_true (by omega)
        have j4 : (0 : Int) ≤ (j : Int) + 1 := by omega
        have j5 : (j : Int) + 1 < (m : Int) := by omega
        clear hz hz2 hw0 hkl hjl x0 x1 y0 y1 hlt2
        cases tb with
        | false =>
          go_upto_region 10 with fail
          refine wp_region_held_drew (S := (fun w' => w'.cell? ⟨b, off + j * 2, none⟩ = some (.slice sa sn sc) ∧ w'.cell? ⟨b, off + j * 2 + 1, none⟩ = some (.int .i64 q) ∧ w'.cell? ⟨b, off + (j + 1) * 2, none⟩ = some (.slice ra rn rc) ∧ w'.cell? ⟨b, off + (j + 1) * 2 + 1, none⟩ = some (.int .i64 p) ∧ Hid (Below wr.heap.size wr w'))) (by kernel_rfl) (keep4Z (Below.refl _ _).drew HS) (fun hHeld => ?_)
          refine heldTake (v := ?_) 0 46 rfl rfl (by kernel_rfl) (by kernel_rfl) (by kernel_rfl) (fun _ _ _ h => h) (by rfl) (fun w hSw => ?_) (by assumption) ?_
          rotate_left
          · (try dsimp only at hSw); first | (go_simp; done) | (go_simp; with_reducible rfl)
          simp only [List.setIfInBounds_toArray, List.set_cons_zero, List.set_cons_succ]
          refine heldTake (v := ?_) 1 47 rfl rfl (by kernel_rfl) (by kernel_rfl) (by kernel_rfl) (fun _ _ _ h => h) (by rfl) (fun w hSw => ?_) (by assumption) ?_
          rotate_left
          · (try dsimp only at hSw); first | (go_simp; done) | (go_simp; with_reducible rfl)
          simp only [List.setIfInBounds_toArray, List.set_cons_zero, List.set_cons_succ]
          refine heldTake (v := ?_) 2 48 rfl rfl (by kernel_rfl) (by kernel_rfl) (by kernel_rfl) (fun _ _ _ h => h) (by rfl) (fun w hSw => ?_) (by assumption) ?_
          rotate_left
          · (try dsimp only at hSw); first | (go_simp; done) | (go_simp; with_reducible rfl)
          simp only [List.setIfInBounds_toArray, List.set_cons_zero, List.set_cons_succ]
          refine heldTake (v := ?_) 3 49 rfl rfl (by kernel_rfl) (by kernel_rfl) (by kernel_rfl) (fun _ _ _ h => h) (by rfl) (fun w hSw => ?_) (by assumption) ?_
          rotate_left
          · (try dsimp only at hSw); first | (go_simp; done) | (go_simp; with_reducible rfl)
          simp only [List.setIfInBounds_toArray, List.set_cons_zero, List.set_cons_succ]
          refine heldTake (v := ?_) 4 50 rfl rfl (by kernel_rfl) (by kernel_rfl) (by kernel_rfl) (fun _ _ _ h => h) (by rfl) (fun w hSw => ?_) (by assumption) ?_
          rotate_left
          · (try dsimp only at hSw); first | (go_simp; done) | (go_simp; with_reducible rfl)
          simp only [List.setIfInBounds_toArray, List.set_cons_zero, List.set_cons_succ]
          refine heldTake (v := ?_) 5 51 rfl rfl (by kernel_rfl) (by kernel_rfl) (by kernel_rfl) (fun _ _ _ h => h) (by rfl) (fun w hSw => ?_) (by assumption) ?_
          rotate_left
          · (try dsimp only at hSw); first | (go_simp; done) | (go_simp; with_reducible rfl)
          simp only [List.setIfInBounds_toArray, List.set_cons_zero, List.set_cons_succ]
          refine heldTake (v := ?_) 6 52 rfl rfl (by kernel_rfl) (by kernel_rfl) (by kernel_rfl) (fun _ _ _ h => h) (by rfl) (fun w hSw => ?_) (by assumption) ?_
          rotate_left
          · (try dsimp only at hSw); first | (go_simp; done) | (go_simp; with_reducible rfl)
          simp only [List.setIfInBounds_toArray, List.set_cons_zero, List.set_cons_succ]
          refine heldTake (v := ?_) 7 53 rfl rfl (by kernel_rfl) (by kernel_rfl) (by kernel_rfl) (fun _ _ _ h => h) (by rfl) (fun w hSw => ?_) (by assumption) ?_
          rotate_left
          · (try dsimp only at hSw); first | (go_simp; done) | (go_simp; with_reducible rfl)
          simp only [List.setIfInBounds_toArray, List.set_cons_zero, List.set_cons_succ]
          refine heldTake (v := ?_) 8 54 rfl rfl (by kernel_rfl) (by kernel_rfl) (by kernel_rfl) (fun _ _ _ h => h) (by rfl) (fun w hSw => ?_) (by assumption) ?_
          rotate_left
          · (try dsimp only at hSw); first | (go_simp; done) | (go_simp; with_reducible rfl)
          simp only [List.setIfInBounds_toArray, List.set_cons_zero, List.set_cons_succ]
          refine heldTake (v := ?_) 9 55 rfl rfl (by kernel_rfl) (by kernel_rfl) (by kernel_rfl) (fun _ _ _ h => h) (by rfl) (fun w hSw => ?_) (by assumption) ?_
          rotate_left
          · (try dsimp only at hSw); first | (go_simp; done) | (go_simp; with_reducible rfl)
          simp only [List.setIfInBounds_toArray, List.set_cons_zero, List.set_cons_succ]
          refine heldTake (v := ?_) 10 56 rfl rfl (by kernel_rfl) (by kernel_rfl) (by kernel_rfl) (fun _ _ _ h => h) (by rfl) (fun w hSw => ?_) (by assumption) ?_
          rotate_left
          · (try dsimp only at hSw); first | (go_simp; done) | (go_simp; with_reducible rfl)
          simp only [List.setIfInBounds_toArray, List.set_cons_zero, List.set_cons_succ]
          refine heldTake (v := ?_) 11 57 rfl rfl (by kernel_rfl) (by kernel_rfl) (by kernel_rfl) (fun _ _ _ h => h) (by rfl) (fun w hSw => ?_) (by assumption) ?_
          rotate_left
          · (try dsimp only at hSw); first | (go_simp; done) | (go_simp; with_reducible rfl)
          simp only [List.setIfInBounds_toArray, List.set_cons_zero, List.set_cons_succ]
          refine heldTake (v := ?_) 12 58 rfl rfl (by kernel_rfl) (by kernel_rfl) (by kernel_rfl) (fun _ _ _ h => h) (by rfl) (fun w hSw => ?_) (by assumption) ?_
          rotate_left
          · (try dsimp only at hSw); first | (go_simp; done) | (go_simp; with_reducible rfl)
          simp only [List.setIfInBounds_toArray, List.set_cons_zero, List.set_cons_succ]
          refine heldTake (v := ?_) 13 59 rfl rfl (by kernel_rfl) (by kernel_rfl) (by kernel_rfl) (fun _ _ _ h => h) (by rfl) (fun w hSw => ?_) (by assumption) ?_
          rotate_left
          · (try dsimp only at hSw); first | (go_simp; done) | (go_simp; with_reducible rfl)
          simp only [List.setIfInBounds_toArray, List.set_cons_zero, List.set_cons_succ]
          refine heldTake (v := ?_) 14 60 rfl rfl (by kernel_rfl) (by kernel_rfl) (by kernel_rfl) (fun _ _ _ h => h) (by rfl) (fun w hSw => ?_) (by assumption) ?_
          rotate_left
          · (try dsimp only at hSw); first | (go_simp; done) | (go_simp; with_reducible rfl)
          simp only [List.setIfInBounds_toArray, List.set_cons_zero, List.set_cons_succ]
          refine heldTake (v := ?_) 15 61 rfl rfl (by kernel_rfl) (by kernel_rfl) (by kernel_rfl) (fun _ _ _ h => h) (by rfl) (fun w hSw => ?_) (by assumption) ?_
          rotate_left
          · (try dsimp only at hSw); first | (go_simp; done) | (go_simp; with_reducible rfl)
          simp only [List.setIfInBounds_toArray, List.set_cons_zero, List.set_cons_succ]
          refine heldTake (v := ?_) 16 62 rfl rfl (by kernel_rfl) (by kernel_rfl) (by kernel_rfl) (fun _ _ _ h => h) (by rfl) (fun w hSw => ?_) (by assumption) ?_
          rotate_left
          · (try dsimp only at hSw); first | (go_simp; done) | (go_simp; with_reducible rfl)
          simp only [List.setIfInBounds_toArray, List.set_cons_zero, List.set_cons_succ]
          refine heldTake (v := ?_) 17 63 rfl rfl (by kernel_rfl) (by kernel_rfl) (by kernel_rfl) (fun _ _ _ h => h) (by rfl) (fun w hSw => ?_) (by assumption) ?_
          rotate_left
          · (try dsimp only at hSw); first | (go_simp; done) | (go_simp; with_reducible rfl)
          simp only [List.setIfInBounds_toArray, List.set_cons_zero, List.set_cons_succ]
          refine heldTake (v := ?_) 18 64 rfl rfl (by kernel_rfl) (by kernel_rfl) (by kernel_rfl) (fun _ _ _ h => h) (by rfl) (fun w hSw => ?_) (by assumption) ?_
          rotate_left
          · (try dsimp only at hSw); first | (go_simp; done) | (go_simp; with_reducible rfl)
          simp only [List.setIfInBounds_toArray, List.set_cons_zero, List.set_cons_succ]
          refine heldTake (v := ?_) 19 65 rfl rfl (by kernel_rfl) (by kernel_rfl) (by kernel_rfl) (fun _ _ _ h => h) (by rfl) (fun w hSw => ?_) (by assumption) ?_
          rotate_left
          · (try dsimp only at hSw); first | (go_simp; done) | (go_simp; with_reducible rfl)
          simp only [List.setIfInBounds_toArray, List.set_cons_zero, List.set_cons_succ]
          refine heldTake (v := ?_) 20 66 rfl rfl (by kernel_rfl) (by kernel_rfl) (by kernel_rfl) (fun _ _ _ h => h) (by rfl) (fun w hSw => ?_) (by assumption) ?_
          rotate_left
          · (try dsimp only at hSw); first | (go_simp; done) | (go_simp; with_reducible rfl)
          simp only [List.setIfInBounds_toArray, List.set_cons_zero, List.set_cons_succ]
          refine heldOne 21 rfl (by kernel_rfl) (by rfl) (fun K2 hK => ?_)
          go_simp
          refine (CC _ hHeld.2.2.2.2.out).mono ?_
          rintro e wz ⟨rfl, hb⟩
          simp only []
          refine hK.out _ _ ?_ (fun hHeld => ?_)
          · exact keep4Z hb.below (by assumption)
          clear hK K2
          try simp only [List.setIfInBounds_toArray, List.set_cons_zero, List.set_cons_succ]
          refine heldTake (v := ?_) 22 68 rfl rfl (by kernel_rfl) (by kernel_rfl) (by kernel_rfl) (fun _ _ _ h => h) (by rfl) (fun w hSw => ?_) (by assumption) ?_
          rotate_left
          · (try dsimp only at hSw); first | (go_simp; done) | (go_simp; with_reducible rfl)
          simp only [List.setIfInBounds_toArray, List.set_cons_zero, List.set_cons_succ]
          refine heldTake (v := ?_) 23 69 rfl rfl (by kernel_rfl) (by kernel_rfl) (by kernel_rfl) (fun _ _ _ h => h) (by rfl) (fun w hSw => ?_) (by assumption) ?_
          rotate_left
          · (try dsimp only at hSw); first | (go_simp; done) | (go_simp; with_reducible rfl)
          simp only [List.setIfInBounds_toArray, List.set_cons_zero, List.set_cons_succ]
          refine heldTake (v := ?_) 24 70 rfl rfl (by kernel_rfl) (by kernel_rfl) (by kernel_rfl) (fun _ _ _ h => h) (by rfl) (fun w hSw => ?_) (by assumption) ?_
          rotate_left
          · (try dsimp only at hSw); first | (go_simp; done) | (go_simp; with_reducible rfl)
          simp only [List.setIfInBounds_toArray, List.set_cons_zero, List.set_cons_succ]
          refine wpAnyH_done (by kernel_rfl) ?_ _
          have HBz : Hid (Below wr.heap.size wr _) := hHeld.2.2.2.2
          have z0 := hHeld.2.2.1
          have CK' := CK _ HBz.out
          clear hHeld HS CK CC
          go_wp2_with fail
          refine CK'.mono ?_
          rintro e w9 ⟨rfl, hb9⟩
          have HB9 : Hid (Below wr.heap.size wr w9) := chain HBz.out hb9
          clear CK' hb9 z0
          go_wp2
          go_roundw
          case rel => exact ⟨j + 1 + 1, by omega, by rw [HT.out]; rfl, by go_num, chain hB.out HB9.out⟩
          case measure => simp [RowKit.intOf]; omega
        | true =>
          go_upto_region 10 with fail
          refine wp_region_held_drew (S := (fun w' => w'.cell? ⟨b, off + j * 2, none⟩ = some (.slice sa sn sc) ∧ w'.cell? ⟨b, off + j * 2 + 1, none⟩ = some (.int .i64 q) ∧ w'.cell? ⟨b, off + (j + 1) * 2, none⟩ = some (.slice ra rn rc) ∧ w'.cell? ⟨b, off + (j + 1) * 2 + 1, none⟩ = some (.int .i64 p) ∧ Hid (Below wr.heap.size wr w'))) (by kernel_rfl) (keep4Z (Below.refl _ _).drew HS) (fun hHeld => ?_)
          refine heldTake (v := ?_) 0 46 rfl rfl (by kernel_rfl) (by kernel_rfl) (by kernel_rfl) (fun _ _ _ h => h) (by rfl) (fun w hSw => ?_) (by assumption) ?_
          rotate_left
          · (try dsimp only at hSw); first | (go_simp; done) | (go_simp; with_reducible rfl)
          simp only [List.setIfInBounds_toArray, List.set_cons_zero, List.set_cons_succ]
          refine heldTake (v := ?_) 1 47 rfl rfl (by kernel_rfl) (by kernel_rfl) (by kernel_rfl) (fun _ _ _ h => h) (by rfl) (fun w hSw => ?_) (by assumption) ?_
          rotate_left
          · (try dsimp only at hSw); first | (go_simp; done) | (go_simp; with_reducible rfl)
          simp only [List.setIfInBounds_toArray, List.set_cons_zero, List.set_cons_succ]
          refine heldTake (v := ?_) 2 48 rfl rfl (by kernel_rfl) (by kernel_rfl) (by kernel_rfl) (fun _ _ _ h => h) (by rfl) (fun w hSw => ?_) (by assumption) ?_
          rotate_left
          · (try dsimp only at hSw); first | (go_simp; done) | (go_simp; with_reducible rfl)
          simp only [List.setIfInBounds_toArray, List.set_cons_zero, List.set_cons_succ]
          refine heldTake (v := ?_) 3 49 rfl rfl (by kernel_rfl) (by kernel_rfl) (by kernel_rfl) (fun _ _ _ h => h) (by rfl) (fun w hSw => ?_) (by assumption) ?_
          rotate_left
          · (try dsimp only at hSw); first | (go_simp; done) | (go_simp; with_reducible rfl)
          simp only [List.setIfInBounds_toArray, List.set_cons_zero, List.set_cons_succ]
          refine heldTake (v := ?_) 4 50 rfl rfl (by kernel_rfl) (by kernel_rfl) (by kernel_rfl) (fun _ _ _ h => h) (by rfl) (fun w hSw => ?_) (by assumption) ?_
          rotate_left
          · (try dsimp only at hSw); first | (go_simp; done) | (go_simp; with_reducible rfl)
          simp only [List.setIfInBounds_toArray, List.set_cons_zero, List.set_cons_succ]
          refine heldTake (v := ?_) 5 51 rfl rfl (by kernel_rfl) (by kernel_rfl) (by kernel_rfl) (fun _ _ _ h => h) (by rfl) (fun w hSw => ?_) (by assumption) ?_
          rotate_left
          · (try dsimp only at hSw); first | (go_simp; done) | (go_simp; with_reducible rfl)
          simp only [List.setIfInBounds_toArray, List.set_cons_zero, List.set_cons_succ]
          refine heldTake (v := ?_) 6 52 rfl rfl (by kernel_rfl) (by kernel_rfl) (by kernel_rfl) (fun _ _ _ h => h) (by rfl) (fun w hSw => ?_) (by assumption) ?_
          rotate_left
          · (try dsimp only at hSw); first | (go_simp; done) | (go_simp; with_reducible rfl)
          simp only [List.setIfInBounds_toArray, List.set_cons_zero, List.set_cons_succ]
          refine heldTake (v := ?_) 7 53 rfl rfl (by kernel_rfl) (by kernel_rfl) (by kernel_rfl) (fun _ _ _ h => h) (by rfl) (fun w hSw => ?_) (by assumption) ?_
          rotate_left
          · (try dsimp only at hSw); first | (go_simp; done) | (go_simp; with_reducible rfl)
          simp only [List.setIfInBounds_toArray, List.set_cons_zero, List.set_cons_succ]
          refine heldTake (v := ?_) 8 54 rfl rfl (by kernel_rfl) (by kernel_rfl) (by kernel_rfl) (fun _ _ _ h => h) (by rfl) (fun w hSw => ?_) (by assumption) ?_
          rotate_left
          · (try dsimp only at hSw); first | (go_simp; done) | (go_simp; with_reducible rfl)
          simp only [List.setIfInBounds_toArray, List.set_cons_zero, List.set_cons_succ]
          refine heldTake (v := ?_) 9 55 rfl rfl (by kernel_rfl) (by kernel_rfl) (by kernel_rfl) (fun _ _ _ h => h) (by rfl) (fun w hSw => ?_) (by assumption) ?_
          rotate_left
          · (try dsimp only at hSw); first | (go_simp; done) | (go_simp; with_reducible rfl)
          simp only [List.setIfInBounds_toArray, List.set_cons_zero, List.set_cons_succ]
          refine heldTake (v := ?_) 10 56 rfl rfl (by kernel_rfl) (by kernel_rfl) (by kernel_rfl) (fun _ _ _ h => h) (by rfl) (fun w hSw => ?_) (by assumption) ?_
          rotate_left
          · (try dsimp only at hSw); first | (go_simp; done) | (go_simp; with_reducible rfl)
          simp only [List.setIfInBounds_toArray, List.set_cons_zero, List.set_cons_succ]
          refine heldTake (v := ?_) 11 57 rfl rfl (by kernel_rfl) (by kernel_rfl) (by kernel_rfl) (fun _ _ _ h => h) (by rfl) (fun w hSw => ?_) (by assumption) ?_
          rotate_left
          · (try dsimp only at hSw); first | (go_simp; done) | (go_simp; with_reducible rfl)
          simp only [List.setIfInBounds_toArray, List.set_cons_zero, List.set_cons_succ]
          refine heldTake (v := ?_) 12 58 rfl rfl (by kernel_rfl) (by kernel_rfl) (by kernel_rfl) (fun _ _ _ h => h) (by rfl) (fun w hSw => ?_) (by assumption) ?_
          rotate_left
          · (try dsimp only at hSw); first | (go_simp; done) | (go_simp; with_reducible rfl)
          simp only [List.setIfInBounds_toArray, List.set_cons_zero, List.set_cons_succ]
          refine heldTake (v := ?_) 13 59 rfl rfl (by kernel_rfl) (by kernel_rfl) (by kernel_rfl) (fun _ _ _ h => h) (by rfl) (fun w hSw => ?_) (by assumption) ?_
          rotate_left
          · (try dsimp only at hSw); first | (go_simp; done) | (go_simp; with_reducible rfl)
          simp only [List.setIfInBounds_toArray, List.set_cons_zero, List.set_cons_succ]
          refine heldTake (v := ?_) 14 60 rfl rfl (by kernel_rfl) (by kernel_rfl) (by kernel_rfl) (fun _ _ _ h => h) (by rfl) (fun w hSw => ?_) (by assumption) ?_
          rotate_left
          · (try dsimp only at hSw); first | (go_simp; done) | (go_simp; with_reducible rfl)
          simp only [List.setIfInBounds_toArray, List.set_cons_zero, List.set_cons_succ]
          refine heldTake (v := ?_) 15 61 rfl rfl (by kernel_rfl) (by kernel_rfl) (by kernel_rfl) (fun _ _ _ h => h) (by rfl) (fun w hSw => ?_) (by assumption) ?_
          rotate_left
          · (try dsimp only at hSw); first | (go_simp; done) | (go_simp; with_reducible rfl)
          simp only [List.setIfInBounds_toArray, List.set_cons_zero, List.set_cons_succ]
          refine heldTake (v := ?_) 16 62 rfl rfl (by kernel_rfl) (by kernel_rfl) (by kernel_rfl) (fun _ _ _ h => h) (by rfl) (fun w hSw => ?_) (by assumption) ?_
          rotate_left
          · (try dsimp only at hSw); first | (go_simp; done) | (go_simp; with_reducible rfl)
          simp only [List.setIfInBounds_toArray, List.set_cons_zero, List.set_cons_succ]
          refine heldTake (v := ?_) 17 63 rfl rfl (by kernel_rfl) (by kernel_rfl) (by kernel_rfl) (fun _ _ _ h => h) (by rfl) (fun w hSw => ?_) (by assumption) ?_
          rotate_left
          · (try dsimp only at hSw); first | (go_simp; done) | (go_simp; with_reducible rfl)
          simp only [List.setIfInBounds_toArray, List.set_cons_zero, List.set_cons_succ]
          refine heldTake (v := ?_) 18 64 rfl rfl (by kernel_rfl) (by kernel_rfl) (by kernel_rfl) (fun _ _ _ h => h) (by rfl) (fun w hSw => ?_) (by assumption) ?_
          rotate_left
          · (try dsimp only at hSw); first | (go_simp; done) | (go_simp; with_reducible rfl)
          simp only [List.setIfInBounds_toArray, List.set_cons_zero, List.set_cons_succ]
          refine heldTake (v := ?_) 19 65 rfl rfl (by kernel_rfl) (by kernel_rfl) (by kernel_rfl) (fun _ _ _ h => h) (by rfl) (fun w hSw => ?_) (by assumption) ?_
          rotate_left
          · (try dsimp only at hSw); first | (go_simp; done) | (go_simp; with_reducible rfl)
          simp only [List.setIfInBounds_toArray, List.set_cons_zero, List.set_cons_succ]
          refine heldTake (v := ?_) 20 66 rfl rfl (by kernel_rfl) (by kernel_rfl) (by kernel_rfl) (fun _ _ _ h => h) (by rfl) (fun w hSw => ?_) (by assumption) ?_
          rotate_left
          · (try dsimp only at hSw); first | (go_simp; done) | (go_simp; with_reducible rfl)
          simp only [List.setIfInBounds_toArray, List.set_cons_zero, List.set_cons_succ]
          refine heldOne 21 rfl (by kernel_rfl) (by rfl) (fun K2 hK => ?_)
          go_simp
          refine (CC _ hHeld.2.2.2.2.out).mono ?_
          rintro e wz ⟨rfl, hb⟩
          simp only []
          refine hK.out _ _ ?_ (fun hHeld => ?_)
          · exact keep4Z hb.below (by assumption)
          clear hK K2
          try simp only [List.setIfInBounds_toArray, List.set_cons_zero, List.set_cons_succ]
          refine heldTake (v := ?_) 22 68 rfl rfl (by kernel_rfl) (by kernel_rfl) (by kernel_rfl) (fun _ _ _ h => h) (by rfl) (fun w hSw => ?_) (by assumption) ?_
          rotate_left
          · (try dsimp only at hSw); first | (go_simp; done) | (go_simp; with_reducible rfl)
          simp only [List.setIfInBounds_toArray, List.set_cons_zero, List.set_cons_succ]
          refine heldTake (v := ?_) 23 69 rfl rfl (by kernel_rfl) (by kernel_rfl) (by kernel_rfl) (fun _ _ _ h => h) (by rfl) (fun w hSw => ?_) (by assumption) ?_
          rotate_left
          · (try dsimp only at hSw); first | (go_simp; done) | (go_simp; with_reducible rfl)
          simp only [List.setIfInBounds_toArray, List.set_cons_zero, List.set_cons_succ]
          refine heldTake (v := ?_) 24 70 rfl rfl (by kernel_rfl) (by kernel_rfl) (by kernel_rfl) (fun _ _ _ h => h) (by rfl) (fun w hSw => ?_) (by assumption) ?_
          rotate_left
          · (try dsimp only at hSw); first | (go_simp; done) | (go_simp; with_reducible rfl)
          simp only [List.setIfInBounds_toArray, List.set_cons_zero, List.set_cons_succ]
          refine wpAnyH_done (by kernel_rfl) ?_ _
          have HBz : Hid (Below wr.heap.size wr _) := hHeld.2.2.2.2
          have z0 := hHeld.2.2.1
          have CK' := CK _ HBz.out
          clear hHeld HS CK CC
          go_wp2
          go_roundw
          case rel => exact ⟨j + 1 + 1, by omega, by rw [HT.out]; rfl, by go_num, chain hB.out HBz.out⟩
          case measure => simp [RowKit.intOf]; omega
    · have e1 : ((R.take k).any fun x => sameVs x.row r) = (R.any fun x => sameVs x.row r) := by rw [List.take_of_length_le (by rw [HM.out]; omega)]
      rw [e1]
      have HBr : Hid (Below w.heap.size w wr) := chain HB5.out hB.out
      have CW := zWeight_any a5 m c5 R ar nr cr r wr HM.out (by omega) (HZ5.out.later hB.out) HNR.out (by omega) (HR5.out.later hB.out)
      have hq := weight_there (r := r) HRI.out
      have HZr : Hid (RdZ wr a5 R) := HZ5.out.later hB.out
      have CZ : ∀ V, Below wr.heap.size wr V → Calls Try.prog 23 #[.slice a5 m c5] V fun e w' => e = .returned (.int .i64 0) ∧ Below V.heap.size V w' := fun V hb => by
        have := zCheck_any a5 m c5 R V HM.out (by omega) (HZr.out.later hb)
        rw [chkZ_yes HRI.out] at this
        exact this
      generalize (R.any fun x => sameVs x.row r) = tb at *
      generalize weightZ R r = wv at *
      clear e1 HB5 HR5 hB
      cases tb with
      | false =>
        have hw : wv = 0 := Classical.byContradiction fun h => by
          have := hq.2 h
          cases this
        subst hw
        clear hq
        go_wp2_with fail
        refine CW.mono ?_
        rintro e w6 ⟨rfl, hb6⟩
        have HB6 : Hid (Below wr.heap.size wr w6) := hb6
        have CZ' := CZ _ hb6
        clear CW hb6 CZ
        go_wp2_with fail
        refine CZ'.mono ?_
        rintro e w7 ⟨rfl, hb7⟩
        have HB7 : Hid (Below wr.heap.size wr w7) := chain HB6.out hb7
        clear CZ' hb7
        go_wp2_with fail
        refine (zwakes_any _).mono ?_
        rintro e w8 ⟨rfl, hb8⟩
        have HB8 : Hid (Below w.heap.size w w8) := chain HBr.out (chain HB7.out hb8)
        clear hb8
        go_wp2
        go_ret
        exact ⟨by simp, HB8.out⟩
      | true =>
        have hw : wv ≠ 0 := hq.1 rfl
        have q1 : (wv != 0) = true := by simpa using hw
        have q2 : (wv = 0) = False := eq_false hw
        clear hq hw
        go_wp2_with fail
        refine CW.mono ?_
        rintro e w6 ⟨rfl, hb6⟩
        have HB6 : Hid (Below wr.heap.size wr w6) := hb6
        have CZ' := CZ _ hb6
        clear CW hb6 CZ
        go_wp2_with fail
        refine CZ'.mono ?_
        rintro e w7 ⟨rfl, hb7⟩
        have HB7 : Hid (Below wr.heap.size wr w7) := chain HB6.out hb7
        clear CZ' hb7
        go_wp2_with fail
        refine (zwakes_any _).mono ?_
        rintro e w8 ⟨rfl, hb8⟩
        have HB8 : Hid (Below w.heap.size w w8) := chain HBr.out (chain HB7.out hb8)
        clear hb8
        go_wp2
        go_ret
        exact ⟨by simp, HB8.out⟩

theorem sorted_any (a ar : Option Addr) (n cap nr cr : Nat) (X : List PI) (r : List PV) (w : World) (hn : X.length = n) (hl : n ≤ 9223372036854775807) (hX : RdJ w a X) (hV : IsVals w ar nr cr r) :
    Calls Try.prog 7 #[.slice a n cap, .slice ar nr cr] w fun e w' => e = .returned (.bool true) ∧ Below w.heap.size w w' := by
  have hlr := hV.small
  obtain ⟨hr, hcr, hR, hnil⟩ := hV.vals
  cases h1 : heavyI X with
  | true => exact sorted_heavy a ar n cap nr cr X r w hn hl hX hr hlr hcr hnil hR (by rw [h1]; rfl)
  | false =>
    cases h2 : heavyI [⟨r, 0⟩] with
    | true => exact sorted_heavy a ar n cap nr cr X r w hn hl hX hr hlr hcr hnil hR (by rw [h1, h2]; rfl)
    | false => exact sorted_light a ar n cap nr cr X r w hn hl hX hr hlr hcr hnil hR h1 h2

end Go.Proofs.Ythjebjbjkkgjpaa
