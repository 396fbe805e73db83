/-
  Texts of the proof of OpKinds, one behind the other.
-/
import Derived.Test.YtjpcljmlkgjbgaaRows
import Derived.Test.YtjpcljmlkgjbgaaG37OpKinds
import Derived.Test.YtjpcljmlkgjbgaaG42OpKinds
import Derived.Test.YtjpcljmlkgjbgaaG48OpKinds
namespace Go.Proofs.Ytjpcljmlkgjbgaa
open Go.RowKit Go.Lib
set_option linter.unusedVariables false

theorem spoil_of {n : Int} {L : List (List Int)} {x y : PO} (h : checkF n L x = 0) (hy : issuedF n y = false ∨ withinF L y = false) : checkF n L y = 1 := by
  obtain ⟨hf, -, -, -, -⟩ := checkF_ok h
  unfold checkF
  rw [if_neg (by omega), if_neg]
  rcases hy with hy | hy <;> rw [hy] <;> simp

theorem wrap64_id {n : Int} (h : -9223372036854775808 ≤ n) (h' : n ≤ 9223372036854775807) : wrap64 n = n := by
  unfold wrap64
  omega

theorem wrap64_in (n : Int) : In64 (wrap64 n) := by
  unfold wrap64 In64
  omega

theorem spoil1 {n : Int} {L : List (List Int)} {x : PO} (h : checkF n L x = 0) : checkF n L { x with sq := wrap64 (x.sq + 1) } = 1 := by
  obtain ⟨-, -, -, hi, -⟩ := checkF_ok h
  obtain ⟨i1, i2, i3, ⟨q, hq, i4, i5⟩, i6, i7, i8⟩ := issuedF_ok hi
  refine spoil_of h (.inl ?_)
  unfold issuedF
  have e : decide (wrap64 (x.sq + 1) = x.dp) = false := decide_eq_false (by rw [wrap64_id (by omega) (by omega)]; omega)
  show (_ && decide (wrap64 (x.sq + 1) = x.dp)) = false
  rw [e, Bool.and_false]

theorem spoil2 {n : Int} {L : List (List Int)} {x : PO} (h : checkF n L x = 0) : checkF n L { x with dn := wrap64 (x.dn + 1) } = 1 := by
  obtain ⟨-, -, -, hi, -⟩ := checkF_ok h
  have hi' := hi
  obtain ⟨i1, i2, i3, ⟨q, hq, i4, i5⟩, i6, i7, i8⟩ := issuedF_ok hi
  have hd := rightD_at i3 hq
  refine spoil_of h (.inl ?_)
  unfold issuedF at hi' ⊢
  simp only [Bool.and_eq_true, decide_eq_true_eq] at hi'
  have h3 := hi'.1.1.1.2
  have e : nextD x.deps x.dp (wrap64 (x.dn + 1)) = false := by
    unfold nextD at h3 ⊢
    simp only [Bool.and_eq_true, decide_eq_true_eq] at h3
    have : decide (wrap64 (x.dn + 1) = atD x.deps x.dp + 1) = false := decide_eq_false (by rw [wrap64_id (by omega) (by omega)]; omega)
    rw [this, Bool.and_false]
  show (_ && nextD x.deps x.dp (wrap64 (x.dn + 1)) && _ && _ && _) = false
  rw [e]
  simp

theorem spoil3 {n : Int} {L : List (List Int)} {x : PO} (h : checkF n L x = 0) : checkF n L { x with deps := x.deps ++ [0] } = 1 := by
  obtain ⟨-, -, -, hi, -⟩ := checkF_ok h
  obtain ⟨i1, -⟩ := issuedF_ok hi
  refine spoil_of h (.inl ?_)
  unfold issuedF
  have e : decide (((x.deps ++ [0]).length : Int) = n) = false := decide_eq_false (by rw [List.length_append, List.length_singleton]; omega)
  show (decide (((x.deps ++ [0]).length : Int) = n) && _ && _ && _ && _ && _) = false
  rw [e]
  simp

theorem spoil4 {n : Int} {L : List (List Int)} {x : PO} (h : checkF n L x = 0) : checkF n L { x with key := ⟨#[]⟩ } = 1 := by
  refine spoil_of h (.inr ?_)
  unfold withinF
  have e : keyF ⟨#[]⟩ = false := by decide
  show (_ && keyF ⟨#[]⟩ && _) = false
  rw [e]
  simp

theorem spoil5 {n : Int} {L : List (List Int)} {x : PO} {m : Nat} (hm : L.length = m) (h : checkF n L x = 0) : checkF n L { x with table := (m : Int) } = 1 := by
  refine spoil_of h (.inr ?_)
  unfold withinF
  have e : placeF L.length (m : Int) = false := by unfold placeF; exact decide_eq_false (by omega)
  show (placeF L.length (m : Int) && _ && _) = false
  rw [e]
  simp

theorem spoil6 {n : Int} {L : List (List Int)} {x : PO} (h : checkF n L x = 0) : checkF n L { x with dots := x.dots ++ [(x.dp, x.dn)] } = 1 := by
  obtain ⟨-, -, -, hi, hw⟩ := checkF_ok h
  obtain ⟨i1, i2, i3, ⟨q, hq, i4, i5⟩, -⟩ := issuedF_ok hi
  refine spoil_of h (.inr ?_)
  have e1 : decide ((x.dots ++ [(x.dp, x.dn)]).length = 0) = false := decide_eq_false (by rw [List.length_append]; simp)
  have e2 : remF x.deps (x.dots ++ [(x.dp, x.dn)]) = false := by
    cases hr : remF x.deps (x.dots ++ [(x.dp, x.dn)]) with
    | false => rfl
    | true =>
      obtain ⟨-, -, ha⟩ := remF_ok hr
      have := ha (x.dp, x.dn) (by simp)
      unfold hasD at this
      simp only [Bool.and_eq_true, decide_eq_true_eq] at this
      obtain ⟨q2, hq2, e1, e2⟩ := atD_at this.1
      rw [e2] at this
      have hqq : q2 = q := by omega
      subst hqq
      omega
  unfold withinF
  show (_ && (if x.kind = 1 then _ && decide ((x.dots ++ [(x.dp, x.dn)]).length = 0) else if x.kind = 2 then _ && (_ && decide ((x.dots ++ [(x.dp, x.dn)]).length = 0)) else if x.kind = 3 then remF x.deps (x.dots ++ [(x.dp, x.dn)]) && _ && _ else false)) = false
  rw [e1, e2]
  by_cases k1 : x.kind = 1
  · simp [k1]
  by_cases k2 : x.kind = 2
  · simp [k2]
  by_cases k3 : x.kind = 3
  · simp [k3]
  simp [k1, k2, k3]

/-- What may be has few dots. -/
theorem few_dots {n : Int} {L : List (List Int)} {x : PO} (h : checkF n L x = 0) : x.dots.length ≤ 64 ∧ x.deps.length ≤ 5 := by
  obtain ⟨-, -, -, hi, hw⟩ := checkF_ok h
  obtain ⟨-, i2, -⟩ := issuedF_ok hi
  refine ⟨?_, i2⟩
  unfold withinF at hw
  by_cases k1 : x.kind = 1
  · simp [k1] at hw
    simp [hw]
  by_cases k2 : x.kind = 2
  · simp [k2] at hw
    simp [hw]
  by_cases k3 : x.kind = 3
  · simp [k3] at hw
    exact (remF_ok hw.2.1.1).2.1
  simp [k1, k2, k3] at hw

/-- A row of another kind stays when one grows. -/
theorem own_other {w w' : World} {B1 B2 : Nat} {e1 e2 : TypeId} {s1 s2 n1 n2 : Nat} {v1 v2 : Value} {u1 u2 : List Value} (h1 : w.ownsRow B1 e1 s1 v1 n1 u1) (h2 : w.ownsRow B2 e2 s2 v2 n2 u2) (hne : e1 ≠ e2) (hg : w.grownBy w' v2.ownBlock) : w'.ownsRow B1 e1 s1 v1 n1 u1 := by
  obtain ⟨k, h1 | ⟨g, cap, cur, hv, hb, hh, hc⟩⟩ := h1
  · exact ⟨k, .inl h1⟩
  · refine ⟨k, .inr ⟨g, cap, cur, hv, hb, ?_, hc⟩⟩
    refine (hg.block g (heap_lt hh) fun e => ?_).trans hh
    obtain ⟨_, ⟨rfl, -⟩ | ⟨g2, cap2, cur2, rfl, -, hh2, -⟩⟩ := h2
    · cases e
    · simp only [Value.ownBlock, Option.some.injEq] at e
      subst e
      rw [hh] at hh2
      simp only [Option.some.injEq, Obj.cells.injEq] at hh2
      exact hne hh2.2.1

/-- A row stays when a cell of a block of another type is set. -/
theorem own_set {w : World} {B1 b i : Nat} {e1 t : TypeId} {s1 n1 : Nat} {v1 u : Value} {u1 : List Value} {cs : Array Value} (h1 : w.ownsRow B1 e1 s1 v1 n1 u1) (hc : CellsAt w b cs t) (hne : e1 ≠ t) : (w.setCell ⟨b, i, none⟩ u).ownsRow B1 e1 s1 v1 n1 u1 := by
  obtain ⟨k, h1 | ⟨g, cap, cur, hv, hb, hh, hx⟩⟩ := h1
  · exact ⟨k, .inl h1⟩
  · refine ⟨k, .inr ⟨g, cap, cur, hv, hb, (same_set g fun e => ?_).trans hh, hx⟩⟩
    subst e
    unfold CellsAt at hc
    rw [hh] at hc
    simp only [Option.some.injEq, Obj.cells.injEq] at hc
    exact hne hc.2.1

/-- append(v, q), of ints. -/
theorem grow_int {w : World} {B ty n s : Nat} {v : Value} {xs : List Int} {q : Int} (hown : OwnI w B v xs) (hn : xs.length = n) (h1 : n ≤ 65536) (hB : B ≤ w.heap.size) (c0 : w.cell? ⟨s, 0, none⟩ = some (.int .i64 q)) :
    ∃ a' cap' w', (Builtin.append_ #[26, 26] ty #[v, .slice (some ⟨s, 0, none⟩) 1 1]).run Try.prog w = .ok (.slice a' (n + 1) cap') w' ∧ n + 1 ≤ cap' ∧ OwnI w' B (.slice a' (n + 1) cap') (xs ++ [q]) ∧ (a' = none → xs ++ [q] = [] ∧ cap' = 0) ∧ w.grownBy w' v.ownBlock := by
  subst hn
  obtain ⟨i0, hi, hz0, hz1, hz2⟩ := info_parts Try.infoI
  obtain ⟨v', w', hrun, ho, hg, _⟩ := run_append_own (P := Try.prog) (w := w) B 26 ty 3 i0 (.int .i64 0) 1 8 Try.underlying26 hi hz0 hz1 hz2 rfl (by decide) v xs.length (cellsI xs) hown ⟨s, 0, none⟩ 1 1 (cellsI [q]) rfl (fun j u hj => by
    rw [add_plain3]
    rcases j with _ | j
    · simp [cellsI] at hj; subst hj; exact c0
    · simp [cellsI] at hj) (cellsI_one _) (by unfold maxLen; omega) (by omega) hB
  have ho' : OwnI w' B v' (xs ++ [q]) := by
    unfold OwnI
    rw [List.length_append, show cellsI (xs ++ [q]) = cellsI xs ++ cellsI [q] from by simp [cellsI]]
    exact ho
  obtain ⟨a', cap', rfl, hc, _, hnl⟩ := ho'.form
  rw [List.length_append] at hrun ho' hc
  exact ⟨a', cap', w', hrun, hc, ho', hnl, hg⟩

/-- append(v, d), of dots. -/
theorem grow_dot {w : World} {B ty n s : Nat} {v : Value} {xs : List (Int × Int)} {p q : Int} (hown : OwnD w B v xs) (hn : xs.length = n) (h1 : n ≤ 65536) (hB : B ≤ w.heap.size) (c0 : w.cell? ⟨s, 0, none⟩ = some (.int .i64 p)) (c1 : w.cell? ⟨s, 1, none⟩ = some (.int .i64 q)) :
    ∃ a' cap' w', (Builtin.append_ #[30, 30] ty #[v, .slice (some ⟨s, 0, none⟩) 1 1]).run Try.prog w = .ok (.slice a' (n + 1) cap') w' ∧ n + 1 ≤ cap' ∧ OwnD w' B (.slice a' (n + 1) cap') (xs ++ [(p, q)]) ∧ (a' = none → xs ++ [(p, q)] = [] ∧ cap' = 0) ∧ w.grownBy w' v.ownBlock := by
  subst hn
  obtain ⟨i0, hi, hz0, hz1, hz2⟩ := info_parts Try.infoDt
  obtain ⟨v', w', hrun, ho, hg, _⟩ := run_append_own (P := Try.prog) (w := w) B 30 ty 25 i0 (.agg #[.int .i64 0, .int .i64 0]) 2 16 Try.underlying30 hi hz0 hz1 hz2 rfl (by decide) v xs.length (cellsDs xs) hown ⟨s, 0, none⟩ 1 1 [.int .i64 p, .int .i64 q] rfl (fun j u hj => by
    rw [add_plain3]
    rcases j with _ | _ | j
    · simp at hj; subst hj; exact c0
    · simp at hj; subst hj; exact c1
    · simp at hj) (by intro u hu; simp at hu; rcases hu with rfl | rfl <;> rfl) (by unfold maxLen; omega) (by omega) hB
  have ho' : OwnD w' B v' (xs ++ [(p, q)]) := by
    unfold OwnD
    rw [List.length_append, cellsDs_append]
    exact ho
  obtain ⟨a', cap', rfl, hc, _, hnl⟩ := ho'.form
  rw [List.length_append] at hrun ho' hc
  exact ⟨a', cap', w', hrun, hc, ho', hnl, hg⟩

end Go.Proofs.Ytjpcljmlkgjbgaa

namespace Go.Proofs.Ytjpcljmlkgjbgaa
open Go.RowKit Go.Lib
set_option linter.unusedVariables false

set_option maxRecDepth 100000 in
set_option maxHeartbeats 8000000 in
theorem okinds_forms (n : Int) (af : Option Addr) (nf fcap : Nat) (L : List (List Int)) (x : PO) (da va oa : Option Addr) (dc vc oc : Nat) (what : Int) (w : World) (hn : L.length = nf) (hnf : nf ≤ 9223372036854775807) (hv : ∀ v ∈ L, v.length ≤ 9223372036854775807) (hr : RdII w af L) (hx : InO w x da va oa dc vc oc) (hF : heavyFs L = true) :
    Calls Try.prog 5 #[.int .i64 n, .slice af nf fcap, .agg (cellsO x da va oa dc vc oc), .int .i64 what] w fun e w' => e = .returned (.bool true) ∧ Below w.heap.size w w' := by
  obtain ⟨A, hAA⟩ : ∃ A : World, A = w.alloc (.cells (cellsO x da va oa dc vc oc) 32) := ⟨_, rfl⟩
  have HA0 : Hid (Below w.heap.size w A) := by rw [hAA]; exact alloc_below _ _
  have hsz : A.heap.size = w.heap.size + 1 := by rw [hAA]; simp
  have HKx0 : Hid (CellsAt A w.heap.size (cellsO x da va oa dc vc oc) 32) := by rw [hAA]; exact CellsAt.made rfl
  have HAA : Hid (A = w.alloc (.cells #[.int .i64 x.dp, .int .i64 x.dn, .slice da x.deps.length dc, .int .i64 x.sp, .int .i64 x.sl, .int .i64 x.sq, .int .i64 x.kind, .int .i64 x.table, .string x.key, .int .i64 x.col, .slice va x.vals.length vc, .slice oa x.dots.length oc] 32)) := hAA
  have C0 := heavyForms_any af nf fcap L A hn hnf hv (hr.later HA0.out)
  rw [hF] at C0
  clear hAA
  clear hsz HKx0 hn hv hr hx hF
  go_enter Try.func5, Try.ntmps5
  go_wp2_with fail
  rw [← HAA.out]
  refine C0.mono ?_
  rintro e w1 ⟨rfl, hw⟩
  subst w1
  go_wp2
  go_ret
  exact ⟨rfl, HA0.out⟩

set_option maxRecDepth 100000 in
set_option maxHeartbeats 8000000 in
theorem okinds_heavy (n : Int) (af : Option Addr) (nf fcap : Nat) (L : List (List Int)) (x : PO) (da va oa : Option Addr) (dc vc oc : Nat) (what : Int) (w : World) (hn : L.length = nf) (hnf : nf ≤ 9223372036854775807) (hv : ∀ v ∈ L, v.length ≤ 9223372036854775807) (hr : RdII w af L) (hx : InO w x da va oa dc vc oc) (hF : heavyFs L = false) (hO : heavyOs [x] = true) :
    Calls Try.prog 5 #[.int .i64 n, .slice af nf fcap, .agg (cellsO x da va oa dc vc oc), .int .i64 what] w fun e w' => e = .returned (.bool true) ∧ Below w.heap.size w w' := by
  obtain ⟨A, hAA⟩ : ∃ A : World, A = w.alloc (.cells (cellsO x da va oa dc vc oc) 32) := ⟨_, rfl⟩
  have HA0 : Hid (Below w.heap.size w A) := by rw [hAA]; exact alloc_below _ _
  have hsz : A.heap.size = w.heap.size + 1 := by rw [hAA]; simp
  have HKx0 : Hid (CellsAt A w.heap.size (cellsO x da va oa dc vc oc) 32) := by rw [hAA]; exact CellsAt.made rfl
  have HAA : Hid (A = w.alloc (.cells #[.int .i64 x.dp, .int .i64 x.dn, .slice da x.deps.length dc, .int .i64 x.sp, .int .i64 x.sl, .int .i64 x.sq, .int .i64 x.kind, .int .i64 x.table, .string x.key, .int .i64 x.col, .slice va x.vals.length vc, .slice oa x.dots.length oc] 32)) := hAA
  have C0 := heavyForms_any af nf fcap L A hn hnf hv (hr.later HA0.out)
  rw [hF] at C0
  clear hAA
  obtain ⟨B, hBB⟩ : ∃ B : World, B = A.alloc (.cells #[.int .i64 x.dp, .int .i64 x.dn, .slice da x.deps.length dc, .int .i64 x.sp, .int .i64 x.sl, .int .i64 x.sq, .int .i64 x.kind, .int .i64 x.table, .string x.key, .int .i64 x.col, .slice va x.vals.length vc, .slice oa x.dots.length oc] 32) := ⟨_, rfl⟩
  have HB0 : Hid (Below w.heap.size w B) := by rw [hBB]; exact chain HA0.out (alloc_below _ _)
  have HKx : Hid (CellsAt B w.heap.size (cellsO x da va oa dc vc oc) 32) := by rw [hBB]; exact HKx0.out.later (alloc_below _ _)
  have HKz : Hid (CellsAt B (w.heap.size + 1) #[.int .i64 x.dp, .int .i64 x.dn, .slice da x.deps.length dc, .int .i64 x.sp, .int .i64 x.sl, .int .i64 x.sq, .int .i64 x.kind, .int .i64 x.table, .string x.key, .int .i64 x.col, .slice va x.vals.length vc, .slice oa x.dots.length oc] 32) := by rw [hBB]; exact CellsAt.made (by rw [hsz])
  have C1 := heavyO_any (some ⟨w.heap.size + 1, 0, none⟩) 1 1 [x] B rfl (by omega) (rdO_one HKz.out (hx.later HB0.out))
  rw [hO] at C1
  have HBB : Hid (B = A.alloc (.cells #[.int .i64 x.dp, .int .i64 x.dn, .slice da x.deps.length dc, .int .i64 x.sp, .int .i64 x.sl, .int .i64 x.sq, .int .i64 x.kind, .int .i64 x.table, .string x.key, .int .i64 x.col, .slice va x.vals.length vc, .slice oa x.dots.length oc] 32)) := hBB
  obtain ⟨f0, f1, f2, f3, f4, f5, f6, f7, f8, f9, f10, f11⟩ := cellsO_at HKx0.out
  clear hBB HKz HKx0
  clear HKx hn hv hr hx hF hO
  go_enter Try.func5, Try.ntmps5
  go_wp2_with fail
  rw [← HAA.out]
  refine C0.mono ?_
  rintro e w1 ⟨rfl, hw⟩
  subst w1
  clear C0 HAA
  go_wp2_with fail
  rw [← HBB.out]
  refine C1.mono ?_
  rintro e w1 ⟨rfl, hw⟩
  subst w1
  go_wp2
  go_ret
  exact ⟨rfl, HB0.out⟩

set_option maxRecDepth 100000 in
set_option maxHeartbeats 8000000 in
theorem okinds_not (n : Int) (af : Option Addr) (nf fcap : Nat) (L : List (List Int)) (x : PO) (da va oa : Option Addr) (dc vc oc : Nat) (what : Int) (w : World) (hn : L.length = nf) (hnf : nf ≤ 9223372036854775807) (hv : ∀ v ∈ L, v.length ≤ 9223372036854775807) (hr : RdII w af L) (hx : InO w x da va oa dc vc oc) (hF : heavyFs L = false) (hO : heavyOs [x] = false) (hc : checkF n L x ≠ 0) :
    Calls Try.prog 5 #[.int .i64 n, .slice af nf fcap, .agg (cellsO x da va oa dc vc oc), .int .i64 what] w fun e w' => e = .returned (.bool true) ∧ Below w.heap.size w w' := by
  obtain ⟨A, hAA⟩ : ∃ A : World, A = w.alloc (.cells (cellsO x da va oa dc vc oc) 32) := ⟨_, rfl⟩
  have HA0 : Hid (Below w.heap.size w A) := by rw [hAA]; exact alloc_below _ _
  have hsz : A.heap.size = w.heap.size + 1 := by rw [hAA]; simp
  have HKx0 : Hid (CellsAt A w.heap.size (cellsO x da va oa dc vc oc) 32) := by rw [hAA]; exact CellsAt.made rfl
  have HAA : Hid (A = w.alloc (.cells #[.int .i64 x.dp, .int .i64 x.dn, .slice da x.deps.length dc, .int .i64 x.sp, .int .i64 x.sl, .int .i64 x.sq, .int .i64 x.kind, .int .i64 x.table, .string x.key, .int .i64 x.col, .slice va x.vals.length vc, .slice oa x.dots.length oc] 32)) := hAA
  have C0 := heavyForms_any af nf fcap L A hn hnf hv (hr.later HA0.out)
  rw [hF] at C0
  clear hAA
  obtain ⟨B, hBB⟩ : ∃ B : World, B = A.alloc (.cells #[.int .i64 x.dp, .int .i64 x.dn, .slice da x.deps.length dc, .int .i64 x.sp, .int .i64 x.sl, .int .i64 x.sq, .int .i64 x.kind, .int .i64 x.table, .string x.key, .int .i64 x.col, .slice va x.vals.length vc, .slice oa x.dots.length oc] 32) := ⟨_, rfl⟩
  have HB0 : Hid (Below w.heap.size w B) := by rw [hBB]; exact chain HA0.out (alloc_below _ _)
  have HKx : Hid (CellsAt B w.heap.size (cellsO x da va oa dc vc oc) 32) := by rw [hBB]; exact HKx0.out.later (alloc_below _ _)
  have HKz : Hid (CellsAt B (w.heap.size + 1) #[.int .i64 x.dp, .int .i64 x.dn, .slice da x.deps.length dc, .int .i64 x.sp, .int .i64 x.sl, .int .i64 x.sq, .int .i64 x.kind, .int .i64 x.table, .string x.key, .int .i64 x.col, .slice va x.vals.length vc, .slice oa x.dots.length oc] 32) := by rw [hBB]; exact CellsAt.made (by rw [hsz])
  have C1 := heavyO_any (some ⟨w.heap.size + 1, 0, none⟩) 1 1 [x] B rfl (by omega) (rdO_one HKz.out (hx.later HB0.out))
  rw [hO] at C1
  have HBB : Hid (B = A.alloc (.cells #[.int .i64 x.dp, .int .i64 x.dn, .slice da x.deps.length dc, .int .i64 x.sp, .int .i64 x.sl, .int .i64 x.sq, .int .i64 x.kind, .int .i64 x.table, .string x.key, .int .i64 x.col, .slice va x.vals.length vc, .slice oa x.dots.length oc] 32)) := hBB
  obtain ⟨f0, f1, f2, f3, f4, f5, f6, f7, f8, f9, f10, f11⟩ := cellsO_at HKx0.out
  clear hBB HKz HKx0
  have hox : heavyO x = false := by simpa [heavyOs] using hO
  obtain ⟨lx, -, -, -, -⟩ := hx.of_light hox
  have HLx : Hid (LiesO w x da va oa dc vc oc) := lx
  obtain ⟨l1, l2⟩ := light_forms hF
  have C2 := fun (V : World) (hb : Below w.heap.size w V) => lawCheck_any n af nf fcap L x da va oa dc vc oc V hn (by omega) (fun v h => by have := l2 v h; omega) (hr.later hb) (HLx.out.later hb) hx.i64
  have qc : (checkF n L x == 0) = false := by simpa using hc
  generalize checkF n L x = c at *
  clear hn hv hr hx hF hO hox lx l1 l2
  go_enter Try.func5, Try.ntmps5
  go_wp2_with fail
  rw [← HAA.out]
  refine C0.mono ?_
  rintro e w1 ⟨rfl, hw⟩
  subst w1
  clear C0 HAA
  go_wp2_with fail
  rw [← HBB.out]
  refine C1.mono ?_
  rintro e w1 ⟨rfl, hw⟩
  subst w1
  clear C1 HBB HA0 hsz f0 f1 f2 f3 f4 f5 f6 f7 f8 f9 f10 f11
  obtain ⟨f0, f1, f2, f3, f4, f5, f6, f7, f8, f9, f10, f11⟩ := cellsO_at HKx.out
  go_wp2_with fail
  refine (C2 _ HB0.out).mono ?_
  rintro e w1 ⟨rfl, hb1⟩
  have HB1 : Hid (Below w.heap.size w w1) := chain HB0.out hb1
  clear C2 f0 f1 f2 f3 f4 f5 f6 f7 f8 f9 f10 f11
  go_wp2
  go_ret
  exact ⟨rfl, HB1.out⟩

set_option maxRecDepth 100000 in
set_option maxHeartbeats 8000000 in
theorem okinds_0 (n : Int) (af : Option Addr) (nf fcap : Nat) (L : List (List Int)) (x : PO) (da va oa : Option Addr) (dc vc oc : Nat) (what : Int) (w : World) (hn : L.length = nf) (hnf : nf ≤ 9223372036854775807) (hv : ∀ v ∈ L, v.length ≤ 9223372036854775807) (hr : RdII w af L) (hx : InO w x da va oa dc vc oc) (hF : heavyFs L = false) (hO : heavyOs [x] = false) (hc : checkF n L x = 0) (ht : (IntKind.u64.wrap what).tmod 7 = 0) :
    Calls Try.prog 5 #[.int .i64 n, .slice af nf fcap, .agg (cellsO x da va oa dc vc oc), .int .i64 what] w fun e w' => e = .returned (.bool true) ∧ Below w.heap.size w w' := by
  have t0 : ((IntKind.u64.wrap what).tmod 7 == 0) = true := by rw [ht]; decide
  obtain ⟨A, hAA⟩ : ∃ A : World, A = w.alloc (.cells (cellsO x da va oa dc vc oc) 32) := ⟨_, rfl⟩
  have HA0 : Hid (Below w.heap.size w A) := by rw [hAA]; exact alloc_below _ _
  have hsz : A.heap.size = w.heap.size + 1 := by rw [hAA]; simp
  have HKx0 : Hid (CellsAt A w.heap.size (cellsO x da va oa dc vc oc) 32) := by rw [hAA]; exact CellsAt.made rfl
  have HAA : Hid (A = w.alloc (.cells #[.int .i64 x.dp, .int .i64 x.dn, .slice da x.deps.length dc, .int .i64 x.sp, .int .i64 x.sl, .int .i64 x.sq, .int .i64 x.kind, .int .i64 x.table, .string x.key, .int .i64 x.col, .slice va x.vals.length vc, .slice oa x.dots.length oc] 32)) := hAA
  have C0 := heavyForms_any af nf fcap L A hn hnf hv (hr.later HA0.out)
  rw [hF] at C0
  clear hAA
  obtain ⟨B, hBB⟩ : ∃ B : World, B = A.alloc (.cells #[.int .i64 x.dp, .int .i64 x.dn, .slice da x.deps.length dc, .int .i64 x.sp, .int .i64 x.sl, .int .i64 x.sq, .int .i64 x.kind, .int .i64 x.table, .string x.key, .int .i64 x.col, .slice va x.vals.length vc, .slice oa x.dots.length oc] 32) := ⟨_, rfl⟩
  have HB0 : Hid (Below w.heap.size w B) := by rw [hBB]; exact chain HA0.out (alloc_below _ _)
  have HKx : Hid (CellsAt B w.heap.size (cellsO x da va oa dc vc oc) 32) := by rw [hBB]; exact HKx0.out.later (alloc_below _ _)
  have HKz : Hid (CellsAt B (w.heap.size + 1) #[.int .i64 x.dp, .int .i64 x.dn, .slice da x.deps.length dc, .int .i64 x.sp, .int .i64 x.sl, .int .i64 x.sq, .int .i64 x.kind, .int .i64 x.table, .string x.key, .int .i64 x.col, .slice va x.vals.length vc, .slice oa x.dots.length oc] 32) := by rw [hBB]; exact CellsAt.made (by rw [hsz])
  have C1 := heavyO_any (some ⟨w.heap.size + 1, 0, none⟩) 1 1 [x] B rfl (by omega) (rdO_one HKz.out (hx.later HB0.out))
  rw [hO] at C1
  have HBB : Hid (B = A.alloc (.cells #[.int .i64 x.dp, .int .i64 x.dn, .slice da x.deps.length dc, .int .i64 x.sp, .int .i64 x.sl, .int .i64 x.sq, .int .i64 x.kind, .int .i64 x.table, .string x.key, .int .i64 x.col, .slice va x.vals.length vc, .slice oa x.dots.length oc] 32)) := hBB
  obtain ⟨f0, f1, f2, f3, f4, f5, f6, f7, f8, f9, f10, f11⟩ := cellsO_at HKx0.out
  clear hBB HKz HKx0
  have hox : heavyO x = false := by simpa [heavyOs] using hO
  obtain ⟨lx, -, -, -, -⟩ := hx.of_light hox
  have HLx : Hid (LiesO w x da va oa dc vc oc) := lx
  obtain ⟨l1, l2⟩ := light_forms hF
  have C2 := fun (V : World) (hb : Below w.heap.size w V) => lawCheck_any n af nf fcap L x da va oa dc vc oc V hn (by omega) (fun v h => by have := l2 v h; omega) (hr.later hb) (HLx.out.later hb) hx.i64
  have C3 := fun (V : World) (hb : Below w.heap.size w V) => twinOp_any x da va oa dc vc oc V (HLx.out.later hb)
  have C4 := fun (V : World) (hb : Below w.heap.size w V) => opCheck_any n af nf fcap L x da va oa dc vc oc V hn (by omega) (fun v h => by have := l2 v h; omega) (hr.later hb) (HLx.out.later hb) hx.i64
  have C5 := fun (y : PO) (da va oa : Option Addr) (dc vc oc : Nat) (V : World) (hb : Below w.heap.size w V) (h : LiesO V y da va oa dc vc oc) (hi : I64O y) => opCheck_any n af nf fcap L y da va oa dc vc oc V hn (by omega) (fun v h => by have := l2 v h; omega) (hr.later hb) h hi
  have C6 := fun (y : PO) (da va oa : Option Addr) (dc vc oc : Nat) (V : World) (hb : Below w.heap.size w V) (h : LiesO V y da va oa dc vc oc) (hi : I64O y) => lawCheck_any n af nf fcap L y da va oa dc vc oc V hn (by omega) (fun v h => by have := l2 v h; omega) (hr.later hb) h hi
  rw [hc] at C2 C4
  have HC5 : Hid (∀ (y : PO) (da va oa : Option Addr) (dc vc oc : Nat) (V : World), _) := C5
  have HC6 : Hid (∀ (y : PO) (da va oa : Option Addr) (dc vc oc : Nat) (V : World), _) := C6
  have HI : Hid (I64O x) := hx.i64
  have HN : Hid (L.length = nf) := hn
  have HC : Hid (checkF n L x = 0) := hc
  clear hn hv hr hx hF hO hox lx l1 l2 C5 C6 hc
  go_enter Try.func5, Try.ntmps5
  go_wp2_with fail
  rw [← HAA.out]
  refine C0.mono ?_
  rintro e w1 ⟨rfl, hw⟩
  subst w1
  clear C0 HAA
  go_wp2_with fail
  rw [← HBB.out]
  refine C1.mono ?_
  rintro e w1 ⟨rfl, hw⟩
  subst w1
  clear C1 HBB HA0 hsz f0 f1 f2 f3 f4 f5 f6 f7 f8 f9 f10 f11
  obtain ⟨f0, f1, f2, f3, f4, f5, f6, f7, f8, f9, f10, f11⟩ := cellsO_at HKx.out
  go_wp2_with fail
  refine (C2 _ HB0.out).mono ?_
  rintro e w1 ⟨rfl, hb1⟩
  have HB1 : Hid (Below w.heap.size w w1) := chain HB0.out hb1
  have HK1 : Hid (CellsAt w1 w.heap.size (cellsO x da va oa dc vc oc) 32) := HKx.out.later hb1
  have hs1 : B.heap.size ≤ w1.heap.size := hb1.size
  have hs0 : w.heap.size < B.heap.size := HKx.out.lt
  clear C2 HKx hb1 f0 f1 f2 f3 f4 f5 f6 f7 f8 f9 f10 f11
  obtain ⟨f0, f1, f2, f3, f4, f5, f6, f7, f8, f9, f10, f11⟩ := cellsO_at HK1.out
  go_wp2_with fail
  refine (C3 _ HB1.out).mono ?_
  rintro e w2 ⟨da', va', oa', dc', vc', oc', rfl, hl2, hf2, hb2, hi2, hv2, hd2⟩
  simp only [cellsO]
  have HB2 : Hid (Below w.heap.size w w2) := chain HB1.out hb2
  have HK2 : Hid (CellsAt w2 w.heap.size (cellsO x da va oa dc vc oc) 32) := HK1.out.later hb2
  have hs2 : w1.heap.size ≤ w2.heap.size := hb2.size
  have HL2 : Hid (LiesO w2 x da' va' oa' dc' vc' oc') := hl2
  have HI2 : Hid (OwnI w2 (w1.heap.size + 2) (.slice da' x.deps.length dc') x.deps) := hi2
  have HV2 : Hid (OwnV w2 (w1.heap.size + 2) (.slice va' x.vals.length vc') x.vals) := hv2
  have HD2 : Hid (OwnD w2 (w1.heap.size + 2) (.slice oa' x.dots.length oc') x.dots) := hd2
  clear C3 HK1 hb2 hl2 hf2 hi2 hv2 hd2 f0 f1 f2 f3 f4 f5 f6 f7 f8 f9 f10 f11
  have hne : w.heap.size ≠ w2.heap.size := by omega
  have HKV : Hid (CellsAt (w2.alloc (.cells #[.int .i64 x.dp, .int .i64 x.dn, .slice da' x.deps.length dc', .int .i64 x.sp, .int .i64 x.sl, .int .i64 x.sq, .int .i64 x.kind, .int .i64 x.table, .string x.key, .int .i64 x.col, .slice va' x.vals.length vc', .slice oa' x.dots.length oc'] 32)) w.heap.size (cellsO x da va oa dc vc oc) 32) := HK2.out.later (alloc_below _ _)
  have HYV : Hid (CellsAt (w2.alloc (.cells #[.int .i64 x.dp, .int .i64 x.dn, .slice da' x.deps.length dc', .int .i64 x.sp, .int .i64 x.sl, .int .i64 x.sq, .int .i64 x.kind, .int .i64 x.table, .string x.key, .int .i64 x.col, .slice va' x.vals.length vc', .slice oa' x.dots.length oc'] 32)) w2.heap.size #[.int .i64 x.dp, .int .i64 x.dn, .slice da' x.deps.length dc', .int .i64 x.sp, .int .i64 x.sl, .int .i64 x.sq, .int .i64 x.kind, .int .i64 x.table, .string x.key, .int .i64 x.col, .slice va' x.vals.length vc', .slice oa' x.dots.length oc'] 32) := CellsAt.made rfl
  have HBX : Hid (Below w.heap.size w (w2.alloc (.cells #[.int .i64 x.dp, .int .i64 x.dn, .slice da' x.deps.length dc', .int .i64 x.sp, .int .i64 x.sl, .int .i64 x.sq, .int .i64 (wrap64 (1 + x.kind.tmod 3)), .int .i64 x.table, .string x.key, .int .i64 x.col, .slice va' x.vals.length vc', .slice oa' x.dots.length oc'] 32))) := chain HB2.out (alloc_below _ _)
  have HKX : Hid (CellsAt (w2.alloc (.cells #[.int .i64 x.dp, .int .i64 x.dn, .slice da' x.deps.length dc', .int .i64 x.sp, .int .i64 x.sl, .int .i64 x.sq, .int .i64 (wrap64 (1 + x.kind.tmod 3)), .int .i64 x.table, .string x.key, .int .i64 x.col, .slice va' x.vals.length vc', .slice oa' x.dots.length oc'] 32)) w.heap.size (cellsO x da va oa dc vc oc) 32) := HK2.out.later (alloc_below _ _)
  have HY1 : Hid (CellsAt (w2.alloc (.cells #[.int .i64 x.dp, .int .i64 x.dn, .slice da' x.deps.length dc', .int .i64 x.sp, .int .i64 x.sl, .int .i64 x.sq, .int .i64 (wrap64 (1 + x.kind.tmod 3)), .int .i64 x.table, .string x.key, .int .i64 x.col, .slice va' x.vals.length vc', .slice oa' x.dots.length oc'] 32)) w2.heap.size #[.int .i64 x.dp, .int .i64 x.dn, .slice da' x.deps.length dc', .int .i64 x.sp, .int .i64 x.sl, .int .i64 x.sq, .int .i64 (wrap64 (1 + x.kind.tmod 3)), .int .i64 x.table, .string x.key, .int .i64 x.col, .slice va' x.vals.length vc', .slice oa' x.dots.length oc'] 32) := CellsAt.made rfl
  have hl : LiesO w2 x da' va' oa' dc' vc' oc' := HL2.out
  have HLY : Hid (LiesO (w2.alloc (.cells #[.int .i64 x.dp, .int .i64 x.dn, .slice da' x.deps.length dc', .int .i64 x.sp, .int .i64 x.sl, .int .i64 x.sq, .int .i64 (wrap64 (1 + x.kind.tmod 3)), .int .i64 x.table, .string x.key, .int .i64 x.col, .slice va' x.vals.length vc', .slice oa' x.dots.length oc'] 32)) { x with kind := wrap64 (1 + x.kind.tmod 3) } da' va' oa' dc' vc' oc') := (⟨hl.deps, hl.vals, hl.dots, hl.ld, hl.lv, hl.lo, hl.cd, hl.cv, hl.co, hl.nd, hl.nv, hl.no, hl.key⟩ : LiesO w2 { x with kind := wrap64 (1 + x.kind.tmod 3) } da' va' oa' dc' vc' oc').later (alloc_below _ _)
  have HI2' : Hid (I64O { x with kind := wrap64 (1 + x.kind.tmod 3) }) := ⟨HI.out.deps, HI.out.dp, HI.out.dn, HI.out.st, HI.out.dots, HI.out.col, HI.out.table⟩
  have C5 := fun (V : World) (hb : Below w.heap.size w V) (h : LiesO V { x with kind := wrap64 (1 + x.kind.tmod 3) } da' va' oa' dc' vc' oc') => HC5.out { x with kind := wrap64 (1 + x.kind.tmod 3) } da' va' oa' dc' vc' oc' V hb h HI2'.out
  have C6 := fun (V : World) (hb : Below w.heap.size w V) (h : LiesO V { x with kind := wrap64 (1 + x.kind.tmod 3) } da' va' oa' dc' vc' oc') => HC6.out { x with kind := wrap64 (1 + x.kind.tmod 3) } da' va' oa' dc' vc' oc' V hb h HI2'.out
  generalize checkF n L { x with kind := wrap64 (1 + x.kind.tmod 3) } = c at *
  obtain ⟨f0, f1, f2, f3, f4, f5, f6, f7, f8, f9, f10, f11⟩ := cellsO_at HKV.out
  obtain ⟨g0, g1, g2, g3, g4, g5, g6, g7, g8, g9, g10, g11⟩ := cells12 HYV.out
  clear hl HC5 HC6 HI HI2' HN HC HI2 HV2 HD2 HL2 HK2
  simp only [cellsO] at C5 C6
  go_wp2_with fail
  clear HKV HYV f0 f1 f2 f3 f4 f5 f6 f7 f8 f9 f10 f11 g0 g1 g2 g3 g4 g5 g6 g7 g8 g9 g10 g11
  refine (C5 _ HBX.out HLY.out).mono ?_
  rintro e w3 ⟨rfl, hb3⟩
  have HB3 : Hid (Below w.heap.size w w3) := chain HBX.out hb3
  have HK3 : Hid (CellsAt w3 w.heap.size (cellsO x da va oa dc vc oc) 32) := HKX.out.later hb3
  have HY3 : Hid (CellsAt w3 w2.heap.size #[.int .i64 x.dp, .int .i64 x.dn, .slice da' x.deps.length dc', .int .i64 x.sp, .int .i64 x.sl, .int .i64 x.sq, .int .i64 (wrap64 (1 + x.kind.tmod 3)), .int .i64 x.table, .string x.key, .int .i64 x.col, .slice va' x.vals.length vc', .slice oa' x.dots.length oc'] 32) := HY1.out.later hb3
  have HL3 : Hid (LiesO w3 { x with kind := wrap64 (1 + x.kind.tmod 3) } da' va' oa' dc' vc' oc') := HLY.out.later hb3
  clear C5 HLY HY1 hb3
  obtain ⟨f0, f1, f2, f3, f4, f5, f6, f7, f8, f9, f10, f11⟩ := cellsO_at HK3.out
  go_wp2_with fail
  refine (C4 _ HB3.out).mono ?_
  rintro e w4 ⟨rfl, hb4⟩
  have HB4 : Hid (Below w.heap.size w w4) := chain HB3.out hb4
  have HY4 : Hid (CellsAt w4 w2.heap.size #[.int .i64 x.dp, .int .i64 x.dn, .slice da' x.deps.length dc', .int .i64 x.sp, .int .i64 x.sl, .int .i64 x.sq, .int .i64 (wrap64 (1 + x.kind.tmod 3)), .int .i64 x.table, .string x.key, .int .i64 x.col, .slice va' x.vals.length vc', .slice oa' x.dots.length oc'] 32) := HY3.out.later hb4
  have HL4 : Hid (LiesO w4 { x with kind := wrap64 (1 + x.kind.tmod 3) } da' va' oa' dc' vc' oc') := HL3.out.later hb4
  clear C4 HK3 HY3 HL3 hb4 f0 f1 f2 f3 f4 f5 f6 f7 f8 f9 f10 f11
  obtain ⟨f0, f1, f2, f3, f4, f5, f6, f7, f8, f9, f10, f11⟩ := cells12 HY4.out
  go_wp2_with fail
  refine (C6 _ HB4.out HL4.out).mono ?_
  rintro e w5 ⟨rfl, hb5⟩
  have HB5 : Hid (Below w.heap.size w w5) := chain HB4.out hb5
  clear C6 HY4 HL4 hb5 f0 f1 f2 f3 f4 f5 f6 f7 f8 f9 f10 f11
  go_wp2_with fail
  refine (owakes_any _).mono ?_
  rintro e w9 ⟨rfl, hb9⟩
  go_wp2
  go_ret
  exact ⟨by simp, chain HB5.out hb9⟩

set_option maxRecDepth 100000 in
set_option maxHeartbeats 8000000 in
theorem okinds_1 (n : Int) (af : Option Addr) (nf fcap : Nat) (L : List (List Int)) (x : PO) (da va oa : Option Addr) (dc vc oc : Nat) (what : Int) (w : World) (hn : L.length = nf) (hnf : nf ≤ 9223372036854775807) (hv : ∀ v ∈ L, v.length ≤ 9223372036854775807) (hr : RdII w af L) (hx : InO w x da va oa dc vc oc) (hF : heavyFs L = false) (hO : heavyOs [x] = false) (hc : checkF n L x = 0) (ht : (IntKind.u64.wrap what).tmod 7 = 1) :
    Calls Try.prog 5 #[.int .i64 n, .slice af nf fcap, .agg (cellsO x da va oa dc vc oc), .int .i64 what] w fun e w' => e = .returned (.bool true) ∧ Below w.heap.size w w' := by
  have t0 : ((IntKind.u64.wrap what).tmod 7 == 0) = false := by rw [ht]; decide
  have t1 : ((IntKind.u64.wrap what).tmod 7 == 1) = true := by rw [ht]; decide
  obtain ⟨A, hAA⟩ : ∃ A : World, A = w.alloc (.cells (cellsO x da va oa dc vc oc) 32) := ⟨_, rfl⟩
  have HA0 : Hid (Below w.heap.size w A) := by rw [hAA]; exact alloc_below _ _
  have hsz : A.heap.size = w.heap.size + 1 := by rw [hAA]; simp
  have HKx0 : Hid (CellsAt A w.heap.size (cellsO x da va oa dc vc oc) 32) := by rw [hAA]; exact CellsAt.made rfl
  have HAA : Hid (A = w.alloc (.cells #[.int .i64 x.dp, .int .i64 x.dn, .slice da x.deps.length dc, .int .i64 x.sp, .int .i64 x.sl, .int .i64 x.sq, .int .i64 x.kind, .int .i64 x.table, .string x.key, .int .i64 x.col, .slice va x.vals.length vc, .slice oa x.dots.length oc] 32)) := hAA
  have C0 := heavyForms_any af nf fcap L A hn hnf hv (hr.later HA0.out)
  rw [hF] at C0
  clear hAA
  obtain ⟨B, hBB⟩ : ∃ B : World, B = A.alloc (.cells #[.int .i64 x.dp, .int .i64 x.dn, .slice da x.deps.length dc, .int .i64 x.sp, .int .i64 x.sl, .int .i64 x.sq, .int .i64 x.kind, .int .i64 x.table, .string x.key, .int .i64 x.col, .slice va x.vals.length vc, .slice oa x.dots.length oc] 32) := ⟨_, rfl⟩
  have HB0 : Hid (Below w.heap.size w B) := by rw [hBB]; exact chain HA0.out (alloc_below _ _)
  have HKx : Hid (CellsAt B w.heap.size (cellsO x da va oa dc vc oc) 32) := by rw [hBB]; exact HKx0.out.later (alloc_below _ _)
  have HKz : Hid (CellsAt B (w.heap.size + 1) #[.int .i64 x.dp, .int .i64 x.dn, .slice da x.deps.length dc, .int .i64 x.sp, .int .i64 x.sl, .int .i64 x.sq, .int .i64 x.kind, .int .i64 x.table, .string x.key, .int .i64 x.col, .slice va x.vals.length vc, .slice oa x.dots.length oc] 32) := by rw [hBB]; exact CellsAt.made (by rw [hsz])
  have C1 := heavyO_any (some ⟨w.heap.size + 1, 0, none⟩) 1 1 [x] B rfl (by omega) (rdO_one HKz.out (hx.later HB0.out))
  rw [hO] at C1
  have HBB : Hid (B = A.alloc (.cells #[.int .i64 x.dp, .int .i64 x.dn, .slice da x.deps.length dc, .int .i64 x.sp, .int .i64 x.sl, .int .i64 x.sq, .int .i64 x.kind, .int .i64 x.table, .string x.key, .int .i64 x.col, .slice va x.vals.length vc, .slice oa x.dots.length oc] 32)) := hBB
  obtain ⟨f0, f1, f2, f3, f4, f5, f6, f7, f8, f9, f10, f11⟩ := cellsO_at HKx0.out
  clear hBB HKz HKx0
  have hox : heavyO x = false := by simpa [heavyOs] using hO
  obtain ⟨lx, -, -, -, -⟩ := hx.of_light hox
  have HLx : Hid (LiesO w x da va oa dc vc oc) := lx
  obtain ⟨l1, l2⟩ := light_forms hF
  have C2 := fun (V : World) (hb : Below w.heap.size w V) => lawCheck_any n af nf fcap L x da va oa dc vc oc V hn (by omega) (fun v h => by have := l2 v h; omega) (hr.later hb) (HLx.out.later hb) hx.i64
  have C3 := fun (V : World) (hb : Below w.heap.size w V) => twinOp_any x da va oa dc vc oc V (HLx.out.later hb)
  have C4 := fun (V : World) (hb : Below w.heap.size w V) => opCheck_any n af nf fcap L x da va oa dc vc oc V hn (by omega) (fun v h => by have := l2 v h; omega) (hr.later hb) (HLx.out.later hb) hx.i64
  have C5 := fun (y : PO) (da va oa : Option Addr) (dc vc oc : Nat) (V : World) (hb : Below w.heap.size w V) (h : LiesO V y da va oa dc vc oc) (hi : I64O y) => opCheck_any n af nf fcap L y da va oa dc vc oc V hn (by omega) (fun v h => by have := l2 v h; omega) (hr.later hb) h hi
  have C6 := fun (y : PO) (da va oa : Option Addr) (dc vc oc : Nat) (V : World) (hb : Below w.heap.size w V) (h : LiesO V y da va oa dc vc oc) (hi : I64O y) => lawCheck_any n af nf fcap L y da va oa dc vc oc V hn (by omega) (fun v h => by have := l2 v h; omega) (hr.later hb) h hi
  rw [hc] at C2 C4
  have HC5 : Hid (∀ (y : PO) (da va oa : Option Addr) (dc vc oc : Nat) (V : World), _) := C5
  have HC6 : Hid (∀ (y : PO) (da va oa : Option Addr) (dc vc oc : Nat) (V : World), _) := C6
  have HI : Hid (I64O x) := hx.i64
  have HN : Hid (L.length = nf) := hn
  have HC : Hid (checkF n L x = 0) := hc
  clear hn hv hr hx hF hO hox lx l1 l2 C5 C6 hc
  go_enter Try.func5, Try.ntmps5
  go_wp2_with fail
  rw [← HAA.out]
  refine C0.mono ?_
  rintro e w1 ⟨rfl, hw⟩
  subst w1
  clear C0 HAA
  go_wp2_with fail
  rw [← HBB.out]
  refine C1.mono ?_
  rintro e w1 ⟨rfl, hw⟩
  subst w1
  clear C1 HBB HA0 hsz f0 f1 f2 f3 f4 f5 f6 f7 f8 f9 f10 f11
  obtain ⟨f0, f1, f2, f3, f4, f5, f6, f7, f8, f9, f10, f11⟩ := cellsO_at HKx.out
  go_wp2_with fail
  refine (C2 _ HB0.out).mono ?_
  rintro e w1 ⟨rfl, hb1⟩
  have HB1 : Hid (Below w.heap.size w w1) := chain HB0.out hb1
  have HK1 : Hid (CellsAt w1 w.heap.size (cellsO x da va oa dc vc oc) 32) := HKx.out.later hb1
  have hs1 : B.heap.size ≤ w1.heap.size := hb1.size
  have hs0 : w.heap.size < B.heap.size := HKx.out.lt
  clear C2 HKx hb1 f0 f1 f2 f3 f4 f5 f6 f7 f8 f9 f10 f11
  obtain ⟨f0, f1, f2, f3, f4, f5, f6, f7, f8, f9, f10, f11⟩ := cellsO_at HK1.out
  go_wp2_with fail
  refine (C3 _ HB1.out).mono ?_
  rintro e w2 ⟨da', va', oa', dc', vc', oc', rfl, hl2, hf2, hb2, hi2, hv2, hd2⟩
  simp only [cellsO]
  have HB2 : Hid (Below w.heap.size w w2) := chain HB1.out hb2
  have HK2 : Hid (CellsAt w2 w.heap.size (cellsO x da va oa dc vc oc) 32) := HK1.out.later hb2
  have hs2 : w1.heap.size ≤ w2.heap.size := hb2.size
  have HL2 : Hid (LiesO w2 x da' va' oa' dc' vc' oc') := hl2
  have HI2 : Hid (OwnI w2 (w1.heap.size + 2) (.slice da' x.deps.length dc') x.deps) := hi2
  have HV2 : Hid (OwnV w2 (w1.heap.size + 2) (.slice va' x.vals.length vc') x.vals) := hv2
  have HD2 : Hid (OwnD w2 (w1.heap.size + 2) (.slice oa' x.dots.length oc') x.dots) := hd2
  clear C3 HK1 hb2 hl2 hf2 hi2 hv2 hd2 f0 f1 f2 f3 f4 f5 f6 f7 f8 f9 f10 f11
  have hne : w.heap.size ≠ w2.heap.size := by omega
  have HKV : Hid (CellsAt (w2.alloc (.cells #[.int .i64 x.dp, .int .i64 x.dn, .slice da' x.deps.length dc', .int .i64 x.sp, .int .i64 x.sl, .int .i64 x.sq, .int .i64 x.kind, .int .i64 x.table, .string x.key, .int .i64 x.col, .slice va' x.vals.length vc', .slice oa' x.dots.length oc'] 32)) w.heap.size (cellsO x da va oa dc vc oc) 32) := HK2.out.later (alloc_below _ _)
  have HYV : Hid (CellsAt (w2.alloc (.cells #[.int .i64 x.dp, .int .i64 x.dn, .slice da' x.deps.length dc', .int .i64 x.sp, .int .i64 x.sl, .int .i64 x.sq, .int .i64 x.kind, .int .i64 x.table, .string x.key, .int .i64 x.col, .slice va' x.vals.length vc', .slice oa' x.dots.length oc'] 32)) w2.heap.size #[.int .i64 x.dp, .int .i64 x.dn, .slice da' x.deps.length dc', .int .i64 x.sp, .int .i64 x.sl, .int .i64 x.sq, .int .i64 x.kind, .int .i64 x.table, .string x.key, .int .i64 x.col, .slice va' x.vals.length vc', .slice oa' x.dots.length oc'] 32) := CellsAt.made rfl
  have HBX : Hid (Below w.heap.size w (w2.alloc (.cells #[.int .i64 x.dp, .int .i64 x.dn, .slice da' x.deps.length dc', .int .i64 x.sp, .int .i64 x.sl, .int .i64 (wrap64 (x.sq + 1)), .int .i64 x.kind, .int .i64 x.table, .string x.key, .int .i64 x.col, .slice va' x.vals.length vc', .slice oa' x.dots.length oc'] 32))) := chain HB2.out (alloc_below _ _)
  have HKX : Hid (CellsAt (w2.alloc (.cells #[.int .i64 x.dp, .int .i64 x.dn, .slice da' x.deps.length dc', .int .i64 x.sp, .int .i64 x.sl, .int .i64 (wrap64 (x.sq + 1)), .int .i64 x.kind, .int .i64 x.table, .string x.key, .int .i64 x.col, .slice va' x.vals.length vc', .slice oa' x.dots.length oc'] 32)) w.heap.size (cellsO x da va oa dc vc oc) 32) := HK2.out.later (alloc_below _ _)
  have HY1 : Hid (CellsAt (w2.alloc (.cells #[.int .i64 x.dp, .int .i64 x.dn, .slice da' x.deps.length dc', .int .i64 x.sp, .int .i64 x.sl, .int .i64 (wrap64 (x.sq + 1)), .int .i64 x.kind, .int .i64 x.table, .string x.key, .int .i64 x.col, .slice va' x.vals.length vc', .slice oa' x.dots.length oc'] 32)) w2.heap.size #[.int .i64 x.dp, .int .i64 x.dn, .slice da' x.deps.length dc', .int .i64 x.sp, .int .i64 x.sl, .int .i64 (wrap64 (x.sq + 1)), .int .i64 x.kind, .int .i64 x.table, .string x.key, .int .i64 x.col, .slice va' x.vals.length vc', .slice oa' x.dots.length oc'] 32) := CellsAt.made rfl
  have hl : LiesO w2 x da' va' oa' dc' vc' oc' := HL2.out
  have HLY : Hid (LiesO (w2.alloc (.cells #[.int .i64 x.dp, .int .i64 x.dn, .slice da' x.deps.length dc', .int .i64 x.sp, .int .i64 x.sl, .int .i64 (wrap64 (x.sq + 1)), .int .i64 x.kind, .int .i64 x.table, .string x.key, .int .i64 x.col, .slice va' x.vals.length vc', .slice oa' x.dots.length oc'] 32)) { x with sq := wrap64 (x.sq + 1) } da' va' oa' dc' vc' oc') := (⟨hl.deps, hl.vals, hl.dots, hl.ld, hl.lv, hl.lo, hl.cd, hl.cv, hl.co, hl.nd, hl.nv, hl.no, hl.key⟩ : LiesO w2 { x with sq := wrap64 (x.sq + 1) } da' va' oa' dc' vc' oc').later (alloc_below _ _)
  have HI2' : Hid (I64O { x with sq := wrap64 (x.sq + 1) }) := ⟨HI.out.deps, HI.out.dp, HI.out.dn, ⟨HI.out.st.1, HI.out.st.2.1, wrap64_in _⟩, HI.out.dots, HI.out.col, HI.out.table⟩
  have C5 := fun (V : World) (hb : Below w.heap.size w V) (h : LiesO V { x with sq := wrap64 (x.sq + 1) } da' va' oa' dc' vc' oc') => HC5.out { x with sq := wrap64 (x.sq + 1) } da' va' oa' dc' vc' oc' V hb h HI2'.out
  rw [spoil1 HC.out] at C5
  have C6 := fun (V : World) (hb : Below w.heap.size w V) (h : LiesO V { x with sq := wrap64 (x.sq + 1) } da' va' oa' dc' vc' oc') => HC6.out { x with sq := wrap64 (x.sq + 1) } da' va' oa' dc' vc' oc' V hb h HI2'.out
  rw [spoil1 HC.out] at C6
  obtain ⟨f0, f1, f2, f3, f4, f5, f6, f7, f8, f9, f10, f11⟩ := cellsO_at HKV.out
  obtain ⟨g0, g1, g2, g3, g4, g5, g6, g7, g8, g9, g10, g11⟩ := cells12 HYV.out
  clear hl HC5 HC6 HI HI2' HN HC HI2 HV2 HD2 HL2 HK2
  simp only [cellsO] at C5 C6
  go_wp2_with fail
  clear HKV HYV f0 f1 f2 f3 f4 f5 f6 f7 f8 f9 f10 f11 g0 g1 g2 g3 g4 g5 g6 g7 g8 g9 g10 g11
  refine (C5 _ HBX.out HLY.out).mono ?_
  rintro e w3 ⟨rfl, hb3⟩
  have HB3 : Hid (Below w.heap.size w w3) := chain HBX.out hb3
  have HK3 : Hid (CellsAt w3 w.heap.size (cellsO x da va oa dc vc oc) 32) := HKX.out.later hb3
  have HY3 : Hid (CellsAt w3 w2.heap.size #[.int .i64 x.dp, .int .i64 x.dn, .slice da' x.deps.length dc', .int .i64 x.sp, .int .i64 x.sl, .int .i64 (wrap64 (x.sq + 1)), .int .i64 x.kind, .int .i64 x.table, .string x.key, .int .i64 x.col, .slice va' x.vals.length vc', .slice oa' x.dots.length oc'] 32) := HY1.out.later hb3
  have HL3 : Hid (LiesO w3 { x with sq := wrap64 (x.sq + 1) } da' va' oa' dc' vc' oc') := HLY.out.later hb3
  clear C5 HLY HY1 hb3
  obtain ⟨f0, f1, f2, f3, f4, f5, f6, f7, f8, f9, f10, f11⟩ := cellsO_at HK3.out
  go_wp2_with fail
  refine (C4 _ HB3.out).mono ?_
  rintro e w4 ⟨rfl, hb4⟩
  have HB4 : Hid (Below w.heap.size w w4) := chain HB3.out hb4
  have HY4 : Hid (CellsAt w4 w2.heap.size #[.int .i64 x.dp, .int .i64 x.dn, .slice da' x.deps.length dc', .int .i64 x.sp, .int .i64 x.sl, .int .i64 (wrap64 (x.sq + 1)), .int .i64 x.kind, .int .i64 x.table, .string x.key, .int .i64 x.col, .slice va' x.vals.length vc', .slice oa' x.dots.length oc'] 32) := HY3.out.later hb4
  have HL4 : Hid (LiesO w4 { x with sq := wrap64 (x.sq + 1) } da' va' oa' dc' vc' oc') := HL3.out.later hb4
  clear C4 HK3 HY3 HL3 hb4 f0 f1 f2 f3 f4 f5 f6 f7 f8 f9 f10 f11
  obtain ⟨f0, f1, f2, f3, f4, f5, f6, f7, f8, f9, f10, f11⟩ := cells12 HY4.out
  go_wp2_with fail
  refine (C6 _ HB4.out HL4.out).mono ?_
  rintro e w5 ⟨rfl, hb5⟩
  have HB5 : Hid (Below w.heap.size w w5) := chain HB4.out hb5
  clear C6 HY4 HL4 hb5 f0 f1 f2 f3 f4 f5 f6 f7 f8 f9 f10 f11
  go_wp2_with fail
  refine (owakes_any _).mono ?_
  rintro e w9 ⟨rfl, hb9⟩
  go_wp2
  go_ret
  exact ⟨by simp, chain HB5.out hb9⟩

set_option maxRecDepth 100000 in
set_option maxHeartbeats 8000000 in
theorem okinds_2 (n : Int) (af : Option Addr) (nf fcap : Nat) (L : List (List Int)) (x : PO) (da va oa : Option Addr) (dc vc oc : Nat) (what : Int) (w : World) (hn : L.length = nf) (hnf : nf ≤ 9223372036854775807) (hv : ∀ v ∈ L, v.length ≤ 9223372036854775807) (hr : RdII w af L) (hx : InO w x da va oa dc vc oc) (hF : heavyFs L = false) (hO : heavyOs [x] = false) (hc : checkF n L x = 0) (ht : (IntKind.u64.wrap what).tmod 7 = 2) :
    Calls Try.prog 5 #[.int .i64 n, .slice af nf fcap, .agg (cellsO x da va oa dc vc oc), .int .i64 what] w fun e w' => e = .returned (.bool true) ∧ Below w.heap.size w w' := by
  have t0 : ((IntKind.u64.wrap what).tmod 7 == 0) = false := by rw [ht]; decide
  have t1 : ((IntKind.u64.wrap what).tmod 7 == 1) = false := by rw [ht]; decide
  have t2 : ((IntKind.u64.wrap what).tmod 7 == 2) = true := by rw [ht]; decide
  obtain ⟨A, hAA⟩ : ∃ A : World, A = w.alloc (.cells (cellsO x da va oa dc vc oc) 32) := ⟨_, rfl⟩
  have HA0 : Hid (Below w.heap.size w A) := by rw [hAA]; exact alloc_below _ _
  have hsz : A.heap.size = w.heap.size + 1 := by rw [hAA]; simp
  have HKx0 : Hid (CellsAt A w.heap.size (cellsO x da va oa dc vc oc) 32) := by rw [hAA]; exact CellsAt.made rfl
  have HAA : Hid (A = w.alloc (.cells #[.int .i64 x.dp, .int .i64 x.dn, .slice da x.deps.length dc, .int .i64 x.sp, .int .i64 x.sl, .int .i64 x.sq, .int .i64 x.kind, .int .i64 x.table, .string x.key, .int .i64 x.col, .slice va x.vals.length vc, .slice oa x.dots.length oc] 32)) := hAA
  have C0 := heavyForms_any af nf fcap L A hn hnf hv (hr.later HA0.out)
  rw [hF] at C0
  clear hAA
  obtain ⟨B, hBB⟩ : ∃ B : World, B = A.alloc (.cells #[.int .i64 x.dp, .int .i64 x.dn, .slice da x.deps.length dc, .int .i64 x.sp, .int .i64 x.sl, .int .i64 x.sq, .int .i64 x.kind, .int .i64 x.table, .string x.key, .int .i64 x.col, .slice va x.vals.length vc, .slice oa x.dots.length oc] 32) := ⟨_, rfl⟩
  have HB0 : Hid (Below w.heap.size w B) := by rw [hBB]; exact chain HA0.out (alloc_below _ _)
  have HKx : Hid (CellsAt B w.heap.size (cellsO x da va oa dc vc oc) 32) := by rw [hBB]; exact HKx0.out.later (alloc_below _ _)
  have HKz : Hid (CellsAt B (w.heap.size + 1) #[.int .i64 x.dp, .int .i64 x.dn, .slice da x.deps.length dc, .int .i64 x.sp, .int .i64 x.sl, .int .i64 x.sq, .int .i64 x.kind, .int .i64 x.table, .string x.key, .int .i64 x.col, .slice va x.vals.length vc, .slice oa x.dots.length oc] 32) := by rw [hBB]; exact CellsAt.made (by rw [hsz])
  have C1 := heavyO_any (some ⟨w.heap.size + 1, 0, none⟩) 1 1 [x] B rfl (by omega) (rdO_one HKz.out (hx.later HB0.out))
  rw [hO] at C1
  have HBB : Hid (B = A.alloc (.cells #[.int .i64 x.dp, .int .i64 x.dn, .slice da x.deps.length dc, .int .i64 x.sp, .int .i64 x.sl, .int .i64 x.sq, .int .i64 x.kind, .int .i64 x.table, .string x.key, .int .i64 x.col, .slice va x.vals.length vc, .slice oa x.dots.length oc] 32)) := hBB
  obtain ⟨f0, f1, f2, f3, f4, f5, f6, f7, f8, f9, f10, f11⟩ := cellsO_at HKx0.out
  clear hBB HKz HKx0
  have hox : heavyO x = false := by simpa [heavyOs] using hO
  obtain ⟨lx, -, -, -, -⟩ := hx.of_light hox
  have HLx : Hid (LiesO w x da va oa dc vc oc) := lx
  obtain ⟨l1, l2⟩ := light_forms hF
  have C2 := fun (V : World) (hb : Below w.heap.size w V) => lawCheck_any n af nf fcap L x da va oa dc vc oc V hn (by omega) (fun v h => by have := l2 v h; omega) (hr.later hb) (HLx.out.later hb) hx.i64
  have C3 := fun (V : World) (hb : Below w.heap.size w V) => twinOp_any x da va oa dc vc oc V (HLx.out.later hb)
  have C4 := fun (V : World) (hb : Below w.heap.size w V) => opCheck_any n af nf fcap L x da va oa dc vc oc V hn (by omega) (fun v h => by have := l2 v h; omega) (hr.later hb) (HLx.out.later hb) hx.i64
  have C5 := fun (y : PO) (da va oa : Option Addr) (dc vc oc : Nat) (V : World) (hb : Below w.heap.size w V) (h : LiesO V y da va oa dc vc oc) (hi : I64O y) => opCheck_any n af nf fcap L y da va oa dc vc oc V hn (by omega) (fun v h => by have := l2 v h; omega) (hr.later hb) h hi
  have C6 := fun (y : PO) (da va oa : Option Addr) (dc vc oc : Nat) (V : World) (hb : Below w.heap.size w V) (h : LiesO V y da va oa dc vc oc) (hi : I64O y) => lawCheck_any n af nf fcap L y da va oa dc vc oc V hn (by omega) (fun v h => by have := l2 v h; omega) (hr.later hb) h hi
  rw [hc] at C2 C4
  have HC5 : Hid (∀ (y : PO) (da va oa : Option Addr) (dc vc oc : Nat) (V : World), _) := C5
  have HC6 : Hid (∀ (y : PO) (da va oa : Option Addr) (dc vc oc : Nat) (V : World), _) := C6
  have HI : Hid (I64O x) := hx.i64
  have HN : Hid (L.length = nf) := hn
  have HC : Hid (checkF n L x = 0) := hc
  clear hn hv hr hx hF hO hox lx l1 l2 C5 C6 hc
  go_enter Try.func5, Try.ntmps5
  go_wp2_with fail
  rw [← HAA.out]
  refine C0.mono ?_
  rintro e w1 ⟨rfl, hw⟩
  subst w1
  clear C0 HAA
  go_wp2_with fail
  rw [← HBB.out]
  refine C1.mono ?_
  rintro e w1 ⟨rfl, hw⟩
  subst w1
  clear C1 HBB HA0 hsz f0 f1 f2 f3 f4 f5 f6 f7 f8 f9 f10 f11
  obtain ⟨f0, f1, f2, f3, f4, f5, f6, f7, f8, f9, f10, f11⟩ := cellsO_at HKx.out
  go_wp2_with fail
  refine (C2 _ HB0.out).mono ?_
  rintro e w1 ⟨rfl, hb1⟩
  have HB1 : Hid (Below w.heap.size w w1) := chain HB0.out hb1
  have HK1 : Hid (CellsAt w1 w.heap.size (cellsO x da va oa dc vc oc) 32) := HKx.out.later hb1
  have hs1 : B.heap.size ≤ w1.heap.size := hb1.size
  have hs0 : w.heap.size < B.heap.size := HKx.out.lt
  clear C2 HKx hb1 f0 f1 f2 f3 f4 f5 f6 f7 f8 f9 f10 f11
  obtain ⟨f0, f1, f2, f3, f4, f5, f6, f7, f8, f9, f10, f11⟩ := cellsO_at HK1.out
  go_wp2_with fail
  refine (C3 _ HB1.out).mono ?_
  rintro e w2 ⟨da', va', oa', dc', vc', oc', rfl, hl2, hf2, hb2, hi2, hv2, hd2⟩
  simp only [cellsO]
  have HB2 : Hid (Below w.heap.size w w2) := chain HB1.out hb2
  have HK2 : Hid (CellsAt w2 w.heap.size (cellsO x da va oa dc vc oc) 32) := HK1.out.later hb2
  have hs2 : w1.heap.size ≤ w2.heap.size := hb2.size
  have HL2 : Hid (LiesO w2 x da' va' oa' dc' vc' oc') := hl2
  have HI2 : Hid (OwnI w2 (w1.heap.size + 2) (.slice da' x.deps.length dc') x.deps) := hi2
  have HV2 : Hid (OwnV w2 (w1.heap.size + 2) (.slice va' x.vals.length vc') x.vals) := hv2
  have HD2 : Hid (OwnD w2 (w1.heap.size + 2) (.slice oa' x.dots.length oc') x.dots) := hd2
  clear C3 HK1 hb2 hl2 hf2 hi2 hv2 hd2 f0 f1 f2 f3 f4 f5 f6 f7 f8 f9 f10 f11
  have hne : w.heap.size ≠ w2.heap.size := by omega
  have HKV : Hid (CellsAt (w2.alloc (.cells #[.int .i64 x.dp, .int .i64 x.dn, .slice da' x.deps.length dc', .int .i64 x.sp, .int .i64 x.sl, .int .i64 x.sq, .int .i64 x.kind, .int .i64 x.table, .string x.key, .int .i64 x.col, .slice va' x.vals.length vc', .slice oa' x.dots.length oc'] 32)) w.heap.size (cellsO x da va oa dc vc oc) 32) := HK2.out.later (alloc_below _ _)
  have HYV : Hid (CellsAt (w2.alloc (.cells #[.int .i64 x.dp, .int .i64 x.dn, .slice da' x.deps.length dc', .int .i64 x.sp, .int .i64 x.sl, .int .i64 x.sq, .int .i64 x.kind, .int .i64 x.table, .string x.key, .int .i64 x.col, .slice va' x.vals.length vc', .slice oa' x.dots.length oc'] 32)) w2.heap.size #[.int .i64 x.dp, .int .i64 x.dn, .slice da' x.deps.length dc', .int .i64 x.sp, .int .i64 x.sl, .int .i64 x.sq, .int .i64 x.kind, .int .i64 x.table, .string x.key, .int .i64 x.col, .slice va' x.vals.length vc', .slice oa' x.dots.length oc'] 32) := CellsAt.made rfl
  have HBX : Hid (Below w.heap.size w (w2.alloc (.cells #[.int .i64 x.dp, .int .i64 (wrap64 (x.dn + 1)), .slice da' x.deps.length dc', .int .i64 x.sp, .int .i64 x.sl, .int .i64 x.sq, .int .i64 x.kind, .int .i64 x.table, .string x.key, .int .i64 x.col, .slice va' x.vals.length vc', .slice oa' x.dots.length oc'] 32))) := chain HB2.out (alloc_below _ _)
  have HKX : Hid (CellsAt (w2.alloc (.cells #[.int .i64 x.dp, .int .i64 (wrap64 (x.dn + 1)), .slice da' x.deps.length dc', .int .i64 x.sp, .int .i64 x.sl, .int .i64 x.sq, .int .i64 x.kind, .int .i64 x.table, .string x.key, .int .i64 x.col, .slice va' x.vals.length vc', .slice oa' x.dots.length oc'] 32)) w.heap.size (cellsO x da va oa dc vc oc) 32) := HK2.out.later (alloc_below _ _)
  have HY1 : Hid (CellsAt (w2.alloc (.cells #[.int .i64 x.dp, .int .i64 (wrap64 (x.dn + 1)), .slice da' x.deps.length dc', .int .i64 x.sp, .int .i64 x.sl, .int .i64 x.sq, .int .i64 x.kind, .int .i64 x.table, .string x.key, .int .i64 x.col, .slice va' x.vals.length vc', .slice oa' x.dots.length oc'] 32)) w2.heap.size #[.int .i64 x.dp, .int .i64 (wrap64 (x.dn + 1)), .slice da' x.deps.length dc', .int .i64 x.sp, .int .i64 x.sl, .int .i64 x.sq, .int .i64 x.kind, .int .i64 x.table, .string x.key, .int .i64 x.col, .slice va' x.vals.length vc', .slice oa' x.dots.length oc'] 32) := CellsAt.made rfl
  have hl : LiesO w2 x da' va' oa' dc' vc' oc' := HL2.out
  have HLY : Hid (LiesO (w2.alloc (.cells #[.int .i64 x.dp, .int .i64 (wrap64 (x.dn + 1)), .slice da' x.deps.length dc', .int .i64 x.sp, .int .i64 x.sl, .int .i64 x.sq, .int .i64 x.kind, .int .i64 x.table, .string x.key, .int .i64 x.col, .slice va' x.vals.length vc', .slice oa' x.dots.length oc'] 32)) { x with dn := wrap64 (x.dn + 1) } da' va' oa' dc' vc' oc') := (⟨hl.deps, hl.vals, hl.dots, hl.ld, hl.lv, hl.lo, hl.cd, hl.cv, hl.co, hl.nd, hl.nv, hl.no, hl.key⟩ : LiesO w2 { x with dn := wrap64 (x.dn + 1) } da' va' oa' dc' vc' oc').later (alloc_below _ _)
  have HI2' : Hid (I64O { x with dn := wrap64 (x.dn + 1) }) := ⟨HI.out.deps, HI.out.dp, wrap64_in _, HI.out.st, HI.out.dots, HI.out.col, HI.out.table⟩
  have C5 := fun (V : World) (hb : Below w.heap.size w V) (h : LiesO V { x with dn := wrap64 (x.dn + 1) } da' va' oa' dc' vc' oc') => HC5.out { x with dn := wrap64 (x.dn + 1) } da' va' oa' dc' vc' oc' V hb h HI2'.out
  rw [spoil2 HC.out] at C5
  have C6 := fun (V : World) (hb : Below w.heap.size w V) (h : LiesO V { x with dn := wrap64 (x.dn + 1) } da' va' oa' dc' vc' oc') => HC6.out { x with dn := wrap64 (x.dn + 1) } da' va' oa' dc' vc' oc' V hb h HI2'.out
  rw [spoil2 HC.out] at C6
  obtain ⟨f0, f1, f2, f3, f4, f5, f6, f7, f8, f9, f10, f11⟩ := cellsO_at HKV.out
  obtain ⟨g0, g1, g2, g3, g4, g5, g6, g7, g8, g9, g10, g11⟩ := cells12 HYV.out
  clear hl HC5 HC6 HI HI2' HN HC HI2 HV2 HD2 HL2 HK2
  simp only [cellsO] at C5 C6
  go_wp2_with fail
  clear HKV HYV f0 f1 f2 f3 f4 f5 f6 f7 f8 f9 f10 f11 g0 g1 g2 g3 g4 g5 g6 g7 g8 g9 g10 g11
  refine (C5 _ HBX.out HLY.out).mono ?_
  rintro e w3 ⟨rfl, hb3⟩
  have HB3 : Hid (Below w.heap.size w w3) := chain HBX.out hb3
  have HK3 : Hid (CellsAt w3 w.heap.size (cellsO x da va oa dc vc oc) 32) := HKX.out.later hb3
  have HY3 : Hid (CellsAt w3 w2.heap.size #[.int .i64 x.dp, .int .i64 (wrap64 (x.dn + 1)), .slice da' x.deps.length dc', .int .i64 x.sp, .int .i64 x.sl, .int .i64 x.sq, .int .i64 x.kind, .int .i64 x.table, .string x.key, .int .i64 x.col, .slice va' x.vals.length vc', .slice oa' x.dots.length oc'] 32) := HY1.out.later hb3
  have HL3 : Hid (LiesO w3 { x with dn := wrap64 (x.dn + 1) } da' va' oa' dc' vc' oc') := HLY.out.later hb3
  clear C5 HLY HY1 hb3
  obtain ⟨f0, f1, f2, f3, f4, f5, f6, f7, f8, f9, f10, f11⟩ := cellsO_at HK3.out
  go_wp2_with fail
  refine (C4 _ HB3.out).mono ?_
  rintro e w4 ⟨rfl, hb4⟩
  have HB4 : Hid (Below w.heap.size w w4) := chain HB3.out hb4
  have HY4 : Hid (CellsAt w4 w2.heap.size #[.int .i64 x.dp, .int .i64 (wrap64 (x.dn + 1)), .slice da' x.deps.length dc', .int .i64 x.sp, .int .i64 x.sl, .int .i64 x.sq, .int .i64 x.kind, .int .i64 x.table, .string x.key, .int .i64 x.col, .slice va' x.vals.length vc', .slice oa' x.dots.length oc'] 32) := HY3.out.later hb4
  have HL4 : Hid (LiesO w4 { x with dn := wrap64 (x.dn + 1) } da' va' oa' dc' vc' oc') := HL3.out.later hb4
  clear C4 HK3 HY3 HL3 hb4 f0 f1 f2 f3 f4 f5 f6 f7 f8 f9 f10 f11
  obtain ⟨f0, f1, f2, f3, f4, f5, f6, f7, f8, f9, f10, f11⟩ := cells12 HY4.out
  go_wp2_with fail
  refine (C6 _ HB4.out HL4.out).mono ?_
  rintro e w5 ⟨rfl, hb5⟩
  have HB5 : Hid (Below w.heap.size w w5) := chain HB4.out hb5
  clear C6 HY4 HL4 hb5 f0 f1 f2 f3 f4 f5 f6 f7 f8 f9 f10 f11
  go_wp2_with fail
  refine (owakes_any _).mono ?_
  rintro e w9 ⟨rfl, hb9⟩
  go_wp2
  go_ret
  exact ⟨by simp, chain HB5.out hb9⟩

set_option maxRecDepth 100000 in
set_option maxHeartbeats 8000000 in
theorem okinds_3 (n : Int) (af : Option Addr) (nf fcap : Nat) (L : List (List Int)) (x : PO) (da va oa : Option Addr) (dc vc oc : Nat) (what : Int) (w : World) (hn : L.length = nf) (hnf : nf ≤ 9223372036854775807) (hv : ∀ v ∈ L, v.length ≤ 9223372036854775807) (hr : RdII w af L) (hx : InO w x da va oa dc vc oc) (hF : heavyFs L = false) (hO : heavyOs [x] = false) (hc : checkF n L x = 0) (ht : (IntKind.u64.wrap what).tmod 7 = 3) :
    Calls Try.prog 5 #[.int .i64 n, .slice af nf fcap, .agg (cellsO x da va oa dc vc oc), .int .i64 what] w fun e w' => e = .returned (.bool true) ∧ Below w.heap.size w w' := by
  have t0 : ((IntKind.u64.wrap what).tmod 7 == 0) = false := by rw [ht]; decide
  have t1 : ((IntKind.u64.wrap what).tmod 7 == 1) = false := by rw [ht]; decide
  have t2 : ((IntKind.u64.wrap what).tmod 7 == 2) = false := by rw [ht]; decide
  have t3 : ((IntKind.u64.wrap what).tmod 7 == 3) = true := by rw [ht]; decide
  obtain ⟨A, hAA⟩ : ∃ A : World, A = w.alloc (.cells (cellsO x da va oa dc vc oc) 32) := ⟨_, rfl⟩
  have HA0 : Hid (Below w.heap.size w A) := by rw [hAA]; exact alloc_below _ _
  have hsz : A.heap.size = w.heap.size + 1 := by rw [hAA]; simp
  have HKx0 : Hid (CellsAt A w.heap.size (cellsO x da va oa dc vc oc) 32) := by rw [hAA]; exact CellsAt.made rfl
  have HAA : Hid (A = w.alloc (.cells #[.int .i64 x.dp, .int .i64 x.dn, .slice da x.deps.length dc, .int .i64 x.sp, .int .i64 x.sl, .int .i64 x.sq, .int .i64 x.kind, .int .i64 x.table, .string x.key, .int .i64 x.col, .slice va x.vals.length vc, .slice oa x.dots.length oc] 32)) := hAA
  have C0 := heavyForms_any af nf fcap L A hn hnf hv (hr.later HA0.out)
  rw [hF] at C0
  clear hAA
  obtain ⟨B, hBB⟩ : ∃ B : World, B = A.alloc (.cells #[.int .i64 x.dp, .int .i64 x.dn, .slice da x.deps.length dc, .int .i64 x.sp, .int .i64 x.sl, .int .i64 x.sq, .int .i64 x.kind, .int .i64 x.table, .string x.key, .int .i64 x.col, .slice va x.vals.length vc, .slice oa x.dots.length oc] 32) := ⟨_, rfl⟩
  have HB0 : Hid (Below w.heap.size w B) := by rw [hBB]; exact chain HA0.out (alloc_below _ _)
  have HKx : Hid (CellsAt B w.heap.size (cellsO x da va oa dc vc oc) 32) := by rw [hBB]; exact HKx0.out.later (alloc_below _ _)
  have HKz : Hid (CellsAt B (w.heap.size + 1) #[.int .i64 x.dp, .int .i64 x.dn, .slice da x.deps.length dc, .int .i64 x.sp, .int .i64 x.sl, .int .i64 x.sq, .int .i64 x.kind, .int .i64 x.table, .string x.key, .int .i64 x.col, .slice va x.vals.length vc, .slice oa x.dots.length oc] 32) := by rw [hBB]; exact CellsAt.made (by rw [hsz])
  have C1 := heavyO_any (some ⟨w.heap.size + 1, 0, none⟩) 1 1 [x] B rfl (by omega) (rdO_one HKz.out (hx.later HB0.out))
  rw [hO] at C1
  have HBB : Hid (B = A.alloc (.cells #[.int .i64 x.dp, .int .i64 x.dn, .slice da x.deps.length dc, .int .i64 x.sp, .int .i64 x.sl, .int .i64 x.sq, .int .i64 x.kind, .int .i64 x.table, .string x.key, .int .i64 x.col, .slice va x.vals.length vc, .slice oa x.dots.length oc] 32)) := hBB
  obtain ⟨f0, f1, f2, f3, f4, f5, f6, f7, f8, f9, f10, f11⟩ := cellsO_at HKx0.out
  clear hBB HKz HKx0
  have hox : heavyO x = false := by simpa [heavyOs] using hO
  obtain ⟨lx, -, -, -, -⟩ := hx.of_light hox
  have HLx : Hid (LiesO w x da va oa dc vc oc) := lx
  obtain ⟨l1, l2⟩ := light_forms hF
  have C2 := fun (V : World) (hb : Below w.heap.size w V) => lawCheck_any n af nf fcap L x da va oa dc vc oc V hn (by omega) (fun v h => by have := l2 v h; omega) (hr.later hb) (HLx.out.later hb) hx.i64
  have C3 := fun (V : World) (hb : Below w.heap.size w V) => twinOp_any x da va oa dc vc oc V (HLx.out.later hb)
  have C4 := fun (V : World) (hb : Below w.heap.size w V) => opCheck_any n af nf fcap L x da va oa dc vc oc V hn (by omega) (fun v h => by have := l2 v h; omega) (hr.later hb) (HLx.out.later hb) hx.i64
  have C5 := fun (y : PO) (da va oa : Option Addr) (dc vc oc : Nat) (V : World) (hb : Below w.heap.size w V) (h : LiesO V y da va oa dc vc oc) (hi : I64O y) => opCheck_any n af nf fcap L y da va oa dc vc oc V hn (by omega) (fun v h => by have := l2 v h; omega) (hr.later hb) h hi
  have C6 := fun (y : PO) (da va oa : Option Addr) (dc vc oc : Nat) (V : World) (hb : Below w.heap.size w V) (h : LiesO V y da va oa dc vc oc) (hi : I64O y) => lawCheck_any n af nf fcap L y da va oa dc vc oc V hn (by omega) (fun v h => by have := l2 v h; omega) (hr.later hb) h hi
  rw [hc] at C2 C4
  have HC5 : Hid (∀ (y : PO) (da va oa : Option Addr) (dc vc oc : Nat) (V : World), _) := C5
  have HC6 : Hid (∀ (y : PO) (da va oa : Option Addr) (dc vc oc : Nat) (V : World), _) := C6
  have HI : Hid (I64O x) := hx.i64
  have HN : Hid (L.length = nf) := hn
  have HC : Hid (checkF n L x = 0) := hc
  clear hn hv hr hx hF hO hox lx l1 l2 C5 C6 hc
  go_enter Try.func5, Try.ntmps5
  go_wp2_with fail
  rw [← HAA.out]
  refine C0.mono ?_
  rintro e w1 ⟨rfl, hw⟩
  subst w1
  clear C0 HAA
  go_wp2_with fail
  rw [← HBB.out]
  refine C1.mono ?_
  rintro e w1 ⟨rfl, hw⟩
  subst w1
  clear C1 HBB HA0 hsz f0 f1 f2 f3 f4 f5 f6 f7 f8 f9 f10 f11
  obtain ⟨f0, f1, f2, f3, f4, f5, f6, f7, f8, f9, f10, f11⟩ := cellsO_at HKx.out
  go_wp2_with fail
  refine (C2 _ HB0.out).mono ?_
  rintro e w1 ⟨rfl, hb1⟩
  have HB1 : Hid (Below w.heap.size w w1) := chain HB0.out hb1
  have HK1 : Hid (CellsAt w1 w.heap.size (cellsO x da va oa dc vc oc) 32) := HKx.out.later hb1
  have hs1 : B.heap.size ≤ w1.heap.size := hb1.size
  have hs0 : w.heap.size < B.heap.size := HKx.out.lt
  clear C2 HKx hb1 f0 f1 f2 f3 f4 f5 f6 f7 f8 f9 f10 f11
  obtain ⟨f0, f1, f2, f3, f4, f5, f6, f7, f8, f9, f10, f11⟩ := cellsO_at HK1.out
  go_wp2_with fail
  refine (C3 _ HB1.out).mono ?_
  rintro e w2 ⟨da', va', oa', dc', vc', oc', rfl, hl2, hf2, hb2, hi2, hv2, hd2⟩
  simp only [cellsO]
  have HB2 : Hid (Below w.heap.size w w2) := chain HB1.out hb2
  have HK2 : Hid (CellsAt w2 w.heap.size (cellsO x da va oa dc vc oc) 32) := HK1.out.later hb2
  have hs2 : w1.heap.size ≤ w2.heap.size := hb2.size
  have HL2 : Hid (LiesO w2 x da' va' oa' dc' vc' oc') := hl2
  have HI2 : Hid (OwnI w2 (w1.heap.size + 2) (.slice da' x.deps.length dc') x.deps) := hi2
  have HV2 : Hid (OwnV w2 (w1.heap.size + 2) (.slice va' x.vals.length vc') x.vals) := hv2
  have HD2 : Hid (OwnD w2 (w1.heap.size + 2) (.slice oa' x.dots.length oc') x.dots) := hd2
  clear C3 HK1 hb2 hl2 hf2 hi2 hv2 hd2 f0 f1 f2 f3 f4 f5 f6 f7 f8 f9 f10 f11
  have hne : w.heap.size ≠ w2.heap.size := by omega
  obtain ⟨few1, few2⟩ := few_dots HC.out
  have hbB : Below w2.heap.size w2 ((w2.alloc (.cells #[.int .i64 x.dp, .int .i64 x.dn, .slice da' x.deps.length dc', .int .i64 x.sp, .int .i64 x.sl, .int .i64 x.sq, .int .i64 x.kind, .int .i64 x.table, .string x.key, .int .i64 x.col, .slice va' x.vals.length vc', .slice oa' x.dots.length oc'] 32)).alloc (.cells #[.int .i64 0] 3)) := (alloc_below _ _).trans ((alloc_below _ _).mono (by simp))
  have hbB' : Below ((w2.alloc (.cells #[.int .i64 x.dp, .int .i64 x.dn, .slice da' x.deps.length dc', .int .i64 x.sp, .int .i64 x.sl, .int .i64 x.sq, .int .i64 x.kind, .int .i64 x.table, .string x.key, .int .i64 x.col, .slice va' x.vals.length vc', .slice oa' x.dots.length oc'] 32))).heap.size (w2.alloc (.cells #[.int .i64 x.dp, .int .i64 x.dn, .slice da' x.deps.length dc', .int .i64 x.sp, .int .i64 x.sl, .int .i64 x.sq, .int .i64 x.kind, .int .i64 x.table, .string x.key, .int .i64 x.col, .slice va' x.vals.length vc', .slice oa' x.dots.length oc'] 32)) ((w2.alloc (.cells #[.int .i64 x.dp, .int .i64 x.dn, .slice da' x.deps.length dc', .int .i64 x.sp, .int .i64 x.sl, .int .i64 x.sq, .int .i64 x.kind, .int .i64 x.table, .string x.key, .int .i64 x.col, .slice va' x.vals.length vc', .slice oa' x.dots.length oc'] 32)).alloc (.cells #[.int .i64 0] 3)) := alloc_below _ _
  have hszB : (((w2.alloc (.cells #[.int .i64 x.dp, .int .i64 x.dn, .slice da' x.deps.length dc', .int .i64 x.sp, .int .i64 x.sl, .int .i64 x.sq, .int .i64 x.kind, .int .i64 x.table, .string x.key, .int .i64 x.col, .slice va' x.vals.length vc', .slice oa' x.dots.length oc'] 32)).alloc (.cells #[.int .i64 0] 3))).heap.size = w2.heap.size + 2 := by simp
  have hlI : OwnI ((w2.alloc (.cells #[.int .i64 x.dp, .int .i64 x.dn, .slice da' x.deps.length dc', .int .i64 x.sp, .int .i64 x.sl, .int .i64 x.sq, .int .i64 x.kind, .int .i64 x.table, .string x.key, .int .i64 x.col, .slice va' x.vals.length vc', .slice oa' x.dots.length oc'] 32)).alloc (.cells #[.int .i64 0] 3)) (w1.heap.size + 2) (.slice da' x.deps.length dc') x.deps := HI2.out.later hbB
  have hlV : OwnV ((w2.alloc (.cells #[.int .i64 x.dp, .int .i64 x.dn, .slice da' x.deps.length dc', .int .i64 x.sp, .int .i64 x.sl, .int .i64 x.sq, .int .i64 x.kind, .int .i64 x.table, .string x.key, .int .i64 x.col, .slice va' x.vals.length vc', .slice oa' x.dots.length oc'] 32)).alloc (.cells #[.int .i64 0] 3)) (w1.heap.size + 2) (.slice va' x.vals.length vc') x.vals := HV2.out.later hbB
  have hlD : OwnD ((w2.alloc (.cells #[.int .i64 x.dp, .int .i64 x.dn, .slice da' x.deps.length dc', .int .i64 x.sp, .int .i64 x.sl, .int .i64 x.sq, .int .i64 x.kind, .int .i64 x.table, .string x.key, .int .i64 x.col, .slice va' x.vals.length vc', .slice oa' x.dots.length oc'] 32)).alloc (.cells #[.int .i64 0] 3)) (w1.heap.size + 2) (.slice oa' x.dots.length oc') x.dots := HD2.out.later hbB
  have hB2 : w1.heap.size + 2 ≤ w2.heap.size + 2 := by omega
  obtain ⟨a3, c3, W3, hrun, hc3, ho3, hn3, hg3⟩ := grow_int (w := ((w2.alloc (.cells #[.int .i64 x.dp, .int .i64 x.dn, .slice da' x.deps.length dc', .int .i64 x.sp, .int .i64 x.sl, .int .i64 x.sq, .int .i64 x.kind, .int .i64 x.table, .string x.key, .int .i64 x.col, .slice va' x.vals.length vc', .slice oa' x.dots.length oc'] 32)).alloc (.cells #[.int .i64 0] 3))) (s := w2.heap.size + 1) (ty := 26) hlI rfl (by omega) (by rw [hszB]; exact hB2) (show _ from by have h : CellsAt ((w2.alloc (.cells #[.int .i64 x.dp, .int .i64 x.dn, .slice da' x.deps.length dc', .int .i64 x.sp, .int .i64 x.sl, .int .i64 x.sq, .int .i64 x.kind, .int .i64 x.table, .string x.key, .int .i64 x.col, .slice va' x.vals.length vc', .slice oa' x.dots.length oc'] 32)).alloc (.cells #[.int .i64 0] 3)) (w2.heap.size + 1) #[.int .i64 0] 3 := CellsAt.made (by simp); exact h.cell 0)
  have hlt : ∀ j, (Value.slice da' x.deps.length dc').ownBlock = some j → w1.heap.size + 2 ≤ j ∧ j < w2.heap.size := fun j hj => World.ownsRow.lt HI2.out j hj
  have hyB : CellsAt ((w2.alloc (.cells #[.int .i64 x.dp, .int .i64 x.dn, .slice da' x.deps.length dc', .int .i64 x.sp, .int .i64 x.sl, .int .i64 x.sq, .int .i64 x.kind, .int .i64 x.table, .string x.key, .int .i64 x.col, .slice va' x.vals.length vc', .slice oa' x.dots.length oc'] 32)).alloc (.cells #[.int .i64 0] 3)) w2.heap.size #[.int .i64 x.dp, .int .i64 x.dn, .slice da' x.deps.length dc', .int .i64 x.sp, .int .i64 x.sl, .int .i64 x.sq, .int .i64 x.kind, .int .i64 x.table, .string x.key, .int .i64 x.col, .slice va' x.vals.length vc', .slice oa' x.dots.length oc'] 32 := (CellsAt.made rfl : CellsAt (w2.alloc (.cells #[.int .i64 x.dp, .int .i64 x.dn, .slice da' x.deps.length dc', .int .i64 x.sp, .int .i64 x.sl, .int .i64 x.sq, .int .i64 x.kind, .int .i64 x.table, .string x.key, .int .i64 x.col, .slice va' x.vals.length vc', .slice oa' x.dots.length oc'] 32)) w2.heap.size #[.int .i64 x.dp, .int .i64 x.dn, .slice da' x.deps.length dc', .int .i64 x.sp, .int .i64 x.sl, .int .i64 x.sq, .int .i64 x.kind, .int .i64 x.table, .string x.key, .int .i64 x.col, .slice va' x.vals.length vc', .slice oa' x.dots.length oc'] 32).later hbB'
  have hxB : CellsAt ((w2.alloc (.cells #[.int .i64 x.dp, .int .i64 x.dn, .slice da' x.deps.length dc', .int .i64 x.sp, .int .i64 x.sl, .int .i64 x.sq, .int .i64 x.kind, .int .i64 x.table, .string x.key, .int .i64 x.col, .slice va' x.vals.length vc', .slice oa' x.dots.length oc'] 32)).alloc (.cells #[.int .i64 0] 3)) w.heap.size (cellsO x da va oa dc vc oc) 32 := (HK2.out.later (alloc_below _ _) : CellsAt (w2.alloc (.cells #[.int .i64 x.dp, .int .i64 x.dn, .slice da' x.deps.length dc', .int .i64 x.sp, .int .i64 x.sl, .int .i64 x.sq, .int .i64 x.kind, .int .i64 x.table, .string x.key, .int .i64 x.col, .slice va' x.vals.length vc', .slice oa' x.dots.length oc'] 32)) w.heap.size (cellsO x da va oa dc vc oc) 32).later hbB'
  have hy3 : CellsAt W3 w2.heap.size #[.int .i64 x.dp, .int .i64 x.dn, .slice da' x.deps.length dc', .int .i64 x.sp, .int .i64 x.sl, .int .i64 x.sq, .int .i64 x.kind, .int .i64 x.table, .string x.key, .int .i64 x.col, .slice va' x.vals.length vc', .slice oa' x.dots.length oc'] 32 := (hg3.block w2.heap.size hyB.lt (fun e => by have := (hlt _ e.symm).2; omega)).trans hyB
  have hx3 : CellsAt W3 w.heap.size (cellsO x da va oa dc vc oc) 32 := (hg3.block w.heap.size hxB.lt (fun e => by have := (hlt _ e.symm).1; omega)).trans hxB
  have hb3 : Below w.heap.size w W3 := (chain HB2.out hbB).grown hg3 (by rw [hszB]; omega) (fun j hj => by have := (hlt j hj).1; omega)
  have h3I : OwnI W3 (w1.heap.size + 2) (.slice a3 (x.deps ++ [0]).length c3) (x.deps ++ [0]) := by rw [List.length_append]; exact ho3
  have h3V : OwnV W3 (w1.heap.size + 2) (.slice va' x.vals.length vc') x.vals := own_other hlV hlI (by decide) hg3
  have h3D : OwnD W3 (w1.heap.size + 2) (.slice oa' x.dots.length oc') x.dots := own_other hlD hlI (by decide) hg3
  have h4I : OwnI (W3.setCell ⟨w2.heap.size, 2, none⟩ (.slice a3 (x.deps.length + 1) c3)) (w1.heap.size + 2) (.slice a3 (x.deps ++ [0]).length c3) (x.deps ++ [0]) := own_set h3I hy3 (by decide)
  have h4V : OwnV (W3.setCell ⟨w2.heap.size, 2, none⟩ (.slice a3 (x.deps.length + 1) c3)) (w1.heap.size + 2) (.slice va' x.vals.length vc') x.vals := own_set h3V hy3 (by decide)
  have h4D : OwnD (W3.setCell ⟨w2.heap.size, 2, none⟩ (.slice a3 (x.deps.length + 1) c3)) (w1.heap.size + 2) (.slice oa' x.dots.length oc') x.dots := own_set h3D hy3 (by decide)
  have hl : LiesO w2 x da' va' oa' dc' vc' oc' := HL2.out
  have HLY : Hid (LiesO (W3.setCell ⟨w2.heap.size, 2, none⟩ (.slice a3 (x.deps.length + 1) c3)) { x with deps := x.deps ++ [0] } a3 va' oa' c3 vc' oc') := (lies_of (x := { x with deps := x.deps ++ [0] }) h4I h4V h4D (by show (x.deps ++ [0]).length ≤ 65536; rw [List.length_append, List.length_singleton]; omega) hl.lv hl.lo hl.key ⟨by show (x.deps ++ [0]).length ≤ c3; rw [List.length_append]; exact hc3, hn3⟩ ⟨hl.cv, hl.nv⟩ ⟨hl.co, hl.no⟩).1
  have HBX : Hid (Below w.heap.size w (W3.setCell ⟨w2.heap.size, 2, none⟩ (.slice a3 (x.deps.length + 1) c3))) := hb3.setCell (p := ⟨w2.heap.size, 2, none⟩) (by show w.heap.size ≤ w2.heap.size; omega) _
  have HKX : Hid (CellsAt (W3.setCell ⟨w2.heap.size, 2, none⟩ (.slice a3 (x.deps.length + 1) c3)) w.heap.size (cellsO x da va oa dc vc oc) 32) := hx3.other hne _ _
  have HY1 : Hid (CellsAt (W3.setCell ⟨w2.heap.size, 2, none⟩ (.slice a3 (x.deps.length + 1) c3)) w2.heap.size #[.int .i64 x.dp, .int .i64 x.dn, .slice a3 (x.deps.length + 1) c3, .int .i64 x.sp, .int .i64 x.sl, .int .i64 x.sq, .int .i64 x.kind, .int .i64 x.table, .string x.key, .int .i64 x.col, .slice va' x.vals.length vc', .slice oa' x.dots.length oc'] 32) := hy3.set 2 _
  have HI2' : Hid (I64O { x with deps := x.deps ++ [0] }) := ⟨fun d hd => by rcases List.mem_append.1 hd with h | h; exact HI.out.deps d h; (obtain rfl : d = 0 := by simpa using h); exact ⟨by decide, by decide⟩, HI.out.dp, HI.out.dn, HI.out.st, HI.out.dots, HI.out.col, HI.out.table⟩
  have C5 := fun (V : World) (hb : Below w.heap.size w V) (h : LiesO V { x with deps := x.deps ++ [0] } a3 va' oa' c3 vc' oc') => HC5.out { x with deps := x.deps ++ [0] } a3 va' oa' c3 vc' oc' V hb h HI2'.out
  rw [spoil3 HC.out] at C5
  have C6 := fun (V : World) (hb : Below w.heap.size w V) (h : LiesO V { x with deps := x.deps ++ [0] } a3 va' oa' c3 vc' oc') => HC6.out { x with deps := x.deps ++ [0] } a3 va' oa' c3 vc' oc' V hb h HI2'.out
  rw [spoil3 HC.out] at C6
  simp only [cellsO, List.length_append, List.length_singleton] at C5 C6
  have hyV : CellsAt (w2.alloc (.cells #[.int .i64 x.dp, .int .i64 x.dn, .slice da' x.deps.length dc', .int .i64 x.sp, .int .i64 x.sl, .int .i64 x.sq, .int .i64 x.kind, .int .i64 x.table, .string x.key, .int .i64 x.col, .slice va' x.vals.length vc', .slice oa' x.dots.length oc'] 32)) w2.heap.size #[.int .i64 x.dp, .int .i64 x.dn, .slice da' x.deps.length dc', .int .i64 x.sp, .int .i64 x.sl, .int .i64 x.sq, .int .i64 x.kind, .int .i64 x.table, .string x.key, .int .i64 x.col, .slice va' x.vals.length vc', .slice oa' x.dots.length oc'] 32 := CellsAt.made rfl
  obtain ⟨f0, f1, f2, f3, f4, f5, f6, f7, f8, f9, f10, f11⟩ := cells12 hyV
  obtain ⟨g0, g1, g2, g3, g4, g5, g6, g7, g8, g9, g10, g11⟩ := cells12 hy3
  have fr := hy3.free 2
  clear hyV hl HC5 HC6 HI HI2' HN HC HI2 HV2 HD2 HL2 HK2 hbB hbB' hszB hlI hlV hlD hlt hyB hxB hy3 hx3 hb3 h3I h3V h3D h4I h4V h4D ho3 hn3 hg3 hc3 few1 few2
  go_wp2_with (at_builtin; refine wpList_append_run rfl _ _ 26 26 rfl _ _ _ _ rfl rfl hrun ?_)
  clear hrun fr f0 f1 f2 f3 f4 f5 f6 f7 f8 f9 f10 f11 g0 g1 g2 g3 g4 g5 g6 g7 g8 g9 g10 g11
  refine (C5 _ HBX.out HLY.out).mono ?_
  rintro e w3 ⟨rfl, hb3⟩
  have HB3 : Hid (Below w.heap.size w w3) := chain HBX.out hb3
  have HK3 : Hid (CellsAt w3 w.heap.size (cellsO x da va oa dc vc oc) 32) := HKX.out.later hb3
  have HY3 : Hid (CellsAt w3 w2.heap.size #[.int .i64 x.dp, .int .i64 x.dn, .slice a3 (x.deps.length + 1) c3, .int .i64 x.sp, .int .i64 x.sl, .int .i64 x.sq, .int .i64 x.kind, .int .i64 x.table, .string x.key, .int .i64 x.col, .slice va' x.vals.length vc', .slice oa' x.dots.length oc'] 32) := HY1.out.later hb3
  have HL3 : Hid (LiesO w3 { x with deps := x.deps ++ [0] } a3 va' oa' c3 vc' oc') := HLY.out.later hb3
  clear C5 HLY HY1 hb3
  obtain ⟨f0, f1, f2, f3, f4, f5, f6, f7, f8, f9, f10, f11⟩ := cellsO_at HK3.out
  go_wp2_with fail
  refine (C4 _ HB3.out).mono ?_
  rintro e w4 ⟨rfl, hb4⟩
  have HB4 : Hid (Below w.heap.size w w4) := chain HB3.out hb4
  have HY4 : Hid (CellsAt w4 w2.heap.size #[.int .i64 x.dp, .int .i64 x.dn, .slice a3 (x.deps.length + 1) c3, .int .i64 x.sp, .int .i64 x.sl, .int .i64 x.sq, .int .i64 x.kind, .int .i64 x.table, .string x.key, .int .i64 x.col, .slice va' x.vals.length vc', .slice oa' x.dots.length oc'] 32) := HY3.out.later hb4
  have HL4 : Hid (LiesO w4 { x with deps := x.deps ++ [0] } a3 va' oa' c3 vc' oc') := HL3.out.later hb4
  clear C4 HK3 HY3 HL3 hb4 f0 f1 f2 f3 f4 f5 f6 f7 f8 f9 f10 f11
  obtain ⟨f0, f1, f2, f3, f4, f5, f6, f7, f8, f9, f10, f11⟩ := cells12 HY4.out
  go_wp2_with fail
  refine (C6 _ HB4.out HL4.out).mono ?_
  rintro e w5 ⟨rfl, hb5⟩
  have HB5 : Hid (Below w.heap.size w w5) := chain HB4.out hb5
  clear C6 HY4 HL4 hb5 f0 f1 f2 f3 f4 f5 f6 f7 f8 f9 f10 f11
  go_wp2_with fail
  refine (owakes_any _).mono ?_
  rintro e w9 ⟨rfl, hb9⟩
  go_wp2
  go_ret
  exact ⟨by simp, chain HB5.out hb9⟩

set_option maxRecDepth 100000 in
set_option maxHeartbeats 8000000 in
theorem okinds_4 (n : Int) (af : Option Addr) (nf fcap : Nat) (L : List (List Int)) (x : PO) (da va oa : Option Addr) (dc vc oc : Nat) (what : Int) (w : World) (hn : L.length = nf) (hnf : nf ≤ 9223372036854775807) (hv : ∀ v ∈ L, v.length ≤ 9223372036854775807) (hr : RdII w af L) (hx : InO w x da va oa dc vc oc) (hF : heavyFs L = false) (hO : heavyOs [x] = false) (hc : checkF n L x = 0) (ht : (IntKind.u64.wrap what).tmod 7 = 4) :
    Calls Try.prog 5 #[.int .i64 n, .slice af nf fcap, .agg (cellsO x da va oa dc vc oc), .int .i64 what] w fun e w' => e = .returned (.bool true) ∧ Below w.heap.size w w' := by
  have t0 : ((IntKind.u64.wrap what).tmod 7 == 0) = false := by rw [ht]; decide
  have t1 : ((IntKind.u64.wrap what).tmod 7 == 1) = false := by rw [ht]; decide
  have t2 : ((IntKind.u64.wrap what).tmod 7 == 2) = false := by rw [ht]; decide
  have t3 : ((IntKind.u64.wrap what).tmod 7 == 3) = false := by rw [ht]; decide
  have t4 : ((IntKind.u64.wrap what).tmod 7 == 4) = true := by rw [ht]; decide
  obtain ⟨A, hAA⟩ : ∃ A : World, A = w.alloc (.cells (cellsO x da va oa dc vc oc) 32) := ⟨_, rfl⟩
  have HA0 : Hid (Below w.heap.size w A) := by rw [hAA]; exact alloc_below _ _
  have hsz : A.heap.size = w.heap.size + 1 := by rw [hAA]; simp
  have HKx0 : Hid (CellsAt A w.heap.size (cellsO x da va oa dc vc oc) 32) := by rw [hAA]; exact CellsAt.made rfl
  have HAA : Hid (A = w.alloc (.cells #[.int .i64 x.dp, .int .i64 x.dn, .slice da x.deps.length dc, .int .i64 x.sp, .int .i64 x.sl, .int .i64 x.sq, .int .i64 x.kind, .int .i64 x.table, .string x.key, .int .i64 x.col, .slice va x.vals.length vc, .slice oa x.dots.length oc] 32)) := hAA
  have C0 := heavyForms_any af nf fcap L A hn hnf hv (hr.later HA0.out)
  rw [hF] at C0
  clear hAA
  obtain ⟨B, hBB⟩ : ∃ B : World, B = A.alloc (.cells #[.int .i64 x.dp, .int .i64 x.dn, .slice da x.deps.length dc, .int .i64 x.sp, .int .i64 x.sl, .int .i64 x.sq, .int .i64 x.kind, .int .i64 x.table, .string x.key, .int .i64 x.col, .slice va x.vals.length vc, .slice oa x.dots.length oc] 32) := ⟨_, rfl⟩
  have HB0 : Hid (Below w.heap.size w B) := by rw [hBB]; exact chain HA0.out (alloc_below _ _)
  have HKx : Hid (CellsAt B w.heap.size (cellsO x da va oa dc vc oc) 32) := by rw [hBB]; exact HKx0.out.later (alloc_below _ _)
  have HKz : Hid (CellsAt B (w.heap.size + 1) #[.int .i64 x.dp, .int .i64 x.dn, .slice da x.deps.length dc, .int .i64 x.sp, .int .i64 x.sl, .int .i64 x.sq, .int .i64 x.kind, .int .i64 x.table, .string x.key, .int .i64 x.col, .slice va x.vals.length vc, .slice oa x.dots.length oc] 32) := by rw [hBB]; exact CellsAt.made (by rw [hsz])
  have C1 := heavyO_any (some ⟨w.heap.size + 1, 0, none⟩) 1 1 [x] B rfl (by omega) (rdO_one HKz.out (hx.later HB0.out))
  rw [hO] at C1
  have HBB : Hid (B = A.alloc (.cells #[.int .i64 x.dp, .int .i64 x.dn, .slice da x.deps.length dc, .int .i64 x.sp, .int .i64 x.sl, .int .i64 x.sq, .int .i64 x.kind, .int .i64 x.table, .string x.key, .int .i64 x.col, .slice va x.vals.length vc, .slice oa x.dots.length oc] 32)) := hBB
  obtain ⟨f0, f1, f2, f3, f4, f5, f6, f7, f8, f9, f10, f11⟩ := cellsO_at HKx0.out
  clear hBB HKz HKx0
  have hox : heavyO x = false := by simpa [heavyOs] using hO
  obtain ⟨lx, -, -, -, -⟩ := hx.of_light hox
  have HLx : Hid (LiesO w x da va oa dc vc oc) := lx
  obtain ⟨l1, l2⟩ := light_forms hF
  have C2 := fun (V : World) (hb : Below w.heap.size w V) => lawCheck_any n af nf fcap L x da va oa dc vc oc V hn (by omega) (fun v h => by have := l2 v h; omega) (hr.later hb) (HLx.out.later hb) hx.i64
  have C3 := fun (V : World) (hb : Below w.heap.size w V) => twinOp_any x da va oa dc vc oc V (HLx.out.later hb)
  have C4 := fun (V : World) (hb : Below w.heap.size w V) => opCheck_any n af nf fcap L x da va oa dc vc oc V hn (by omega) (fun v h => by have := l2 v h; omega) (hr.later hb) (HLx.out.later hb) hx.i64
  have C5 := fun (y : PO) (da va oa : Option Addr) (dc vc oc : Nat) (V : World) (hb : Below w.heap.size w V) (h : LiesO V y da va oa dc vc oc) (hi : I64O y) => opCheck_any n af nf fcap L y da va oa dc vc oc V hn (by omega) (fun v h => by have := l2 v h; omega) (hr.later hb) h hi
  have C6 := fun (y : PO) (da va oa : Option Addr) (dc vc oc : Nat) (V : World) (hb : Below w.heap.size w V) (h : LiesO V y da va oa dc vc oc) (hi : I64O y) => lawCheck_any n af nf fcap L y da va oa dc vc oc V hn (by omega) (fun v h => by have := l2 v h; omega) (hr.later hb) h hi
  rw [hc] at C2 C4
  have HC5 : Hid (∀ (y : PO) (da va oa : Option Addr) (dc vc oc : Nat) (V : World), _) := C5
  have HC6 : Hid (∀ (y : PO) (da va oa : Option Addr) (dc vc oc : Nat) (V : World), _) := C6
  have HI : Hid (I64O x) := hx.i64
  have HN : Hid (L.length = nf) := hn
  have HC : Hid (checkF n L x = 0) := hc
  clear hn hv hr hx hF hO hox lx l1 l2 C5 C6 hc
  go_enter Try.func5, Try.ntmps5
  go_wp2_with fail
  rw [← HAA.out]
  refine C0.mono ?_
  rintro e w1 ⟨rfl, hw⟩
  subst w1
  clear C0 HAA
  go_wp2_with fail
  rw [← HBB.out]
  refine C1.mono ?_
  rintro e w1 ⟨rfl, hw⟩
  subst w1
  clear C1 HBB HA0 hsz f0 f1 f2 f3 f4 f5 f6 f7 f8 f9 f10 f11
  obtain ⟨f0, f1, f2, f3, f4, f5, f6, f7, f8, f9, f10, f11⟩ := cellsO_at HKx.out
  go_wp2_with fail
  refine (C2 _ HB0.out).mono ?_
  rintro e w1 ⟨rfl, hb1⟩
  have HB1 : Hid (Below w.heap.size w w1) := chain HB0.out hb1
  have HK1 : Hid (CellsAt w1 w.heap.size (cellsO x da va oa dc vc oc) 32) := HKx.out.later hb1
  have hs1 : B.heap.size ≤ w1.heap.size := hb1.size
  have hs0 : w.heap.size < B.heap.size := HKx.out.lt
  clear C2 HKx hb1 f0 f1 f2 f3 f4 f5 f6 f7 f8 f9 f10 f11
  obtain ⟨f0, f1, f2, f3, f4, f5, f6, f7, f8, f9, f10, f11⟩ := cellsO_at HK1.out
  go_wp2_with fail
  refine (C3 _ HB1.out).mono ?_
  rintro e w2 ⟨da', va', oa', dc', vc', oc', rfl, hl2, hf2, hb2, hi2, hv2, hd2⟩
  simp only [cellsO]
  have HB2 : Hid (Below w.heap.size w w2) := chain HB1.out hb2
  have HK2 : Hid (CellsAt w2 w.heap.size (cellsO x da va oa dc vc oc) 32) := HK1.out.later hb2
  have hs2 : w1.heap.size ≤ w2.heap.size := hb2.size
  have HL2 : Hid (LiesO w2 x da' va' oa' dc' vc' oc') := hl2
  have HI2 : Hid (OwnI w2 (w1.heap.size + 2) (.slice da' x.deps.length dc') x.deps) := hi2
  have HV2 : Hid (OwnV w2 (w1.heap.size + 2) (.slice va' x.vals.length vc') x.vals) := hv2
  have HD2 : Hid (OwnD w2 (w1.heap.size + 2) (.slice oa' x.dots.length oc') x.dots) := hd2
  clear C3 HK1 hb2 hl2 hf2 hi2 hv2 hd2 f0 f1 f2 f3 f4 f5 f6 f7 f8 f9 f10 f11
  have hne : w.heap.size ≠ w2.heap.size := by omega
  have HKV : Hid (CellsAt (w2.alloc (.cells #[.int .i64 x.dp, .int .i64 x.dn, .slice da' x.deps.length dc', .int .i64 x.sp, .int .i64 x.sl, .int .i64 x.sq, .int .i64 x.kind, .int .i64 x.table, .string x.key, .int .i64 x.col, .slice va' x.vals.length vc', .slice oa' x.dots.length oc'] 32)) w.heap.size (cellsO x da va oa dc vc oc) 32) := HK2.out.later (alloc_below _ _)
  have HYV : Hid (CellsAt (w2.alloc (.cells #[.int .i64 x.dp, .int .i64 x.dn, .slice da' x.deps.length dc', .int .i64 x.sp, .int .i64 x.sl, .int .i64 x.sq, .int .i64 x.kind, .int .i64 x.table, .string x.key, .int .i64 x.col, .slice va' x.vals.length vc', .slice oa' x.dots.length oc'] 32)) w2.heap.size #[.int .i64 x.dp, .int .i64 x.dn, .slice da' x.deps.length dc', .int .i64 x.sp, .int .i64 x.sl, .int .i64 x.sq, .int .i64 x.kind, .int .i64 x.table, .string x.key, .int .i64 x.col, .slice va' x.vals.length vc', .slice oa' x.dots.length oc'] 32) := CellsAt.made rfl
  have HBX : Hid (Below w.heap.size w (w2.alloc (.cells #[.int .i64 x.dp, .int .i64 x.dn, .slice da' x.deps.length dc', .int .i64 x.sp, .int .i64 x.sl, .int .i64 x.sq, .int .i64 x.kind, .int .i64 x.table, .string ⟨#[]⟩, .int .i64 x.col, .slice va' x.vals.length vc', .slice oa' x.dots.length oc'] 32))) := chain HB2.out (alloc_below _ _)
  have HKX : Hid (CellsAt (w2.alloc (.cells #[.int .i64 x.dp, .int .i64 x.dn, .slice da' x.deps.length dc', .int .i64 x.sp, .int .i64 x.sl, .int .i64 x.sq, .int .i64 x.kind, .int .i64 x.table, .string ⟨#[]⟩, .int .i64 x.col, .slice va' x.vals.length vc', .slice oa' x.dots.length oc'] 32)) w.heap.size (cellsO x da va oa dc vc oc) 32) := HK2.out.later (alloc_below _ _)
  have HY1 : Hid (CellsAt (w2.alloc (.cells #[.int .i64 x.dp, .int .i64 x.dn, .slice da' x.deps.length dc', .int .i64 x.sp, .int .i64 x.sl, .int .i64 x.sq, .int .i64 x.kind, .int .i64 x.table, .string ⟨#[]⟩, .int .i64 x.col, .slice va' x.vals.length vc', .slice oa' x.dots.length oc'] 32)) w2.heap.size #[.int .i64 x.dp, .int .i64 x.dn, .slice da' x.deps.length dc', .int .i64 x.sp, .int .i64 x.sl, .int .i64 x.sq, .int .i64 x.kind, .int .i64 x.table, .string ⟨#[]⟩, .int .i64 x.col, .slice va' x.vals.length vc', .slice oa' x.dots.length oc'] 32) := CellsAt.made rfl
  have hl : LiesO w2 x da' va' oa' dc' vc' oc' := HL2.out
  have HLY : Hid (LiesO (w2.alloc (.cells #[.int .i64 x.dp, .int .i64 x.dn, .slice da' x.deps.length dc', .int .i64 x.sp, .int .i64 x.sl, .int .i64 x.sq, .int .i64 x.kind, .int .i64 x.table, .string ⟨#[]⟩, .int .i64 x.col, .slice va' x.vals.length vc', .slice oa' x.dots.length oc'] 32)) { x with key := ⟨#[]⟩ } da' va' oa' dc' vc' oc') := (⟨hl.deps, hl.vals, hl.dots, hl.ld, hl.lv, hl.lo, hl.cd, hl.cv, hl.co, hl.nd, hl.nv, hl.no, (Nat.zero_le _)⟩ : LiesO w2 { x with key := ⟨#[]⟩ } da' va' oa' dc' vc' oc').later (alloc_below _ _)
  have HI2' : Hid (I64O { x with key := ⟨#[]⟩ }) := ⟨HI.out.deps, HI.out.dp, HI.out.dn, HI.out.st, HI.out.dots, HI.out.col, HI.out.table⟩
  have C5 := fun (V : World) (hb : Below w.heap.size w V) (h : LiesO V { x with key := ⟨#[]⟩ } da' va' oa' dc' vc' oc') => HC5.out { x with key := ⟨#[]⟩ } da' va' oa' dc' vc' oc' V hb h HI2'.out
  rw [spoil4 HC.out] at C5
  have C6 := fun (V : World) (hb : Below w.heap.size w V) (h : LiesO V { x with key := ⟨#[]⟩ } da' va' oa' dc' vc' oc') => HC6.out { x with key := ⟨#[]⟩ } da' va' oa' dc' vc' oc' V hb h HI2'.out
  rw [spoil4 HC.out] at C6
  obtain ⟨f0, f1, f2, f3, f4, f5, f6, f7, f8, f9, f10, f11⟩ := cellsO_at HKV.out
  obtain ⟨g0, g1, g2, g3, g4, g5, g6, g7, g8, g9, g10, g11⟩ := cells12 HYV.out
  clear hl HC5 HC6 HI HI2' HN HC HI2 HV2 HD2 HL2 HK2
  simp only [cellsO] at C5 C6
  go_wp2_with fail
  clear HKV HYV f0 f1 f2 f3 f4 f5 f6 f7 f8 f9 f10 f11 g0 g1 g2 g3 g4 g5 g6 g7 g8 g9 g10 g11
  refine (C5 _ HBX.out HLY.out).mono ?_
  rintro e w3 ⟨rfl, hb3⟩
  have HB3 : Hid (Below w.heap.size w w3) := chain HBX.out hb3
  have HK3 : Hid (CellsAt w3 w.heap.size (cellsO x da va oa dc vc oc) 32) := HKX.out.later hb3
  have HY3 : Hid (CellsAt w3 w2.heap.size #[.int .i64 x.dp, .int .i64 x.dn, .slice da' x.deps.length dc', .int .i64 x.sp, .int .i64 x.sl, .int .i64 x.sq, .int .i64 x.kind, .int .i64 x.table, .string ⟨#[]⟩, .int .i64 x.col, .slice va' x.vals.length vc', .slice oa' x.dots.length oc'] 32) := HY1.out.later hb3
  have HL3 : Hid (LiesO w3 { x with key := ⟨#[]⟩ } da' va' oa' dc' vc' oc') := HLY.out.later hb3
  clear C5 HLY HY1 hb3
  obtain ⟨f0, f1, f2, f3, f4, f5, f6, f7, f8, f9, f10, f11⟩ := cellsO_at HK3.out
  go_wp2_with fail
  refine (C4 _ HB3.out).mono ?_
  rintro e w4 ⟨rfl, hb4⟩
  have HB4 : Hid (Below w.heap.size w w4) := chain HB3.out hb4
  have HY4 : Hid (CellsAt w4 w2.heap.size #[.int .i64 x.dp, .int .i64 x.dn, .slice da' x.deps.length dc', .int .i64 x.sp, .int .i64 x.sl, .int .i64 x.sq, .int .i64 x.kind, .int .i64 x.table, .string ⟨#[]⟩, .int .i64 x.col, .slice va' x.vals.length vc', .slice oa' x.dots.length oc'] 32) := HY3.out.later hb4
  have HL4 : Hid (LiesO w4 { x with key := ⟨#[]⟩ } da' va' oa' dc' vc' oc') := HL3.out.later hb4
  clear C4 HK3 HY3 HL3 hb4 f0 f1 f2 f3 f4 f5 f6 f7 f8 f9 f10 f11
  obtain ⟨f0, f1, f2, f3, f4, f5, f6, f7, f8, f9, f10, f11⟩ := cells12 HY4.out
  go_wp2_with fail
  refine (C6 _ HB4.out HL4.out).mono ?_
  rintro e w5 ⟨rfl, hb5⟩
  have HB5 : Hid (Below w.heap.size w w5) := chain HB4.out hb5
  clear C6 HY4 HL4 hb5 f0 f1 f2 f3 f4 f5 f6 f7 f8 f9 f10 f11
  go_wp2_with fail
  refine (owakes_any _).mono ?_
  rintro e w9 ⟨rfl, hb9⟩
  go_wp2
  go_ret
  exact ⟨by simp, chain HB5.out hb9⟩

set_option maxRecDepth 100000 in
set_option maxHeartbeats 8000000 in
theorem okinds_5 (n : Int) (af : Option Addr) (nf fcap : Nat) (L : List (List Int)) (x : PO) (da va oa : Option Addr) (dc vc oc : Nat) (what : Int) (w : World) (hn : L.length = nf) (hnf : nf ≤ 9223372036854775807) (hv : ∀ v ∈ L, v.length ≤ 9223372036854775807) (hr : RdII w af L) (hx : InO w x da va oa dc vc oc) (hF : heavyFs L = false) (hO : heavyOs [x] = false) (hc : checkF n L x = 0) (ht : (IntKind.u64.wrap what).tmod 7 = 5) :
    Calls Try.prog 5 #[.int .i64 n, .slice af nf fcap, .agg (cellsO x da va oa dc vc oc), .int .i64 what] w fun e w' => e = .returned (.bool true) ∧ Below w.heap.size w w' := by
  have t0 : ((IntKind.u64.wrap what).tmod 7 == 0) = false := by rw [ht]; decide
  have t1 : ((IntKind.u64.wrap what).tmod 7 == 1) = false := by rw [ht]; decide
  have t2 : ((IntKind.u64.wrap what).tmod 7 == 2) = false := by rw [ht]; decide
  have t3 : ((IntKind.u64.wrap what).tmod 7 == 3) = false := by rw [ht]; decide
  have t4 : ((IntKind.u64.wrap what).tmod 7 == 4) = false := by rw [ht]; decide
  have t5 : ((IntKind.u64.wrap what).tmod 7 == 5) = true := by rw [ht]; decide
  obtain ⟨A, hAA⟩ : ∃ A : World, A = w.alloc (.cells (cellsO x da va oa dc vc oc) 32) := ⟨_, rfl⟩
  have HA0 : Hid (Below w.heap.size w A) := by rw [hAA]; exact alloc_below _ _
  have hsz : A.heap.size = w.heap.size + 1 := by rw [hAA]; simp
  have HKx0 : Hid (CellsAt A w.heap.size (cellsO x da va oa dc vc oc) 32) := by rw [hAA]; exact CellsAt.made rfl
  have HAA : Hid (A = w.alloc (.cells #[.int .i64 x.dp, .int .i64 x.dn, .slice da x.deps.length dc, .int .i64 x.sp, .int .i64 x.sl, .int .i64 x.sq, .int .i64 x.kind, .int .i64 x.table, .string x.key, .int .i64 x.col, .slice va x.vals.length vc, .slice oa x.dots.length oc] 32)) := hAA
  have C0 := heavyForms_any af nf fcap L A hn hnf hv (hr.later HA0.out)
  rw [hF] at C0
  clear hAA
  obtain ⟨B, hBB⟩ : ∃ B : World, B = A.alloc (.cells #[.int .i64 x.dp, .int .i64 x.dn, .slice da x.deps.length dc, .int .i64 x.sp, .int .i64 x.sl, .int .i64 x.sq, .int .i64 x.kind, .int .i64 x.table, .string x.key, .int .i64 x.col, .slice va x.vals.length vc, .slice oa x.dots.length oc] 32) := ⟨_, rfl⟩
  have HB0 : Hid (Below w.heap.size w B) := by rw [hBB]; exact chain HA0.out (alloc_below _ _)
  have HKx : Hid (CellsAt B w.heap.size (cellsO x da va oa dc vc oc) 32) := by rw [hBB]; exact HKx0.out.later (alloc_below _ _)
  have HKz : Hid (CellsAt B (w.heap.size + 1) #[.int .i64 x.dp, .int .i64 x.dn, .slice da x.deps.length dc, .int .i64 x.sp, .int .i64 x.sl, .int .i64 x.sq, .int .i64 x.kind, .int .i64 x.table, .string x.key, .int .i64 x.col, .slice va x.vals.length vc, .slice oa x.dots.length oc] 32) := by rw [hBB]; exact CellsAt.made (by rw [hsz])
  have C1 := heavyO_any (some ⟨w.heap.size + 1, 0, none⟩) 1 1 [x] B rfl (by omega) (rdO_one HKz.out (hx.later HB0.out))
  rw [hO] at C1
  have HBB : Hid (B = A.alloc (.cells #[.int .i64 x.dp, .int .i64 x.dn, .slice da x.deps.length dc, .int .i64 x.sp, .int .i64 x.sl, .int .i64 x.sq, .int .i64 x.kind, .int .i64 x.table, .string x.key, .int .i64 x.col, .slice va x.vals.length vc, .slice oa x.dots.length oc] 32)) := hBB
  obtain ⟨f0, f1, f2, f3, f4, f5, f6, f7, f8, f9, f10, f11⟩ := cellsO_at HKx0.out
  clear hBB HKz HKx0
  have hox : heavyO x = false := by simpa [heavyOs] using hO
  obtain ⟨lx, -, -, -, -⟩ := hx.of_light hox
  have HLx : Hid (LiesO w x da va oa dc vc oc) := lx
  obtain ⟨l1, l2⟩ := light_forms hF
  have C2 := fun (V : World) (hb : Below w.heap.size w V) => lawCheck_any n af nf fcap L x da va oa dc vc oc V hn (by omega) (fun v h => by have := l2 v h; omega) (hr.later hb) (HLx.out.later hb) hx.i64
  have C3 := fun (V : World) (hb : Below w.heap.size w V) => twinOp_any x da va oa dc vc oc V (HLx.out.later hb)
  have C4 := fun (V : World) (hb : Below w.heap.size w V) => opCheck_any n af nf fcap L x da va oa dc vc oc V hn (by omega) (fun v h => by have := l2 v h; omega) (hr.later hb) (HLx.out.later hb) hx.i64
  have C5 := fun (y : PO) (da va oa : Option Addr) (dc vc oc : Nat) (V : World) (hb : Below w.heap.size w V) (h : LiesO V y da va oa dc vc oc) (hi : I64O y) => opCheck_any n af nf fcap L y da va oa dc vc oc V hn (by omega) (fun v h => by have := l2 v h; omega) (hr.later hb) h hi
  have C6 := fun (y : PO) (da va oa : Option Addr) (dc vc oc : Nat) (V : World) (hb : Below w.heap.size w V) (h : LiesO V y da va oa dc vc oc) (hi : I64O y) => lawCheck_any n af nf fcap L y da va oa dc vc oc V hn (by omega) (fun v h => by have := l2 v h; omega) (hr.later hb) h hi
  rw [hc] at C2 C4
  have HC5 : Hid (∀ (y : PO) (da va oa : Option Addr) (dc vc oc : Nat) (V : World), _) := C5
  have HC6 : Hid (∀ (y : PO) (da va oa : Option Addr) (dc vc oc : Nat) (V : World), _) := C6
  have HI : Hid (I64O x) := hx.i64
  have HN : Hid (L.length = nf) := hn
  have HC : Hid (checkF n L x = 0) := hc
  clear hn hv hr hx hF hO hox lx l1 l2 C5 C6 hc
  go_enter Try.func5, Try.ntmps5
  go_wp2_with fail
  rw [← HAA.out]
  refine C0.mono ?_
  rintro e w1 ⟨rfl, hw⟩
  subst w1
  clear C0 HAA
  go_wp2_with fail
  rw [← HBB.out]
  refine C1.mono ?_
  rintro e w1 ⟨rfl, hw⟩
  subst w1
  clear C1 HBB HA0 hsz f0 f1 f2 f3 f4 f5 f6 f7 f8 f9 f10 f11
  obtain ⟨f0, f1, f2, f3, f4, f5, f6, f7, f8, f9, f10, f11⟩ := cellsO_at HKx.out
  go_wp2_with fail
  refine (C2 _ HB0.out).mono ?_
  rintro e w1 ⟨rfl, hb1⟩
  have HB1 : Hid (Below w.heap.size w w1) := chain HB0.out hb1
  have HK1 : Hid (CellsAt w1 w.heap.size (cellsO x da va oa dc vc oc) 32) := HKx.out.later hb1
  have hs1 : B.heap.size ≤ w1.heap.size := hb1.size
  have hs0 : w.heap.size < B.heap.size := HKx.out.lt
  clear C2 HKx hb1 f0 f1 f2 f3 f4 f5 f6 f7 f8 f9 f10 f11
  obtain ⟨f0, f1, f2, f3, f4, f5, f6, f7, f8, f9, f10, f11⟩ := cellsO_at HK1.out
  go_wp2_with fail
  refine (C3 _ HB1.out).mono ?_
  rintro e w2 ⟨da', va', oa', dc', vc', oc', rfl, hl2, hf2, hb2, hi2, hv2, hd2⟩
  simp only [cellsO]
  have HB2 : Hid (Below w.heap.size w w2) := chain HB1.out hb2
  have HK2 : Hid (CellsAt w2 w.heap.size (cellsO x da va oa dc vc oc) 32) := HK1.out.later hb2
  have hs2 : w1.heap.size ≤ w2.heap.size := hb2.size
  have HL2 : Hid (LiesO w2 x da' va' oa' dc' vc' oc') := hl2
  have HI2 : Hid (OwnI w2 (w1.heap.size + 2) (.slice da' x.deps.length dc') x.deps) := hi2
  have HV2 : Hid (OwnV w2 (w1.heap.size + 2) (.slice va' x.vals.length vc') x.vals) := hv2
  have HD2 : Hid (OwnD w2 (w1.heap.size + 2) (.slice oa' x.dots.length oc') x.dots) := hd2
  clear C3 HK1 hb2 hl2 hf2 hi2 hv2 hd2 f0 f1 f2 f3 f4 f5 f6 f7 f8 f9 f10 f11
  have hne : w.heap.size ≠ w2.heap.size := by omega
  have HKV : Hid (CellsAt (w2.alloc (.cells #[.int .i64 x.dp, .int .i64 x.dn, .slice da' x.deps.length dc', .int .i64 x.sp, .int .i64 x.sl, .int .i64 x.sq, .int .i64 x.kind, .int .i64 x.table, .string x.key, .int .i64 x.col, .slice va' x.vals.length vc', .slice oa' x.dots.length oc'] 32)) w.heap.size (cellsO x da va oa dc vc oc) 32) := HK2.out.later (alloc_below _ _)
  have HYV : Hid (CellsAt (w2.alloc (.cells #[.int .i64 x.dp, .int .i64 x.dn, .slice da' x.deps.length dc', .int .i64 x.sp, .int .i64 x.sl, .int .i64 x.sq, .int .i64 x.kind, .int .i64 x.table, .string x.key, .int .i64 x.col, .slice va' x.vals.length vc', .slice oa' x.dots.length oc'] 32)) w2.heap.size #[.int .i64 x.dp, .int .i64 x.dn, .slice da' x.deps.length dc', .int .i64 x.sp, .int .i64 x.sl, .int .i64 x.sq, .int .i64 x.kind, .int .i64 x.table, .string x.key, .int .i64 x.col, .slice va' x.vals.length vc', .slice oa' x.dots.length oc'] 32) := CellsAt.made rfl
  have HBX : Hid (Below w.heap.size w (w2.alloc (.cells #[.int .i64 x.dp, .int .i64 x.dn, .slice da' x.deps.length dc', .int .i64 x.sp, .int .i64 x.sl, .int .i64 x.sq, .int .i64 x.kind, .int .i64 nf, .string x.key, .int .i64 x.col, .slice va' x.vals.length vc', .slice oa' x.dots.length oc'] 32))) := chain HB2.out (alloc_below _ _)
  have HKX : Hid (CellsAt (w2.alloc (.cells #[.int .i64 x.dp, .int .i64 x.dn, .slice da' x.deps.length dc', .int .i64 x.sp, .int .i64 x.sl, .int .i64 x.sq, .int .i64 x.kind, .int .i64 nf, .string x.key, .int .i64 x.col, .slice va' x.vals.length vc', .slice oa' x.dots.length oc'] 32)) w.heap.size (cellsO x da va oa dc vc oc) 32) := HK2.out.later (alloc_below _ _)
  have HY1 : Hid (CellsAt (w2.alloc (.cells #[.int .i64 x.dp, .int .i64 x.dn, .slice da' x.deps.length dc', .int .i64 x.sp, .int .i64 x.sl, .int .i64 x.sq, .int .i64 x.kind, .int .i64 nf, .string x.key, .int .i64 x.col, .slice va' x.vals.length vc', .slice oa' x.dots.length oc'] 32)) w2.heap.size #[.int .i64 x.dp, .int .i64 x.dn, .slice da' x.deps.length dc', .int .i64 x.sp, .int .i64 x.sl, .int .i64 x.sq, .int .i64 x.kind, .int .i64 nf, .string x.key, .int .i64 x.col, .slice va' x.vals.length vc', .slice oa' x.dots.length oc'] 32) := CellsAt.made rfl
  have hl : LiesO w2 x da' va' oa' dc' vc' oc' := HL2.out
  have HLY : Hid (LiesO (w2.alloc (.cells #[.int .i64 x.dp, .int .i64 x.dn, .slice da' x.deps.length dc', .int .i64 x.sp, .int .i64 x.sl, .int .i64 x.sq, .int .i64 x.kind, .int .i64 nf, .string x.key, .int .i64 x.col, .slice va' x.vals.length vc', .slice oa' x.dots.length oc'] 32)) { x with table := (nf : Int) } da' va' oa' dc' vc' oc') := (⟨hl.deps, hl.vals, hl.dots, hl.ld, hl.lv, hl.lo, hl.cd, hl.cv, hl.co, hl.nd, hl.nv, hl.no, hl.key⟩ : LiesO w2 { x with table := (nf : Int) } da' va' oa' dc' vc' oc').later (alloc_below _ _)
  have HI2' : Hid (I64O { x with table := (nf : Int) }) := ⟨HI.out.deps, HI.out.dp, HI.out.dn, HI.out.st, HI.out.dots, HI.out.col, (⟨by omega, by omega⟩ : In64 (nf : Int))⟩
  have C5 := fun (V : World) (hb : Below w.heap.size w V) (h : LiesO V { x with table := (nf : Int) } da' va' oa' dc' vc' oc') => HC5.out { x with table := (nf : Int) } da' va' oa' dc' vc' oc' V hb h HI2'.out
  rw [spoil5 HN.out HC.out] at C5
  have C6 := fun (V : World) (hb : Below w.heap.size w V) (h : LiesO V { x with table := (nf : Int) } da' va' oa' dc' vc' oc') => HC6.out { x with table := (nf : Int) } da' va' oa' dc' vc' oc' V hb h HI2'.out
  rw [spoil5 HN.out HC.out] at C6
  obtain ⟨f0, f1, f2, f3, f4, f5, f6, f7, f8, f9, f10, f11⟩ := cellsO_at HKV.out
  obtain ⟨g0, g1, g2, g3, g4, g5, g6, g7, g8, g9, g10, g11⟩ := cells12 HYV.out
  clear hl HC5 HC6 HI HI2' HN HC HI2 HV2 HD2 HL2 HK2
  simp only [cellsO] at C5 C6
  go_wp2_with fail
  clear HKV HYV f0 f1 f2 f3 f4 f5 f6 f7 f8 f9 f10 f11 g0 g1 g2 g3 g4 g5 g6 g7 g8 g9 g10 g11
  refine (C5 _ HBX.out HLY.out).mono ?_
  rintro e w3 ⟨rfl, hb3⟩
  have HB3 : Hid (Below w.heap.size w w3) := chain HBX.out hb3
  have HK3 : Hid (CellsAt w3 w.heap.size (cellsO x da va oa dc vc oc) 32) := HKX.out.later hb3
  have HY3 : Hid (CellsAt w3 w2.heap.size #[.int .i64 x.dp, .int .i64 x.dn, .slice da' x.deps.length dc', .int .i64 x.sp, .int .i64 x.sl, .int .i64 x.sq, .int .i64 x.kind, .int .i64 nf, .string x.key, .int .i64 x.col, .slice va' x.vals.length vc', .slice oa' x.dots.length oc'] 32) := HY1.out.later hb3
  have HL3 : Hid (LiesO w3 { x with table := (nf : Int) } da' va' oa' dc' vc' oc') := HLY.out.later hb3
  clear C5 HLY HY1 hb3
  obtain ⟨f0, f1, f2, f3, f4, f5, f6, f7, f8, f9, f10, f11⟩ := cellsO_at HK3.out
  go_wp2_with fail
  refine (C4 _ HB3.out).mono ?_
  rintro e w4 ⟨rfl, hb4⟩
  have HB4 : Hid (Below w.heap.size w w4) := chain HB3.out hb4
  have HY4 : Hid (CellsAt w4 w2.heap.size #[.int .i64 x.dp, .int .i64 x.dn, .slice da' x.deps.length dc', .int .i64 x.sp, .int .i64 x.sl, .int .i64 x.sq, .int .i64 x.kind, .int .i64 nf, .string x.key, .int .i64 x.col, .slice va' x.vals.length vc', .slice oa' x.dots.length oc'] 32) := HY3.out.later hb4
  have HL4 : Hid (LiesO w4 { x with table := (nf : Int) } da' va' oa' dc' vc' oc') := HL3.out.later hb4
  clear C4 HK3 HY3 HL3 hb4 f0 f1 f2 f3 f4 f5 f6 f7 f8 f9 f10 f11
  obtain ⟨f0, f1, f2, f3, f4, f5, f6, f7, f8, f9, f10, f11⟩ := cells12 HY4.out
  go_wp2_with fail
  refine (C6 _ HB4.out HL4.out).mono ?_
  rintro e w5 ⟨rfl, hb5⟩
  have HB5 : Hid (Below w.heap.size w w5) := chain HB4.out hb5
  clear C6 HY4 HL4 hb5 f0 f1 f2 f3 f4 f5 f6 f7 f8 f9 f10 f11
  go_wp2_with fail
  refine (owakes_any _).mono ?_
  rintro e w9 ⟨rfl, hb9⟩
  go_wp2
  go_ret
  exact ⟨by simp, chain HB5.out hb9⟩

set_option maxRecDepth 100000 in
set_option maxHeartbeats 8000000 in
theorem okinds_6 (n : Int) (af : Option Addr) (nf fcap : Nat) (L : List (List Int)) (x : PO) (da va oa : Option Addr) (dc vc oc : Nat) (what : Int) (w : World) (hn : L.length = nf) (hnf : nf ≤ 9223372036854775807) (hv : ∀ v ∈ L, v.length ≤ 9223372036854775807) (hr : RdII w af L) (hx : InO w x da va oa dc vc oc) (hF : heavyFs L = false) (hO : heavyOs [x] = false) (hc : checkF n L x = 0) (ht : (IntKind.u64.wrap what).tmod 7 = 6) :
    Calls Try.prog 5 #[.int .i64 n, .slice af nf fcap, .agg (cellsO x da va oa dc vc oc), .int .i64 what] w fun e w' => e = .returned (.bool true) ∧ Below w.heap.size w w' := by
  have t0 : ((IntKind.u64.wrap what).tmod 7 == 0) = false := by rw [ht]; decide
  have t1 : ((IntKind.u64.wrap what).tmod 7 == 1) = false := by rw [ht]; decide
  have t2 : ((IntKind.u64.wrap what).tmod 7 == 2) = false := by rw [ht]; decide
  have t3 : ((IntKind.u64.wrap what).tmod 7 == 3) = false := by rw [ht]; decide
  have t4 : ((IntKind.u64.wrap what).tmod 7 == 4) = false := by rw [ht]; decide
  have t5 : ((IntKind.u64.wrap what).tmod 7 == 5) = false := by rw [ht]; decide
  obtain ⟨A, hAA⟩ : ∃ A : World, A = w.alloc (.cells (cellsO x da va oa dc vc oc) 32) := ⟨_, rfl⟩
  have HA0 : Hid (Below w.heap.size w A) := by rw [hAA]; exact alloc_below _ _
  have hsz : A.heap.size = w.heap.size + 1 := by rw [hAA]; simp
  have HKx0 : Hid (CellsAt A w.heap.size (cellsO x da va oa dc vc oc) 32) := by rw [hAA]; exact CellsAt.made rfl
  have HAA : Hid (A = w.alloc (.cells #[.int .i64 x.dp, .int .i64 x.dn, .slice da x.deps.length dc, .int .i64 x.sp, .int .i64 x.sl, .int .i64 x.sq, .int .i64 x.kind, .int .i64 x.table, .string x.key, .int .i64 x.col, .slice va x.vals.length vc, .slice oa x.dots.length oc] 32)) := hAA
  have C0 := heavyForms_any af nf fcap L A hn hnf hv (hr.later HA0.out)
  rw [hF] at C0
  clear hAA
  obtain ⟨B, hBB⟩ : ∃ B : World, B = A.alloc (.cells #[.int .i64 x.dp, .int .i64 x.dn, .slice da x.deps.length dc, .int .i64 x.sp, .int .i64 x.sl, .int .i64 x.sq, .int .i64 x.kind, .int .i64 x.table, .string x.key, .int .i64 x.col, .slice va x.vals.length vc, .slice oa x.dots.length oc] 32) := ⟨_, rfl⟩
  have HB0 : Hid (Below w.heap.size w B) := by rw [hBB]; exact chain HA0.out (alloc_below _ _)
  have HKx : Hid (CellsAt B w.heap.size (cellsO x da va oa dc vc oc) 32) := by rw [hBB]; exact HKx0.out.later (alloc_below _ _)
  have HKz : Hid (CellsAt B (w.heap.size + 1) #[.int .i64 x.dp, .int .i64 x.dn, .slice da x.deps.length dc, .int .i64 x.sp, .int .i64 x.sl, .int .i64 x.sq, .int .i64 x.kind, .int .i64 x.table, .string x.key, .int .i64 x.col, .slice va x.vals.length vc, .slice oa x.dots.length oc] 32) := by rw [hBB]; exact CellsAt.made (by rw [hsz])
  have C1 := heavyO_any (some ⟨w.heap.size + 1, 0, none⟩) 1 1 [x] B rfl (by omega) (rdO_one HKz.out (hx.later HB0.out))
  rw [hO] at C1
  have HBB : Hid (B = A.alloc (.cells #[.int .i64 x.dp, .int .i64 x.dn, .slice da x.deps.length dc, .int .i64 x.sp, .int .i64 x.sl, .int .i64 x.sq, .int .i64 x.kind, .int .i64 x.table, .string x.key, .int .i64 x.col, .slice va x.vals.length vc, .slice oa x.dots.length oc] 32)) := hBB
  obtain ⟨f0, f1, f2, f3, f4, f5, f6, f7, f8, f9, f10, f11⟩ := cellsO_at HKx0.out
  clear hBB HKz HKx0
  have hox : heavyO x = false := by simpa [heavyOs] using hO
  obtain ⟨lx, -, -, -, -⟩ := hx.of_light hox
  have HLx : Hid (LiesO w x da va oa dc vc oc) := lx
  obtain ⟨l1, l2⟩ := light_forms hF
  have C2 := fun (V : World) (hb : Below w.heap.size w V) => lawCheck_any n af nf fcap L x da va oa dc vc oc V hn (by omega) (fun v h => by have := l2 v h; omega) (hr.later hb) (HLx.out.later hb) hx.i64
  have C3 := fun (V : World) (hb : Below w.heap.size w V) => twinOp_any x da va oa dc vc oc V (HLx.out.later hb)
  have C4 := fun (V : World) (hb : Below w.heap.size w V) => opCheck_any n af nf fcap L x da va oa dc vc oc V hn (by omega) (fun v h => by have := l2 v h; omega) (hr.later hb) (HLx.out.later hb) hx.i64
  have C5 := fun (y : PO) (da va oa : Option Addr) (dc vc oc : Nat) (V : World) (hb : Below w.heap.size w V) (h : LiesO V y da va oa dc vc oc) (hi : I64O y) => opCheck_any n af nf fcap L y da va oa dc vc oc V hn (by omega) (fun v h => by have := l2 v h; omega) (hr.later hb) h hi
  have C6 := fun (y : PO) (da va oa : Option Addr) (dc vc oc : Nat) (V : World) (hb : Below w.heap.size w V) (h : LiesO V y da va oa dc vc oc) (hi : I64O y) => lawCheck_any n af nf fcap L y da va oa dc vc oc V hn (by omega) (fun v h => by have := l2 v h; omega) (hr.later hb) h hi
  rw [hc] at C2 C4
  have HC5 : Hid (∀ (y : PO) (da va oa : Option Addr) (dc vc oc : Nat) (V : World), _) := C5
  have HC6 : Hid (∀ (y : PO) (da va oa : Option Addr) (dc vc oc : Nat) (V : World), _) := C6
  have HI : Hid (I64O x) := hx.i64
  have HN : Hid (L.length = nf) := hn
  have HC : Hid (checkF n L x = 0) := hc
  clear hn hv hr hx hF hO hox lx l1 l2 C5 C6 hc
  go_enter Try.func5, Try.ntmps5
  go_wp2_with fail
  rw [← HAA.out]
  refine C0.mono ?_
  rintro e w1 ⟨rfl, hw⟩
  subst w1
  clear C0 HAA
  go_wp2_with fail
  rw [← HBB.out]
  refine C1.mono ?_
  rintro e w1 ⟨rfl, hw⟩
  subst w1
  clear C1 HBB HA0 hsz f0 f1 f2 f3 f4 f5 f6 f7 f8 f9 f10 f11
  obtain ⟨f0, f1, f2, f3, f4, f5, f6, f7, f8, f9, f10, f11⟩ := cellsO_at HKx.out
  go_wp2_with fail
  refine (C2 _ HB0.out).mono ?_
  rintro e w1 ⟨rfl, hb1⟩
  have HB1 : Hid (Below w.heap.size w w1) := chain HB0.out hb1
  have HK1 : Hid (CellsAt w1 w.heap.size (cellsO x da va oa dc vc oc) 32) := HKx.out.later hb1
  have hs1 : B.heap.size ≤ w1.heap.size := hb1.size
  have hs0 : w.heap.size < B.heap.size := HKx.out.lt
  clear C2 HKx hb1 f0 f1 f2 f3 f4 f5 f6 f7 f8 f9 f10 f11
  obtain ⟨f0, f1, f2, f3, f4, f5, f6, f7, f8, f9, f10, f11⟩ := cellsO_at HK1.out
  go_wp2_with fail
  refine (C3 _ HB1.out).mono ?_
  rintro e w2 ⟨da', va', oa', dc', vc', oc', rfl, hl2, hf2, hb2, hi2, hv2, hd2⟩
  simp only [cellsO]
  have HB2 : Hid (Below w.heap.size w w2) := chain HB1.out hb2
  have HK2 : Hid (CellsAt w2 w.heap.size (cellsO x da va oa dc vc oc) 32) := HK1.out.later hb2
  have hs2 : w1.heap.size ≤ w2.heap.size := hb2.size
  have HL2 : Hid (LiesO w2 x da' va' oa' dc' vc' oc') := hl2
  have HI2 : Hid (OwnI w2 (w1.heap.size + 2) (.slice da' x.deps.length dc') x.deps) := hi2
  have HV2 : Hid (OwnV w2 (w1.heap.size + 2) (.slice va' x.vals.length vc') x.vals) := hv2
  have HD2 : Hid (OwnD w2 (w1.heap.size + 2) (.slice oa' x.dots.length oc') x.dots) := hd2
  clear C3 HK1 hb2 hl2 hf2 hi2 hv2 hd2 f0 f1 f2 f3 f4 f5 f6 f7 f8 f9 f10 f11
  have hne : w.heap.size ≠ w2.heap.size := by omega
  obtain ⟨few1, few2⟩ := few_dots HC.out
  have hbB : Below w2.heap.size w2 ((w2.alloc (.cells #[.int .i64 x.dp, .int .i64 x.dn, .slice da' x.deps.length dc', .int .i64 x.sp, .int .i64 x.sl, .int .i64 x.sq, .int .i64 x.kind, .int .i64 x.table, .string x.key, .int .i64 x.col, .slice va' x.vals.length vc', .slice oa' x.dots.length oc'] 32)).alloc (.cells #[.int .i64 x.dp, .int .i64 x.dn] 25)) := (alloc_below _ _).trans ((alloc_below _ _).mono (by simp))
  have hbB' : Below ((w2.alloc (.cells #[.int .i64 x.dp, .int .i64 x.dn, .slice da' x.deps.length dc', .int .i64 x.sp, .int .i64 x.sl, .int .i64 x.sq, .int .i64 x.kind, .int .i64 x.table, .string x.key, .int .i64 x.col, .slice va' x.vals.length vc', .slice oa' x.dots.length oc'] 32))).heap.size (w2.alloc (.cells #[.int .i64 x.dp, .int .i64 x.dn, .slice da' x.deps.length dc', .int .i64 x.sp, .int .i64 x.sl, .int .i64 x.sq, .int .i64 x.kind, .int .i64 x.table, .string x.key, .int .i64 x.col, .slice va' x.vals.length vc', .slice oa' x.dots.length oc'] 32)) ((w2.alloc (.cells #[.int .i64 x.dp, .int .i64 x.dn, .slice da' x.deps.length dc', .int .i64 x.sp, .int .i64 x.sl, .int .i64 x.sq, .int .i64 x.kind, .int .i64 x.table, .string x.key, .int .i64 x.col, .slice va' x.vals.length vc', .slice oa' x.dots.length oc'] 32)).alloc (.cells #[.int .i64 x.dp, .int .i64 x.dn] 25)) := alloc_below _ _
  have hszB : (((w2.alloc (.cells #[.int .i64 x.dp, .int .i64 x.dn, .slice da' x.deps.length dc', .int .i64 x.sp, .int .i64 x.sl, .int .i64 x.sq, .int .i64 x.kind, .int .i64 x.table, .string x.key, .int .i64 x.col, .slice va' x.vals.length vc', .slice oa' x.dots.length oc'] 32)).alloc (.cells #[.int .i64 x.dp, .int .i64 x.dn] 25))).heap.size = w2.heap.size + 2 := by simp
  have hlI : OwnI ((w2.alloc (.cells #[.int .i64 x.dp, .int .i64 x.dn, .slice da' x.deps.length dc', .int .i64 x.sp, .int .i64 x.sl, .int .i64 x.sq, .int .i64 x.kind, .int .i64 x.table, .string x.key, .int .i64 x.col, .slice va' x.vals.length vc', .slice oa' x.dots.length oc'] 32)).alloc (.cells #[.int .i64 x.dp, .int .i64 x.dn] 25)) (w1.heap.size + 2) (.slice da' x.deps.length dc') x.deps := HI2.out.later hbB
  have hlV : OwnV ((w2.alloc (.cells #[.int .i64 x.dp, .int .i64 x.dn, .slice da' x.deps.length dc', .int .i64 x.sp, .int .i64 x.sl, .int .i64 x.sq, .int .i64 x.kind, .int .i64 x.table, .string x.key, .int .i64 x.col, .slice va' x.vals.length vc', .slice oa' x.dots.length oc'] 32)).alloc (.cells #[.int .i64 x.dp, .int .i64 x.dn] 25)) (w1.heap.size + 2) (.slice va' x.vals.length vc') x.vals := HV2.out.later hbB
  have hlD : OwnD ((w2.alloc (.cells #[.int .i64 x.dp, .int .i64 x.dn, .slice da' x.deps.length dc', .int .i64 x.sp, .int .i64 x.sl, .int .i64 x.sq, .int .i64 x.kind, .int .i64 x.table, .string x.key, .int .i64 x.col, .slice va' x.vals.length vc', .slice oa' x.dots.length oc'] 32)).alloc (.cells #[.int .i64 x.dp, .int .i64 x.dn] 25)) (w1.heap.size + 2) (.slice oa' x.dots.length oc') x.dots := HD2.out.later hbB
  have hB2 : w1.heap.size + 2 ≤ w2.heap.size + 2 := by omega
  obtain ⟨a3, c3, W3, hrun, hc3, ho3, hn3, hg3⟩ := grow_dot (w := ((w2.alloc (.cells #[.int .i64 x.dp, .int .i64 x.dn, .slice da' x.deps.length dc', .int .i64 x.sp, .int .i64 x.sl, .int .i64 x.sq, .int .i64 x.kind, .int .i64 x.table, .string x.key, .int .i64 x.col, .slice va' x.vals.length vc', .slice oa' x.dots.length oc'] 32)).alloc (.cells #[.int .i64 x.dp, .int .i64 x.dn] 25))) (s := w2.heap.size + 1) (ty := 30) hlD rfl (by omega) (by rw [hszB]; exact hB2) (show _ from by have h : CellsAt ((w2.alloc (.cells #[.int .i64 x.dp, .int .i64 x.dn, .slice da' x.deps.length dc', .int .i64 x.sp, .int .i64 x.sl, .int .i64 x.sq, .int .i64 x.kind, .int .i64 x.table, .string x.key, .int .i64 x.col, .slice va' x.vals.length vc', .slice oa' x.dots.length oc'] 32)).alloc (.cells #[.int .i64 x.dp, .int .i64 x.dn] 25)) (w2.heap.size + 1) #[.int .i64 x.dp, .int .i64 x.dn] 25 := CellsAt.made (by simp); exact h.cell 0) (show _ from by have h : CellsAt ((w2.alloc (.cells #[.int .i64 x.dp, .int .i64 x.dn, .slice da' x.deps.length dc', .int .i64 x.sp, .int .i64 x.sl, .int .i64 x.sq, .int .i64 x.kind, .int .i64 x.table, .string x.key, .int .i64 x.col, .slice va' x.vals.length vc', .slice oa' x.dots.length oc'] 32)).alloc (.cells #[.int .i64 x.dp, .int .i64 x.dn] 25)) (w2.heap.size + 1) #[.int .i64 x.dp, .int .i64 x.dn] 25 := CellsAt.made (by simp); exact h.cell 1)
  have hlt : ∀ j, (Value.slice oa' x.dots.length oc').ownBlock = some j → w1.heap.size + 2 ≤ j ∧ j < w2.heap.size := fun j hj => World.ownsRow.lt HD2.out j hj
  have hyB : CellsAt ((w2.alloc (.cells #[.int .i64 x.dp, .int .i64 x.dn, .slice da' x.deps.length dc', .int .i64 x.sp, .int .i64 x.sl, .int .i64 x.sq, .int .i64 x.kind, .int .i64 x.table, .string x.key, .int .i64 x.col, .slice va' x.vals.length vc', .slice oa' x.dots.length oc'] 32)).alloc (.cells #[.int .i64 x.dp, .int .i64 x.dn] 25)) w2.heap.size #[.int .i64 x.dp, .int .i64 x.dn, .slice da' x.deps.length dc', .int .i64 x.sp, .int .i64 x.sl, .int .i64 x.sq, .int .i64 x.kind, .int .i64 x.table, .string x.key, .int .i64 x.col, .slice va' x.vals.length vc', .slice oa' x.dots.length oc'] 32 := (CellsAt.made rfl : CellsAt (w2.alloc (.cells #[.int .i64 x.dp, .int .i64 x.dn, .slice da' x.deps.length dc', .int .i64 x.sp, .int .i64 x.sl, .int .i64 x.sq, .int .i64 x.kind, .int .i64 x.table, .string x.key, .int .i64 x.col, .slice va' x.vals.length vc', .slice oa' x.dots.length oc'] 32)) w2.heap.size #[.int .i64 x.dp, .int .i64 x.dn, .slice da' x.deps.length dc', .int .i64 x.sp, .int .i64 x.sl, .int .i64 x.sq, .int .i64 x.kind, .int .i64 x.table, .string x.key, .int .i64 x.col, .slice va' x.vals.length vc', .slice oa' x.dots.length oc'] 32).later hbB'
  have hxB : CellsAt ((w2.alloc (.cells #[.int .i64 x.dp, .int .i64 x.dn, .slice da' x.deps.length dc', .int .i64 x.sp, .int .i64 x.sl, .int .i64 x.sq, .int .i64 x.kind, .int .i64 x.table, .string x.key, .int .i64 x.col, .slice va' x.vals.length vc', .slice oa' x.dots.length oc'] 32)).alloc (.cells #[.int .i64 x.dp, .int .i64 x.dn] 25)) w.heap.size (cellsO x da va oa dc vc oc) 32 := (HK2.out.later (alloc_below _ _) : CellsAt (w2.alloc (.cells #[.int .i64 x.dp, .int .i64 x.dn, .slice da' x.deps.length dc', .int .i64 x.sp, .int .i64 x.sl, .int .i64 x.sq, .int .i64 x.kind, .int .i64 x.table, .string x.key, .int .i64 x.col, .slice va' x.vals.length vc', .slice oa' x.dots.length oc'] 32)) w.heap.size (cellsO x da va oa dc vc oc) 32).later hbB'
  have hy3 : CellsAt W3 w2.heap.size #[.int .i64 x.dp, .int .i64 x.dn, .slice da' x.deps.length dc', .int .i64 x.sp, .int .i64 x.sl, .int .i64 x.sq, .int .i64 x.kind, .int .i64 x.table, .string x.key, .int .i64 x.col, .slice va' x.vals.length vc', .slice oa' x.dots.length oc'] 32 := (hg3.block w2.heap.size hyB.lt (fun e => by have := (hlt _ e.symm).2; omega)).trans hyB
  have hx3 : CellsAt W3 w.heap.size (cellsO x da va oa dc vc oc) 32 := (hg3.block w.heap.size hxB.lt (fun e => by have := (hlt _ e.symm).1; omega)).trans hxB
  have hb3 : Below w.heap.size w W3 := (chain HB2.out hbB).grown hg3 (by rw [hszB]; omega) (fun j hj => by have := (hlt j hj).1; omega)
  have h3I : OwnI W3 (w1.heap.size + 2) (.slice da' x.deps.length dc') x.deps := own_other hlI hlD (by decide) hg3
  have h3V : OwnV W3 (w1.heap.size + 2) (.slice va' x.vals.length vc') x.vals := own_other hlV hlD (by decide) hg3
  have h3D : OwnD W3 (w1.heap.size + 2) (.slice a3 (x.dots ++ [(x.dp, x.dn)]).length c3) (x.dots ++ [(x.dp, x.dn)]) := by rw [List.length_append]; exact ho3
  have h4I : OwnI (W3.setCell ⟨w2.heap.size, 11, none⟩ (.slice a3 (x.dots.length + 1) c3)) (w1.heap.size + 2) (.slice da' x.deps.length dc') x.deps := own_set h3I hy3 (by decide)
  have h4V : OwnV (W3.setCell ⟨w2.heap.size, 11, none⟩ (.slice a3 (x.dots.length + 1) c3)) (w1.heap.size + 2) (.slice va' x.vals.length vc') x.vals := own_set h3V hy3 (by decide)
  have h4D : OwnD (W3.setCell ⟨w2.heap.size, 11, none⟩ (.slice a3 (x.dots.length + 1) c3)) (w1.heap.size + 2) (.slice a3 (x.dots ++ [(x.dp, x.dn)]).length c3) (x.dots ++ [(x.dp, x.dn)]) := own_set h3D hy3 (by decide)
  have hl : LiesO w2 x da' va' oa' dc' vc' oc' := HL2.out
  have HLY : Hid (LiesO (W3.setCell ⟨w2.heap.size, 11, none⟩ (.slice a3 (x.dots.length + 1) c3)) { x with dots := x.dots ++ [(x.dp, x.dn)] } da' va' a3 dc' vc' c3) := (lies_of (x := { x with dots := x.dots ++ [(x.dp, x.dn)] }) h4I h4V h4D hl.ld hl.lv (by show (x.dots ++ [(x.dp, x.dn)]).length ≤ 65536; rw [List.length_append, List.length_singleton]; omega) hl.key ⟨hl.cd, hl.nd⟩ ⟨hl.cv, hl.nv⟩ ⟨by show (x.dots ++ [(x.dp, x.dn)]).length ≤ c3; rw [List.length_append]; exact hc3, hn3⟩).1
  have HBX : Hid (Below w.heap.size w (W3.setCell ⟨w2.heap.size, 11, none⟩ (.slice a3 (x.dots.length + 1) c3))) := hb3.setCell (p := ⟨w2.heap.size, 11, none⟩) (by show w.heap.size ≤ w2.heap.size; omega) _
  have HKX : Hid (CellsAt (W3.setCell ⟨w2.heap.size, 11, none⟩ (.slice a3 (x.dots.length + 1) c3)) w.heap.size (cellsO x da va oa dc vc oc) 32) := hx3.other hne _ _
  have HY1 : Hid (CellsAt (W3.setCell ⟨w2.heap.size, 11, none⟩ (.slice a3 (x.dots.length + 1) c3)) w2.heap.size #[.int .i64 x.dp, .int .i64 x.dn, .slice da' x.deps.length dc', .int .i64 x.sp, .int .i64 x.sl, .int .i64 x.sq, .int .i64 x.kind, .int .i64 x.table, .string x.key, .int .i64 x.col, .slice va' x.vals.length vc', .slice a3 (x.dots.length + 1) c3] 32) := hy3.set 11 _
  have HI2' : Hid (I64O { x with dots := x.dots ++ [(x.dp, x.dn)] }) := ⟨HI.out.deps, HI.out.dp, HI.out.dn, HI.out.st, fun d hd => by rcases List.mem_append.1 hd with h | h; exact HI.out.dots d h; (obtain rfl : d = (x.dp, x.dn) := by simpa using h); exact ⟨HI.out.dp, HI.out.dn⟩, HI.out.col, HI.out.table⟩
  have C5 := fun (V : World) (hb : Below w.heap.size w V) (h : LiesO V { x with dots := x.dots ++ [(x.dp, x.dn)] } da' va' a3 dc' vc' c3) => HC5.out { x with dots := x.dots ++ [(x.dp, x.dn)] } da' va' a3 dc' vc' c3 V hb h HI2'.out
  rw [spoil6 HC.out] at C5
  have C6 := fun (V : World) (hb : Below w.heap.size w V) (h : LiesO V { x with dots := x.dots ++ [(x.dp, x.dn)] } da' va' a3 dc' vc' c3) => HC6.out { x with dots := x.dots ++ [(x.dp, x.dn)] } da' va' a3 dc' vc' c3 V hb h HI2'.out
  rw [spoil6 HC.out] at C6
  simp only [cellsO, List.length_append, List.length_singleton] at C5 C6
  have hyV : CellsAt (w2.alloc (.cells #[.int .i64 x.dp, .int .i64 x.dn, .slice da' x.deps.length dc', .int .i64 x.sp, .int .i64 x.sl, .int .i64 x.sq, .int .i64 x.kind, .int .i64 x.table, .string x.key, .int .i64 x.col, .slice va' x.vals.length vc', .slice oa' x.dots.length oc'] 32)) w2.heap.size #[.int .i64 x.dp, .int .i64 x.dn, .slice da' x.deps.length dc', .int .i64 x.sp, .int .i64 x.sl, .int .i64 x.sq, .int .i64 x.kind, .int .i64 x.table, .string x.key, .int .i64 x.col, .slice va' x.vals.length vc', .slice oa' x.dots.length oc'] 32 := CellsAt.made rfl
  obtain ⟨f0, f1, f2, f3, f4, f5, f6, f7, f8, f9, f10, f11⟩ := cells12 hyV
  obtain ⟨g0, g1, g2, g3, g4, g5, g6, g7, g8, g9, g10, g11⟩ := cells12 hy3
  have fr := hy3.free 11
  clear hyV hl HC5 HC6 HI HI2' HN HC HI2 HV2 HD2 HL2 HK2 hbB hbB' hszB hlI hlV hlD hlt hyB hxB hy3 hx3 hb3 h3I h3V h3D h4I h4V h4D ho3 hn3 hg3 hc3 few1 few2
  go_wp2_with (at_builtin; refine wpList_append_run rfl _ _ 30 30 rfl _ _ _ _ rfl rfl hrun ?_)
  clear hrun fr f0 f1 f2 f3 f4 f5 f6 f7 f8 f9 f10 f11 g0 g1 g2 g3 g4 g5 g6 g7 g8 g9 g10 g11
  refine (C5 _ HBX.out HLY.out).mono ?_
  rintro e w3 ⟨rfl, hb3⟩
  have HB3 : Hid (Below w.heap.size w w3) := chain HBX.out hb3
  have HK3 : Hid (CellsAt w3 w.heap.size (cellsO x da va oa dc vc oc) 32) := HKX.out.later hb3
  have HY3 : Hid (CellsAt w3 w2.heap.size #[.int .i64 x.dp, .int .i64 x.dn, .slice da' x.deps.length dc', .int .i64 x.sp, .int .i64 x.sl, .int .i64 x.sq, .int .i64 x.kind, .int .i64 x.table, .string x.key, .int .i64 x.col, .slice va' x.vals.length vc', .slice a3 (x.dots.length + 1) c3] 32) := HY1.out.later hb3
  have HL3 : Hid (LiesO w3 { x with dots := x.dots ++ [(x.dp, x.dn)] } da' va' a3 dc' vc' c3) := HLY.out.later hb3
  clear C5 HLY HY1 hb3
  obtain ⟨f0, f1, f2, f3, f4, f5, f6, f7, f8, f9, f10, f11⟩ := cellsO_at HK3.out
  go_wp2_with fail
  refine (C4 _ HB3.out).mono ?_
  rintro e w4 ⟨rfl, hb4⟩
  have HB4 : Hid (Below w.heap.size w w4) := chain HB3.out hb4
  have HY4 : Hid (CellsAt w4 w2.heap.size #[.int .i64 x.dp, .int .i64 x.dn, .slice da' x.deps.length dc', .int .i64 x.sp, .int .i64 x.sl, .int .i64 x.sq, .int .i64 x.kind, .int .i64 x.table, .string x.key, .int .i64 x.col, .slice va' x.vals.length vc', .slice a3 (x.dots.length + 1) c3] 32) := HY3.out.later hb4
  have HL4 : Hid (LiesO w4 { x with dots := x.dots ++ [(x.dp, x.dn)] } da' va' a3 dc' vc' c3) := HL3.out.later hb4
  clear C4 HK3 HY3 HL3 hb4 f0 f1 f2 f3 f4 f5 f6 f7 f8 f9 f10 f11
  obtain ⟨f0, f1, f2, f3, f4, f5, f6, f7, f8, f9, f10, f11⟩ := cells12 HY4.out
  go_wp2_with fail
  refine (C6 _ HB4.out HL4.out).mono ?_
  rintro e w5 ⟨rfl, hb5⟩
  have HB5 : Hid (Below w.heap.size w w5) := chain HB4.out hb5
  clear C6 HY4 HL4 hb5 f0 f1 f2 f3 f4 f5 f6 f7 f8 f9 f10 f11
  go_wp2_with fail
  refine (owakes_any _).mono ?_
  rintro e w9 ⟨rfl, hb9⟩
  go_wp2
  go_ret
  exact ⟨by simp, chain HB5.out hb9⟩

theorem seven (what : Int) : (IntKind.u64.wrap what).tmod 7 = 0 ∨ (IntKind.u64.wrap what).tmod 7 = 1 ∨ (IntKind.u64.wrap what).tmod 7 = 2 ∨ (IntKind.u64.wrap what).tmod 7 = 3 ∨ (IntKind.u64.wrap what).tmod 7 = 4 ∨ (IntKind.u64.wrap what).tmod 7 = 5 ∨ (IntKind.u64.wrap what).tmod 7 = 6 := by
  have h0 : 0 ≤ IntKind.u64.wrap what := by simp [IntKind.wrap, IntKind.signed, IntKind.bits]; omega
  rw [Int.tmod_eq_emod_of_nonneg h0]
  omega

theorem okinds_walk (n : Int) (af : Option Addr) (nf fcap : Nat) (L : List (List Int)) (x : PO) (da va oa : Option Addr) (dc vc oc : Nat) (what : Int) (w : World) (hn : L.length = nf) (hnf : nf ≤ 9223372036854775807) (hv : ∀ v ∈ L, v.length ≤ 9223372036854775807) (hr : RdII w af L) (hx : InO w x da va oa dc vc oc) :
    Calls Try.prog 5 #[.int .i64 n, .slice af nf fcap, .agg (cellsO x da va oa dc vc oc), .int .i64 what] w fun e w' => e = .returned (.bool true) ∧ Below w.heap.size w w' := by
  cases hF : heavyFs L with
  | true => exact okinds_forms n af nf fcap L x da va oa dc vc oc what w hn hnf hv hr hx hF
  | false =>
    cases hO : heavyOs [x] with
    | true => exact okinds_heavy n af nf fcap L x da va oa dc vc oc what w hn hnf hv hr hx hF hO
    | false =>
      by_cases hc : checkF n L x = 0
      · rcases seven what with h | h | h | h | h | h | h
        · exact okinds_0 n af nf fcap L x da va oa dc vc oc what w hn hnf hv hr hx hF hO hc h
        · exact okinds_1 n af nf fcap L x da va oa dc vc oc what w hn hnf hv hr hx hF hO hc h
        · exact okinds_2 n af nf fcap L x da va oa dc vc oc what w hn hnf hv hr hx hF hO hc h
        · exact okinds_3 n af nf fcap L x da va oa dc vc oc what w hn hnf hv hr hx hF hO hc h
        · exact okinds_4 n af nf fcap L x da va oa dc vc oc what w hn hnf hv hr hx hF hO hc h
        · exact okinds_5 n af nf fcap L x da va oa dc vc oc what w hn hnf hv hr hx hF hO hc h
        · exact okinds_6 n af nf fcap L x da va oa dc vc oc what w hn hnf hv hr hx hF hO hc h
      · exact okinds_not n af nf fcap L x da va oa dc vc oc what w hn hnf hv hr hx hF hO hc
end Go.Proofs.Ytjpcljmlkgjbgaa
