/-
  Rows of slices that append makes; what follows of Least; DotLeast's walk.
-/
import Derived.Test.YtljikgjgcpheaaaRows
import Derived.Test.YtljikgjgcpheaaaDSteps
namespace Go.Proofs.Ytljikgjgcpheaaa
open Go.RowKit Go.Lib
set_option linter.unusedVariables false

/-- The slice v is a row of slices of the call's own, from block B on: these. -/
def RowS (w : World) (B : Nat) (v : Value) (us : List Value) : Prop := w.ownsRow B 23 1 v us.length us

theorem RowS.lit (w : World) (B g : Nat) (hg : w.heap.size = g) (hB : B ≤ w.heap.size) : RowS (w.alloc (.cells #[] 23)) B (.slice (some ⟨g, 0, none⟩) 0 0) [] := by
  subst hg
  exact World.ownsRow_lit w #[] 0 hB (by unfold maxLen; omega) rfl

theorem RowS.later {w w' : World} {B : Nat} {v : Value} {us : List Value} (h : RowS w B v us) (hb : Below w.heap.size w w') : RowS w' B v us := by
  obtain ⟨h1, h2⟩ := h
  refine ⟨h1, ?_⟩
  rcases h2 with h2 | ⟨g, cap, cur, hv, hg, hh, hc⟩
  · exact .inl h2
  · refine .inr ⟨g, cap, cur, hv, hg, (hb.block g ?_).trans hh, hc⟩
    rcases Nat.lt_or_ge g w.heap.size with h3 | h3
    · exact h3
    · simp [Array.getElem?_eq_none h3] at hh

theorem RowS.form {w : World} {B : Nat} {v : Value} {us : List Value} (h : RowS w B v us) : ∃ a cap, v = .slice a us.length cap ∧ us.length ≤ cap ∧ (0 < us.length → ∃ g, a = some ⟨g, 0, none⟩ ∧ ∀ i (hi : i < us.length), w.cell? ⟨g, i, none⟩ = some us[i]) := by
  obtain ⟨_, ⟨hv, hn⟩ | ⟨g, cap, cur, hv, _, hh, hc, _, hs, ht⟩⟩ := h
  · exact ⟨none, 0, by rw [hn]; exact hv, by omega, fun h => by omega⟩
  · refine ⟨_, cap, hv, hc, fun _ => ⟨g, rfl, fun i hi => ?_⟩⟩
    rw [cell_of_row w g _ _ _ _ hh]
    have hx : us[i]? = some us[i] := List.getElem?_eq_getElem hi
    rw [← hx]
    conv => rhs; rw [← ht]
    rw [Nat.mul_one, List.getElem?_take_of_lt hi]
    simp

theorem RowS.append {w : World} {B n m ty cap : Nat} {v : Value} {us news : List Value} {a : Option Addr} (T : RowS w B v us) (hn : us.length = n) (hm : news.length = m)
    (hsrc : 0 < m → ∃ b off, a = some ⟨b, off, none⟩ ∧ ∀ i (hi : i < news.length), w.cell? ⟨b, off + i, none⟩ = some news[i]) (hone : ∀ u ∈ news, u.oneCell' = true) (hnil : a = none → m = 0 ∧ cap = 0)
    (h1 : n ≤ 65536) (h2 : m ≤ 65536) (hB : B ≤ w.heap.size) :
    ∃ a' cap' w', (Builtin.append_ #[22, 22] ty #[v, .slice a m cap]).run Try.prog w = .ok (.slice a' (n + m) cap') w' ∧ n + m ≤ cap' ∧ RowS w' B (.slice a' (n + m) cap') (us ++ news) ∧ Below B w w' := by
  subst hn hm
  obtain ⟨i0, hi, hz0, hz1, hz2⟩ := info_parts Try.infoS
  have main : ∃ v' w', (Builtin.append_ #[22, 22] ty #[v, .slice a news.length cap]).run Try.prog w = .ok v' w' ∧ RowS w' B v' (us ++ news) ∧ w.grownBy w' v.ownBlock := by
    cases a with
    | none =>
      obtain ⟨h0, rfl⟩ := hnil rfl
      obtain rfl := List.eq_nil_of_length_eq_zero h0
      exact ⟨v, w, run_append_owned_none (P := Try.prog) (w := w) B 22 ty 23 i0 1 Try.underlying22 hi v us.length us T, by simpa [RowS] using T, World.grownBy.refl _ _⟩
    | some ad =>
      have hs : ∀ j u, news[j]? = some u → w.cell? (ad.add j) = some u := by
        intro j u hj
        have hjl := (List.getElem?_eq_some_iff.1 hj).1
        obtain ⟨b, off, e, hc⟩ := hsrc (by omega)
        cases e
        rw [add_plain3, hc j hjl]
        exact (List.getElem?_eq_getElem hjl).symm.trans hj
      obtain ⟨v', w', hrun, ho, hg, _⟩ := run_append_own (P := Try.prog) (w := w) B 22 ty 23 i0 (.slice none 0 0) 1 24 Try.underlying22 hi hz0 hz1 hz2 rfl (by decide) v us.length us T ad news.length cap news (by omega) hs hone (by unfold maxLen; omega) (by omega) hB
      refine ⟨v', w', hrun, ?_, hg⟩
      unfold RowS
      rw [List.length_append]
      exact ho
  obtain ⟨v', w', hrun, ho, hg⟩ := main
  obtain ⟨a', cap', rfl, hc, _⟩ := ho.form
  rw [List.length_append] at hrun ho hc
  exact ⟨a', cap', w', hrun, hc, ho, (Below.refl _ _).grown hg hB (fun k hk => (World.ownsRow.lt T k hk).1)⟩

/-- Such a row, whose slices lead to these numbers. -/
theorem RowS.rows {w : World} {B n cap : Nat} {a : Option Addr} {us : List Value} {L : List (List Int)} (h : RowS w B (.slice a n cap) us) (hn : us.length = n) (hl : us.length = L.length) (hs : ∀ i (h1 : i < us.length) (h2 : i < L.length), SlI w us[i] L[i]) : RdII w a L := by
  subst hn
  intro h0
  obtain ⟨a2, cap2, e, _, hc⟩ := h.form
  simp only [Value.slice.injEq, true_and] at e
  obtain ⟨rfl, rfl⟩ := e
  obtain ⟨g, rfl, hg⟩ := hc (by omega)
  exact ⟨g, 0, rfl, fun i hi => ⟨us[i]'(by omega), by rw [Nat.zero_add]; exact hg i (by omega), hs i (by omega) hi⟩⟩

/-- The slices of a row of rows. -/
theorem RdII.slices {w : World} {a : Option Addr} {L : List (List Int)} (h : RdII w a L) : ∃ us : List Value, us.length = L.length ∧ (0 < L.length → ∃ b off, a = some ⟨b, off, none⟩ ∧ ∀ i (hi : i < us.length), w.cell? ⟨b, off + i, none⟩ = some us[i]) ∧ (∀ u ∈ us, u.oneCell' = true) ∧ ∀ i (h1 : i < us.length) (h2 : i < L.length), SlI w us[i] L[i] := by
  rcases Nat.eq_zero_or_pos L.length with h0 | h0
  · obtain rfl := List.eq_nil_of_length_eq_zero h0
    exact ⟨[], rfl, (fun h => absurd h (by simp)), (fun u hu => absurd hu (by simp)), fun i h1 => absurd h1 (by simp)⟩
  · obtain ⟨b, off, rfl, hc⟩ := h h0
    have hf : ∀ i (hi : i < L.length), w.cell? ⟨b, off + i, none⟩ = some ((hc i hi).choose) ∧ SlI w ((hc i hi).choose) L[i] := fun i hi => (hc i hi).choose_spec
    refine ⟨(List.range L.length).map fun i => if h : i < L.length then (hc i h).choose else .slice none 0 0, by simp, fun _ => ⟨b, off, rfl, fun i hi => ?_⟩, fun u hu => ?_, fun i k1 k2 => ?_⟩
    · have hi' : i < L.length := by simpa using hi
      simp only [List.getElem_map, List.getElem_range, dif_pos hi']
      exact (hf i hi').1
    · rw [List.mem_map] at hu
      obtain ⟨i, hi, rfl⟩ := hu
      have hi' : i < L.length := by simpa using hi
      rw [dif_pos hi']
      obtain ⟨a, cap, e, _⟩ := (hf i hi').2
      rw [e]
      rfl
    · simp only [List.getElem_map, List.getElem_range, dif_pos k2]
      exact (hf i k2).2

theorem right_min {A B : List Int} (h : rightD A = true) (h' : rightD B = true) : rightD (minD A B) = true := rightD_iff.2 fun i hi => by
  have h1 : i < A.length := by simp [minD] at hi; omega
  have h2 : i < B.length := by simp [minD] at hi; omega
  rw [minD_at h1 h2]
  have := rightD_at h h1
  have := rightD_at h' h2
  omega

theorem right_max {A B : List Int} (h : rightD A = true) (h' : rightD B = true) : rightD (maxD A B) = true := rightD_iff.2 fun i hi => by
  have h1 : i < A.length := by simp [maxD] at hi; omega
  have h2 : i < B.length := by simp [maxD] at hi; omega
  rw [maxD_at h1 h2]
  have := rightD_at h h1
  have := rightD_at h' h2
  omega

theorem right_fold : ∀ {L : List (List Int)} {v : List Int}, rightD v = true → (∀ u ∈ L, rightD u = true) → rightD (L.foldl minD v) = true
  | [], _, h, _ => h
  | u :: L, v, h, h' => right_fold (L := L) (right_min h (h' u (by simp))) fun x hx => h' x (by simp [hx])

/-- What Least tells. -/
theorem leastD_cases (L : List (List Int)) : (∃ e, e ≠ 0 ∧ leastD L = ([], e)) ∨ ∃ (h0 : 0 < L.length), chksD L = 0 ∧ evenD L[0].length L = true ∧ leastD L = (L.foldl minD L[0], 0) := by
  rcases Nat.eq_zero_or_pos L.length with h0 | h0
  · obtain rfl := List.eq_nil_of_length_eq_zero h0
    exact .inl ⟨2, by decide, rfl⟩
  by_cases h1 : chksD L = 0
  · cases h2 : evenD L[0].length L with
    | true => exact .inr ⟨h0, h1, h2, leastD_ok h0 h1 h2⟩
    | false => exact .inl ⟨2, by decide, leastD_odd h0 h1 h2⟩
  · exact .inl ⟨_, h1, leastD_err h0 h1⟩

theorem least_one {v : List Int} (h : chkD v = 0) : leastD [v] = (v, 0) := by
  have := leastD_ok (L := [v]) (by simp) (by simp [chksD, h]) (by simp [evenD])
  rw [this]
  simp [minD_self]

theorem chk_zeros {n : Nat} (h1 : 1 ≤ n) (h5 : n ≤ 5) : chkD (List.replicate n 0) = 0 := chkD_ok.2 ⟨by simpa using h1, by simpa using h5, by
  unfold rightD
  rw [List.all_eq_true]
  intro x hx
  rw [List.eq_of_mem_replicate hx]
  decide⟩

theorem least_none {v : List Int} (h : chkD v = 0) : leastD [v, List.replicate v.length 0] = (List.replicate v.length 0, 0) := by
  obtain ⟨h1, h5, hr⟩ := chkD_ok.1 h
  have := leastD_ok (L := [v, List.replicate v.length 0]) (by simp) (by simp [chksD, h, chk_zeros h1 h5]) (by simp [evenD])
  rw [this]
  simp only [List.getElem_cons_zero, List.foldl_cons, List.foldl_nil, minD_self]
  congr 1
  apply List.ext_getElem
  · simp [minD]
  · intro i k1 k2
    have hi : i < v.length := by simpa using k2
    rw [minD_at hi (by simpa using hi)]
    have := rightD_at hr hi
    simp
    omega

/-- A vector more makes the least no greater. -/
theorem least_more {L : List (List Int)} {v A B : List Int} (h : leastD L = (A, 0)) (h' : leastD (L ++ [v]) = (B, 0)) : leD B A = true ∧ leD B v = true ∧ rightD A = true ∧ rightD B = true := by
  rcases leastD_cases L with ⟨e, he, h1⟩ | ⟨h0, hc, hev, h1⟩
  · rw [h1] at h
    simp only [Prod.mk.injEq] at h
    exact absurd h.2 he
  rcases leastD_cases (L ++ [v]) with ⟨e, he, h2⟩ | ⟨k0, kc, kev, h2⟩
  · rw [h2] at h'
    simp only [Prod.mk.injEq] at h'
    exact absurd h'.2 he
  rw [h1] at h
  rw [h2] at h'
  simp only [Prod.mk.injEq, and_true] at h h'
  have e0 : (L ++ [v])[0] = L[0] := List.getElem_append_left h0
  rw [e0] at kev h'
  rw [List.foldl_append] at h'
  simp only [List.foldl_cons, List.foldl_nil] at h'
  rw [h] at h'
  have la : A.length = L[0].length := by rw [← h]; exact fold_len rfl hev
  have lv : v.length = L[0].length := by
    unfold evenD at kev
    rw [List.all_eq_true] at kev
    simpa using kev v (by simp)
  have rA : rightD A = true := by
    rw [← h]
    exact right_fold (chkD_ok.1 (chksD_ok hc _ (List.getElem_mem h0))).2.2 fun u hu => (chkD_ok.1 (chksD_ok hc u hu)).2.2
  have rv : rightD v = true := (chkD_ok.1 (chksD_ok kc v (by simp))).2.2
  subst h'
  exact ⟨min_le_left (by omega), min_le_right (by omega), rA, right_min rA rv⟩

/-- New rows of slices: one, two. -/
theorem rows_one (w : World) (g : Nat) (hg : w.heap.size = g) {u : Value} {N : List Int} (h : SlI w u N) : RdII (w.alloc (.cells #[u] 23)) (some ⟨g, 0, none⟩) [N] := by
  refine fun _ => ⟨g, 0, rfl, fun i hi => ?_⟩
  obtain rfl : i = 0 := by simp at hi; omega
  exact ⟨u, cell_new w g hg u _, h.later (alloc_below _ _)⟩

theorem rows_two (w : World) (g : Nat) (hg : w.heap.size = g) {u v : Value} {N M : List Int} (h : SlI w u N) (h' : SlI w v M) : RdII (w.alloc (.cells #[u, v] 23)) (some ⟨g, 0, none⟩) [N, M] := by
  have c := box2 w g hg u v 23
  refine fun _ => ⟨g, 0, rfl, fun i hi => ?_⟩
  rcases i with _ | _ | i
  · exact ⟨u, c.1, h.later (alloc_below _ _)⟩
  · exact ⟨v, c.2, h'.later (alloc_below _ _)⟩
  · exact absurd hi (by simp)

end Go.Proofs.Ytljikgjgcpheaaa
