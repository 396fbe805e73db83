/-
  Rows of slices that append makes; what follows of Least; DotLeast's walk.
-/
import Derived.Test.YtmdjmkpalnhkoaaRows
import Derived.Test.YtmdjmkpalnhkoaaDSteps
namespace Go.Proofs.Ytmdjmkpalnhkoaa
open Go.RowKit Go.Lib
set_option linter.unusedVariables false

/-- The slice v is a row of slices of the call's own, from block B on: these. -/
def RowS (w : World) (B : Nat) (v : Value) (us : List Value) : Prop := w.ownsRow B 22 1 v us.length us

theorem RowS.lit (w : World) (B g : Nat) (hg : w.heap.size = g) (hB : B ≤ w.heap.size) : RowS (w.alloc (.cells #[] 22)) B (.slice (some ⟨g, 0, none⟩) 0 0) [] := by
  subst hg
  exact World.ownsRow_lit w #[] 0 hB (by unfold maxLen; omega) rfl

theorem RowS.later {w w' : World} {B : Nat} {v : Value} {us : List Value} (h : RowS w B v us) (hb : Below w.heap.size w w') : RowS w' B v us := by
  obtain ⟨h1, h2⟩ := h
  refine ⟨h1, ?_⟩
  rcases h2 with h2 | ⟨g, cap, cur, hv, hg, hh, hc⟩
  · exact .inl h2
  · refine .inr ⟨g, cap, cur, hv, hg, (hb.block g ?_).trans hh, hc⟩
    rcases Nat.lt_or_ge g w.heap.size with h3 | h3
    · exact h3
    · simp [Array.getElem?_eq_none h3] at hh

theorem RowS.form {w : World} {B : Nat} {v : Value} {us : List Value} (h : RowS w B v us) : ∃ a cap, v = .slice a us.length cap ∧ us.length ≤ cap ∧ (0 < us.length → ∃ g, a = some ⟨g, 0, none⟩ ∧ ∀ i (hi : i < us.length), w.cell? ⟨g, i, none⟩ = some us[i]) := by
  obtain ⟨_, ⟨hv, hn⟩ | ⟨g, cap, cur, hv, _, hh, hc, _, hs, ht⟩⟩ := h
  · exact ⟨none, 0, by rw [hn]; exact hv, by omega, fun h => by omega⟩
  · refine ⟨_, cap, hv, hc, fun _ => ⟨g, rfl, fun i hi => ?_⟩⟩
    rw [cell_of_row w g _ _ _ _ hh]
    have hx : us[i]? = some us[i] := List.getElem?_eq_getElem hi
    rw [← hx]
    conv => rhs; rw [← ht]
    rw [Nat.mul_one, List.getElem?_take_of_lt hi]
    simp

theorem RowS.append {w : World} {B n m ty cap : Nat} {v : Value} {us news : List Value} {a : Option Addr} (T : RowS w B v us) (hn : us.length = n) (hm : news.length = m)
    (hsrc : 0 < m → ∃ b off, a = some ⟨b, off, none⟩ ∧ ∀ i (hi : i < news.length), w.cell? ⟨b, off + i, none⟩ = some news[i]) (hone : ∀ u ∈ news, u.oneCell' = true) (hnil : a = none → m = 0 ∧ cap = 0)
    (h1 : n ≤ 65536) (h2 : m ≤ 65536) (hB : B ≤ w.heap.size) :
    ∃ a' cap' w', (Builtin.append_ #[25, 25] ty #[v, .slice a m cap]).run Try.prog w = .ok (.slice a' (n + m) cap') w' ∧ n + m ≤ cap' ∧ RowS w' B (.slice a' (n + m) cap') (us ++ news) ∧ Below B w w' := by
  subst hn hm
  obtain ⟨i0, hi, hz0, hz1, hz2⟩ := info_parts Try.infoS
  have main : ∃ v' w', (Builtin.append_ #[25, 25] ty #[v, .slice a news.length cap]).run Try.prog w = .ok v' w' ∧ RowS w' B v' (us ++ news) ∧ w.grownBy w' v.ownBlock := by
    cases a with
    | none =>
      obtain ⟨h0, rfl⟩ := hnil rfl
      obtain rfl := List.eq_nil_of_length_eq_zero h0
      exact ⟨v, w, run_append_owned_none (P := Try.prog) (w := w) B 25 ty 22 i0 1 Try.underlying25 hi v us.length us T, by simpa [RowS] using T, World.grownBy.refl _ _⟩
    | some ad =>
      have hs : ∀ j u, news[j]? = some u → w.cell? (ad.add j) = some u := by
        intro j u hj
        have hjl := (List.getElem?_eq_some_iff.1 hj).1
        obtain ⟨b, off, e, hc⟩ := hsrc (by omega)
        cases e
        rw [add_plain3, hc j hjl]
        exact (List.getElem?_eq_getElem hjl).symm.trans hj
      obtain ⟨v', w', hrun, ho, hg, _⟩ := run_append_own (P := Try.prog) (w := w) B 25 ty 22 i0 (.slice none 0 0) 1 24 Try.underlying25 hi hz0 hz1 hz2 rfl (by decide) v us.length us T ad news.length cap news (by omega) hs hone (by unfold maxLen; omega) (by omega) hB
      refine ⟨v', w', hrun, ?_, hg⟩
      unfold RowS
      rw [List.length_append]
      exact ho
  obtain ⟨v', w', hrun, ho, hg⟩ := main
  obtain ⟨a', cap', rfl, hc, _⟩ := ho.form
  rw [List.length_append] at hrun ho hc
  exact ⟨a', cap', w', hrun, hc, ho, (Below.refl _ _).grown hg hB (fun k hk => (World.ownsRow.lt T k hk).1)⟩

/-- Such a row, whose slices lead to these numbers. -/
theorem RowS.rows {w : World} {B n cap : Nat} {a : Option Addr} {us : List Value} {L : List (List Int)} (h : RowS w B (.slice a n cap) us) (hn : us.length = n) (hl : us.length = L.length) (hs : ∀ i (h1 : i < us.length) (h2 : i < L.length), SlI w us[i] L[i]) : RdII w a L := by
  subst hn
  intro h0
  obtain ⟨a2, cap2, e, _, hc⟩ := h.form
  simp only [Value.slice.injEq, true_and] at e
  obtain ⟨rfl, rfl⟩ := e
  obtain ⟨g, rfl, hg⟩ := hc (by omega)
  exact ⟨g, 0, rfl, fun i hi => ⟨us[i]'(by omega), by rw [Nat.zero_add]; exact hg i (by omega), hs i (by omega) hi⟩⟩

/-- The slices of a row of rows. -/
theorem RdII.slices {w : World} {a : Option Addr} {L : List (List Int)} (h : RdII w a L) : ∃ us : List Value, us.length = L.length ∧ (0 < L.length → ∃ b off, a = some ⟨b, off, none⟩ ∧ ∀ i (hi : i < us.length), w.cell? ⟨b, off + i, none⟩ = some us[i]) ∧ (∀ u ∈ us, u.oneCell' = true) ∧ ∀ i (h1 : i < us.length) (h2 : i < L.length), SlI w us[i] L[i] := by
  rcases Nat.eq_zero_or_pos L.length with h0 | h0
  · obtain rfl := List.eq_nil_of_length_eq_zero h0
    exact ⟨[], rfl, (fun h => absurd h (by simp)), (fun u hu => absurd hu (by simp)), fun i h1 => absurd h1 (by simp)⟩
  · obtain ⟨b, off, rfl, hc⟩ := h h0
    have hf : ∀ i (hi : i < L.length), w.cell? ⟨b, off + i, none⟩ = some ((hc i hi).choose) ∧ SlI w ((hc i hi).choose) L[i] := fun i hi => (hc i hi).choose_spec
    refine ⟨(List.range L.length).map fun i => if h : i < L.length then (hc i h).choose else .slice none 0 0, by simp, fun _ => ⟨b, off, rfl, fun i hi => ?_⟩, fun u hu => ?_, fun i k1 k2 => ?_⟩
    · have hi' : i < L.length := by simpa using hi
      simp only [List.getElem_map, List.getElem_range, dif_pos hi']
      exact (hf i hi').1
    · rw [List.mem_map] at hu
      obtain ⟨i, hi, rfl⟩ := hu
      have hi' : i < L.length := by simpa using hi
      rw [dif_pos hi']
      obtain ⟨a, cap, e, _⟩ := (hf i hi').2
      rw [e]
      rfl
    · simp only [List.getElem_map, List.getElem_range, dif_pos k2]
      exact (hf i k2).2

theorem right_min {A B : List Int} (h : rightD A = true) (h' : rightD B = true) : rightD (minD A B) = true := rightD_iff.2 fun i hi => by
  have h1 : i < A.length := by simp [minD] at hi; omega
  have h2 : i < B.length := by simp [minD] at hi; omega
  rw [minD_at h1 h2]
  have := rightD_at h h1
  have := rightD_at h' h2
  omega

theorem right_max {A B : List Int} (h : rightD A = true) (h' : rightD B = true) : rightD (maxD A B) = true := rightD_iff.2 fun i hi => by
  have h1 : i < A.length := by simp [maxD] at hi; omega
  have h2 : i < B.length := by simp [maxD] at hi; omega
  rw [maxD_at h1 h2]
  have := rightD_at h h1
  have := rightD_at h' h2
  omega

theorem right_fold : ∀ {L : List (List Int)} {v : List Int}, rightD v = true → (∀ u ∈ L, rightD u = true) → rightD (L.foldl minD v) = true
  | [], _, h, _ => h
  | u :: L, v, h, h' => right_fold (L := L) (right_min h (h' u (by simp))) fun x hx => h' x (by simp [hx])

/-- What Least tells. -/
theorem leastD_cases (L : List (List Int)) : (∃ e, e ≠ 0 ∧ leastD L = ([], e)) ∨ ∃ (h0 : 0 < L.length), chksD L = 0 ∧ evenD L[0].length L = true ∧ leastD L = (L.foldl minD L[0], 0) := by
  rcases Nat.eq_zero_or_pos L.length with h0 | h0
  · obtain rfl := List.eq_nil_of_length_eq_zero h0
    exact .inl ⟨2, by decide, rfl⟩
  by_cases h1 : chksD L = 0
  · cases h2 : evenD L[0].length L with
    | true => exact .inr ⟨h0, h1, h2, leastD_ok h0 h1 h2⟩
    | false => exact .inl ⟨2, by decide, leastD_odd h0 h1 h2⟩
  · exact .inl ⟨_, h1, leastD_err h0 h1⟩

theorem least_one {v : List Int} (h : chkD v = 0) : leastD [v] = (v, 0) := by
  have := leastD_ok (L := [v]) (by simp) (by simp [chksD, h]) (by simp [evenD])
  rw [this]
  simp [minD_self]

theorem chk_zeros {n : Nat} (h1 : 1 ≤ n) (h5 : n ≤ 5) : chkD (List.replicate n 0) = 0 := chkD_ok.2 ⟨by simpa using h1, by simpa using h5, by
  unfold rightD
  rw [List.all_eq_true]
  intro x hx
  rw [List.eq_of_mem_replicate hx]
  decide⟩

theorem least_none {v : List Int} (h : chkD v = 0) : leastD [v, List.replicate v.length 0] = (List.replicate v.length 0, 0) := by
  obtain ⟨h1, h5, hr⟩ := chkD_ok.1 h
  have := leastD_ok (L := [v, List.replicate v.length 0]) (by simp) (by simp [chksD, h, chk_zeros h1 h5]) (by simp [evenD])
  rw [this]
  simp only [List.getElem_cons_zero, List.foldl_cons, List.foldl_nil, minD_self]
  congr 1
  apply List.ext_getElem
  · simp [minD]
  · intro i k1 k2
    have hi : i < v.length := by simpa using k2
    rw [minD_at hi (by simpa using hi)]
    have := rightD_at hr hi
    simp
    omega

/-- A vector more makes the least no greater. -/
theorem least_more {L : List (List Int)} {v A B : List Int} (h : leastD L = (A, 0)) (h' : leastD (L ++ [v]) = (B, 0)) : leD B A = true ∧ leD B v = true ∧ rightD A = true ∧ rightD B = true := by
  rcases leastD_cases L with ⟨e, he, h1⟩ | ⟨h0, hc, hev, h1⟩
  · rw [h1] at h
    simp only [Prod.mk.injEq] at h
    exact absurd h.2 he
  rcases leastD_cases (L ++ [v]) with ⟨e, he, h2⟩ | ⟨k0, kc, kev, h2⟩
  · rw [h2] at h'
    simp only [Prod.mk.injEq] at h'
    exact absurd h'.2 he
  rw [h1] at h
  rw [h2] at h'
  simp only [Prod.mk.injEq, and_true] at h h'
  have e0 : (L ++ [v])[0] = L[0] := List.getElem_append_left h0
  rw [e0] at kev h'
  rw [List.foldl_append] at h'
  simp only [List.foldl_cons, List.foldl_nil] at h'
  rw [h] at h'
  have la : A.length = L[0].length := by rw [← h]; exact fold_len rfl hev
  have lv : v.length = L[0].length := by
    unfold evenD at kev
    rw [List.all_eq_true] at kev
    simpa using kev v (by simp)
  have rA : rightD A = true := by
    rw [← h]
    exact right_fold (chkD_ok.1 (chksD_ok hc _ (List.getElem_mem h0))).2.2 fun u hu => (chkD_ok.1 (chksD_ok hc u hu)).2.2
  have rv : rightD v = true := (chkD_ok.1 (chksD_ok kc v (by simp))).2.2
  subst h'
  exact ⟨min_le_left (by omega), min_le_right (by omega), rA, right_min rA rv⟩

/-- New rows of slices: one, two. -/
theorem rows_one (w : World) (g : Nat) (hg : w.heap.size = g) {u : Value} {N : List Int} (h : SlI w u N) : RdII (w.alloc (.cells #[u] 22)) (some ⟨g, 0, none⟩) [N] := by
  refine fun _ => ⟨g, 0, rfl, fun i hi => ?_⟩
  obtain rfl : i = 0 := by simp at hi; omega
  exact ⟨u, cell_new w g hg u _, h.later (alloc_below _ _)⟩

theorem rows_two (w : World) (g : Nat) (hg : w.heap.size = g) {u v : Value} {N M : List Int} (h : SlI w u N) (h' : SlI w v M) : RdII (w.alloc (.cells #[u, v] 22)) (some ⟨g, 0, none⟩) [N, M] := by
  have c := box2 w g hg u v 22
  refine fun _ => ⟨g, 0, rfl, fun i hi => ?_⟩
  rcases i with _ | _ | i
  · exact ⟨u, c.1, h.later (alloc_below _ _)⟩
  · exact ⟨v, c.2, h'.later (alloc_below _ _)⟩
  · exact absurd hi (by simp)

set_option maxRecDepth 100000 in
set_option maxHeartbeats 4000000 in
theorem dleast_some (D : DotApi) (a b : Option Addr) (n m cap dap : Nat) (L : List (List Int)) (N : List Int) (w : World) (hn : L.length = n) (hm : N.length = m) (h30 : n ≤ 30) (hv : ∀ v ∈ L, v.length ≤ 30 ∧ All64 v) (hcap : n ≤ cap) (hdap : m ≤ dap) (hnl : a = none → L = [] ∧ cap = 0) (hnb : b = none → N = [] ∧ dap = 0)
    (hL : RdII w a L) (hN : RdI .i64 w b N) (hh : heavyD L = false) (hc : chkD N = 0) :
    Calls Try.prog 7 #[.slice a n cap, .slice b m dap] w fun e w' => e = .returned (.bool true) ∧ Below w.heap.size w w' := by
  have HN : Hid (L.length = n) := hn
  have HM : Hid (N.length = m) := hm
  have HL : Hid (RdII w a L) := hL
  have HI : Hid (RdI .i64 w b N) := hN
  have HV : Hid (∀ v ∈ L, v.length ≤ 65536 ∧ All64 v) := fun v hv' => ⟨by have := (hv v hv').1; omega, (hv v hv').2⟩
  have HV2 : Hid (∀ v ∈ L, v.length ≤ 9223372036854775807) := fun v hv' => by have := (hv v hv').1; omega
  have HH : Hid (heavyD L = false) := hh
  have HC : Hid (chkD N = 0) := hc
  have HNL : Hid (a = none → n = 0 ∧ cap = 0) := fun h => by obtain ⟨rfl, h2⟩ := hnl h; exact ⟨by rw [← hn]; rfl, h2⟩
  obtain ⟨m1, m5, hrt⟩ := chkD_ok.1 hc
  rw [hm] at m1 m5
  have N64 : Hid (All64 N) := right64 hrt
  have SN : Hid (∀ W : World, Below w.heap.size w W → SlI W (.slice b m dap) N) := fun W h => ⟨b, dap, by rw [hm], by rw [hm]; exact hdap, hN.later h, hnb⟩
  have H1 : Hid (heavyD [N] = false) := by show _ = _; simp [heavyD]; omega
  have HE1 : Hid (leastD [N] = (N, 0)) := least_one hc
  have HE2 : Hid (leastD [N, List.replicate m 0] = (List.replicate m 0, 0)) := by have := least_none hc; rw [hm] at this; exact this
  clear hn hm hL hN hv hh hc hnl hnb hrt
  go_enter Try.func7, Try.ntmps7
  go_wp2_with fail
  refine (heavyD_few a n cap L _ HN.out h30 HV2.out HL.out).mono ?_
  rintro e w1 ⟨rfl, hw1⟩
  subst w1
  rw [HH.out]
  go_wp2_with fail
  refine (heavyD_few (some ⟨w.heap.size, 0, none⟩) 1 1 [N] _ rfl (by omega) (fun v hv => by simp at hv; rw [hv, HM.out]; omega) (rows_one w _ rfl (SN.out w (Below.refl _ _)))).mono ?_
  rintro e w1 ⟨rfl, hw1⟩
  rw [H1.out]
  have B1 : Hid (Below w.heap.size w w1) := by rw [hw1]; exact alloc_below _ _
  clear hw1
  go_wp2_with fail
  refine (rVector_any b m dap N _ HM.out (by omega) (HI.out.later B1.out)).mono ?_
  rintro e w2 ⟨rfl, hw2⟩
  subst w2
  rw [HC.out]
  go_wp2_with fail
  refine (D.least (some ⟨w1.heap.size, 0, none⟩) 1 1 [N] _ rfl (by omega) (by omega) (fun v hv => by simp at hv; rw [hv]; exact ⟨by rw [HM.out]; omega, N64.out⟩) (rows_one w1 _ rfl (SN.out w1 B1.out))).mono ?_
  rintro e w2 ⟨a2, n2, c2, rfl, hn2, _, _, _, hr2, _, hb⟩
  rw [HE1.out] at hn2 hr2 ⊢
  simp only at hn2 hr2 ⊢
  rw [HM.out] at hn2
  subst n2
  have B2 : Hid (Below w.heap.size w w2) := chain B1.out (chain (alloc_below _ _) hb)
  have R2 : Hid (RdI .i64 w2 a2 N) := hr2
  clear hb hr2 B1
  obtain ⟨w3, hmake, hO3, hB3⟩ := run_make_ints w2 m (by omega)
  have S3 : Hid (SlI w3 (.slice (some ⟨w2.heap.size, 0, none⟩) m m) (List.replicate m 0)) := hO3.sl
  have B3 : Hid (Below w.heap.size w w3) := chain B2.out hB3
  replace R2 : Hid (RdI .i64 w3 a2 N) := R2.out.later hB3
  clear hO3 hB3 B2
  go_wp2_with fail
  refine (D.least (some ⟨w3.heap.size, 0, none⟩) 2 2 [N, List.replicate m 0] _ rfl (by omega) (by omega) (fun v hv => by
    simp only [List.mem_cons, List.not_mem_nil, or_false] at hv
    rcases hv with rfl | rfl
    · exact ⟨by rw [HM.out]; omega, N64.out⟩
    · exact ⟨by simp; omega, fun x hx => by rw [List.eq_of_mem_replicate hx]; exact in64 (by decide)⟩) (rows_two w3 _ rfl (SN.out w3 B3.out) S3.out)).mono ?_
  rintro e w4 ⟨a4, n4, c4, rfl, hn4, _, _, _, hr4, _, hb⟩
  rw [HE2.out] at hn4 hr4 ⊢
  simp only [List.length_replicate] at hn4 hr4 ⊢
  subst n4
  have B4 : Hid (Below w.heap.size w w4) := chain B3.out (chain (alloc_below _ _) hb)
  replace R2 : Hid (RdI .i64 w4 a2 N) := R2.out.later (chain (alloc_below _ _) hb)
  have R4 : Hid (RdI .i64 w4 a4 (List.replicate m 0)) := hr4
  clear hb hr4 B3 S3 hmake
  go_wp2_with fail
  refine (keepInts_any a2 b m m c2 dap N N _ HM.out HM.out (by omega) (by omega) R2.out (HI.out.later B4.out)).mono ?_
  rintro e w5 ⟨rfl, hb⟩
  rw [decide_eq_true rfl]
  have B5 : Hid (Below w.heap.size w w5) := chain B4.out hb
  replace R4 : Hid (RdI .i64 w5 a4 (List.replicate m 0)) := R4.out.later hb
  clear hb B4 R2
  go_wp2
  go_loop [9] (fun i => ∃ k : Nat, k ≤ m ∧ i = .int .i64 k) (fun i => m - (RowKit.intOf i).toNat)
  case atStart => exact ⟨0, Nat.zero_le _, rfl⟩
  case round =>
  obtain ⟨k, hk, rfl⟩ := hrel
  by_cases hlt : k < m
  · obtain ⟨b3, o3, rfl, hc3⟩ := R4.out (by simp; omega)
    have yz := hc3 k (by simp; omega)
    rw [List.getElem_replicate] at yz
    clear hc3
    go_wp2
    go_round
    case rel => exact ⟨k + 1, by omega, by go_num⟩
    case measure => simp [RowKit.intOf]; omega
  obtain rfl : m = k := by omega
  clear hlt hk R4
  generalize hA : leastD L = A
  have HA : Hid (leastD L = A) := hA
  clear hA
  obtain ⟨A, ea⟩ := A
  go_wp2_with fail
  refine (D.least a n cap L _ HN.out (by omega) (by omega) HV.out (HL.out.later B5.out)).mono ?_
  rintro e w6 ⟨a6, n6, c6, rfl, hn6, h646, _, _, hr6, _, hb⟩
  rw [HA.out] at hn6 hr6 ⊢
  simp only at hn6 hr6 ⊢
  have B6 : Hid (Below w.heap.size w w6) := chain B5.out hb
  have R6 : Hid (RdI .i64 w6 a6 A) := hr6
  have L6 : Hid (A.length = n6) := hn6
  clear hb hr6 hn6 B5
  obtain ⟨us, hul, husrc, hone, hsl⟩ := HL.out.slices
  obtain ⟨a7, cap7, w7, hrun7, hc7, T7, hb7⟩ := (RowS.lit w6 w6.heap.size w6.heap.size rfl (Nat.le_refl _)).append (ty := 25) (n := 0) (m := n) (cap := cap) (a := a) rfl (by rw [hul, HN.out]) (fun h => by
    obtain ⟨b9, o9, e9, hc9⟩ := husrc (by rw [HN.out]; exact h)
    exact ⟨b9, o9, e9, fun i hi => cell_later (chain B6.out (alloc_below w6 (.cells #[] 22))) (hc9 i hi)⟩) hone HNL.out (by omega) (by omega) (by simp)
  have hb67 : Below w6.heap.size w6 w7 := (alloc_below _ _).trans hb7
  rw [Nat.zero_add] at T7 hrun7 hc7
  rw [List.nil_append] at T7
  have T7' := T7.later (alloc_below w7 (.cells #[.slice b m dap] 22))
  obtain ⟨a8, cap8, w8, hrun8, hc8, T8, hb8⟩ := T7'.append (ty := 25) (n := n) (m := 1) (cap := 1) (a := some ⟨w7.heap.size, 0, none⟩) (news := [.slice b m dap]) (by rw [hul, HN.out]) rfl (fun _ => ⟨w7.heap.size, 0, rfl, fun i hi => by
    obtain rfl : i = 0 := by simp at hi; omega
    exact cell_new w7 _ rfl _ _⟩) (fun u hu => by simp at hu; rw [hu]; rfl) (fun h => by cases h) (by omega) (by omega) (Nat.le_trans hb67.size (by simp))
  have hb68 : Below w6.heap.size w6 w8 := (hb67.trans ((alloc_below w7 _).mono hb67.size)).trans hb8
  have B8 : Hid (Below w.heap.size w w8) := chain B6.out hb68
  have R8 : Hid (RdII w8 a8 (L ++ [N])) := T8.rows (by simp [hul, HN.out]) (by simp [hul]) (fun i k1 k2 => by
    by_cases hi : i < us.length
    · rw [List.getElem_append_left hi, List.getElem_append_left (by omega)]
      exact (hsl i hi (by omega)).later B8.out
    · have hi' : i = us.length := by simp at k1; omega
      subst hi'
      rw [List.getElem_append_right (Nat.le_refl _), List.getElem_append_right (by omega)]
      simp only [hul, Nat.sub_self, List.getElem_cons_zero]
      exact SN.out w8 B8.out)
  replace R6 : Hid (RdI .i64 w8 a6 A) := R6.out.later hb68
  clear hul husrc hone hsl hb7 T7 T7' T8 hb8 hb67 hb68 hc7
  generalize hQ : leastD (L ++ [N]) = Q
  have HQ : Hid (leastD (L ++ [N]) = Q) := hQ
  clear hQ
  obtain ⟨Q, eq⟩ := Q
  have HV3 : Hid (∀ v ∈ L ++ [N], v.length ≤ 65536 ∧ All64 v) := fun v hv => by
    rcases List.mem_append.1 hv with h | h
    · exact HV.out v h
    · simp at h
      rw [h]
      exact ⟨by rw [HM.out]; omega, N64.out⟩
  go_wp2_with (first | (at_builtin; refine wpList_append_run rfl (.tmp 75) (.tmp 76) 25 25 rfl _ _ _ _ rfl rfl hrun7 ?_) | (at_builtin; refine wpList_append_run rfl (.tmp 77) (.tmp 79) 25 25 rfl _ _ _ _ rfl rfl hrun8 ?_))
  refine (D.least a8 (n + 1) cap8 (L ++ [N]) _ (by simp [HN.out]) (by omega) (by omega) HV3.out R8.out).mono ?_
  rintro e w9 ⟨a9, n9, c9, rfl, hn9, h649, _, _, hr9, _, hb⟩
  rw [HQ.out] at hn9 hr9 ⊢
  simp only at hn9 hr9 ⊢
  have B9 : Hid (Below w.heap.size w w9) := chain B8.out hb
  replace R6 : Hid (RdI .i64 w9 a6 A) := R6.out.later hb
  have R9 : Hid (RdI .i64 w9 a9 Q) := hr9
  have L9 : Hid (Q.length = n9) := hn9
  clear hb hr9 hn9 hrun7 hrun8 R8 B8 B6
  have HA0 : Hid (ea ≠ 0 → n6 = 0) := fun h => by
    rcases leastD_cases L with ⟨e, he, h1⟩ | ⟨_, _, _, h1⟩
    · rw [HA.out] at h1
      simp only [Prod.mk.injEq] at h1
      rw [← L6.out, h1.1]
      rfl
    · rw [HA.out] at h1
      simp only [Prod.mk.injEq] at h1
      exact absurd h1.2 h
  have HQ0 : Hid (eq ≠ 0 → n9 = 0) := fun h => by
    rcases leastD_cases (L ++ [N]) with ⟨e, he, h1⟩ | ⟨_, _, _, h1⟩
    · rw [HQ.out] at h1
      simp only [Prod.mk.injEq] at h1
      rw [← L9.out, h1.1]
      rfl
    · rw [HQ.out] at h1
      simp only [Prod.mk.injEq] at h1
      exact absurd h1.2 h
  by_cases h1 : ea = 0
  · subst h1
    by_cases h2 : eq = 0
    · subst h2
      obtain ⟨f1, f2, f3, f4⟩ := least_more HA.out HQ.out
      have F1 : Hid _ := f1
      have F2 : Hid _ := f2
      have A64 : Hid (All64 A) := right64 f3
      have Q64 : Hid (All64 Q) := right64 f4
      clear f1 f2 f3 f4
      go_wp2_with fail
      refine (D.le a9 a6 n9 n6 c9 c6 Q A _ L9.out L6.out h649 h646 Q64.out A64.out R9.out R6.out).mono ?_
      rintro e w10 ⟨rfl, hb⟩
      rw [F1.out]
      have B10 : Hid (Below w.heap.size w w10) := chain B9.out hb
      replace R9 : Hid (RdI .i64 w10 a9 Q) := R9.out.later hb
      clear hb B9
      go_wp2_with fail
      refine (D.le a9 b n9 m c9 dap Q N _ L9.out HM.out h649 (by omega) Q64.out N64.out R9.out (HI.out.later B10.out)).mono ?_
      rintro e w11 ⟨rfl, hb⟩
      rw [F2.out]
      have B11 : Hid (Below w.heap.size w w11) := chain B10.out hb
      clear hb
      go_wp2_with fail
      refine (dwakes_any D _).mono ?_
      rintro e w12 ⟨rfl, hb⟩
      go_wp2
      go_ret
      exact ⟨rfl, chain B11.out hb⟩
    · obtain rfl : n9 = 0 := HQ0.out h2
      have hq1 : (eq != 0) = true := by simp [h2]
      have hq2 : (eq == 0) = false := by simp [h2]
      clear h2
      go_wp2_with fail
      refine (dwakes_any D _).mono ?_
      rintro e w12 ⟨rfl, hb⟩
      go_wp2
      go_ret
      exact ⟨rfl, chain B9.out hb⟩
  · obtain rfl : n6 = 0 := HA0.out h1
    have hq1 : (ea != 0) = true := by simp [h1]
    have hq2 : (ea == 0) = false := by simp [h1]
    clear h1
    by_cases h2 : eq = 0
    · subst h2
      go_wp2_with fail
      refine (dwakes_any D _).mono ?_
      rintro e w12 ⟨rfl, hb⟩
      go_wp2
      go_ret
      exact ⟨rfl, chain B9.out hb⟩
    · obtain rfl : n9 = 0 := HQ0.out h2
      have hq3 : (eq == 0) = false := by simp [h2]
      clear h2
      go_wp2_with fail
      refine (dwakes_any D _).mono ?_
      rintro e w12 ⟨rfl, hb⟩
      go_wp2
      go_ret
      exact ⟨rfl, chain B9.out hb⟩

set_option maxRecDepth 100000 in
set_option maxHeartbeats 1000000 in
theorem dleast_heavy (a b : Option Addr) (n m cap dap : Nat) (w : World) (C : Calls Try.prog 8 #[.slice a n cap] w fun e w' => e = .returned (.bool true) ∧ w' = w) :
    Calls Try.prog 7 #[.slice a n cap, .slice b m dap] w fun e w' => e = .returned (.bool true) ∧ Below w.heap.size w w' := by
  go_enter Try.func7, Try.ntmps7
  go_wp2_with fail
  refine C.mono ?_
  rintro e w1 ⟨rfl, rfl⟩
  go_wp2
  go_ret
  exact ⟨rfl, Below.refl _ _⟩

set_option maxRecDepth 100000 in
set_option maxHeartbeats 1000000 in
theorem dleast_out (a b : Option Addr) (n m cap dap : Nat) (N : List Int) (w : World) (hm : N.length = m) (hms : m ≤ 9223372036854775807) (hdap : m ≤ dap) (hnb : b = none → N = [] ∧ dap = 0) (hN : RdI .i64 w b N) (c : Int) (hc : chkD N = c) (h0 : c ≠ 0)
    (C : Calls Try.prog 8 #[.slice a n cap] w fun e w' => e = .returned (.bool false) ∧ w' = w) :
    Calls Try.prog 7 #[.slice a n cap, .slice b m dap] w fun e w' => e = .returned (.bool true) ∧ Below w.heap.size w w' := by
  have HM : Hid (N.length = m) := hm
  have HC : Hid (chkD N = c) := hc
  have HI : Hid (RdI .i64 w b N) := hN
  have SN : Hid (SlI w (.slice b m dap) N) := ⟨b, dap, by rw [hm], by rw [hm]; exact hdap, hN, hnb⟩
  have hcn : (c != 0) = true := by simp [h0]
  clear hm hN hc hnb h0
  have CH := heavyD_few (some ⟨w.heap.size, 0, none⟩) 1 1 [N] _ rfl (by omega) (fun v hv => by simp at hv; rw [hv, HM.out]; omega) (rows_one w _ rfl SN.out)
  cases hh : heavyD [N] with
  | true =>
    rw [hh] at CH
    go_enter Try.func7, Try.ntmps7
    go_wp2_with fail
    refine C.mono ?_
    rintro e w1 ⟨rfl, hw1⟩
    subst w1
    go_wp2_with fail
    refine CH.mono ?_
    rintro e w1 ⟨rfl, hw1⟩
    go_wp2
    go_ret
    exact ⟨rfl, alloc_below _ _⟩
  | false =>
    rw [hh] at CH
    go_enter Try.func7, Try.ntmps7
    go_wp2_with fail
    refine C.mono ?_
    rintro e w1 ⟨rfl, hw1⟩
    subst w1
    go_wp2_with fail
    refine CH.mono ?_
    rintro e w1 ⟨rfl, hw1⟩
    have B1 : Hid (Below w.heap.size w w1) := by rw [hw1]; exact alloc_below _ _
    clear hw1
    go_wp2_with fail
    refine (rVector_any b m dap N _ HM.out hms (HI.out.later B1.out)).mono ?_
    rintro e w2 ⟨rfl, hw2⟩
    subst w2
    rw [HC.out]
    go_wp2
    go_ret
    exact ⟨rfl, B1.out⟩

theorem dleast_walk (D : DotApi) (a b : Option Addr) (n m cap dap : Nat) (L : List (List Int)) (zs : List Int) (w : World) (ha : IsRows w a n cap L) (hb : IsInts .i64 w b m dap zs) :
    Calls Try.prog 7 #[.slice a n cap, .slice b m dap] w fun e w' => e = .returned (.bool true) ∧ Below w.heap.size w w' := by
  obtain ⟨hn, hcap, hL, hnl, hv⟩ := ha.rows
  obtain ⟨N, hm, hdap, hN, hnb, hw⟩ := hb.ints
  by_cases h30 : 30 < n
  · exact dleast_heavy a b n m cap dap w (heavyD_long a n cap w h30 ha.small)
  have C := heavyD_few a n cap L w hn (by omega) (fun v h => (hv v h).2) hL
  cases hh : heavyD L with
  | true =>
    rw [hh] at C
    exact dleast_heavy a b n m cap dap w C
  | false =>
    have C' := C
    rw [hh] at C'
    by_cases hc : chkD N = 0
    · refine dleast_some D a b n m cap dap L N w hn hm (by omega) (fun v h => ⟨?_, (hv v h).1⟩) hcap hdap hnl hnb hL hN hh hc
      unfold heavyD at hh
      rw [List.any_eq_false] at hh
      simpa using hh v h
    · exact dleast_out a b n m cap dap N w hm hb.small hdap hnb hN _ rfl hc C'

end Go.Proofs.Ytmdjmkpalnhkoaa
