/-
  What follows of matrices as plain functions: the frontier is within all, and the greatest that is; what is learned.
-/
import Derived.Test.YtljikgjgcpheaaaRows
import Derived.Test.YtljikgjgcpheaaaMCode
import Derived.Test.YtljikgjgcpheaaaDLst
namespace Go.Proofs.Ytljikgjgcpheaaa
open Go.RowKit Go.Lib
set_option linter.unusedVariables false

theorem leD_anti {A B : List Int} (h : leD A B = true) (h' : leD B A = true) : A = B := by
  obtain ⟨l1, c1⟩ := leD_iff.1 h
  obtain ⟨_, c2⟩ := leD_iff.1 h'
  refine List.ext_getElem l1 fun i h1 h2 => ?_
  have := c1 i h1 h2
  have := c2 i h2 h1
  omega

theorem le_min {X A B : List Int} (h : leD X A = true) (h' : leD X B = true) : leD X (minD A B) = true := by
  obtain ⟨l1, c1⟩ := leD_iff.1 h
  obtain ⟨l2, c2⟩ := leD_iff.1 h'
  refine leD_of (by rw [minD_len (by omega)]; exact l1) fun i h1 h2 => ?_
  rw [minD_at (by omega) (by omega)]
  have := c1 i h1 (by omega)
  have := c2 i h1 (by omega)
  omega

theorem le_fold {X : List Int} : ∀ {L : List (List Int)} {v : List Int}, leD X v = true → (∀ u ∈ L, leD X u = true) → leD X (L.foldl minD v) = true
  | [], _, h, _ => h
  | u :: L, v, h, h' => le_fold (L := L) (le_min h (h' u (by simp))) fun x hx => h' x (by simp [hx])

theorem has_fold {n : Nat} {p k : Int} : ∀ {L : List (List Int)} {v : List Int}, v.length = n → evenD n L = true → hasD (L.foldl minD v) p k = (hasD v p k && L.all fun u => hasD u p k)
  | [], v, _, _ => by simp
  | u :: L, v, hv, he => by
    have hu : u.length = n := evenD_iff.1 he u (by simp)
    have he' : evenD n L = true := evenD_iff.2 fun x hx => evenD_iff.1 he x (by simp [hx])
    rw [List.foldl_cons, has_fold (L := L) (v := minD v u) (by rw [minD_len (by omega)]; exact hv) he', has_min (by omega), List.all_cons, Bool.and_assoc]

theorem MatR.even {n : Nat} {L : List (List Int)} (h : MatR n L) : evenD n L = true := evenD_iff.2 fun v hv => (h.each v hv).1

theorem front_eq {n : Nat} {L : List (List Int)} (h : MatR n L) : ∃ h0 : 0 < L.length, frontD L = L.foldl minD L[0] ∧ L[0].length = n := by
  have h0 : 0 < L.length := by rw [h.len]; exact h.one
  refine ⟨h0, ?_, (h.at_ h0).1⟩
  unfold frontD
  rw [List.getElem?_eq_getElem h0]
  rfl

theorem front_mem {n : Nat} {L : List (List Int)} (h : MatR n L) : ∀ u ∈ L, leD (frontD L) u = true := by
  obtain ⟨h0, e, hl⟩ := front_eq h
  rw [e]
  exact fold_mem hl h.even

theorem front_len {n : Nat} {L : List (List Int)} (h : MatR n L) : (frontD L).length = n := by
  obtain ⟨h0, e, hl⟩ := front_eq h
  rw [e]
  exact fold_len hl h.even

theorem front_right {n : Nat} {L : List (List Int)} (h : MatR n L) : rightD (frontD L) = true := by
  obtain ⟨h0, e, hl⟩ := front_eq h
  rw [e]
  exact right_fold (h.at_ h0).2 fun u hu => (h.each u hu).2

theorem le_front {n : Nat} {L : List (List Int)} {X : List Int} (h : MatR n L) (hx : ∀ u ∈ L, leD X u = true) : leD X (frontD L) = true := by
  obtain ⟨h0, e, hl⟩ := front_eq h
  rw [e]
  exact le_fold (hx _ (List.getElem_mem h0)) hx

theorem front_has {n : Nat} {L : List (List Int)} {p k : Int} (h : MatR n L) : hasD (frontD L) p k = L.all fun u => hasD u p k := by
  obtain ⟨h0, e, hl⟩ := front_eq h
  rw [e, has_fold hl h.even]
  cases ha : L.all fun u => hasD u p k with
  | false => simp
  | true =>
    rw [List.all_eq_true] at ha
    simp [ha _ (List.getElem_mem h0)]

theorem zeros_le {n : Nat} {v : List Int} (hv : v.length = n) (h : rightD v = true) : leD (List.replicate n 0) v = true := leD_of (by simp [hv]) fun i h1 h2 => by
  rw [List.getElem_replicate]
  exact (rightD_at h h2).1

theorem zeros_right (n : Nat) : rightD (List.replicate n 0) = true := rightD_iff.2 fun i hi => by
  rw [List.getElem_replicate]
  omega

/-- One that was learned of none holds it at noughts. -/
theorem front_zero {n z : Nat} {L : List (List Int)} (h : MatR n L) (hz : z < L.length) : frontD (L.set z (List.replicate n 0)) = List.replicate n 0 := by
  have hm : MatR n (L.set z (List.replicate n 0)) := h.set z (by simp) (zeros_right n)
  refine leD_anti (front_mem hm _ (List.mem_set hz _)) (le_front hm fun u hu => zeros_le (hm.each u hu).1 (hm.each u hu).2)

/-- The greatest numbers of several. -/
def havM (n : Nat) (L : List (List Int)) : List Int := L.foldl maxD (List.replicate n 0)

theorem foldmax_facts {n : Nat} : ∀ {L : List (List Int)} {v : List Int}, v.length = n → rightD v = true → (∀ u ∈ L, u.length = n ∧ rightD u = true) → (L.foldl maxD v).length = n ∧ rightD (L.foldl maxD v) = true ∧ leD v (L.foldl maxD v) = true ∧ ∀ u ∈ L, leD u (L.foldl maxD v) = true
  | [], v, hv, hr, _ => ⟨hv, hr, leD_refl v, fun u hu => by cases hu⟩
  | x :: L, v, hv, hr, hL => by
    obtain ⟨hx, hxr⟩ := hL x (by simp)
    obtain ⟨f1, f2, f3, f4⟩ := foldmax_facts (n := n) (L := L) (v := maxD v x) (by rw [maxD_len (by omega)]; exact hv) (right_max hr hxr) fun u hu => hL u (by simp [hu])
    refine ⟨f1, f2, leD_trans (le_max_left (by omega)) f3, fun u hu => ?_⟩
    rcases List.mem_cons.1 hu with rfl | hu
    · exact leD_trans (le_max_right (by omega)) f3
    · exact f4 u hu

theorem havM_facts {n : Nat} {L : List (List Int)} (h : ∀ u ∈ L, u.length = n ∧ rightD u = true) : (havM n L).length = n ∧ rightD (havM n L) = true ∧ ∀ u ∈ L, leD u (havM n L) = true := by
  obtain ⟨f1, f2, _, f4⟩ := foldmax_facts (L := L) (v := List.replicate n 0) (by simp) (zeros_right n) h
  exact ⟨f1, f2, f4⟩

theorem havM_step {n k : Nat} {L : List (List Int)} (hk : k < L.length) : havM n (L.take (k + 1)) = maxD (havM n (L.take k)) L[k] := by
  unfold havM
  rw [List.take_succ_eq_append_getElem hk, List.foldl_append]
  rfl

/-- Learned so far. -/
def midL (n : Nat) (L : List (List Int)) (j : Nat) : List (List Int) := L.take j ++ List.replicate (n - j) (List.replicate n 0)

theorem midL_len {n j : Nat} {L : List (List Int)} (hn : L.length = n) (hj : j ≤ n) : (midL n L j).length = n := by
  unfold midL
  rw [List.length_append, List.length_take, List.length_replicate]
  omega

theorem midL_step {n j : Nat} {L : List (List Int)} (hn : L.length = n) (hj : j < n) : midL n L (j + 1) = (midL n L j).set j (L[j]'(by omega)) := by
  unfold midL
  have hl : (L.take j).length = j := by rw [List.length_take]; omega
  rw [List.set_append_right _ _ (by omega), hl, Nat.sub_self, show n - j = (n - (j + 1)) + 1 from by omega, List.replicate_succ, List.set_cons_zero, List.take_succ_eq_append_getElem (by omega), List.append_assoc]
  rfl

theorem midL_at {n j : Nat} {L : List (List Int)} (hn : L.length = n) (hj : j < n) (h : j < (midL n L j).length) : (midL n L j)[j] = List.replicate n 0 := by
  unfold midL at h ⊢
  have hl : (L.take j).length = j := by rw [List.length_take]; omega
  rw [List.getElem_append_right (by omega), List.getElem_replicate]

theorem midL_mat {n j : Nat} {L : List (List Int)} (h : MatR n L) (hj : j ≤ n) : MatR n (midL n L j) :=
  ⟨midL_len h.len hj, h.one, h.five, fun v hv => by
    unfold midL at hv
    rcases List.mem_append.1 hv with hv | hv
    · exact h.each v (List.mem_of_mem_take hv)
    · rw [List.eq_of_mem_replicate hv]
      exact ⟨by simp, zeros_right n⟩⟩

theorem midL_zero (n : Nat) (L : List (List Int)) : midL n L 0 = List.replicate n (List.replicate n 0) := by simp [midL]

theorem midL_all {n : Nat} {L : List (List Int)} (hn : L.length = n) : midL n L n = L := by
  unfold midL
  rw [Nat.sub_self, List.replicate_zero, List.append_nil, List.take_of_length_le (by omega)]

theorem max_zeros {n : Nat} {S : List Int} (hn : S.length = n) (h : rightD S = true) : maxD (List.replicate n 0) S = S := by
  apply List.ext_getElem
  · rw [maxD_len (by simp [hn])]
    simp [hn]
  · intro i h1 h2
    rw [maxD_at (by simp; omega) h2, List.getElem_replicate]
    have := rightD_at h h2
    omega

theorem midL_learn {n j : Nat} {L : List (List Int)} (h : MatR n L) (hj : j < n) : learnD (midL n L j) j (L[j]'(by rw [h.len]; exact hj)) = midL n L (j + 1) := by
  have hjl : j < L.length := by rw [h.len]; exact hj
  have hm : j < (midL n L j).length := by rw [midL_len h.len (by omega)]; exact hj
  rw [learnD_at hm, midL_at h.len hj hm, max_zeros (h.at_ hjl).1 (h.at_ hjl).2, midL_step h.len hj]

/-- All but that of one peer. -/
def midF (n : Nat) (L : List (List Int)) (z j : Nat) : List (List Int) := (midL n L j).set z (List.replicate n 0)

theorem midF_mat {n z j : Nat} {L : List (List Int)} (h : MatR n L) (hj : j ≤ n) : MatR n (midF n L z j) := (midL_mat h hj).set z (by simp) (zeros_right n)

theorem midF_zero {n z : Nat} (L : List (List Int)) : midF n L z 0 = List.replicate n (List.replicate n 0) := by
  unfold midF
  rw [midL_zero]
  apply List.ext_getElem
  · simp
  · intro i h1 h2
    rw [List.getElem_set]
    split <;> simp

theorem midF_same {n z : Nat} {L : List (List Int)} (hn : L.length = n) (hz : z < n) : midF n L z (z + 1) = midF n L z z := by
  unfold midF
  rw [midL_step hn hz, List.set_set]

theorem midF_learn {n z j : Nat} {L : List (List Int)} (h : MatR n L) (hj : j < n) (hz : j ≠ z) : learnD (midF n L z j) j (L[j]'(by rw [h.len]; exact hj)) = midF n L z (j + 1) := by
  have hjl : j < L.length := by rw [h.len]; exact hj
  have hm0 : j < (midL n L j).length := by rw [midL_len h.len (by omega)]; exact hj
  have hm : j < (midF n L z j).length := by unfold midF; rw [List.length_set]; exact hm0
  rw [learnD_at hm]
  have e0 : ∀ (h' : j < ((midL n L j).set z (List.replicate n 0)).length), ((midL n L j).set z (List.replicate n 0))[j] = List.replicate n 0 := fun h' => by
    rw [List.getElem_set_ne (fun h => hz h.symm), midL_at h.len hj hm0]
  have e : (midF n L z j)[j] = List.replicate n 0 := e0 hm
  rw [e, max_zeros (h.at_ hjl).1 (h.at_ hjl).2]
  unfold midF
  rw [midL_step h.len hj, List.set_comm _ _ (fun h => hz h.symm)]

/-- What is there behind a Learn of right ones. -/
def nextM (M : List (List Int)) (A B : List Int) (z : Nat) : List (List Int) := if atD A z < atD B z then M else learnD M z B

theorem max_idem {A B : List Int} (h : A.length = B.length) : maxD (maxD A B) B = maxD A B := by
  apply List.ext_getElem
  · rw [maxD_len (by rw [maxD_len h]; exact h)]
  · intro i h1 h2
    have hA : i < A.length := by rw [maxD_len h] at h2; exact h2
    rw [maxD_at h2 (by omega), maxD_at hA (by omega)]
    omega

theorem learn_mat {n z : Nat} {M : List (List Int)} {B : List Int} (h : MatR n M) (hB : B.length = n) (hr : rightD B = true) (hz : z < n) : MatR n (learnD M z B) := by
  have hzl : z < M.length := by rw [h.len]; exact hz
  rw [learnD_at hzl]
  exact h.set z (by rw [maxD_len (by rw [(h.at_ hzl).1, hB])]; exact (h.at_ hzl).1) (right_max (h.at_ hzl).2 hr)

theorem learn_learn {n z : Nat} {M : List (List Int)} {B : List Int} (h : MatR n M) (hB : B.length = n) (hz : z < n) : learnD (learnD M z B) z B = learnD M z B := by
  have hzl : z < M.length := by rw [h.len]; exact hz
  rw [learnD_at hzl, learnD_at (by rw [List.length_set]; exact hzl), List.getElem_set_self, max_idem (by rw [(h.at_ hzl).1, hB]), List.set_set]

theorem learn_at {n z k : Nat} {M : List (List Int)} {B : List Int} (h : MatR n M) (hB : B.length = n) (hz : z < n) (hk : k < M.length) (hk' : k < (learnD M z B).length) : leD M[k] (learnD M z B)[k] = true ∧ (k ≠ z → M[k] = (learnD M z B)[k]) := by
  have hzl : z < M.length := by rw [h.len]; exact hz
  have e : ∀ (h' : k < (M.set z (maxD M[z] B)).length), leD M[k] (M.set z (maxD M[z] B))[k] = true ∧ (k ≠ z → M[k] = (M.set z (maxD M[z] B))[k]) := fun h' => by
    rw [List.getElem_set]
    split
    · rename_i e
      subst e
      exact ⟨le_max_left (by rw [(h.at_ hzl).1, hB]), fun h => absurd rfl h⟩
    · exact ⟨leD_refl _, fun _ => rfl⟩
  have e2 := learnD_at (S := B) hzl
  generalize learnD M z B = X at *
  subst e2
  exact e hk'

/-- All that the law asks of one Learn. -/
theorem next_facts {n z : Nat} {M : List (List Int)} {A B : List Int} {p k : Int} (h : MatR n M) (hA : A.length = n) (hB : B.length = n) (hr : rightD B = true) (hz : z < n) :
    MatR n (nextM M A B z) ∧ nextM (nextM M A B z) A B z = nextM M A B z ∧ leD (frontD M) (frontD (nextM M A B z)) = true ∧
      (∀ i (h1 : i < M.length) (h2 : i < (nextM M A B z).length), leD M[i] (nextM M A B z)[i] = true ∧ leD (frontD (nextM M A B z)) (nextM M A B z)[i] = true ∧ (i ≠ z → M[i] = (nextM M A B z)[i])) ∧
      (hasD (frontD (nextM M A B z)) p k = (nextM M A B z).all fun u => hasD u p k) ∧ (atD B z ≤ atD A z → ∀ (h2 : z < (nextM M A B z).length), leD B (nextM M A B z)[z] = true) := by
  have hzl : z < M.length := by rw [h.len]; exact hz
  have hm : MatR n (nextM M A B z) := by
    unfold nextM
    split
    · exact h
    · exact learn_mat h hB hr hz
  have hat : ∀ i (h1 : i < M.length) (h2 : i < (nextM M A B z).length), leD M[i] (nextM M A B z)[i] = true ∧ (i ≠ z → M[i] = (nextM M A B z)[i]) := by
    unfold nextM
    split
    · exact fun i h1 h2 => ⟨leD_refl _, fun _ => rfl⟩
    · exact fun i h1 h2 => learn_at h hB hz h1 h2
  refine ⟨hm, ?_, le_front hm fun u hu => ?_, fun i h1 h2 => ⟨(hat i h1 h2).1, front_mem hm _ (List.getElem_mem h2), (hat i h1 h2).2⟩, front_has hm, fun hle => ?_⟩
  · unfold nextM
    split
    · rfl
    · exact learn_learn h hB hz
  · obtain ⟨i, hi, rfl⟩ := List.mem_iff_getElem.1 hu
    have h1 : i < M.length := by rw [h.len, ← hm.len]; exact hi
    exact leD_trans (front_mem h _ (List.getElem_mem h1)) (hat i h1 hi).1
  · unfold nextM
    rw [if_neg (by omega)]
    intro h2
    have e2 := learnD_at (S := B) hzl
    generalize learnD M z B = X at *
    subst e2
    rw [List.getElem_set_self]
    exact le_max_right (by rw [(h.at_ hzl).1, hB])

/-- Learn's contract, by nextM. -/
theorem mLearn_next (b off : Nat) (ah az : Option Addr) (n cap hcap scap : Nat) (p : Nat) (L : List (List Int)) (H S : List Int) (w : World) (hL : MatR n L) (hr : RdII w (some ⟨b, off, none⟩) L)
    (hh : H.length = n) (hs : S.length = n) (kh : rightD H = true) (ks : rightD S = true) (rh : RdI .i64 w ah H) (rs : RdI .i64 w az S) (hp : p < n) :
    Calls Try.prog 12 #[.slice (some ⟨b, off, none⟩) n cap, .slice ah n hcap, .int .i64 p, .slice az n scap] w fun e w' => GivesM w w' e n (nextM L H S p) (decide (atD S p ≤ atD H p)) := by
  have h1 : atD H (p : Int) = H[p]'(by omega) := by simp [atD, List.getElem?_eq_getElem (show p < H.length by omega)]
  have h2 : atD S (p : Int) = S[p]'(by omega) := by simp [atD, List.getElem?_eq_getElem (show p < S.length by omega)]
  unfold nextM
  rw [h1, h2]
  exact mLearn_ok b off ah az n cap hcap scap p L H S w hL hr hh hs kh ks rh rs hp (by omega) (by omega)

end Go.Proofs.Ytljikgjgcpheaaa
