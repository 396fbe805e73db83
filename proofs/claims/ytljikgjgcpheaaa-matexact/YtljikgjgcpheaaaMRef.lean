/-
  What the document's own Matrix and Learn answer; the calls of mat in one form.
-/
import Derived.Test.YtljikgjgcpheaaaRows
import Derived.Test.YtljikgjgcpheaaaMFacts
namespace Go.Proofs.Ytljikgjgcpheaaa
open Go.RowKit Go.Lib
set_option linter.unusedVariables false

theorem in9_yes (n lo hi : Int) (w : World) (h1 : lo ≤ n) (h2 : n ≤ hi) :
    Calls Try.prog 25 #[.int .i64 n, .int .i64 lo, .int .i64 hi] w fun e w' => e = .returned (.bool true) ∧ w' = w := by
  go_enter Try.func25, Try.ntmps25
  go_wp2
  go_ret
  exact ⟨by simp, rfl⟩

theorem in9_no (n lo hi : Int) (w : World) (h : n < lo ∨ hi < n) :
    Calls Try.prog 25 #[.int .i64 n, .int .i64 lo, .int .i64 hi] w fun e w' => e = .returned (.bool false) ∧ w' = w := by
  by_cases h0 : n < lo
  · clear h
    go_enter Try.func25, Try.ntmps25
    go_wp2
    go_ret
    exact ⟨by simp, rfl⟩
  · have h1 : hi < n := by omega
    clear h
    go_enter Try.func25, Try.ntmps25
    go_wp2
    go_ret
    exact ⟨by simp; omega, rfl⟩

set_option maxHeartbeats 400000 in
theorem rMatrix_len (a : Option Addr) (n cap : Nat) (w : World) (h : n < 1 ∨ 5 < n) (hb : n ≤ 65536) :
    Calls Try.prog 10 #[.slice a n cap] w fun e w' => e = .returned (.int .i64 2) ∧ w' = w := by
  go_enter Try.func10, Try.ntmps10
  go_wp2_with fail
  refine (in9_no (n : Int) 1 5 w (by omega)).mono ?_
  rintro e w1 ⟨rfl, rfl⟩
  go_wp2
  go_ret
  exact ⟨rfl, rfl⟩

set_option maxRecDepth 100000 in
set_option maxHeartbeats 2000000 in
theorem rMatrix_few (b off n cap : Nat) (L : List (List Int)) (w : World) (hn : L.length = n) (h1 : 1 ≤ n) (h5 : n ≤ 5) (hv : ∀ v ∈ L, v.length ≤ 65536) (hr : RdII w (some ⟨b, off, none⟩) L) :
    Calls Try.prog 10 #[.slice (some ⟨b, off, none⟩) n cap] w fun e w' => e = .returned (.int .i64 (matD L)) ∧ w' = w := by
  have HN : Hid (L.length = n) := hn
  have HR : Hid (RdII w (some ⟨b, off, none⟩) L) := hr
  have H0 : Hid (0 < L.length) := by show _ < _; omega
  have HD : Hid (matD L = if evenD n L = true then chksD L else 2) := by
    show _ = _
    unfold matD
    rw [if_neg (by omega), hn]
  clear hn hr
  go_enter Try.func10, Try.ntmps10
  go_wp2_with fail
  refine (in9_yes (n : Int) 1 5 w (by omega) (by omega)).mono ?_
  rintro e w1 ⟨rfl, hw⟩
  subst w1
  go_wp2
  go_loop [3] (fun i => ∃ k : Nat, k ≤ n ∧ i = .int .i64 k ∧ Hid (evenD n (L.take k) = true)) (fun i => n - (RowKit.intOf i).toNat)
  case atStart => exact ⟨0, Nat.zero_le _, rfl, rfl⟩
  case round =>
  obtain ⟨k, hk, rfl, hT⟩ := hrel
  by_cases hlt : k < n
  · have hkl : k < L.length := by rw [HN.out]; exact hlt
    obtain ⟨b', off', e', hc⟩ := HR.out H0.out
    simp only [Option.some.injEq, Addr.mk.injEq, and_true] at e'
    obtain ⟨rfl, rfl⟩ := e'
    obtain ⟨u, x0, a2, cap2, rfl, hc2, hr2, hn2⟩ := hc k hkl
    have hvl := hv _ (List.getElem_mem hkl)
    have HS : Hid (evenD n (L.take (k + 1)) = decide (L[k].length = n)) := evenD_take hkl hT.out
    have HX : Hid (L[k].length ≠ n → evenD n L = false) := fun h => evenD_no hkl h
    clear hc hr2 hn2 hT
    generalize L[k].length = m at *
    clear hkl
    by_cases hm : m = n
    · subst hm
      have HT' : Hid (evenD m (L.take (k + 1)) = true) := by rw [HS.out]; show _ = _; simp
      clear HS HX
      go_wp2
      go_round
      case rel => exact ⟨k + 1, by omega, by go_num, HT'⟩
      case measure => simp [RowKit.intOf]; omega
    · have HE : Hid (matD L = 2) := by rw [HD.out, HX.out hm]; rfl
      have hpn : ((m : Int) != (n : Int)) = true := by simp; omega
      clear HS HX hm
      go_wp2
      go_ret
      exact ⟨by rw [HE.out]; rfl, rfl⟩
  have HV : Hid (evenD n L = true) := by
    have h := hT.out
    rw [List.take_of_length_le (by rw [HN.out]; omega)] at h
    exact h
  have HE : Hid (matD L = chksD L) := by rw [HD.out, HV.out]; rfl
  obtain rfl : n = k := by omega
  clear hT hlt hk HD
  go_wp2
  go_loop [4] (fun i => ∃ k : Nat, k ≤ n ∧ i = .int .i64 k ∧ Hid (chksD L = chksD (L.drop k))) (fun i => n - (RowKit.intOf i).toNat)
  case atStart => exact ⟨0, Nat.zero_le _, rfl, rfl⟩
  case round =>
  obtain ⟨k, hk, rfl, hT⟩ := hrel
  by_cases hlt : k < n
  · have hkl : k < L.length := by rw [HN.out]; exact hlt
    obtain ⟨b', off', e', hc⟩ := HR.out H0.out
    simp only [Option.some.injEq, Addr.mk.injEq, and_true] at e'
    obtain ⟨rfl, rfl⟩ := e'
    obtain ⟨u, x0, a2, cap2, rfl, hc2, hr2, hn2⟩ := hc k hkl
    have hvl := hv _ (List.getElem_mem hkl)
    have HS : Hid (chksD L = if chkD L[k] ≠ 0 then chkD L[k] else chksD (L.drop (k + 1))) := by rw [← chksD_step hkl]; exact hT
    have hLk : L[k].length = n := evenD_iff.1 HV.out _ (List.getElem_mem hkl)
    have HArg : Hid (chkD L[k] ≠ 0 → chkD L[k] = 1) := fun h => chkD_arg (by omega) (by omega) h
    clear hc hn2 hT hLk
    generalize L[k] = N at *
    clear hkl
    obtain ⟨m, hm⟩ : ∃ m, N.length = m := ⟨_, rfl⟩
    rw [hm] at x0 hc2 hvl
    have C := rVector_any a2 m cap2 N w hm (by omega) hr2
    clear hm hr2
    generalize chkD N = c at *
    by_cases hc0 : c = 0
    · subst hc0
      have HT' : Hid (chksD L = chksD (L.drop (k + 1))) := by have := HS.out; rwa [if_neg (by simp)] at this
      clear HS HArg
      go_wp2_with fail
      refine C.mono ?_
      rintro e w1 ⟨rfl, rfl⟩
      go_wp2
      go_round
      case rel => exact ⟨k + 1, by omega, by go_num, HT'⟩
      case measure => simp [RowKit.intOf]; omega
    · have HT' : Hid (matD L = c) := by rw [HE.out]; have := HS.out; rwa [if_pos hc0] at this
      obtain rfl := HArg.out hc0
      clear HS hc0 HArg
      go_wp2_with fail
      refine C.mono ?_
      rintro e w1 ⟨rfl, rfl⟩
      go_wp2
      go_ret
      exact ⟨by rw [HT'.out]; rfl, rfl⟩
  have HC : Hid (matD L = 0) := by
    have h := hT.out
    rw [List.drop_of_length_le (by rw [HN.out]; omega)] at h
    show _ = _
    rw [HE.out]
    exact h
  go_wp2
  go_ret
  exact ⟨by rw [HC.out]; rfl, rfl⟩

theorem rMatrix_any (a : Option Addr) (n cap : Nat) (L : List (List Int)) (w : World) (hn : L.length = n) (hl : n ≤ 65536) (hv : ∀ v ∈ L, v.length ≤ 65536) (hr : RdII w a L) :
    Calls Try.prog 10 #[.slice a n cap] w fun e w' => e = .returned (.int .i64 (matD L)) ∧ w' = w := by
  by_cases h : n < 1 ∨ 5 < n
  · have e : matD L = 2 := by unfold matD; rw [if_pos (by omega)]
    rw [e]
    exact rMatrix_len a n cap w h hl
  · obtain ⟨b, off, rfl, _⟩ := hr (by omega)
    exact rMatrix_few b off n cap L w hn (by omega) (by omega) hv hr

set_option maxHeartbeats 1000000 in
theorem twinIntRows_own (a : Option Addr) (n cap : Nat) (L : List (List Int)) (w : World) (hn : L.length = n) (hl : n ≤ 65536) (hv : ∀ v ∈ L, v.length ≤ 65536) (hr : RdII w a L) :
    Calls Try.prog 8 #[.slice a n cap] w fun e w' => ∃ a' cap', e = .returned (.slice a' n cap') ∧ n ≤ cap' ∧ OwnII w' w.heap.size (.slice a' n cap') L ∧ Below w.heap.size w w' := by
  have HN : Hid (L.length = n) := hn
  clear hn
  go_enter Try.func8, Try.ntmps8
  go_wp2
  go_loopw [3, 4] (fun o i wr => ∃ (k cp : Nat) (aw : Option Addr), k ≤ n ∧ i = .int .i64 k ∧ o = .slice aw k cp ∧ k ≤ cp ∧ Hid (OwnII wr w.heap.size (.slice aw k cp) (L.take k)) ∧ Hid (Below w.heap.size w wr)) (fun _ i _ => n - (RowKit.intOf i).toNat)
  case atStart => exact ⟨0, 0, none, Nat.zero_le _, rfl, rfl, Nat.le_refl _, OwnII.nought _ _, Below.refl _ _⟩
  case round =>
    obtain ⟨k, cp, aw, hk, rfl, rfl, hcp, hO, hB⟩ := hrel
    by_cases hlt : k < n
    · have hkl : k < L.length := by rw [HN.out]; exact hlt
      obtain ⟨b, off, rfl, hc⟩ := (hr.later hB.out) (by omega)
      obtain ⟨u, x0, a2, cap2, rfl, hc2, hr2, hn2⟩ := hc k hkl
      have hvl := hv _ (List.getElem_mem hkl)
      have HT : Hid (L.take (k + 1) = L.take k ++ [L[k]]) := List.take_succ_eq_append_getElem hkl
      clear hc hr
      generalize L[k] = N at *
      clear hkl
      obtain ⟨m, hm⟩ : ∃ m, N.length = m := ⟨_, rfl⟩
      rw [hm] at x0 hc2 hvl
      have HM : Hid (N.length = m) := hm
      clear hm
      go_wp2_with fail
      refine (twinInts_any a2 m cap2 N _ HM.out (by omega) hn2 hr2).mono ?_
      rintro e w1 ⟨a3, cap3, rfl, hc3, ho3, hn3, hr3, hb3⟩
      have hO2 : OwnII w1 w.heap.size (.slice aw k cp) (L.take k) := hO.out.later hb3
      obtain ⟨a', cap', w', hrun, hc', ho', hb'⟩ := OwnII.append (ty := 22) (s := w1.heap.size) (hO2.later (alloc_below w1 (.cells #[.slice a3 m cap3] 23))) (ho3.zero.later (alloc_below w1 (.cells #[.slice a3 m cap3] 23))) (n := k) (by simp [HN.out]; omega) (by omega) (Nat.le_trans hB.out.size (Nat.le_trans hb3.size (by simp))) (cell_new w1 _ rfl _ _)
      rw [← HT.out] at ho'
      have HO' : Hid _ := ho'
      have HB' : Hid (Below w.heap.size w w') := (chain hB.out (chain hb3 (alloc_below _ _))).trans hb'
      clear hO hB ho' hb' hO2 ho3 hn3 hr3 hb3 hr2 hn2 HT
      go_wp2_with (at_builtin; refine wpList_append_run rfl (.tmp 11) (.tmp 17) 22 22 rfl _ _ _ _ rfl rfl hrun ?_)
      go_roundw
      case rel => exact ⟨k + 1, cap', a', by omega, by go_num, rfl, hc', HO', HB'⟩
      case measure => simp [RowKit.intOf]; omega
    · obtain rfl : k = n := by omega
      have hT1 : L.take k = L := List.take_of_length_le (by rw [HN.out]; omega)
      rw [hT1] at hO
      go_wp2
      go_ret
      exact ⟨_, _, rfl, hcp, hO.out, hB.out⟩

set_option maxRecDepth 100000 in
set_option maxHeartbeats 4000000 in
theorem rLearn_ok (b off : Nat) (ah az : Option Addr) (n cap hcap scap : Nat) (p : Nat) (L : List (List Int)) (H S : List Int) (w : World) (hL : MatR n L) (hr : RdII w (some ⟨b, off, none⟩) L)
    (hh : H.length = n) (hs : S.length = n) (rh : RdI .i64 w ah H) (rs : RdI .i64 w az S) (hp : p < n) :
    Calls Try.prog 20 #[.slice (some ⟨b, off, none⟩) n cap, .slice ah n hcap, .int .i64 p, .slice az n scap] w fun e w' => ∃ a' cap', e = .returned (.tuple #[.slice a' n cap', .bool (decide (atD S p ≤ atD H p))]) ∧ n ≤ cap' ∧ RdII w' a' (nextM L H S p) ∧ Below w.heap.size w w' := by
  have n1 := hL.one
  have n5 := hL.five
  have hpH : p < H.length := by omega
  have hpS : p < S.length := by omega
  have e1 : atD H (p : Int) = H[p] := by simp [atD, List.getElem?_eq_getElem hpH]
  have e2 : atD S (p : Int) = S[p] := by simp [atD, List.getElem?_eq_getElem hpS]
  unfold nextM
  rw [e1, e2]
  have C3 := twinIntRows_own (some ⟨b, off, none⟩) n cap L w hL.len (by omega) hL.small hr
  have hpL : p < L.length := by rw [hL.len]; exact hp
  have HA : Hid (L[p].length = n) := (hL.at_ hpL).1
  have HLn : Hid (L.length = n) := hL.len
  have HS : Hid (S.length = n) := hs
  have HE : Hid (learnD L p S = L.set p (maxD L[p] S)) := learnD_at hpL
  obtain ⟨b', off', e', hc⟩ := hr (by omega)
  simp only [Option.some.injEq, Addr.mk.injEq, and_true] at e'
  obtain ⟨rfl, rfl⟩ := e'
  obtain ⟨u, x0, a2, cap2, rfl, hc2, hr2, hn2⟩ := hc p hpL
  rw [(hL.at_ hpL).1] at x0 hc2
  have HR2 : Hid (RdI .i64 w a2 L[p]) := hr2
  obtain ⟨b3, o3, rfl, hcH⟩ := rh (by omega)
  obtain ⟨b4, o4, rfl, hcS⟩ := rs (by omega)
  have xH := hcH p hpH
  have xS := hcS p hpS
  have HRS : Hid (RdI .i64 w (some ⟨b4, o4, none⟩) S) := rs
  generalize L[p] = A at *
  generalize H[p] = hv at *
  generalize S[p] = sv at *
  have z0 : (0 : Int) ≤ (p : Int) := by omega
  have z1 : (p : Int) < (n : Int) := by omega
  clear hL hr hc hr2 hn2 rh rs hcH hcS hh hs hpH hpS hpL e1 e2
  by_cases hlt : hv < sv
  · rw [if_pos hlt, show decide (sv ≤ hv) = false from by simp; omega]
    go_enter Try.func20, Try.ntmps20
    go_wp2_with fail
    refine C3.mono ?_
    rintro e w1 ⟨a5, cap5, rfl, hcap5, hO, hB⟩
    replace xH := cell_later hB xH
    replace xS := cell_later hB xS
    have HR : Hid (RdII w1 a5 L) := hO.rd
    have HB : Hid (Below w.heap.size w w1) := hB
    clear hO hB C3 x0
    go_wp2
    go_quiet (fail)
    go_wp2
    go_ret2
    exact ⟨_, _, rfl, hcap5, HR.out, below_drewN HB.out _⟩
  · rw [if_neg hlt, show decide (sv ≤ hv) = true from by simp; omega]
    go_enter Try.func20, Try.ntmps20
    go_wp2_with fail
    refine C3.mono ?_
    rintro e w1 ⟨a5, cap5, rfl, hcap5, hO, hB⟩
    obtain ⟨g, rfl⟩ : ∃ g, a5 = some ⟨g, 0, none⟩ := by
      obtain ⟨us, _, ⟨_, ⟨hv, h0⟩ | ⟨g, c, cur, hv, _⟩⟩, _⟩ := hO
      · rw [HLn.out] at h0; omega
      · simp only [Value.slice.injEq] at hv
        exact ⟨g, hv.1⟩
    replace xH := cell_later hB xH
    replace xS := cell_later hB xS
    replace x0 := cell_later hB x0
    have HO : Hid (OwnII w1 w.heap.size (.slice (some ⟨g, 0, none⟩) n cap5) L) := hO
    have HB : Hid (Below w.heap.size w w1) := hB
    clear hO hB C3
    go_wp2
    go_quiet (fail)
    go_wp2_with fail
    refine (rMerge_any a2 (some ⟨b4, o4, none⟩) n cap2 scap A S _ HA.out HS.out (by omega) ((HR2.out.later HB.out).later (below_drewN (Below.refl _ _) _)) ((HRS.out.later HB.out).later (below_drewN (Below.refl _ _) _))).mono ?_
    rintro e w2 ⟨a6, n6, cap6, rfl, hl6, hc6, hO6, hr6, hn6, hb6⟩
    obtain rfl : n6 = n := by rw [← hl6, maxD_len (by rw [HA.out, HS.out]), HA.out]
    have hO2 := (HO.out.later (below_drewN (Below.refl _ _) _)).later hb6
    have HB6 : Hid (Below w.heap.size w w2) := chain (below_drewN HB.out _) hb6
    obtain ⟨⟨u0, c0⟩, f0⟩ := hO2.at_ (k := p) HLn.out hp
    obtain ⟨hO3, hB3⟩ := hO2.put HLn.out p hO6.zero
    rw [← HE.out] at hO3
    have HR3 : Hid (RdII _ (some ⟨g, 0, none⟩) (learnD L p S)) := hO3.rd
    have HB3 : Hid (Below w.heap.size w _) := HB6.out.trans hB3
    clear hO2 hO3 hB3 hO6 hr6 hn6 hb6 HB6 hl6
    go_wp2
    go_ret2
    exact ⟨_, _, rfl, hcap5, HR3.out, HB3.out⟩

/-- Learn, New and Frontier of any, in one form. -/
def goodX (L : List (List Int)) (H : List Int) (p : Int) (S : List Int) : Bool := fitD H L.length && fitD S L.length && decide (0 ≤ p ∧ p < L.length)

def learnX (L : List (List Int)) (H : List Int) (p : Int) (S : List Int) : List (List Int) × Bool × Int :=
  if matD L ≠ 0 then ([], false, matD L) else if goodX L H p S = true then (nextM L H S p.toNat, decide (atD S p ≤ atD H p), 0) else ([], false, 1)

def frontX (L : List (List Int)) : List Int × Int := if matD L ≠ 0 then ([], matD L) else (frontD L, 0)

theorem fitD_iff {N : List Int} {n : Nat} : fitD N n = true ↔ N.length = n ∧ chkD N = 0 := by simp [fitD]

theorem mLearn_any (a ah az : Option Addr) (n cap h hcap s scap : Nat) (p : Int) (L : List (List Int)) (H S : List Int) (w : World) (hn : L.length = n) (hl : n ≤ 65536) (hv : ∀ v ∈ L, v.length ≤ 65536) (hr : RdII w a L)
    (hh : H.length = h) (hs : S.length = s) (h6 : h ≤ 65536) (s6 : s ≤ 65536) (rh : RdI .i64 w ah H) (rs : RdI .i64 w az S) :
    Calls Try.prog 12 #[.slice a n cap, .slice ah h hcap, .int .i64 p, .slice az s scap] w fun e w' => ∃ ay ny cy, e = .returned (.tuple #[.slice ay ny cy, .bool (learnX L H p S).2.1, .int .i64 (learnX L H p S).2.2]) ∧ (learnX L H p S).1.length = ny ∧ ny ≤ 5 ∧ RdII w' ay (learnX L H p S).1 ∧ Below w.heap.size w w' := by
  unfold learnX
  by_cases hm : matD L = 0
  · rw [if_neg (by simp [hm])]
    have hL : MatR n L := by have := matD_ok.1 hm; rwa [hn] at this
    obtain ⟨b, off, rfl, _⟩ := hr (by rw [hn]; exact hL.one)
    cases hg : goodX L H p S with
    | true =>
      unfold goodX at hg
      rw [hn] at hg
      simp only [Bool.and_eq_true, decide_eq_true_eq, fitD_iff] at hg
      obtain ⟨⟨⟨f1, f2⟩, f3, f4⟩, p0, p1⟩ := hg
      obtain ⟨q, rfl⟩ : ∃ q : Nat, p = q := ⟨p.toNat, by omega⟩
      obtain rfl : h = n := by omega
      obtain rfl : s = h := by omega
      have C := mLearn_next b off ah az s cap hcap scap q L H S w hL hr hh hs (chkD_ok.1 f2).2.2 (chkD_ok.1 f4).2.2 rh rs (by omega)
      refine C.mono fun e w' ⟨g, he, hr', hb⟩ => ?_
      have hN : MatR s (nextM L H S q) := (next_facts (p := 0) (k := 0) hL hh hs (chkD_ok.1 f4).2.2 (by omega)).1
      simp only [if_true]
      rw [show ((q : Int).toNat) = q from by omega]
      exact ⟨_, s, s, he, hN.len, hN.five, hr', hb⟩
    | false =>
      have hg' : (fitD H n && fitD S n && decide (0 ≤ p ∧ p < n)) = false := by unfold goodX at hg; rwa [hn] at hg
      refine (mLearn_arg b off ah az n cap h hcap s scap p L H S w hL hr hh hs h6 s6 rh rs hg').mono fun e w' ⟨he, hw⟩ => ?_
      subst hw
      exact ⟨none, 0, 0, by simpa using he, by simp, by omega, RdII.nil _ _, Below.refl _ _⟩
  · rw [if_pos hm]
    refine (mLearn_bad (matD L) a ah az n cap h hcap s scap p L w hm rfl hn hl hv hr).mono fun e w' ⟨he, hw⟩ => ?_
    subst hw
    exact ⟨none, 0, 0, he, rfl, by omega, RdII.nil _ _, Below.refl _ _⟩

theorem mFront_any (a : Option Addr) (n cap : Nat) (L : List (List Int)) (w : World) (hn : L.length = n) (hl : n ≤ 65536) (hcap : n ≤ cap) (hv : ∀ v ∈ L, v.length ≤ 65536) (hr : RdII w a L) :
    Calls Try.prog 13 #[.slice a n cap] w fun e w' => GivesI w w' e (frontX L) := by
  unfold frontX
  by_cases hm : matD L = 0
  · rw [if_neg (by simp [hm])]
    have hL : MatR n L := by have := matD_ok.1 hm; rwa [hn] at this
    exact mFront_ok a n cap L w hL hcap hr
  · rw [if_pos hm]
    refine (mFront_bad (matD L) a n cap L w hm rfl hn hl hv hr).mono fun e w' ⟨he, hw⟩ => ?_
    subst hw
    exact GivesI.of_no he (Below.refl _ _)

theorem mNew_any (x : Int) (w : World) :
    Calls Try.prog 11 #[.int .i64 x] w fun e w' => ∃ (a : Option Addr) (n cap : Nat) (c : Int), e = .returned (.tuple #[.slice a n cap, .int .i64 c]) ∧ ((x < 1 ∨ 5 < x) ∧ n = 0 ∧ c = 1 ∨ x = n ∧ (1 ≤ n ∧ n ≤ 5) ∧ c = 0) ∧ RdII w' a (List.replicate n (List.replicate n 0)) ∧ Below w.heap.size w w' := by
  by_cases h : x < 1 ∨ 5 < x
  · refine (mNew_no x w h).mono fun e w' ⟨he, hw⟩ => ?_
    subst hw
    exact ⟨none, 0, 0, 1, he, .inl ⟨h, rfl, rfl⟩, RdII.nil _ _, Below.refl _ _⟩
  · obtain ⟨n, rfl⟩ : ∃ n : Nat, x = n := ⟨x.toNat, by omega⟩
    refine (mNew_yes n w (by omega) (by omega)).mono fun e w' ⟨g, he, hr, hb⟩ => ?_
    exact ⟨_, n, n, 0, he, .inr ⟨rfl, ⟨by omega, by omega⟩, rfl⟩, hr, hb⟩

end Go.Proofs.Ytljikgjgcpheaaa
