/-
  What the calls of package mat answer, of the landed code.
-/
import Derived.Test.YtljikgjgcpheaaaRows
import Derived.Test.YtljikgjgcpheaaaMMem
namespace Go.Proofs.Ytljikgjgcpheaaa
open Go.RowKit Go.Lib
set_option linter.unusedVariables false

set_option maxHeartbeats 400000 in
theorem mNew_no (n : Int) (w : World) (h : n < 1 ∨ 5 < n) :
    Calls Try.prog 11 #[.int .i64 n] w fun e w' => e = .returned (.tuple #[.slice none 0 0, .int .i64 1]) ∧ w' = w := by
  by_cases h1 : n < 1
  · clear h
    go_enter Try.func11, Try.ntmps11
    go_wp2
    go_ret2
    exact ⟨rfl, rfl⟩
  · have h5 : 5 < n := by omega
    clear h
    go_enter Try.func11, Try.ntmps11
    go_wp2
    go_ret2
    exact ⟨rfl, rfl⟩

set_option maxHeartbeats 1000000 in
theorem mNew_yes (n : Nat) (w : World) (h1 : 1 ≤ n) (h5 : n ≤ 5) :
    Calls Try.prog 11 #[.int .i64 n] w fun e w' => ∃ g, e = .returned (.tuple #[.slice (some ⟨g, 0, none⟩) n n, .int .i64 0]) ∧ RdII w' (some ⟨g, 0, none⟩) (List.replicate n (List.replicate n 0)) ∧ Below w.heap.size w w' := by
  obtain ⟨w0, hmake, hO0, hB0⟩ := run_make_rows w n (by omega)
  have HO0 : Hid (OwnII w0 w.heap.size (.slice (some ⟨w.heap.size, 0, none⟩) n n) (List.replicate 0 (List.replicate n 0) ++ List.replicate (n - 0) [])) := by
    show OwnII _ _ _ _
    simpa using hO0
  have HB0 : Hid (Below w.heap.size w w0) := hB0
  clear hO0 hB0
  generalize hG : w.heap.size = g at *
  go_enter Try.func11, Try.ntmps11
  go_wp2
  go_loopw [16] (fun i wr => ∃ k : Nat, k ≤ n ∧ i = .int .i64 k ∧ Hid (OwnII wr g (.slice (some ⟨g, 0, none⟩) n n) (List.replicate k (List.replicate n 0) ++ List.replicate (n - k) [])) ∧ Hid (Below g w wr)) (fun i _ => n - (RowKit.intOf i).toNat)
  case atStart => exact ⟨0, Nat.zero_le _, rfl, HO0, HB0⟩
  case round =>
  clear HO0 HB0 hmake
  obtain ⟨k, hk, rfl, hO, hB⟩ := hrel
  by_cases hlt : k < n
  · obtain ⟨w1, hmake, hO1, hB1⟩ := run_make_ints wr n (by omega)
    have hO2 := hO.out.later hB1
    obtain ⟨⟨u0, c0⟩, f0⟩ := hO2.at_ (k := k) (by simp; omega) hlt
    obtain ⟨hO3, hB3⟩ := hO2.put (by simp; omega) k hO1.zero
    rw [mid_set hlt] at hO3
    have HO3 : Hid (OwnII _ g (.slice (some ⟨g, 0, none⟩) n n) _) := hO3
    have HB3 : Hid (Below g w _) := (hB.out.trans (hB1.mono (by rw [← hG]; exact hB.out.size))).trans hB3
    clear hO hB hO1 hB1 hO2 hO3 hB3
    go_wp2
    go_roundw
    case rel => exact ⟨k + 1, by omega, by go_num, HO3, HB3⟩
    case measure => simp [RowKit.intOf]; omega
  · obtain rfl : k = n := by omega
    rw [Nat.sub_self, List.replicate_zero, List.append_nil] at hO
    have HR : Hid (RdII wr (some ⟨g, 0, none⟩) _) := hO.out.rd
    go_wp2
    go_ret2
    exact ⟨g, rfl, HR.out, hB.out⟩

set_option maxHeartbeats 400000 in
theorem mCheck_len (a : Option Addr) (n cap : Nat) (w : World) (h : n < 1 ∨ 5 < n) (hb : n ≤ 65536) :
    Calls Try.prog 14 #[.slice a n cap] w fun e w' => e = .returned (.int .i64 2) ∧ w' = w := by
  rcases h with h | h
  · obtain rfl : n = 0 := by omega
    go_enter Try.func14, Try.ntmps14
    go_wp2
    go_ret
    exact ⟨rfl, rfl⟩
  · go_enter Try.func14, Try.ntmps14
    go_wp2
    go_ret
    exact ⟨rfl, rfl⟩

theorem evenD_take {L : List (List Int)} {m k : Nat} (hk : k < L.length) (h : evenD m (L.take k) = true) : evenD m (L.take (k + 1)) = decide (L[k].length = m) := by
  unfold evenD at h ⊢
  rw [List.take_succ_eq_append_getElem hk, List.all_append, h]
  simp

theorem evenD_no {L : List (List Int)} {m k : Nat} (hk : k < L.length) (h : L[k].length ≠ m) : evenD m L = false := by
  unfold evenD
  rw [List.all_eq_false]
  exact ⟨_, List.getElem_mem hk, by simpa using h⟩

set_option maxRecDepth 100000 in
set_option maxHeartbeats 2000000 in
theorem mCheck_few (b off n cap : Nat) (L : List (List Int)) (w : World) (hn : L.length = n) (h1 : 1 ≤ n) (h5 : n ≤ 5) (hv : ∀ v ∈ L, v.length ≤ 65536) (hr : RdII w (some ⟨b, off, none⟩) L) :
    Calls Try.prog 14 #[.slice (some ⟨b, off, none⟩) n cap] w fun e w' => e = .returned (.int .i64 (matD L)) ∧ w' = w := by
  have HN : Hid (L.length = n) := hn
  have HR : Hid (RdII w (some ⟨b, off, none⟩) L) := hr
  have H0 : Hid (0 < L.length) := by show _ < _; omega
  have HD : Hid (matD L = if evenD n L = true then chksD L else 2) := by
    show _ = _
    unfold matD
    rw [if_neg (by omega), hn]
  clear hn hr
  go_enter Try.func14, Try.ntmps14
  go_wp2
  go_loop [18] (fun i => ∃ k : Nat, k ≤ n ∧ i = .int .i64 k ∧ Hid (evenD n (L.take k) = true)) (fun i => n - (RowKit.intOf i).toNat)
  case atStart => exact ⟨0, Nat.zero_le _, rfl, rfl⟩
  case round =>
  obtain ⟨k, hk, rfl, hT⟩ := hrel
  by_cases hlt : k < n
  · have hkl : k < L.length := by rw [HN.out]; exact hlt
    obtain ⟨b', off', e', hc⟩ := HR.out H0.out
    simp only [Option.some.injEq, Addr.mk.injEq, and_true] at e'
    obtain ⟨rfl, rfl⟩ := e'
    obtain ⟨u, x0, a2, cap2, rfl, hc2, hr2, hn2⟩ := hc k hkl
    have hvl := hv _ (List.getElem_mem hkl)
    have HS : Hid (evenD n (L.take (k + 1)) = decide (L[k].length = n)) := evenD_take hkl hT.out
    have HX : Hid (L[k].length ≠ n → evenD n L = false) := fun h => evenD_no hkl h
    clear hc hr2 hn2 hT
    generalize L[k].length = m at *
    clear hkl
    by_cases hm : m = n
    · subst hm
      have HT' : Hid (evenD m (L.take (k + 1)) = true) := by rw [HS.out]; show _ = _; simp
      clear HS HX
      go_wp2
      go_round
      case rel => exact ⟨k + 1, by omega, by go_num, HT'⟩
      case measure => simp [RowKit.intOf]; omega
    · have HE : Hid (matD L = 2) := by rw [HD.out, HX.out hm]; rfl
      have hpn : ((m : Int) != (n : Int)) = true := by simp; omega
      clear HS HX hm
      go_wp2
      go_ret
      exact ⟨by rw [HE.out]; rfl, rfl⟩
  have HV : Hid (evenD n L = true) := by
    have h := hT.out
    rw [List.take_of_length_le (by rw [HN.out]; omega)] at h
    exact h
  have HE : Hid (matD L = chksD L) := by rw [HD.out, HV.out]; rfl
  obtain rfl : n = k := by omega
  clear hT hlt hk HD
  go_wp2
  go_loop [30] (fun i => ∃ k : Nat, k ≤ n ∧ i = .int .i64 k ∧ Hid (chksD L = chksD (L.drop k))) (fun i => n - (RowKit.intOf i).toNat)
  case atStart => exact ⟨0, Nat.zero_le _, rfl, rfl⟩
  case round =>
  obtain ⟨k, hk, rfl, hT⟩ := hrel
  by_cases hlt : k < n
  · have hkl : k < L.length := by rw [HN.out]; exact hlt
    obtain ⟨b', off', e', hc⟩ := HR.out H0.out
    simp only [Option.some.injEq, Addr.mk.injEq, and_true] at e'
    obtain ⟨rfl, rfl⟩ := e'
    obtain ⟨u, x0, a2, cap2, rfl, hc2, hr2, hn2⟩ := hc k hkl
    have hvl := hv _ (List.getElem_mem hkl)
    have HS : Hid (chksD L = if chkD L[k] ≠ 0 then chkD L[k] else chksD (L.drop (k + 1))) := by rw [← chksD_step hkl]; exact hT
    clear hc hn2 hT
    generalize L[k] = N at *
    clear hkl
    obtain ⟨m, hm⟩ : ∃ m, N.length = m := ⟨_, rfl⟩
    rw [hm] at x0 hc2 hvl
    have C := dCheck_any a2 m cap2 N w hm (by omega) hr2
    clear hm hr2
    generalize chkD N = c at *
    by_cases hc0 : c = 0
    · subst hc0
      have HT' : Hid (chksD L = chksD (L.drop (k + 1))) := by have := HS.out; rwa [if_neg (by simp)] at this
      clear HS
      go_wp2_with fail
      refine C.mono ?_
      rintro e w1 ⟨rfl, rfl⟩
      go_wp2
      go_round
      case rel => exact ⟨k + 1, by omega, by go_num, HT'⟩
      case measure => simp [RowKit.intOf]; omega
    · have HT' : Hid (matD L = c) := by rw [HE.out]; have := HS.out; rwa [if_pos hc0] at this
      have hcn : (c != 0) = true := by simp [hc0]
      clear HS hc0
      go_wp2_with fail
      refine C.mono ?_
      rintro e w1 ⟨rfl, rfl⟩
      go_wp2
      go_ret
      exact ⟨by rw [HT'.out]; rfl, rfl⟩
  have HC : Hid (matD L = 0) := by
    have h := hT.out
    rw [List.drop_of_length_le (by rw [HN.out]; omega)] at h
    show _ = _
    rw [HE.out]
    exact h
  go_wp2
  go_ret
  exact ⟨by rw [HC.out]; rfl, rfl⟩

theorem mCheck_any (a : Option Addr) (n cap : Nat) (L : List (List Int)) (w : World) (hn : L.length = n) (hl : n ≤ 65536) (hv : ∀ v ∈ L, v.length ≤ 65536) (hr : RdII w a L) :
    Calls Try.prog 14 #[.slice a n cap] w fun e w' => e = .returned (.int .i64 (matD L)) ∧ w' = w := by
  by_cases h : n < 1 ∨ 5 < n
  · have e : matD L = 2 := by unfold matD; rw [if_pos (by omega)]
    rw [e]
    exact mCheck_len a n cap w h hl
  · obtain ⟨b, off, rfl, _⟩ := hr (by omega)
    exact mCheck_few b off n cap L w hn (by omega) (by omega) hv hr

theorem mCheck_of {c : Int} (a : Option Addr) (n cap : Nat) (L : List (List Int)) (w : World) (hc : matD L = c) (hn : L.length = n) (hl : n ≤ 65536) (hv : ∀ v ∈ L, v.length ≤ 65536) (hr : RdII w a L) :
    Calls Try.prog 14 #[.slice a n cap] w fun e w' => e = .returned (.int .i64 c) ∧ w' = w := by
  subst hc
  exact mCheck_any a n cap L w hn hl hv hr

/-- Is it a right vector of so many numbers? -/
def fitD (N : List Int) (n : Nat) : Bool := decide (N.length = n) && decide (chkD N = 0)

set_option maxHeartbeats 1000000 in
theorem mRight_any (a : Option Addr) (m cap n : Nat) (N : List Int) (w : World) (hm : N.length = m) (hl : m ≤ 65536) (hn : n ≤ 65536) (hr : RdI .i64 w a N) :
    Calls Try.prog 26 #[.slice a m cap, .int .i64 n] w fun e w' => e = .returned (.bool (fitD N n)) ∧ w' = w := by
  have C := dCheck_any a m cap N w hm hl hr
  unfold fitD
  rw [hm]
  clear hm hr
  generalize chkD N = c at *
  by_cases h : m = n
  · subst h
    go_enter Try.func26, Try.ntmps26
    go_wp2_with fail
    refine C.mono ?_
    rintro e w1 ⟨rfl, rfl⟩
    by_cases hc : c = 0
    · subst hc
      go_wp2
      go_ret
      exact ⟨by simp, rfl⟩
    · have hcn : (c == 0) = false := by simp [hc]
      go_wp2
      go_ret
      exact ⟨by simp [hc], rfl⟩
  · have hmn : ((m : Int) == (n : Int)) = false := by simp; omega
    go_enter Try.func26, Try.ntmps26
    go_wp2
    go_ret
    exact ⟨by simp [h], rfl⟩

set_option maxRecDepth 100000 in
set_option maxHeartbeats 1000000 in
theorem mClone_some (b off n cap : Nat) (L : List (List Int)) (w : World) (hL : MatR n L) (hr : RdII w (some ⟨b, off, none⟩) L) :
    Calls Try.prog 27 #[.slice (some ⟨b, off, none⟩) n cap] w fun e w' => e = .returned (.slice (some ⟨w.heap.size, 0, none⟩) n n) ∧ OwnII w' w.heap.size (.slice (some ⟨w.heap.size, 0, none⟩) n n) L ∧ Below w.heap.size w w' := by
  have HL : Hid (MatR n L) := hL
  have n1 := hL.one
  have n5 := hL.five
  have HR : Hid (RdII w (some ⟨b, off, none⟩) L) := hr
  obtain ⟨w0, hmake, hO0, hB0⟩ := run_make_rows w n (by omega)
  have HO0 : Hid (OwnII w0 w.heap.size (.slice (some ⟨w.heap.size, 0, none⟩) n n) (L.take 0 ++ List.replicate (n - 0) [])) := by
    show OwnII _ _ _ _
    simpa using hO0
  have HB0 : Hid (Below w.heap.size w w0) := hB0
  clear hO0 hB0 hL hr
  generalize hG : w.heap.size = g at *
  go_enter Try.func27, Try.ntmps27
  go_wp2
  go_loopw [11] (fun i wr => ∃ k : Nat, k ≤ n ∧ i = .int .i64 k ∧ Hid (OwnII wr g (.slice (some ⟨g, 0, none⟩) n n) (L.take k ++ List.replicate (n - k) [])) ∧ Hid (Below g w wr)) (fun i _ => n - (RowKit.intOf i).toNat)
  case atStart => exact ⟨0, Nat.zero_le _, rfl, HO0, HB0⟩
  case round =>
  clear HO0 HB0 hmake
  obtain ⟨k, hk, rfl, hO, hB⟩ := hrel
  by_cases hlt : k < n
  · have hkl : k < L.length := by rw [HL.out.len]; exact hlt
    have hB' : Below w.heap.size w wr := by rw [hG]; exact hB.out
    obtain ⟨b', off', e', hc⟩ := (HR.out.later hB') (by omega)
    simp only [Option.some.injEq, Addr.mk.injEq, and_true] at e'
    obtain ⟨rfl, rfl⟩ := e'
    obtain ⟨u, x0, a2, cap2, rfl, hc2, hr2, hn2⟩ := hc k hkl
    have hvl := (HL.out.at_ hkl).1
    have HT : Hid ((L.take k ++ List.replicate (n - k) ([] : List Int)).set k L[k] = L.take (k + 1) ++ List.replicate (n - (k + 1)) []) := mid_take HL.out.len hlt
    have HLen : Hid ((L.take k ++ List.replicate (n - k) ([] : List Int)).length = n) := by
      show _ = _
      rw [List.length_append, List.length_take, List.length_replicate]
      omega
    clear hc hn2
    generalize L[k] = N at *
    clear hkl
    rw [hvl] at x0 hc2
    have HM : Hid (N.length = n) := hvl
    obtain ⟨b2, o2, rfl, _⟩ := hr2 (by omega)
    have HR2 : Hid (RdI .i64 wr (some ⟨b2, o2, none⟩) N) := hr2
    clear hvl hr2
    go_wp2_with fail
    refine (cloneInts_some b2 o2 n cap2 N _ HM.out n1 (by omega) HR2.out).mono ?_
    rintro e w1 ⟨g1, cap1, rfl, hcap1, ho1, hb1⟩
    have hO2 := hO.out.later hb1
    obtain ⟨⟨u0, c0⟩, f0⟩ := hO2.at_ (k := k) HLen.out hlt
    obtain ⟨hO3, hB3⟩ := hO2.put HLen.out k ho1.zero
    rw [HT.out] at hO3
    have HO3 : Hid (OwnII _ g (.slice (some ⟨g, 0, none⟩) n n) _) := hO3
    have HB3 : Hid (Below g w _) := (hB.out.trans (hb1.mono (by rw [← hG]; exact hB.out.size))).trans hB3
    clear hO hB ho1 hb1 hO2 hO3 hB3 hB'
    go_wp2
    go_roundw
    case rel => exact ⟨k + 1, by omega, by go_num, HO3, HB3⟩
    case measure => simp [RowKit.intOf]; omega
  · obtain rfl : k = n := by omega
    rw [Nat.sub_self, List.replicate_zero, List.append_nil, List.take_of_length_le (by rw [HL.out.len]; omega)] at hO
    go_wp2
    go_ret
    exact ⟨rfl, hO.out, hB.out⟩

/-- What a call that makes rows of numbers hands back. -/
def GivesM (w w' : World) (e : Ending) (n : Nat) (L : List (List Int)) (ok : Bool) : Prop :=
  ∃ g, e = .returned (.tuple #[.slice (some ⟨g, 0, none⟩) n n, .bool ok, .int .i64 0]) ∧ RdII w' (some ⟨g, 0, none⟩) L ∧ Below w.heap.size w w'

set_option maxHeartbeats 1000000 in
theorem mLearn_bad (c : Int) (a ah az : Option Addr) (n cap h hcap s scap : Nat) (p : Int) (L : List (List Int)) (w : World) (hc : c ≠ 0) (hD : matD L = c) (hn : L.length = n) (hl : n ≤ 65536) (hv : ∀ v ∈ L, v.length ≤ 65536) (hr : RdII w a L) :
    Calls Try.prog 12 #[.slice a n cap, .slice ah h hcap, .int .i64 p, .slice az s scap] w fun e w' => e = .returned (.tuple #[.slice none 0 0, .bool false, .int .i64 c]) ∧ w' = w := by
  have C := mCheck_of a n cap L w hD hn hl hv hr
  have hcn : (c != 0) = true := by simp [hc]
  clear hn hv hr hD
  go_enter Try.func12, Try.ntmps12
  go_wp2_with fail
  refine C.mono ?_
  rintro e w1 ⟨rfl, rfl⟩
  go_wp2
  go_ret3
  exact ⟨rfl, rfl⟩

set_option maxHeartbeats 2000000 in
theorem mLearn_arg (b off : Nat) (ah az : Option Addr) (n cap h hcap s scap : Nat) (p : Int) (L : List (List Int)) (H S : List Int) (w : World) (hL : MatR n L) (hr : RdII w (some ⟨b, off, none⟩) L)
    (hh : H.length = h) (hs : S.length = s) (h6 : h ≤ 65536) (s6 : s ≤ 65536) (rh : RdI .i64 w ah H) (rs : RdI .i64 w az S) (hbad : (fitD H n && fitD S n && decide (0 ≤ p ∧ p < n)) = false) :
    Calls Try.prog 12 #[.slice (some ⟨b, off, none⟩) n cap, .slice ah h hcap, .int .i64 p, .slice az s scap] w fun e w' => e = .returned (.tuple #[.slice none 0 0, .bool false, .int .i64 1]) ∧ w' = w := by
  have n1 := hL.one
  have n5 := hL.five
  have C := mCheck_of (some ⟨b, off, none⟩) n cap L w hL.ok hL.len (by omega) (fun v hv => by have := (hL.each v hv).1; omega) hr
  have C1 := mRight_any ah h hcap n H w hh h6 (by omega) rh
  have C2 := mRight_any az s scap n S w hs s6 (by omega) rs
  clear hL hr hh hs rh rs
  generalize fitD H n = f1 at *
  generalize fitD S n = f2 at *
  cases f1 with
  | false =>
    clear hbad C2
    go_enter Try.func12, Try.ntmps12
    go_wp2_with fail
    refine C.mono ?_
    rintro e w1 ⟨rfl, rfl⟩
    go_wp2_with fail
    refine C1.mono ?_
    rintro e w1 ⟨rfl, rfl⟩
    go_wp2
    go_ret3
    exact ⟨rfl, rfl⟩
  | true =>
    cases f2 with
    | false =>
      clear hbad
      go_enter Try.func12, Try.ntmps12
      go_wp2_with fail
      refine C.mono ?_
      rintro e w1 ⟨rfl, rfl⟩
      go_wp2_with fail
      refine C1.mono ?_
      rintro e w1 ⟨rfl, rfl⟩
      go_wp2_with fail
      refine C2.mono ?_
      rintro e w1 ⟨rfl, rfl⟩
      go_wp2
      go_ret3
      exact ⟨rfl, rfl⟩
    | true =>
      simp only [Bool.and_self, Bool.true_and, decide_eq_false_iff_not] at hbad
      by_cases hp : p < 0
      · clear hbad
        go_enter Try.func12, Try.ntmps12
        go_wp2_with fail
        refine C.mono ?_
        rintro e w1 ⟨rfl, rfl⟩
        go_wp2_with fail
        refine C1.mono ?_
        rintro e w1 ⟨rfl, rfl⟩
        go_wp2_with fail
        refine C2.mono ?_
        rintro e w1 ⟨rfl, rfl⟩
        go_wp2
        go_ret3
        exact ⟨rfl, rfl⟩
      · have hp2 : (n : Int) ≤ p := by omega
        clear hbad
        go_enter Try.func12, Try.ntmps12
        go_wp2_with fail
        refine C.mono ?_
        rintro e w1 ⟨rfl, rfl⟩
        go_wp2_with fail
        refine C1.mono ?_
        rintro e w1 ⟨rfl, rfl⟩
        go_wp2_with fail
        refine C2.mono ?_
        rintro e w1 ⟨rfl, rfl⟩
        go_wp2
        go_ret3
        exact ⟨rfl, rfl⟩

set_option maxRecDepth 100000 in
set_option maxHeartbeats 4000000 in
theorem mLearn_ok (b off : Nat) (ah az : Option Addr) (n cap hcap scap : Nat) (p : Nat) (L : List (List Int)) (H S : List Int) (w : World) (hL : MatR n L) (hr : RdII w (some ⟨b, off, none⟩) L)
    (hh : H.length = n) (hs : S.length = n) (kh : rightD H = true) (ks : rightD S = true) (rh : RdI .i64 w ah H) (rs : RdI .i64 w az S) (hp : p < n) (hpH : p < H.length) (hpS : p < S.length) :
    Calls Try.prog 12 #[.slice (some ⟨b, off, none⟩) n cap, .slice ah n hcap, .int .i64 p, .slice az n scap] w fun e w' => GivesM w w' e n (if H[p] < S[p] then L else learnD L p S) (decide (S[p] ≤ H[p])) := by
  have n1 := hL.one
  have n5 := hL.five
  have C := mCheck_of (some ⟨b, off, none⟩) n cap L w hL.ok hL.len (by omega) (fun v hv => by have := (hL.each v hv).1; omega) hr
  have cH : chkD H = 0 := chkD_ok.2 ⟨by omega, by omega, kh⟩
  have cS : chkD S = 0 := chkD_ok.2 ⟨by omega, by omega, ks⟩
  have C1 := mRight_any ah n hcap n H w hh (by omega) (by omega) rh
  have C2 := mRight_any az n scap n S w hs (by omega) (by omega) rs
  rw [show fitD H n = true from by simp [fitD, hh, cH]] at C1
  rw [show fitD S n = true from by simp [fitD, hs, cS]] at C2
  have C3 := mClone_some b off n cap L w hL hr
  have hpL : p < L.length := by rw [hL.len]; exact hp
  have HA : Hid (chkD L[p] = 0 ∧ L[p].length = n) := ⟨chkD_ok.2 ⟨by have := (hL.at_ hpL).1; omega, by have := (hL.at_ hpL).1; omega, (hL.at_ hpL).2⟩, (hL.at_ hpL).1⟩
  have HLn : Hid (L.length = n) := hL.len
  have HS : Hid (S.length = n ∧ chkD S = 0) := ⟨hs, cS⟩
  have HE : Hid (learnD L p S = L.set p (maxD L[p] S)) := learnD_at hpL
  obtain ⟨b', off', e', hc⟩ := hr (by omega)
  simp only [Option.some.injEq, Addr.mk.injEq, and_true] at e'
  obtain ⟨rfl, rfl⟩ := e'
  obtain ⟨u, x0, a2, cap2, rfl, hc2, hr2, hn2⟩ := hc p hpL
  rw [(hL.at_ hpL).1] at x0 hc2
  obtain ⟨b2, o2, rfl, _⟩ := hr2 (by have := (hL.at_ hpL).1; omega)
  have HR2 : Hid (RdI .i64 w (some ⟨b2, o2, none⟩) L[p]) := hr2
  obtain ⟨b3, o3, rfl, hcH⟩ := rh (by omega)
  obtain ⟨b4, o4, rfl, hcS⟩ := rs (by omega)
  have xH := hcH p hpH
  have xS := hcS p hpS
  have HRS : Hid (RdI .i64 w (some ⟨b4, o4, none⟩) S) := rs
  generalize L[p] = A at *
  generalize H[p] = hv at *
  generalize S[p] = sv at *
  have z0 : (0 : Int) ≤ (p : Int) := by omega
  have z1 : (p : Int) < (n : Int) := by omega
  clear hL hr hc hr2 hn2 rh rs hcH hcS cH cS kh ks hh hs hpH hpS hpL
  by_cases hlt : hv < sv
  · rw [if_pos hlt, show decide (sv ≤ hv) = false from by simp; omega]
    go_enter Try.func12, Try.ntmps12
    go_wp2_with fail
    refine C.mono ?_
    rintro e w1 ⟨rfl, hw⟩
    subst w1
    go_wp2_with fail
    refine C1.mono ?_
    rintro e w1 ⟨rfl, hw⟩
    subst w1
    go_wp2_with fail
    refine C2.mono ?_
    rintro e w1 ⟨rfl, hw⟩
    subst w1
    go_wp2_with fail
    refine C3.mono ?_
    rintro e w1 ⟨rfl, hO, hB⟩
    replace xH := cell_later hB xH
    replace xS := cell_later hB xS
    have HR : Hid (RdII w1 (some ⟨w.heap.size, 0, none⟩) L) := hO.rd
    have HB : Hid (Below w.heap.size w w1) := hB
    clear hO hB C C1 C2 C3 x0
    go_wp2
    go_quiet (fail)
    go_wp2
    go_ret3
    exact ⟨_, rfl, HR.out, below_drewN HB.out _⟩
  · rw [if_neg hlt, show decide (sv ≤ hv) = true from by simp; omega]
    go_enter Try.func12, Try.ntmps12
    go_wp2_with fail
    refine C.mono ?_
    rintro e w1 ⟨rfl, hw⟩
    subst w1
    go_wp2_with fail
    refine C1.mono ?_
    rintro e w1 ⟨rfl, hw⟩
    subst w1
    go_wp2_with fail
    refine C2.mono ?_
    rintro e w1 ⟨rfl, hw⟩
    subst w1
    go_wp2_with fail
    refine C3.mono ?_
    rintro e w1 ⟨rfl, hO, hB⟩
    replace xH := cell_later hB xH
    replace xS := cell_later hB xS
    replace x0 := cell_later hB x0
    have HO : Hid (OwnII w1 w.heap.size (.slice (some ⟨w.heap.size, 0, none⟩) n n) L) := hO
    have HB : Hid (Below w.heap.size w w1) := hB
    clear hO hB C C1 C2 C3
    go_wp2
    go_quiet (fail)
    go_wp2_with fail
    refine (dMerge_some b2 o2 b4 o4 n cap2 scap A S _ HA.out.2 HS.out.1 n1 (by omega) ((HR2.out.later HB.out).later (below_drewN (Below.refl _ _) _)) ((HRS.out.later HB.out).later (below_drewN (Below.refl _ _) _)) HA.out.1 HS.out.2).mono ?_
    rintro e w2 ⟨a5, n5', cap5, rfl, hl5, _, hc5, hO5, hr5, hn5, hb5⟩
    simp only at hl5 hO5 hr5
    obtain rfl : n5' = n := by rw [← hl5, maxD_len (by rw [HA.out.2, HS.out.1]), HA.out.2]
    have hO2 := (HO.out.later (below_drewN (Below.refl _ _) _)).later hb5
    have HB5 : Hid (Below w.heap.size w w2) := chain (below_drewN HB.out _) hb5
    obtain ⟨⟨u0, c0⟩, f0⟩ := hO2.at_ (k := p) HLn.out hp
    obtain ⟨hO3, hB3⟩ := hO2.put HLn.out p hO5.zero
    rw [← HE.out] at hO3
    have HR3 : Hid (RdII _ (some ⟨w.heap.size, 0, none⟩) (learnD L p S)) := hO3.rd
    have HB3 : Hid (Below w.heap.size w _) := HB5.out.trans hB3
    clear hO2 hO3 hB3 hO5 hr5 hn5 hb5 HB5 hl5
    go_wp2
    go_ret3
    exact ⟨_, rfl, HR3.out, HB3.out⟩

theorem MatR.small {n : Nat} {L : List (List Int)} (h : MatR n L) : ∀ v ∈ L, v.length ≤ 65536 := fun v hv => by
  have := (h.each v hv).1
  have := h.five
  omega

theorem MatR.all64 {n : Nat} {L : List (List Int)} (h : MatR n L) : ∀ v ∈ L, v.length ≤ 65536 ∧ All64 v := fun v hv => ⟨h.small v hv, right64 (h.each v hv).2⟩

set_option maxHeartbeats 1000000 in
theorem mFront_bad (c : Int) (a : Option Addr) (n cap : Nat) (L : List (List Int)) (w : World) (hc : c ≠ 0) (hD : matD L = c) (hn : L.length = n) (hl : n ≤ 65536) (hv : ∀ v ∈ L, v.length ≤ 65536) (hr : RdII w a L) :
    Calls Try.prog 13 #[.slice a n cap] w fun e w' => e = .returned (.tuple #[.slice none 0 0, .int .i64 c]) ∧ w' = w := by
  have C := mCheck_of a n cap L w hD hn hl hv hr
  have hcn : (c != 0) = true := by simp [hc]
  clear hn hv hr hD
  go_enter Try.func13, Try.ntmps13
  go_wp2_with fail
  refine C.mono ?_
  rintro e w1 ⟨rfl, rfl⟩
  go_wp2
  go_ret2
  exact ⟨rfl, rfl⟩

/-- What a right matrix's frontier is. -/
def frontD (L : List (List Int)) : List Int := L.foldl minD (L[0]?.getD [])

theorem frontD_least {n : Nat} {L : List (List Int)} (h : MatR n L) : leastD L = (frontD L, 0) := by
  have h0 : 0 < L.length := by rw [h.len]; exact h.one
  have hc : chksD L = 0 := chksD_zero.2 fun v hv => chkD_ok.2 ⟨by have := (h.each v hv).1; have := h.one; omega, by have := (h.each v hv).1; have := h.five; omega, (h.each v hv).2⟩
  have he : evenD L[0].length L = true := evenD_iff.2 fun v hv => by rw [(h.each v hv).1, (h.at_ h0).1]
  rw [leastD_ok h0 hc he]
  unfold frontD
  rw [List.getElem?_eq_getElem h0]
  rfl

set_option maxHeartbeats 1000000 in
theorem mFront_ok (a : Option Addr) (n cap : Nat) (L : List (List Int)) (w : World) (hL : MatR n L) (hcap : n ≤ cap) (hr : RdII w a L) :
    Calls Try.prog 13 #[.slice a n cap] w fun e w' => GivesI w w' e (frontD L, 0) := by
  have C := mCheck_of a n cap L w hL.ok hL.len (by have := hL.five; omega) hL.small hr
  have C1 := dotLeast a n cap L w hL.len (by have := hL.five; omega) hcap hL.all64 hr
  rw [frontD_least hL] at C1
  clear hL hr
  go_enter Try.func13, Try.ntmps13
  go_wp2_with fail
  refine C.mono ?_
  rintro e w1 ⟨rfl, hw⟩
  subst w1
  go_wp2_with fail
  refine C1.mono ?_
  rintro e w1 ⟨a5, n5, c5, rfl, h1, h2, h3, h4, h6, h7, h8⟩
  have HX : Hid (GivesI w w1 _ (frontD L, 0)) := ⟨a5, n5, c5, rfl, h1, h2, h3, h4, h6, h7, h8⟩
  clear h1 h4 h6 h7 h8
  simp only
  go_wp2
  go_ret2
  exact HX.out

end Go.Proofs.Ytljikgjgcpheaaa
