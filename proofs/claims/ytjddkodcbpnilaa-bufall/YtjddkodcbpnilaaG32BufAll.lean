/-
  Texts of the proof of BufAll, one behind the other.
-/
import Derived.Test.YtjddkodcbpnilaaRows
import Derived.Test.YtjddkodcbpnilaaG20BufAll
import Derived.Test.YtjddkodcbpnilaaG18BufAll
import Derived.Laws.OwnMore
import Derived.Test.YtjddkodcbpnilaaG3BufAll
import Derived.Test.YtjddkodcbpnilaaG31BufAll
namespace Go.Proofs.Ytjddkodcbpnilaa
open Go.RowKit Go.Lib
set_option linter.unusedVariables false

theorem ofHeld {W w : World} {P Q : Prop} (h : P ∧ Q ∧ Hid (Below w.heap.size w W)) : Below w.heap.size w W := h.2.2.out

theorem keepTwoV {W w w' : World} {b c o p : Nat} {x y : Value} (hb : Below w.heap.size w w')
    (h : w.cell? ⟨b, o, none⟩ = some x ∧ w.cell? ⟨c, p, none⟩ = some y ∧ Hid (Below W.heap.size W w)) :
    w'.cell? ⟨b, o, none⟩ = some x ∧ w'.cell? ⟨c, p, none⟩ = some y ∧ Hid (Below W.heap.size W w') :=
  ⟨cell_later hb h.1, cell_later hb h.2.1, chain h.2.2.out hb⟩

theorem rows_take_succ {l m : List (List Int)} {k : Nat} (h : l.take k = m.take k) (hl : k < l.length) (hm : k < m.length) (hx : l[k] = m[k]) : l.take (k + 1) = m.take (k + 1) := by
  rw [List.take_succ_eq_append_getElem hl, List.take_succ_eq_append_getElem hm, h, hx]

theorem keepRow2 {B b c o p : Nat} {W W' : World} {x y : Value} (hb : Below B W W') (h0 : b < B ∧ c < B) (h : W.cell? ⟨b, o, none⟩ = some x ∧ W.cell? ⟨c, p, none⟩ = some y) : W'.cell? ⟨b, o, none⟩ = some x ∧ W'.cell? ⟨c, p, none⟩ = some y :=
  ⟨(hb.cell (p := ⟨b, o, none⟩) h0.1).trans h.1, (hb.cell (p := ⟨c, p, none⟩) h0.2).trans h.2⟩

theorem chksD_step {L : List (List Int)} {k : Nat} (hk : k < L.length) : chksD (L.drop k) = if chkD L[k] ≠ 0 then chkD L[k] else chksD (L.drop (k + 1)) := by
  rw [List.drop_eq_getElem_cons hk, chksD]

theorem chksD_ok : ∀ {L : List (List Int)}, chksD L = 0 → ∀ v ∈ L, chkD v = 0
  | [], _, v, hv => by cases hv
  | u :: L, h, v, hv => by
    rw [chksD] at h
    by_cases hu : chkD u = 0
    · rw [if_neg (by simp [hu])] at h
      rcases List.mem_cons.1 hv with rfl | hv
      · exact hu
      · exact chksD_ok h v hv
    · rw [if_pos hu] at h
      exact absurd h hu

theorem leastD_err {L : List (List Int)} (h0 : 0 < L.length) (h : chksD L ≠ 0) : leastD L = ([], chksD L) := by
  match L, h0 with
  | v :: L, _ => simp only [leastD]; rw [if_pos h]

theorem leastD_odd {L : List (List Int)} (h0 : 0 < L.length) (h : chksD L = 0) (h2 : evenD L[0].length L = false) : leastD L = ([], 2) := by
  match L, h0 with
  | v :: L, _ =>
    simp only [List.getElem_cons_zero] at h2
    simp only [leastD]
    rw [if_neg (by simp [h]), if_neg (by simp [h2])]

theorem leastD_ok {L : List (List Int)} (h0 : 0 < L.length) (h : chksD L = 0) (h2 : evenD L[0].length L = true) : leastD L = (L.foldl minD L[0], 0) := by
  match L, h0 with
  | v :: L, _ =>
    simp only [List.getElem_cons_zero] at h2 ⊢
    simp only [leastD]
    rw [if_neg (by simp [h]), if_pos h2]

theorem evenD_at {L : List (List Int)} {n k : Nat} (h : evenD n L = true) (hk : k < L.length) : L[k].length = n := by
  unfold evenD at h
  rw [List.all_eq_true] at h
  simpa using h _ (List.getElem_mem hk)

/-- Halfway: the first k numbers are the lesser ones already. -/
def midD (P N : List Int) (k : Nat) : List Int := (minD P N).take k ++ P.drop k

theorem midD_len {P N : List Int} {k : Nat} (h : P.length = N.length) (hk : k ≤ P.length) : (midD P N k).length = P.length := by
  unfold midD
  rw [List.length_append, List.length_take, List.length_drop, minD_len h]
  omega

theorem midD_at {P N : List Int} {k : Nat} (h : P.length = N.length) (hk : k < P.length) (h2 : k < (midD P N k).length) : (midD P N k)[k] = P[k] := by
  have e : (midD P N k)[k]? = some P[k] := by
    unfold midD
    rw [List.getElem?_append_right (by rw [List.length_take, minD_len h]; omega), List.length_take, minD_len h, List.getElem?_drop, show k + (k - min k P.length) = k from by omega, List.getElem?_eq_getElem hk]
  rw [List.getElem?_eq_getElem h2] at e
  exact Option.some.inj e

theorem midD_set {P N : List Int} {k : Nat} (h : P.length = N.length) (hk : k < P.length) (hk2 : k < N.length) : (midD P N k).set k (min P[k] N[k]) = midD P N (k + 1) := by
  unfold midD
  have hl : ((minD P N).take k).length = k := by rw [List.length_take, minD_len h]; omega
  rw [List.set_append_right _ _ (by omega), hl, Nat.sub_self, List.drop_eq_getElem_cons hk, List.set_cons_zero, List.take_succ_eq_append_getElem (by rw [minD_len h]; exact hk), minD_at hk hk2]
  simp

theorem midD_end {P N : List Int} (h : P.length = N.length) : midD P N P.length = minD P N := by
  unfold midD
  rw [List.drop_length, List.append_nil, List.take_of_length_le (by rw [minD_len h]; exact Nat.le_refl _)]

theorem OwnI.at_ {w : World} {B g n cap k : Nat} {N : List Int} (h : OwnI w B (.slice (some ⟨g, 0, none⟩) n cap) N) (hn : N.length = n) (hk : k < n) : w.cell? ⟨g, k, none⟩ = some (.int .i64 (N[k]'(by omega))) ∧ w.frozen? ⟨g, k, none⟩ = false := by
  subst hn
  refine ⟨(World.ownsRow.cellAt h _ (by omega)).trans ?_, World.ownsRow.frozenAt h _⟩
  simp [cellsI, List.getElem?_eq_getElem hk]

theorem OwnI.put {w : World} {B g n cap : Nat} {N : List Int} (h : OwnI w B (.slice (some ⟨g, 0, none⟩) n cap) N) (hn : N.length = n) (k : Nat) (x : Int) :
    OwnI (w.setCell ⟨g, k, none⟩ (.int .i64 x)) B (.slice (some ⟨g, 0, none⟩) n cap) (N.set k x) ∧ Below B w (w.setCell ⟨g, k, none⟩ (.int .i64 x)) ∧ B ≤ g := by
  subst hn
  obtain ⟨h1, g1⟩ := World.ownsRow.stored h k (.int .i64 x)
  have hg : B ≤ g := (World.ownsRow.lt h g rfl).1
  refine ⟨?_, (Below.refl B w).setCell hg _, hg⟩
  unfold OwnI
  rw [List.length_set, show cellsI (N.set k x) = (cellsI N).set k (.int .i64 x) from by simp [cellsI, List.map_set]]
  exact h1

theorem OwnI.base {w : World} {B C : Nat} {v : Value} {N : List Int} (h : OwnI w B v N) (hb : C ≤ B) : OwnI w C v N := by
  obtain ⟨h1, h2 | ⟨g, cap, cur, hv, hg, hh⟩⟩ := h
  · exact ⟨h1, .inl h2⟩
  · exact ⟨h1, .inr ⟨g, cap, cur, hv, Nat.le_trans hb hg, hh⟩⟩

end Go.Proofs.Ytjddkodcbpnilaa

namespace Go.Proofs.Ytjddkodcbpnilaa
open Go.RowKit Go.Lib
set_option linter.unusedVariables false

set_option maxHeartbeats 400000 in
theorem dCheck_len (a : Option Addr) (n cap : Nat) (w : World) (h : n < 1 ∨ 5 < n) (hb : n ≤ 65536) :
    Calls Try.prog 23 #[.slice a n cap] w fun e w' => e = .returned (.int .i64 2) ∧ w' = w := by
  rcases h with h | h
  · obtain rfl : n = 0 := by omega
    go_enter Try.func23, Try.ntmps23
    go_wp2
    go_ret
    exact ⟨rfl, rfl⟩
  · go_enter Try.func23, Try.ntmps23
    go_wp2
    go_ret
    exact ⟨rfl, rfl⟩

set_option maxHeartbeats 400000 in
theorem dCheck_few (a : Option Addr) (n cap : Nat) (N : List Int) (w : World) (hn : N.length = n) (h1 : 1 ≤ n) (h5 : n ≤ 5) (hr : RdI .i64 w a N) :
    Calls Try.prog 23 #[.slice a n cap] w fun e w' => e = .returned (.int .i64 (errD N)) ∧ w' = w := by
  have HN : Hid (N.length = n) := hn
  clear hn
  go_enter Try.func23, Try.ntmps23
  go_wp2
  go_loop [15] (fun i => ∃ k : Nat, k ≤ n ∧ i = .int .i64 k ∧ Hid (rightD (N.take k) = true)) (fun i => n - (RowKit.intOf i).toNat)
  case atStart => exact ⟨0, Nat.zero_le _, rfl, rfl⟩
  case round =>
    obtain ⟨k, hk, rfl, hT⟩ := hrel
    by_cases hlt : k < n
    · have hkl : k < N.length := by rw [HN.out]; exact hlt
      obtain ⟨b, off, rfl, hc⟩ := hr (by omega)
      have x0 := hc k hkl
      have HS : Hid _ := right_step hkl hT.out
      have HX : Hid _ := fun h => right_no hkl h
      clear hc hr
      generalize N[k] = x at *
      by_cases hx : 0 ≤ x ∧ x ≤ 1073741824
      · have HT' : Hid (rightD (N.take (k + 1)) = true) := by rw [HS.out]; show _ = _; simpa using hx
        obtain ⟨hx0, hx1⟩ := hx
        go_wp2
        go_round
        case rel => exact ⟨k + 1, by omega, by go_num, HT'⟩
        case measure => simp [RowKit.intOf]; omega
      · have HT' : Hid (rightD N = false) := HX.out hx
        by_cases hx0 : x < 0
        · go_wp2
          go_ret
          exact ⟨by rw [errD_no HT'.out]; rfl, rfl⟩
        · have hx1 : 1073741824 < x := by omega
          go_wp2
          go_ret
          exact ⟨by rw [errD_no HT'.out]; rfl, rfl⟩
    · have h2 := hT.out
      rw [List.take_of_length_le (by rw [HN.out]; omega)] at h2
      have HH : Hid (rightD N = true) := h2
      clear h2
      go_wp2
      go_ret
      exact ⟨by rw [errD_ok HH.out]; rfl, rfl⟩

theorem dCheck_any (a : Option Addr) (n cap : Nat) (N : List Int) (w : World) (hn : N.length = n) (h : n ≤ 65536) (hr : RdI .i64 w a N) :
    Calls Try.prog 23 #[.slice a n cap] w fun e w' => e = .returned (.int .i64 (chkD N)) ∧ w' = w := by
  unfold chkD
  by_cases h5 : n < 1 ∨ 5 < n
  · rw [if_pos (by omega)]
    exact dCheck_len a n cap w h5 h
  · rw [if_neg (by omega)]
    exact dCheck_few a n cap N w hn (by omega) (by omega) hr

theorem dotCheck : DotCheck := by
  intro a n cap N w hn h _ hr
  exact (dCheck_any a n cap N w hn h hr).mono fun e w' ⟨h1, h2⟩ => ⟨h1, by rw [h2]; exact Below.refl _ _⟩

set_option maxHeartbeats 400000 in
theorem dPlace_yes (a : Option Addr) (n cap : Nat) (p : Int) (w : World) (h0 : 0 ≤ p) (h1 : p < n) (h : n ≤ 65536) :
    Calls Try.prog 24 #[.slice a n cap, .int .i64 p] w fun e w' => e = .returned (.bool true) ∧ w' = w := by
  go_enter Try.func24, Try.ntmps24
  go_wp2
  go_ret
  exact ⟨rfl, rfl⟩

set_option maxHeartbeats 400000 in
theorem dPlace_no (a : Option Addr) (n cap : Nat) (p : Int) (w : World) (h0 : p < 0 ∨ n ≤ p) (h : n ≤ 65536) :
    Calls Try.prog 24 #[.slice a n cap, .int .i64 p] w fun e w' => e = .returned (.bool false) ∧ w' = w := by
  by_cases hp : p < 0
  · clear h0
    have hq : decide (0 ≤ p) = false := by simpa using hp
    go_enter Try.func24, Try.ntmps24
    go_wp2
    go_ret
    exact ⟨rfl, rfl⟩
  · have h1 : (n : Int) ≤ p := by omega
    have h2 : 0 ≤ p := by omega
    have hq : decide (p < (n : Int)) = false := by simpa using h1
    clear h0 hp
    go_enter Try.func24, Try.ntmps24
    go_wp2
    go_ret
    exact ⟨rfl, rfl⟩

set_option maxHeartbeats 1000000 in
theorem dotHas : DotHas := by
  intro a n cap p k N w hn hl _ _ _ hr
  cases hp : placeD N p with
  | false =>
    have e : hasD N p k = false := by simp [hasD, hp]
    rw [e]
    unfold placeD at hp
    rw [hn] at hp
    have hp' : ¬ (0 ≤ p ∧ p ≤ (n : Int) - 1) := by simpa using hp
    clear hp hn
    go_enter Try.func13, Try.ntmps13
    go_wp2
    go_quiet ((go_at_call 24; exact Calls.quiet_of_same (dPlace_no _ _ _ _ _ (by omega) (by omega))))
    go_wp2
    go_ret
    exact ⟨rfl, below_box _ _ _⟩
  | true =>
    obtain ⟨q, hq, rfl, hat⟩ := atD_at hp
    have e : hasD N (q : Int) k = (decide (1 ≤ k) && decide (k ≤ N[q])) := by simp [hasD, hp, hat]
    rw [e]
    obtain ⟨b, off, rfl, hc⟩ := hr (by omega)
    have x0 := cell_later (alloc_below w (.cells #[.int .i64 (q : Int), .int .i64 k] 25)) (hc q hq)
    have hqn : q < n := by omega
    clear hc hr hat hp e
    generalize N[q] = x at *
    clear hq hn
    have b1 : (0 : Int) ≤ (q : Int) := by omega
    have b2 : (q : Int) < (n : Int) := by omega
    by_cases hk : 1 ≤ k
    · rw [decide_eq_true hk, Bool.true_and]
      go_enter Try.func13, Try.ntmps13
      go_wp2
      go_quiet ((go_at_call 24; exact Calls.quiet_of_same (dPlace_yes _ _ _ _ _ (by omega) (by omega) (by omega))))
      go_wp2
      go_ret
      exact ⟨rfl, below_box _ _ _⟩
    · rw [decide_eq_false hk, Bool.false_and]
      have hkd : decide (1 ≤ k) = false := by simpa using hk
      go_enter Try.func13, Try.ntmps13
      go_wp2
      go_quiet ((go_at_call 24; exact Calls.quiet_of_same (dPlace_yes _ _ _ _ _ (by omega) (by omega) (by omega))))
      go_wp2
      go_ret
      exact ⟨rfl, below_box _ _ _⟩

set_option maxHeartbeats 1000000 in
theorem dotNext : DotNext := by
  intro a n cap p k N w hn hl h64 _ hk64 hr
  cases hp : placeD N p with
  | false =>
    have e : nextD N p k = false := by simp [nextD, hp]
    rw [e]
    unfold placeD at hp
    rw [hn] at hp
    have hp' : ¬ (0 ≤ p ∧ p ≤ (n : Int) - 1) := by simpa using hp
    clear hp hn
    go_enter Try.func26, Try.ntmps26
    go_wp2
    go_quiet ((go_at_call 24; exact Calls.quiet_of_same (dPlace_no _ _ _ _ _ (by omega) (by omega))))
    go_wp2
    go_ret
    exact ⟨rfl, below_box _ _ _⟩
  | true =>
    obtain ⟨q, hq, rfl, hat⟩ := atD_at hp
    have e : nextD N (q : Int) k = decide (k = N[q] + 1) := by simp [nextD, hp, hat]
    rw [e]
    obtain ⟨b, off, rfl, hc⟩ := hr (by omega)
    have x0 := cell_later (alloc_below w (.cells #[.int .i64 (q : Int), .int .i64 k] 25)) (hc q hq)
    have hx64 := h64 _ (List.getElem_mem hq)
    have hqn : q < n := by omega
    clear hc hr hat hp e h64
    generalize N[q] = x at *
    clear hq hn
    unfold In64 at hx64 hk64
    have b1 : (0 : Int) ≤ (q : Int) := by omega
    have b2 : (q : Int) < (n : Int) := by omega
    by_cases hk : x < k
    · have hs1 : -9223372036854775808 ≤ k - 1 := by omega
      have hs2 : k - 1 ≤ 9223372036854775807 := by omega
      have hq : decide (k = x + 1) = (k - 1 == x) := by rw [Bool.eq_iff_iff]; simp; omega
      rw [hq]
      go_enter Try.func26, Try.ntmps26
      go_wp2
      go_quiet ((go_at_call 24; exact Calls.quiet_of_same (dPlace_yes _ _ _ _ _ (by omega) (by omega) (by omega))))
      go_wp2
      go_ret
      exact ⟨rfl, below_box _ _ _⟩
    · rw [decide_eq_false (by omega)]
      have hkd : decide (x < k) = false := by simpa using hk
      go_enter Try.func26, Try.ntmps26
      go_wp2
      go_quiet ((go_at_call 24; exact Calls.quiet_of_same (dPlace_yes _ _ _ _ _ (by omega) (by omega) (by omega))))
      go_wp2
      go_ret
      exact ⟨rfl, below_box _ _ _⟩

set_option maxHeartbeats 1000000 in
theorem dotLe : DotLe := by
  intro a b n m cap dap A B w hn hm hl hr _ _ ha hb
  by_cases hnm : n = m
  · subst hnm
    have HN : Hid (A.length = n) := hn
    have HM : Hid (B.length = n) := hm
    clear hn hm
    go_enter Try.func27, Try.ntmps27
    go_wp2
    go_loop [14] (fun i => ∃ k : Nat, k ≤ n ∧ i = .int .i64 k ∧ Hid (leD A B = leD (A.drop k) (B.drop k))) (fun i => n - (RowKit.intOf i).toNat)
    case atStart => exact ⟨0, Nat.zero_le _, rfl, rfl⟩
    case round =>
      obtain ⟨k, hk, rfl, hT⟩ := hrel
      by_cases hlt : k < n
      · have hkl : k < A.length := by rw [HN.out]; exact hlt
        have hkr : k < B.length := by rw [HM.out]; exact hlt
        obtain ⟨b1, o1, rfl, hc1⟩ := ha (by omega)
        obtain ⟨b2, o2, rfl, hc2⟩ := hb (by omega)
        have hx1 := hc1 k hkl
        have hx2 := hc2 k hkr
        have HQ : Hid (leD A B = (decide (A[k] ≤ B[k]) && leD (A.drop (k + 1)) (B.drop (k + 1)))) := by
          rw [← leD_step hkl hkr]; exact hT
        clear hc1 hc2 ha hb hT
        generalize A[k] = x at *
        generalize B[k] = y at *
        clear hkl hkr
        by_cases hq : x ≤ y
        · have HT' : Hid (leD A B = leD (A.drop (k + 1)) (B.drop (k + 1))) := by have := HQ.out; rwa [decide_eq_true hq, Bool.true_and] at this
          have hqd : decide (y < x) = false := by simp; omega
          clear HQ
          go_wp2
          go_round
          case rel => exact ⟨k + 1, by omega, by go_num, HT'⟩
          case measure => simp [RowKit.intOf]; omega
        · have HT' : Hid (leD A B = false) := by have := HQ.out; rwa [decide_eq_false hq, Bool.false_and] at this
          have hqd : decide (y < x) = true := by simp; omega
          clear HQ
          go_wp2
          go_ret
          exact ⟨by rw [HT'.out]; rfl, Below.refl _ _⟩
      · have HE : Hid (leD A B = true) := by
          have h1 := hT.out
          rw [List.drop_of_length_le (by rw [HN.out]; omega), List.drop_of_length_le (by rw [HM.out]; omega)] at h1
          exact h1
        go_wp2
        go_ret
        exact ⟨by rw [HE.out]; rfl, Below.refl _ _⟩
  · have HE : Hid (leD A B = false) := leD_len (by omega)
    have hbq : ((n : Int) != (m : Int)) = true := by simp; omega
    clear hn hm hnm
    go_enter Try.func27, Try.ntmps27
    go_wp2
    go_ret
    exact ⟨by rw [HE.out]; rfl, Below.refl _ _⟩

set_option maxHeartbeats 400000 in
theorem cloneInts_some (b off n cap : Nat) (N : List Int) (w : World) (hn : N.length = n) (h1 : 1 ≤ n) (h : n ≤ 65536) (hr : RdI .i64 w (some ⟨b, off, none⟩) N) :
    Calls Try.prog 28 #[.slice (some ⟨b, off, none⟩) n cap] w fun e w' => ∃ g cap', e = .returned (.slice (some ⟨g, 0, none⟩) n cap') ∧ n ≤ cap' ∧ OwnI w' w.heap.size (.slice (some ⟨g, 0, none⟩) n cap') N ∧ Below w.heap.size w w' := by
  have hO : OwnI (w.alloc (.cells #[] 3)) w.heap.size (.slice (some ⟨w.heap.size, 0, none⟩) 0 0) [] := World.ownsRow_made w #[] 0 (Nat.le_refl _) (by unfold maxLen; omega) rfl
  obtain ⟨a', cap', w', hrun, hc, ho, hrd, hnl, _, hb⟩ := run_append_ints (ty := 26) (cap := cap) hO (n := 0) rfl hn (hr.later (alloc_below w _)) (fun h => by cases h) (by omega) h (by simp)
  rw [Nat.zero_add, List.nil_append] at *
  obtain ⟨g, rfl⟩ : ∃ g, a' = some ⟨g, 0, none⟩ := by
    obtain ⟨_, ⟨hv, h0⟩ | ⟨g, c, cur, hv, _⟩⟩ := ho
    · omega
    · simp only [Value.slice.injEq] at hv
      exact ⟨g, hv.1⟩
  have HO : Hid (OwnI w' w.heap.size (.slice (some ⟨g, 0, none⟩) n cap') N) := ho
  have HB : Hid (Below w.heap.size w w') := (alloc_below w _).trans hb
  clear hn hr hO ho hrd hnl hb
  have q := fun (w : World) (a : Option Addr) (n c n' c' : Nat) => Lib.run_eql_slice_nil (P := Try.prog) w 26 3 a n c n' c' Try.underlying26
  go_enter Try.func28, Try.ntmps28
  go_wp2_with (at_builtin; refine wpList_append_run rfl _ _ 26 26 rfl _ _ _ _ rfl rfl hrun ?_)
  go_ret
  exact ⟨g, cap', rfl, hc, HO.out, HB.out⟩

theorem nextD_at {N : List Int} {p k : Int} (h : nextD N p k = true) : ∃ q : Nat, q < N.length ∧ p = q := by
  unfold nextD at h
  rw [Bool.and_eq_true] at h
  obtain ⟨q, hq, e, _⟩ := atD_at h.1
  exact ⟨q, hq, e⟩

theorem box2_cells {t : TypeId} (w : World) (x y : Value) : (w.alloc (.cells #[x, y] t)).cell? ⟨w.heap.size, 0, none⟩ = some x ∧ (w.alloc (.cells #[x, y] t)).cell? ⟨w.heap.size, 1, none⟩ = some y := by
  have hh : (w.alloc (.cells #[x, y] t)).heap[w.heap.size]? = some (.cells #[x, y] t (0, 0)) := by show (w.heap.push _)[w.heap.size]? = _; simp
  exact ⟨by rw [cell_of_row _ _ _ _ _ _ hh]; rfl, by rw [cell_of_row _ _ _ _ _ _ hh]; rfl⟩

theorem dCheck_of {c : Int} (a : Option Addr) (n cap : Nat) (N : List Int) (w : World) (hc : chkD N = c) (hn : N.length = n) (h : n ≤ 65536) (hr : RdI .i64 w a N) :
    Calls Try.prog 23 #[.slice a n cap] w fun e w' => e = .returned (.int .i64 c) ∧ w' = w := by
  subst hc
  exact dCheck_any a n cap N w hn h hr

theorem GivesI.of_own {w w' : World} {e : Ending} {g n cap : Nat} {N : List Int} (h : e = .returned (.tuple #[.slice (some ⟨g, 0, none⟩) n cap, .int .i64 0])) (hn : N.length = n) (hl : n ≤ 65536) (hc : n ≤ cap) (ho : OwnI w' w.heap.size (.slice (some ⟨g, 0, none⟩) n cap) N) (hb : Below w.heap.size w w') : GivesI w w' e (N, 0) := by
  obtain ⟨a, c, hv, _, hr, _⟩ := ho.form
  rw [hn] at hv
  simp only [Value.slice.injEq] at hv
  obtain ⟨rfl, _, rfl⟩ := hv
  exact ⟨_, n, cap, h, hn, hl, hc, ho, hr, (fun h => by cases h), hb⟩

/-- Halfway: the first k numbers are the greater ones already. -/
def midM (P N : List Int) (k : Nat) : List Int := (maxD P N).take k ++ P.drop k

theorem midM_len {P N : List Int} {k : Nat} (h : P.length = N.length) (hk : k ≤ P.length) : (midM P N k).length = P.length := by
  unfold midM
  rw [List.length_append, List.length_take, List.length_drop, maxD_len h]
  omega

theorem midM_at {P N : List Int} {k : Nat} (h : P.length = N.length) (hk : k < P.length) (h2 : k < (midM P N k).length) : (midM P N k)[k] = P[k] := by
  have e : (midM P N k)[k]? = some P[k] := by
    unfold midM
    rw [List.getElem?_append_right (by rw [List.length_take, maxD_len h]; omega), List.length_take, maxD_len h, List.getElem?_drop, show k + (k - min k P.length) = k from by omega, List.getElem?_eq_getElem hk]
  rw [List.getElem?_eq_getElem h2] at e
  exact Option.some.inj e

theorem midM_set {P N : List Int} {k : Nat} (h : P.length = N.length) (hk : k < P.length) (hk2 : k < N.length) : (midM P N k).set k (max P[k] N[k]) = midM P N (k + 1) := by
  unfold midM
  have hl : ((maxD P N).take k).length = k := by rw [List.length_take, maxD_len h]; omega
  rw [List.set_append_right _ _ (by omega), hl, Nat.sub_self, List.drop_eq_getElem_cons hk, List.set_cons_zero, List.take_succ_eq_append_getElem (by rw [maxD_len h]; exact hk), maxD_at hk hk2]
  simp

theorem midM_end {P N : List Int} (h : P.length = N.length) : midM P N P.length = maxD P N := by
  unfold midM
  rw [List.drop_length, List.append_nil, List.take_of_length_le (by rw [maxD_len h]; exact Nat.le_refl _)]

/-- The first error, or that lengths are unlike. -/
def allD (L : List (List Int)) : Int := (leastD L).2

theorem leastD_no {L : List (List Int)} (h : allD L ≠ 0) : leastD L = ([], allD L) := by
  unfold allD at h ⊢
  match L with
  | [] => rfl
  | v :: L =>
    simp only [leastD] at h ⊢
    by_cases h1 : chksD (v :: L) ≠ 0
    · rw [if_pos h1]
    · rw [if_neg h1] at h ⊢
      by_cases h2 : evenD v.length (v :: L) = true
      · rw [if_pos h2] at h
        exact absurd rfl h
      · rw [if_neg h2]

theorem allD_ok {L : List (List Int)} (h : allD L = 0) : ∃ h0 : 0 < L.length, chksD L = 0 ∧ evenD L[0].length L = true := by
  unfold allD at h
  match L with
  | [] => exact absurd h (by simp [leastD])
  | v :: L =>
    simp only [leastD] at h
    refine ⟨by simp, ?_⟩
    simp only [List.getElem_cons_zero]
    by_cases h1 : chksD (v :: L) ≠ 0
    · rw [if_pos h1] at h
      exact absurd h h1
    · rw [if_neg h1] at h
      by_cases h2 : evenD v.length (v :: L) = true
      · exact ⟨Decidable.not_not.1 h1, h2⟩
      · rw [if_neg h2] at h
        exact absurd h (by simp)

end Go.Proofs.Ytjddkodcbpnilaa

namespace Go.Proofs.Ytjddkodcbpnilaa
open Go.RowKit Go.Lib
set_option linter.unusedVariables false

theorem all64_two {x y : Int} (h1 : In64 x) (h2 : In64 y) : All64 [x, y] := by
  intro z hz
  simp at hz
  rcases hz with rfl | rfl
  · exact h1
  · exact h2

theorem mergeW : mergeD [2, 0] [1, 3] = ([2, 3], 0) := by decide

/-- Three dots' boxes stay. -/
theorem keep3D {W w w' : World} {g0 g1 g2 : Nat} {p0 k0 p1 k1 p2 k2 : Int} (hb : Below w.heap.size w w')
    (h : w.cell? ⟨g0, 0, none⟩ = some (.int .i64 p0) ∧ w.cell? ⟨g0, 1, none⟩ = some (.int .i64 k0) ∧ w.cell? ⟨g1, 0, none⟩ = some (.int .i64 p1) ∧ w.cell? ⟨g1, 1, none⟩ = some (.int .i64 k1) ∧ w.cell? ⟨g2, 0, none⟩ = some (.int .i64 p2) ∧ w.cell? ⟨g2, 1, none⟩ = some (.int .i64 k2) ∧ Hid (Below W.heap.size W w)) :
    w'.cell? ⟨g0, 0, none⟩ = some (.int .i64 p0) ∧ w'.cell? ⟨g0, 1, none⟩ = some (.int .i64 k0) ∧ w'.cell? ⟨g1, 0, none⟩ = some (.int .i64 p1) ∧ w'.cell? ⟨g1, 1, none⟩ = some (.int .i64 k1) ∧ w'.cell? ⟨g2, 0, none⟩ = some (.int .i64 p2) ∧ w'.cell? ⟨g2, 1, none⟩ = some (.int .i64 k2) ∧ Hid (Below W.heap.size W w') := by
  obtain ⟨h0, h1, h2, h3, h4, h5, h9⟩ := h
  exact ⟨cell_later hb h0, cell_later hb h1, cell_later hb h2, cell_later hb h3, cell_later hb h4, cell_later hb h5, chain h9.out hb⟩

theorem box2 (w : World) (g : Nat) (hg : w.heap.size = g) (x y : Value) (t : TypeId) : (w.alloc (.cells #[x, y] t)).cell? ⟨g, 0, none⟩ = some x ∧ (w.alloc (.cells #[x, y] t)).cell? ⟨g, 1, none⟩ = some y := by
  subst hg
  constructor
  · rw [cell_of_row (w.alloc (.cells #[x, y] t)) w.heap.size 0 #[x, y] t (0, 0) (by show (w.heap.push _)[w.heap.size]? = _; simp)]; rfl
  · rw [cell_of_row (w.alloc (.cells #[x, y] t)) w.heap.size 1 #[x, y] t (0, 0) (by show (w.heap.push _)[w.heap.size]? = _; simp)]; rfl

theorem lessD_trans {p k p' k' p'' k'' : Int} (h : lessD p k p' k' = true) (h' : lessD p' k' p'' k'' = true) : lessD p k p'' k'' = true := by
  unfold lessD at *
  simp at *
  omega

end Go.Proofs.Ytjddkodcbpnilaa

namespace Go.Proofs.Ytjddkodcbpnilaa
open Go.RowKit Go.Lib
set_option linter.unusedVariables false

theorem peers_of (k : Int) : ∃ n : Nat, (1 ≤ n ∧ n ≤ 5) ∧ wrap64 (1 + wrap64 ((IntKind.u64.wrap k).tmod 5)) = (n : Int) := by
  have h0 : 0 ≤ IntKind.u64.wrap k := by rw [IntKind.wrap_u64]; omega
  have h1 : (IntKind.u64.wrap k).tmod 5 = IntKind.u64.wrap k % 5 := Int.tmod_eq_emod_of_nonneg h0
  have h2 : wrap64 ((IntKind.u64.wrap k).tmod 5) = (IntKind.u64.wrap k).tmod 5 := IntWalk.wrap64_in _ ⟨by omega, by omega⟩
  have h3 : wrap64 (1 + (IntKind.u64.wrap k).tmod 5) = 1 + (IntKind.u64.wrap k).tmod 5 := IntWalk.wrap64_in _ ⟨by omega, by omega⟩
  rw [h2, h3]
  exact ⟨(1 + (IntKind.u64.wrap k).tmod 5).toNat, by omega, by omega⟩

theorem modPlace (k : Int) (m : Nat) (h1 : 1 ≤ m) (h40 : m ≤ 1000) : ∃ j : Nat, j < m ∧ wrap64 ((IntKind.u64.wrap k).tmod (m : Int)) = (j : Int) := by
  have h0 : 0 ≤ IntKind.u64.wrap k := by rw [IntKind.wrap_u64]; omega
  have h2 : (IntKind.u64.wrap k).tmod (m : Int) = IntKind.u64.wrap k % (m : Int) := Int.tmod_eq_emod_of_nonneg h0
  have h3 := Int.emod_nonneg (IntKind.u64.wrap k) (show (m : Int) ≠ 0 by omega)
  have h4 := Int.emod_lt_of_pos (IntKind.u64.wrap k) (show (0 : Int) < (m : Int) by omega)
  refine ⟨(IntKind.u64.wrap k % (m : Int)).toNat, by omega, ?_⟩
  rw [h2, IntWalk.wrap64_in _ ⟨by omega, by omega⟩]
  omega

/-- Noughts, and so many steps from there. -/
def Stepped (N : List Int) (n k : Nat) : Prop := N.length = n ∧ (∀ x ∈ N, 0 ≤ x) ∧ N.sum = (k : Int)

theorem sum_nonneg : ∀ {N : List Int}, (∀ x ∈ N, 0 ≤ x) → 0 ≤ N.sum
  | [], _ => by simp
  | x :: N, h => by
    have h1 := h x (by simp)
    have h2 := sum_nonneg (N := N) (fun y hy => h y (by simp [hy]))
    rw [List.sum_cons]
    omega

theorem le_sum : ∀ {N : List Int}, (∀ x ∈ N, 0 ≤ x) → ∀ x ∈ N, x ≤ N.sum
  | [], _, x, hx => by cases hx
  | y :: N, h, x, hx => by
    have h1 := h y (by simp)
    have hn := sum_nonneg (N := N) (fun z hz => h z (by simp [hz]))
    rw [List.sum_cons]
    rcases List.mem_cons.1 hx with rfl | hx
    · omega
    · have := le_sum (N := N) (fun z hz => h z (by simp [hz])) x hx
      omega

theorem sum_set : ∀ {N : List Int} {i : Nat} (h : i < N.length) (x : Int), (N.set i x).sum = N.sum - N[i] + x
  | [], _, h, _ => absurd h (by simp)
  | y :: N, 0, _, x => by simp; omega
  | y :: N, i + 1, h, x => by
    have ih := sum_set (N := N) (i := i) (by simpa using h) x
    simp only [List.set_cons_succ, List.sum_cons, ih, List.getElem_cons_succ]
    omega

theorem Stepped.small {N : List Int} {n k : Nat} (h : Stepped N n k) {i : Nat} (hi : i < N.length) : 0 ≤ N[i] ∧ N[i] ≤ k := by
  have h1 := h.2.1 _ (List.getElem_mem hi)
  have h2 := le_sum h.2.1 _ (List.getElem_mem hi)
  rw [h.2.2] at h2
  exact ⟨h1, h2⟩

theorem Stepped.right {N : List Int} {n k : Nat} (h : Stepped N n k) (hk : k ≤ 101) : rightD N = true := rightD_iff.2 fun i hi => by
  have := h.small hi
  omega

theorem Stepped.step {N : List Int} {n k z : Nat} (h : Stepped N n k) (hz : z < N.length) : Stepped (N.set z (N[z] + 1)) n (k + 1) := by
  refine ⟨by rw [List.length_set]; exact h.1, fun x hx => ?_, ?_⟩
  · rcases List.mem_or_eq_of_mem_set hx with hx | rfl
    · exact h.2.1 x hx
    · have := (h.small hz).1
      omega
  · rw [sum_set hz, h.2.2]
    omega

theorem Stepped.zero (n : Nat) : Stepped (List.replicate n 0) n 0 := by
  refine ⟨by simp, fun x hx => ?_, by simp⟩
  rw [List.eq_of_mem_replicate hx]
  exact Int.le_refl _

/-- All that the law asks of one step. -/
theorem step_facts {N : List Int} {n k z : Nat} (h : Stepped N n k) (hk : k ≤ 100) (h1 : 1 ≤ n) (h5 : n ≤ 5) (hz : z < N.length) :
    hasD N (z : Int) (N[z] + 1) = false ∧ nextD N (z : Int) (N[z] + 1) = true ∧ addD N (z : Int) (N[z] + 1) = (N.set z (N[z] + 1), 0) ∧ hasD (N.set z (N[z] + 1)) (z : Int) (N[z] + 1) = true ∧
      leD N (N.set z (N[z] + 1)) = true ∧ leD (N.set z (N[z] + 1)) N = false ∧ nextD (N.set z (N[z] + 1)) (z : Int) (N[z] + 1) = false ∧ addD (N.set z (N[z] + 1)) (z : Int) (N[z] + 1) = ([], 1) := by
  have hs := h.small hz
  have hp : placeD N (z : Int) = true := by simp [placeD]; omega
  have hp' : placeD (N.set z (N[z] + 1)) (z : Int) = true := by rw [placeD_eq (List.length_set ..)]; exact hp
  have hat : atD N (z : Int) = N[z] := by simp [atD, List.getElem?_eq_getElem hz]
  have hat' : atD (N.set z (N[z] + 1)) (z : Int) = N[z] + 1 := by simp [atD, hz]
  have c0 : chkD N = 0 := chkD_ok.2 ⟨by rw [h.1]; exact h1, by rw [h.1]; exact h5, h.right (by omega)⟩
  have h' := h.step hz
  have c1 : chkD (N.set z (N[z] + 1)) = 0 := chkD_ok.2 ⟨by rw [h'.1]; exact h1, by rw [h'.1]; exact h5, h'.right (by omega)⟩
  have e1 : hasD N (z : Int) (N[z] + 1) = false := by simp [hasD, hat]; omega
  have e2 : nextD N (z : Int) (N[z] + 1) = true := by simp [nextD, hp, hat]
  have e3 : nextD (N.set z (N[z] + 1)) (z : Int) (N[z] + 1) = false := by simp [nextD, hat']; omega
  refine ⟨e1, e2, ?_, ?_, ?_, ?_, e3, ?_⟩
  · unfold addD
    rw [if_neg (by simp [c0]), if_pos ⟨e2, by omega⟩, show ((z : Int).toNat) = z from by omega]
  · simp [hasD, hp', hat']
    omega
  · refine leD_of (List.length_set ..).symm fun i a1 a2 => ?_
    rw [List.getElem_set]
    split
    · subst_vars; omega
    · exact Int.le_refl _
  · cases hh : leD (N.set z (N[z] + 1)) N with
    | false => rfl
    | true =>
      have := (leD_iff.1 hh).2 z (by simpa using hz) hz
      simp at this
      omega
  · unfold addD
    rw [if_neg (by simp [c1]), if_neg (by simp [e3])]

end Go.Proofs.Ytjddkodcbpnilaa
