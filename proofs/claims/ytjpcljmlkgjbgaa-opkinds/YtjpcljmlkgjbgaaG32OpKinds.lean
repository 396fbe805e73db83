/-
  Texts of the proof of OpKinds, one behind the other.
-/
import Derived.Test.YtjpcljmlkgjbgaaRows
import Derived.Test.YtjpcljmlkgjbgaaG20OpKinds
import Derived.Test.YtjpcljmlkgjbgaaG18OpKinds
import Derived.Laws.OwnMore
import Derived.Test.YtjpcljmlkgjbgaaG3OpKinds
namespace Go.Proofs.Ytjpcljmlkgjbgaa
open Go.RowKit Go.Lib
set_option linter.unusedVariables false

theorem ofHeld {W w : World} {P Q : Prop} (h : P ∧ Q ∧ Hid (Below w.heap.size w W)) : Below w.heap.size w W := h.2.2.out

theorem keepTwoV {W w w' : World} {b c o p : Nat} {x y : Value} (hb : Below w.heap.size w w')
    (h : w.cell? ⟨b, o, none⟩ = some x ∧ w.cell? ⟨c, p, none⟩ = some y ∧ Hid (Below W.heap.size W w)) :
    w'.cell? ⟨b, o, none⟩ = some x ∧ w'.cell? ⟨c, p, none⟩ = some y ∧ Hid (Below W.heap.size W w') :=
  ⟨cell_later hb h.1, cell_later hb h.2.1, chain h.2.2.out hb⟩

theorem rows_take_succ {l m : List (List Int)} {k : Nat} (h : l.take k = m.take k) (hl : k < l.length) (hm : k < m.length) (hx : l[k] = m[k]) : l.take (k + 1) = m.take (k + 1) := by
  rw [List.take_succ_eq_append_getElem hl, List.take_succ_eq_append_getElem hm, h, hx]

theorem keepRow2 {B b c o p : Nat} {W W' : World} {x y : Value} (hb : Below B W W') (h0 : b < B ∧ c < B) (h : W.cell? ⟨b, o, none⟩ = some x ∧ W.cell? ⟨c, p, none⟩ = some y) : W'.cell? ⟨b, o, none⟩ = some x ∧ W'.cell? ⟨c, p, none⟩ = some y :=
  ⟨(hb.cell (p := ⟨b, o, none⟩) h0.1).trans h.1, (hb.cell (p := ⟨c, p, none⟩) h0.2).trans h.2⟩

theorem chksD_step {L : List (List Int)} {k : Nat} (hk : k < L.length) : chksD (L.drop k) = if chkD L[k] ≠ 0 then chkD L[k] else chksD (L.drop (k + 1)) := by
  rw [List.drop_eq_getElem_cons hk, chksD]

theorem chksD_ok : ∀ {L : List (List Int)}, chksD L = 0 → ∀ v ∈ L, chkD v = 0
  | [], _, v, hv => by cases hv
  | u :: L, h, v, hv => by
    rw [chksD] at h
    by_cases hu : chkD u = 0
    · rw [if_neg (by simp [hu])] at h
      rcases List.mem_cons.1 hv with rfl | hv
      · exact hu
      · exact chksD_ok h v hv
    · rw [if_pos hu] at h
      exact absurd h hu

theorem leastD_err {L : List (List Int)} (h0 : 0 < L.length) (h : chksD L ≠ 0) : leastD L = ([], chksD L) := by
  match L, h0 with
  | v :: L, _ => simp only [leastD]; rw [if_pos h]

theorem leastD_odd {L : List (List Int)} (h0 : 0 < L.length) (h : chksD L = 0) (h2 : evenD L[0].length L = false) : leastD L = ([], 2) := by
  match L, h0 with
  | v :: L, _ =>
    simp only [List.getElem_cons_zero] at h2
    simp only [leastD]
    rw [if_neg (by simp [h]), if_neg (by simp [h2])]

theorem leastD_ok {L : List (List Int)} (h0 : 0 < L.length) (h : chksD L = 0) (h2 : evenD L[0].length L = true) : leastD L = (L.foldl minD L[0], 0) := by
  match L, h0 with
  | v :: L, _ =>
    simp only [List.getElem_cons_zero] at h2 ⊢
    simp only [leastD]
    rw [if_neg (by simp [h]), if_pos h2]

theorem evenD_at {L : List (List Int)} {n k : Nat} (h : evenD n L = true) (hk : k < L.length) : L[k].length = n := by
  unfold evenD at h
  rw [List.all_eq_true] at h
  simpa using h _ (List.getElem_mem hk)

/-- Halfway: the first k numbers are the lesser ones already. -/
def midD (P N : List Int) (k : Nat) : List Int := (minD P N).take k ++ P.drop k

theorem midD_len {P N : List Int} {k : Nat} (h : P.length = N.length) (hk : k ≤ P.length) : (midD P N k).length = P.length := by
  unfold midD
  rw [List.length_append, List.length_take, List.length_drop, minD_len h]
  omega

theorem midD_at {P N : List Int} {k : Nat} (h : P.length = N.length) (hk : k < P.length) (h2 : k < (midD P N k).length) : (midD P N k)[k] = P[k] := by
  have e : (midD P N k)[k]? = some P[k] := by
    unfold midD
    rw [List.getElem?_append_right (by rw [List.length_take, minD_len h]; omega), List.length_take, minD_len h, List.getElem?_drop, show k + (k - min k P.length) = k from by omega, List.getElem?_eq_getElem hk]
  rw [List.getElem?_eq_getElem h2] at e
  exact Option.some.inj e

theorem midD_set {P N : List Int} {k : Nat} (h : P.length = N.length) (hk : k < P.length) (hk2 : k < N.length) : (midD P N k).set k (min P[k] N[k]) = midD P N (k + 1) := by
  unfold midD
  have hl : ((minD P N).take k).length = k := by rw [List.length_take, minD_len h]; omega
  rw [List.set_append_right _ _ (by omega), hl, Nat.sub_self, List.drop_eq_getElem_cons hk, List.set_cons_zero, List.take_succ_eq_append_getElem (by rw [minD_len h]; exact hk), minD_at hk hk2]
  simp

theorem midD_end {P N : List Int} (h : P.length = N.length) : midD P N P.length = minD P N := by
  unfold midD
  rw [List.drop_length, List.append_nil, List.take_of_length_le (by rw [minD_len h]; exact Nat.le_refl _)]

theorem OwnI.at_ {w : World} {B g n cap k : Nat} {N : List Int} (h : OwnI w B (.slice (some ⟨g, 0, none⟩) n cap) N) (hn : N.length = n) (hk : k < n) : w.cell? ⟨g, k, none⟩ = some (.int .i64 (N[k]'(by omega))) ∧ w.frozen? ⟨g, k, none⟩ = false := by
  subst hn
  refine ⟨(World.ownsRow.cellAt h _ (by omega)).trans ?_, World.ownsRow.frozenAt h _⟩
  simp [cellsI, List.getElem?_eq_getElem hk]

theorem OwnI.put {w : World} {B g n cap : Nat} {N : List Int} (h : OwnI w B (.slice (some ⟨g, 0, none⟩) n cap) N) (hn : N.length = n) (k : Nat) (x : Int) :
    OwnI (w.setCell ⟨g, k, none⟩ (.int .i64 x)) B (.slice (some ⟨g, 0, none⟩) n cap) (N.set k x) ∧ Below B w (w.setCell ⟨g, k, none⟩ (.int .i64 x)) ∧ B ≤ g := by
  subst hn
  obtain ⟨h1, g1⟩ := World.ownsRow.stored h k (.int .i64 x)
  have hg : B ≤ g := (World.ownsRow.lt h g rfl).1
  refine ⟨?_, (Below.refl B w).setCell hg _, hg⟩
  unfold OwnI
  rw [List.length_set, show cellsI (N.set k x) = (cellsI N).set k (.int .i64 x) from by simp [cellsI, List.map_set]]
  exact h1

theorem OwnI.base {w : World} {B C : Nat} {v : Value} {N : List Int} (h : OwnI w B v N) (hb : C ≤ B) : OwnI w C v N := by
  obtain ⟨h1, h2 | ⟨g, cap, cur, hv, hg, hh⟩⟩ := h
  · exact ⟨h1, .inl h2⟩
  · exact ⟨h1, .inr ⟨g, cap, cur, hv, Nat.le_trans hb hg, hh⟩⟩

end Go.Proofs.Ytjpcljmlkgjbgaa

namespace Go.Proofs.Ytjpcljmlkgjbgaa
open Go.RowKit Go.Lib
set_option linter.unusedVariables false

set_option maxHeartbeats 400000 in
theorem dCheck_len (a : Option Addr) (n cap : Nat) (w : World) (h : n < 1 ∨ 5 < n) (hb : n ≤ 65536) :
    Calls Try.prog 82 #[.slice a n cap] w fun e w' => e = .returned (.int .i64 2) ∧ w' = w := by
  rcases h with h | h
  · obtain rfl : n = 0 := by omega
    go_enter Try.func82, Try.ntmps82
    go_wp2
    go_ret
    exact ⟨rfl, rfl⟩
  · go_enter Try.func82, Try.ntmps82
    go_wp2
    go_ret
    exact ⟨rfl, rfl⟩

set_option maxHeartbeats 400000 in
theorem dCheck_few (a : Option Addr) (n cap : Nat) (N : List Int) (w : World) (hn : N.length = n) (h1 : 1 ≤ n) (h5 : n ≤ 5) (hr : RdI .i64 w a N) :
    Calls Try.prog 82 #[.slice a n cap] w fun e w' => e = .returned (.int .i64 (errD N)) ∧ w' = w := by
  have HN : Hid (N.length = n) := hn
  clear hn
  go_enter Try.func82, Try.ntmps82
  go_wp2
  go_loop [15] (fun i => ∃ k : Nat, k ≤ n ∧ i = .int .i64 k ∧ Hid (rightD (N.take k) = true)) (fun i => n - (RowKit.intOf i).toNat)
  case atStart => exact ⟨0, Nat.zero_le _, rfl, rfl⟩
  case round =>
    obtain ⟨k, hk, rfl, hT⟩ := hrel
    by_cases hlt : k < n
    · have hkl : k < N.length := by rw [HN.out]; exact hlt
      obtain ⟨b, off, rfl, hc⟩ := hr (by omega)
      have x0 := hc k hkl
      have HS : Hid _ := right_step hkl hT.out
      have HX : Hid _ := fun h => right_no hkl h
      clear hc hr
      generalize N[k] = x at *
      by_cases hx : 0 ≤ x ∧ x ≤ 1073741824
      · have HT' : Hid (rightD (N.take (k + 1)) = true) := by rw [HS.out]; show _ = _; simpa using hx
        obtain ⟨hx0, hx1⟩ := hx
        go_wp2
        go_round
        case rel => exact ⟨k + 1, by omega, by go_num, HT'⟩
        case measure => simp [RowKit.intOf]; omega
      · have HT' : Hid (rightD N = false) := HX.out hx
        by_cases hx0 : x < 0
        · go_wp2
          go_ret
          exact ⟨by rw [errD_no HT'.out]; rfl, rfl⟩
        · have hx1 : 1073741824 < x := by omega
          go_wp2
          go_ret
          exact ⟨by rw [errD_no HT'.out]; rfl, rfl⟩
    · have h2 := hT.out
      rw [List.take_of_length_le (by rw [HN.out]; omega)] at h2
      have HH : Hid (rightD N = true) := h2
      clear h2
      go_wp2
      go_ret
      exact ⟨by rw [errD_ok HH.out]; rfl, rfl⟩

theorem dCheck_any (a : Option Addr) (n cap : Nat) (N : List Int) (w : World) (hn : N.length = n) (h : n ≤ 65536) (hr : RdI .i64 w a N) :
    Calls Try.prog 82 #[.slice a n cap] w fun e w' => e = .returned (.int .i64 (chkD N)) ∧ w' = w := by
  unfold chkD
  by_cases h5 : n < 1 ∨ 5 < n
  · rw [if_pos (by omega)]
    exact dCheck_len a n cap w h5 h
  · rw [if_neg (by omega)]
    exact dCheck_few a n cap N w hn (by omega) (by omega) hr

theorem dotCheck : DotCheck := by
  intro a n cap N w hn h _ hr
  exact (dCheck_any a n cap N w hn h hr).mono fun e w' ⟨h1, h2⟩ => ⟨h1, by rw [h2]; exact Below.refl _ _⟩

set_option maxHeartbeats 400000 in
theorem dPlace_yes (a : Option Addr) (n cap : Nat) (p : Int) (w : World) (h0 : 0 ≤ p) (h1 : p < n) (h : n ≤ 65536) :
    Calls Try.prog 112 #[.slice a n cap, .int .i64 p] w fun e w' => e = .returned (.bool true) ∧ w' = w := by
  go_enter Try.func112, Try.ntmps112
  go_wp2
  go_ret
  exact ⟨rfl, rfl⟩

set_option maxHeartbeats 400000 in
theorem dPlace_no (a : Option Addr) (n cap : Nat) (p : Int) (w : World) (h0 : p < 0 ∨ n ≤ p) (h : n ≤ 65536) :
    Calls Try.prog 112 #[.slice a n cap, .int .i64 p] w fun e w' => e = .returned (.bool false) ∧ w' = w := by
  by_cases hp : p < 0
  · clear h0
    have hq : decide (0 ≤ p) = false := by simpa using hp
    go_enter Try.func112, Try.ntmps112
    go_wp2
    go_ret
    exact ⟨rfl, rfl⟩
  · have h1 : (n : Int) ≤ p := by omega
    have h2 : 0 ≤ p := by omega
    have hq : decide (p < (n : Int)) = false := by simpa using h1
    clear h0 hp
    go_enter Try.func112, Try.ntmps112
    go_wp2
    go_ret
    exact ⟨rfl, rfl⟩

set_option maxHeartbeats 1000000 in
theorem dotHas : DotHas := by
  intro a n cap p k N w hn hl _ _ _ hr
  cases hp : placeD N p with
  | false =>
    have e : hasD N p k = false := by simp [hasD, hp]
    rw [e]
    unfold placeD at hp
    rw [hn] at hp
    have hp' : ¬ (0 ≤ p ∧ p ≤ (n : Int) - 1) := by simpa using hp
    clear hp hn
    go_enter Try.func117, Try.ntmps117
    go_wp2
    go_quiet ((go_at_call 112; exact Calls.quiet_of_same (dPlace_no _ _ _ _ _ (by omega) (by omega))))
    go_wp2
    go_ret
    exact ⟨rfl, below_box _ _ _⟩
  | true =>
    obtain ⟨q, hq, rfl, hat⟩ := atD_at hp
    have e : hasD N (q : Int) k = (decide (1 ≤ k) && decide (k ≤ N[q])) := by simp [hasD, hp, hat]
    rw [e]
    obtain ⟨b, off, rfl, hc⟩ := hr (by omega)
    have x0 := cell_later (alloc_below w (.cells #[.int .i64 (q : Int), .int .i64 k] 25)) (hc q hq)
    have hqn : q < n := by omega
    clear hc hr hat hp e
    generalize N[q] = x at *
    clear hq hn
    have b1 : (0 : Int) ≤ (q : Int) := by omega
    have b2 : (q : Int) < (n : Int) := by omega
    by_cases hk : 1 ≤ k
    · rw [decide_eq_true hk, Bool.true_and]
      go_enter Try.func117, Try.ntmps117
      go_wp2
      go_quiet ((go_at_call 112; exact Calls.quiet_of_same (dPlace_yes _ _ _ _ _ (by omega) (by omega) (by omega))))
      go_wp2
      go_ret
      exact ⟨rfl, below_box _ _ _⟩
    · rw [decide_eq_false hk, Bool.false_and]
      have hkd : decide (1 ≤ k) = false := by simpa using hk
      go_enter Try.func117, Try.ntmps117
      go_wp2
      go_quiet ((go_at_call 112; exact Calls.quiet_of_same (dPlace_yes _ _ _ _ _ (by omega) (by omega) (by omega))))
      go_wp2
      go_ret
      exact ⟨rfl, below_box _ _ _⟩

set_option maxHeartbeats 1000000 in
theorem dotNext : DotNext := by
  intro a n cap p k N w hn hl h64 _ hk64 hr
  cases hp : placeD N p with
  | false =>
    have e : nextD N p k = false := by simp [nextD, hp]
    rw [e]
    unfold placeD at hp
    rw [hn] at hp
    have hp' : ¬ (0 ≤ p ∧ p ≤ (n : Int) - 1) := by simpa using hp
    clear hp hn
    go_enter Try.func83, Try.ntmps83
    go_wp2
    go_quiet ((go_at_call 112; exact Calls.quiet_of_same (dPlace_no _ _ _ _ _ (by omega) (by omega))))
    go_wp2
    go_ret
    exact ⟨rfl, below_box _ _ _⟩
  | true =>
    obtain ⟨q, hq, rfl, hat⟩ := atD_at hp
    have e : nextD N (q : Int) k = decide (k = N[q] + 1) := by simp [nextD, hp, hat]
    rw [e]
    obtain ⟨b, off, rfl, hc⟩ := hr (by omega)
    have x0 := cell_later (alloc_below w (.cells #[.int .i64 (q : Int), .int .i64 k] 25)) (hc q hq)
    have hx64 := h64 _ (List.getElem_mem hq)
    have hqn : q < n := by omega
    clear hc hr hat hp e h64
    generalize N[q] = x at *
    clear hq hn
    unfold In64 at hx64 hk64
    have b1 : (0 : Int) ≤ (q : Int) := by omega
    have b2 : (q : Int) < (n : Int) := by omega
    by_cases hk : x < k
    · have hs1 : -9223372036854775808 ≤ k - 1 := by omega
      have hs2 : k - 1 ≤ 9223372036854775807 := by omega
      have hq : decide (k = x + 1) = (k - 1 == x) := by rw [Bool.eq_iff_iff]; simp; omega
      rw [hq]
      go_enter Try.func83, Try.ntmps83
      go_wp2
      go_quiet ((go_at_call 112; exact Calls.quiet_of_same (dPlace_yes _ _ _ _ _ (by omega) (by omega) (by omega))))
      go_wp2
      go_ret
      exact ⟨rfl, below_box _ _ _⟩
    · rw [decide_eq_false (by omega)]
      have hkd : decide (x < k) = false := by simpa using hk
      go_enter Try.func83, Try.ntmps83
      go_wp2
      go_quiet ((go_at_call 112; exact Calls.quiet_of_same (dPlace_yes _ _ _ _ _ (by omega) (by omega) (by omega))))
      go_wp2
      go_ret
      exact ⟨rfl, below_box _ _ _⟩

set_option maxHeartbeats 400000 in
theorem dotLess : DotLessC := by
  intro p k p' k' w _ _ _ _
  by_cases h2 : p = p'
  · subst h2
    have e : lessD p k p k' = decide (k < k') := by simp [lessD]
    rw [e]
    go_enter Try.func118, Try.ntmps118
    go_wp2
    go_ret
    exact ⟨rfl, below_two _ _ _⟩
  · have e : lessD p k p' k' = decide (p < p') := by simp [lessD, h2]
    rw [e]
    have h2' : (p != p') = true := by simp [h2]
    go_enter Try.func118, Try.ntmps118
    go_wp2
    go_ret
    exact ⟨rfl, below_two _ _ _⟩

theorem nextD_at {N : List Int} {p k : Int} (h : nextD N p k = true) : ∃ q : Nat, q < N.length ∧ p = q := by
  unfold nextD at h
  rw [Bool.and_eq_true] at h
  obtain ⟨q, hq, e, _⟩ := atD_at h.1
  exact ⟨q, hq, e⟩

theorem box2_cells {t : TypeId} (w : World) (x y : Value) : (w.alloc (.cells #[x, y] t)).cell? ⟨w.heap.size, 0, none⟩ = some x ∧ (w.alloc (.cells #[x, y] t)).cell? ⟨w.heap.size, 1, none⟩ = some y := by
  have hh : (w.alloc (.cells #[x, y] t)).heap[w.heap.size]? = some (.cells #[x, y] t (0, 0)) := by show (w.heap.push _)[w.heap.size]? = _; simp
  exact ⟨by rw [cell_of_row _ _ _ _ _ _ hh]; rfl, by rw [cell_of_row _ _ _ _ _ _ hh]; rfl⟩

theorem dCheck_of {c : Int} (a : Option Addr) (n cap : Nat) (N : List Int) (w : World) (hc : chkD N = c) (hn : N.length = n) (h : n ≤ 65536) (hr : RdI .i64 w a N) :
    Calls Try.prog 82 #[.slice a n cap] w fun e w' => e = .returned (.int .i64 c) ∧ w' = w := by
  subst hc
  exact dCheck_any a n cap N w hn h hr

theorem GivesI.of_own {w w' : World} {e : Ending} {g n cap : Nat} {N : List Int} (h : e = .returned (.tuple #[.slice (some ⟨g, 0, none⟩) n cap, .int .i64 0])) (hn : N.length = n) (hl : n ≤ 65536) (hc : n ≤ cap) (ho : OwnI w' w.heap.size (.slice (some ⟨g, 0, none⟩) n cap) N) (hb : Below w.heap.size w w') : GivesI w w' e (N, 0) := by
  obtain ⟨a, c, hv, _, hr, _⟩ := ho.form
  rw [hn] at hv
  simp only [Value.slice.injEq] at hv
  obtain ⟨rfl, _, rfl⟩ := hv
  exact ⟨_, n, cap, h, hn, hl, hc, ho, hr, (fun h => by cases h), hb⟩

/-- Halfway: the first k numbers are the greater ones already. -/
def midM (P N : List Int) (k : Nat) : List Int := (maxD P N).take k ++ P.drop k

theorem midM_len {P N : List Int} {k : Nat} (h : P.length = N.length) (hk : k ≤ P.length) : (midM P N k).length = P.length := by
  unfold midM
  rw [List.length_append, List.length_take, List.length_drop, maxD_len h]
  omega

theorem midM_at {P N : List Int} {k : Nat} (h : P.length = N.length) (hk : k < P.length) (h2 : k < (midM P N k).length) : (midM P N k)[k] = P[k] := by
  have e : (midM P N k)[k]? = some P[k] := by
    unfold midM
    rw [List.getElem?_append_right (by rw [List.length_take, maxD_len h]; omega), List.length_take, maxD_len h, List.getElem?_drop, show k + (k - min k P.length) = k from by omega, List.getElem?_eq_getElem hk]
  rw [List.getElem?_eq_getElem h2] at e
  exact Option.some.inj e

theorem midM_set {P N : List Int} {k : Nat} (h : P.length = N.length) (hk : k < P.length) (hk2 : k < N.length) : (midM P N k).set k (max P[k] N[k]) = midM P N (k + 1) := by
  unfold midM
  have hl : ((maxD P N).take k).length = k := by rw [List.length_take, maxD_len h]; omega
  rw [List.set_append_right _ _ (by omega), hl, Nat.sub_self, List.drop_eq_getElem_cons hk, List.set_cons_zero, List.take_succ_eq_append_getElem (by rw [maxD_len h]; exact hk), maxD_at hk hk2]
  simp

theorem midM_end {P N : List Int} (h : P.length = N.length) : midM P N P.length = maxD P N := by
  unfold midM
  rw [List.drop_length, List.append_nil, List.take_of_length_le (by rw [maxD_len h]; exact Nat.le_refl _)]

/-- The first error, or that lengths are unlike. -/
def allD (L : List (List Int)) : Int := (leastD L).2

theorem leastD_no {L : List (List Int)} (h : allD L ≠ 0) : leastD L = ([], allD L) := by
  unfold allD at h ⊢
  match L with
  | [] => rfl
  | v :: L =>
    simp only [leastD] at h ⊢
    by_cases h1 : chksD (v :: L) ≠ 0
    · rw [if_pos h1]
    · rw [if_neg h1] at h ⊢
      by_cases h2 : evenD v.length (v :: L) = true
      · rw [if_pos h2] at h
        exact absurd rfl h
      · rw [if_neg h2]

theorem allD_ok {L : List (List Int)} (h : allD L = 0) : ∃ h0 : 0 < L.length, chksD L = 0 ∧ evenD L[0].length L = true := by
  unfold allD at h
  match L with
  | [] => exact absurd h (by simp [leastD])
  | v :: L =>
    simp only [leastD] at h
    refine ⟨by simp, ?_⟩
    simp only [List.getElem_cons_zero]
    by_cases h1 : chksD (v :: L) ≠ 0
    · rw [if_pos h1] at h
      exact absurd h h1
    · rw [if_neg h1] at h
      by_cases h2 : evenD v.length (v :: L) = true
      · exact ⟨Decidable.not_not.1 h1, h2⟩
      · rw [if_neg h2] at h
        exact absurd h (by simp)

end Go.Proofs.Ytjpcljmlkgjbgaa

namespace Go.Proofs.Ytjpcljmlkgjbgaa
open Go.RowKit Go.Lib
set_option linter.unusedVariables false

theorem all64_two {x y : Int} (h1 : In64 x) (h2 : In64 y) : All64 [x, y] := by
  intro z hz
  simp at hz
  rcases hz with rfl | rfl
  · exact h1
  · exact h2

theorem mergeW : mergeD [2, 0] [1, 3] = ([2, 3], 0) := by decide

/-- Three dots' boxes stay. -/
theorem keep3D {W w w' : World} {g0 g1 g2 : Nat} {p0 k0 p1 k1 p2 k2 : Int} (hb : Below w.heap.size w w')
    (h : w.cell? ⟨g0, 0, none⟩ = some (.int .i64 p0) ∧ w.cell? ⟨g0, 1, none⟩ = some (.int .i64 k0) ∧ w.cell? ⟨g1, 0, none⟩ = some (.int .i64 p1) ∧ w.cell? ⟨g1, 1, none⟩ = some (.int .i64 k1) ∧ w.cell? ⟨g2, 0, none⟩ = some (.int .i64 p2) ∧ w.cell? ⟨g2, 1, none⟩ = some (.int .i64 k2) ∧ Hid (Below W.heap.size W w)) :
    w'.cell? ⟨g0, 0, none⟩ = some (.int .i64 p0) ∧ w'.cell? ⟨g0, 1, none⟩ = some (.int .i64 k0) ∧ w'.cell? ⟨g1, 0, none⟩ = some (.int .i64 p1) ∧ w'.cell? ⟨g1, 1, none⟩ = some (.int .i64 k1) ∧ w'.cell? ⟨g2, 0, none⟩ = some (.int .i64 p2) ∧ w'.cell? ⟨g2, 1, none⟩ = some (.int .i64 k2) ∧ Hid (Below W.heap.size W w') := by
  obtain ⟨h0, h1, h2, h3, h4, h5, h9⟩ := h
  exact ⟨cell_later hb h0, cell_later hb h1, cell_later hb h2, cell_later hb h3, cell_later hb h4, cell_later hb h5, chain h9.out hb⟩

theorem box2 (w : World) (g : Nat) (hg : w.heap.size = g) (x y : Value) (t : TypeId) : (w.alloc (.cells #[x, y] t)).cell? ⟨g, 0, none⟩ = some x ∧ (w.alloc (.cells #[x, y] t)).cell? ⟨g, 1, none⟩ = some y := by
  subst hg
  constructor
  · rw [cell_of_row (w.alloc (.cells #[x, y] t)) w.heap.size 0 #[x, y] t (0, 0) (by show (w.heap.push _)[w.heap.size]? = _; simp)]; rfl
  · rw [cell_of_row (w.alloc (.cells #[x, y] t)) w.heap.size 1 #[x, y] t (0, 0) (by show (w.heap.push _)[w.heap.size]? = _; simp)]; rfl

theorem lessD_trans {p k p' k' p'' k'' : Int} (h : lessD p k p' k' = true) (h' : lessD p' k' p'' k'' = true) : lessD p k p'' k'' = true := by
  unfold lessD at *
  simp at *
  omega

end Go.Proofs.Ytjpcljmlkgjbgaa
