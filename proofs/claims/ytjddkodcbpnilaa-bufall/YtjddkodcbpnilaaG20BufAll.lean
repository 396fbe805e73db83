/-
  Texts of the proof of BufAll, one behind the other.
-/
import Derived.Test.YtjddkodcbpnilaaRows
import Derived.Test.YtjddkodcbpnilaaG19BufAll
import Derived.Test.YtjddkodcbpnilaaG1BufAll
import Derived.Deep.Strs
import Derived.Test.YtjddkodcbpnilaaG9BufAll
import Derived.Deep.RegionHeld3
import Derived.Deep.RegionLaw
import Derived.Deep.QuietTactic
import Derived.BigQuiet
import Derived.Test.YtjddkodcbpnilaaG11BufAll
namespace Go.Proofs.Ytjddkodcbpnilaa
open Go.ChangeShapes Go.WideShapes Go.ChangeAt Go.RowKit Go.Lib
set_option linter.unusedVariables false

/-- A slice that leads to these numbers. -/
def SlI (w : World) (v : Value) (N : List Int) : Prop := ∃ a cap, v = .slice a N.length cap ∧ N.length ≤ cap ∧ RdI .i64 w a N ∧ (a = none → N = [] ∧ cap = 0)

theorem SlI.later {w w' : World} {v : Value} {N : List Int} (h : SlI w v N) (hb : Below w.heap.size w w') : SlI w' v N := by
  obtain ⟨a, cap, h1, h2, h3, h4⟩ := h
  exact ⟨a, cap, h1, h2, h3.later hb, h4⟩

/-- A slice's beginning, and the rows of numbers that are read from there on. -/
def RdII (w : World) (a : Option Addr) (L : List (List Int)) : Prop :=
  0 < L.length → ∃ b off, a = some ⟨b, off, none⟩ ∧ ∀ i (hi : i < L.length), ∃ u, w.cell? ⟨b, off + i, none⟩ = some u ∧ SlI w u L[i]

theorem RdII.later {w w' : World} {a : Option Addr} {L : List (List Int)} (h : RdII w a L) (hb : Below w.heap.size w w') : RdII w' a L := by
  intro h0
  obtain ⟨b, off, e, hc⟩ := h h0
  refine ⟨b, off, e, fun i hi => ?_⟩
  obtain ⟨u, h1, h2⟩ := hc i hi
  exact ⟨u, cell_later hb h1, h2.later hb⟩

theorem RdII.nil (w : World) (a : Option Addr) : RdII w a [] := fun h => absurd h (by simp)

/-- What a call that makes numbers hands back. -/
def GivesI (w w' : World) (e : Ending) (r : List Int × Int) : Prop :=
  ∃ a n cap, e = .returned (.tuple #[.slice a n cap, .int .i64 r.2]) ∧ r.1.length = n ∧ n ≤ 65536 ∧ n ≤ cap ∧ OwnI w' w.heap.size (.slice a n cap) r.1 ∧ RdI .i64 w' a r.1 ∧ (a = none → r.1 = [] ∧ cap = 0) ∧ Below w.heap.size w w'

theorem GivesI.of_no {w w' : World} {e : Ending} {k : Int} (h : e = .returned (.tuple #[.slice none 0 0, .int .i64 k])) (hb : Below w.heap.size w w') : GivesI w w' e ([], k) :=
  ⟨none, 0, 0, h, rfl, by omega, Nat.le_refl _, OwnI.nought _ _, fun h => absurd h (by simp), fun _ => ⟨rfl, rfl⟩, hb⟩

def DotCheck : Prop := ∀ (a : Option Addr) (n cap : Nat) (N : List Int) (w : World), N.length = n → n ≤ 65536 → All64 N → RdI .i64 w a N → Calls Try.prog 23 #[.slice a n cap] w fun e w' => e = .returned (.int .i64 (chkD N)) ∧ Below w.heap.size w w'

def DotHas : Prop := ∀ (a : Option Addr) (n cap : Nat) (p k : Int) (N : List Int) (w : World), N.length = n → n ≤ 65536 → All64 N → In64 p → In64 k → RdI .i64 w a N → Calls Try.prog 13 #[.slice a n cap, .agg #[.int .i64 p, .int .i64 k]] w fun e w' => e = .returned (.bool (hasD N p k)) ∧ Below w.heap.size w w'

def DotNext : Prop := ∀ (a : Option Addr) (n cap : Nat) (p k : Int) (N : List Int) (w : World), N.length = n → n ≤ 65536 → All64 N → In64 p → In64 k → RdI .i64 w a N → Calls Try.prog 26 #[.slice a n cap, .agg #[.int .i64 p, .int .i64 k]] w fun e w' => e = .returned (.bool (nextD N p k)) ∧ Below w.heap.size w w'

def DotLe : Prop := ∀ (a b : Option Addr) (n m cap dap : Nat) (A B : List Int) (w : World), A.length = n → B.length = m → n ≤ 65536 → m ≤ 65536 → All64 A → All64 B → RdI .i64 w a A → RdI .i64 w b B → Calls Try.prog 27 #[.slice a n cap, .slice b m dap] w fun e w' => e = .returned (.bool (leD A B)) ∧ Below w.heap.size w w'

/-- New rows of numbers: two numbers, and none. -/
theorem rdI_two (w : World) (g : Nat) (hg : w.heap.size = g) (x y : Int) : RdI .i64 (w.alloc (.cells #[.int .i64 x, .int .i64 y] 3)) (some ⟨g, 0, none⟩) [x, y] := by
  subst hg
  refine fun _ => ⟨w.heap.size, 0, rfl, fun j hj => ?_⟩
  rw [cell_of_row (w.alloc (.cells #[.int .i64 x, .int .i64 y] 3)) w.heap.size _ #[.int .i64 x, .int .i64 y] 3 (0, 0) (by show (w.heap.push _)[w.heap.size]? = _; simp)]
  rcases j with _ | _ | j
  · rfl
  · rfl
  · exact absurd hj (by simp)

/-- A slice of rows of numbers that came in. -/
def IsRows (w : World) (a : Option Addr) (len cap : Nat) (L : List (List Int)) : Prop :=
  (a = none ∧ len = 0 ∧ cap = 0 ∧ L = []) ∨
  ∃ x, a = some x ∧ len ≤ cap ∧ cap ≤ maxLen ∧ L.length = len ∧ ∀ i (hi : i < L.length), ∃ u, w.cell? (x.add i) = some u ∧ SlI w u L[i] ∧ All64 L[i] ∧ L[i].length ≤ 9223372036854775807

theorem all64_of {N : List Int} (h : ∀ n ∈ N, (Lit.int .i64 n).wf = true) : All64 N := by
  intro x hx
  have := h x hx
  have := bounds_i64 this
  unfold In64
  omega

theorem SlI.of_ints {w : World} {a : Option Addr} {len cap : Nat} {zs : List Int} (h : IsInts .i64 w a len cap zs) : ∃ N, SlI w (.slice a len cap) N ∧ All64 N ∧ N.length = len := by
  obtain ⟨N, h1, h2, h3, h4, h5⟩ := h.ints
  subst h1
  exact ⟨N, ⟨a, cap, rfl, h2, h3, h4⟩, all64_of h5, rfl⟩

theorem IsRows.small {w : World} {a : Option Addr} {len cap : Nat} {L : List (List Int)} (h : IsRows w a len cap L) : len ≤ 9223372036854775807 := by
  rcases h with ⟨_, rfl, _, _⟩ | ⟨x, _, h1, h2, _⟩
  · omega
  · unfold maxLen at h2
    omega

theorem IsRows.rows {w : World} {a : Option Addr} {len cap : Nat} {L : List (List Int)} (h : IsRows w a len cap L) : L.length = len ∧ len ≤ cap ∧ RdII w a L ∧ (a = none → L = [] ∧ cap = 0) ∧ ∀ v ∈ L, All64 v ∧ v.length ≤ 9223372036854775807 := by
  rcases h with ⟨rfl, rfl, rfl, rfl⟩ | ⟨x, rfl, h1, _, h3, h4⟩
  · exact ⟨rfl, Nat.le_refl _, RdII.nil _ _, fun _ => ⟨rfl, rfl⟩, fun v hv => by cases hv⟩
  · refine ⟨h3, h1, fun h0 => ?_, (fun h => by cases h), fun v hv => ?_⟩
    · have hx : x.spot = none := by
        obtain ⟨u, h00, _⟩ := h4 0 h0
        have := World.cell?_spot h00
        simpa [Addr.add] using this
      obtain ⟨b, off, sp⟩ := x
      simp only at hx
      subst hx
      refine ⟨b, off, rfl, fun i hi => ?_⟩
      obtain ⟨u, hu, hs, _⟩ := h4 i hi
      rw [add_plain3] at hu
      exact ⟨u, hu, hs⟩
    · obtain ⟨i, hi, rfl⟩ := List.mem_iff_getElem.1 hv
      obtain ⟨u, _, _, h64, hl⟩ := h4 i hi
      exact ⟨h64, hl⟩

end Go.Proofs.Ytjddkodcbpnilaa

namespace Go.Proofs.Ytjddkodcbpnilaa
open Go.RowKit Go.Lib
set_option linter.unusedVariables false

theorem right_step {N : List Int} {k : Nat} (hk : k < N.length) (h : rightD (N.take k) = true) : rightD (N.take (k + 1)) = decide (0 ≤ N[k] ∧ N[k] ≤ 1073741824) := by
  unfold rightD at h ⊢
  rw [List.take_succ_eq_append_getElem hk, List.all_append, h]
  simp

theorem right_no {N : List Int} {k : Nat} (hk : k < N.length) (h : ¬ (0 ≤ N[k] ∧ N[k] ≤ 1073741824)) : rightD N = false := by
  unfold rightD
  rw [List.all_eq_false]
  exact ⟨_, List.getElem_mem hk, by simpa using h⟩

/-- A dot's two numbers, in a box. -/
theorem below_box (w : World) (o : Obj) (n : Nat) : Below w.heap.size w ((w.alloc o).drewN n) := below_drewN (alloc_below _ _) n

set_option maxHeartbeats 1000000 in
theorem rNext_any (a : Option Addr) (n cap : Nat) (p k : Int) (N : List Int) (w : World) (hn : N.length = n) (hl : n ≤ 65536) (h64 : All64 N) (hk64 : In64 k) (hr : RdI .i64 w a N) :
    Calls Try.prog 10 #[.slice a n cap, .agg #[.int .i64 p, .int .i64 k]] w fun e w' => e = .returned (.bool (nextD N p k)) ∧ Below w.heap.size w w' := by
  cases hp : placeD N p with
  | false =>
    have e : nextD N p k = false := by simp [nextD, hp]
    rw [e]
    unfold placeD at hp
    rw [hn] at hp
    have hp' : ¬ (0 ≤ p ∧ p ≤ (n : Int) - 1) := by simpa using hp
    clear hp hn
    go_enter Try.func10, Try.ntmps10
    go_wp2
    go_quiet ((go_at_call 22; exact Calls.quiet_of_same (in_no _ _ _ _ (by omega))))
    go_wp2
    go_ret
    exact ⟨rfl, below_box _ _ _⟩
  | true =>
    obtain ⟨q, hq, rfl, hat⟩ := atD_at hp
    have e : nextD N (q : Int) k = decide (k = N[q] + 1) := by simp [nextD, hp, hat]
    rw [e]
    obtain ⟨b, off, rfl, hc⟩ := hr (by omega)
    have x0 := cell_later (alloc_below w (.cells #[.int .i64 (q : Int), .int .i64 k] 25)) (hc q hq)
    have hx64 := h64 _ (List.getElem_mem hq)
    have hqn : q < n := by omega
    clear hc hr hat hp e h64
    generalize N[q] = x at *
    clear hq hn
    unfold In64 at hx64 hk64
    have b1 : (0 : Int) ≤ (q : Int) := by omega
    have b2 : (q : Int) < (n : Int) := by omega
    by_cases hk : x < k
    · have hs1 : -9223372036854775808 ≤ k - 1 := by omega
      have hs2 : k - 1 ≤ 9223372036854775807 := by omega
      have hq : decide (k = x + 1) = (k - 1 == x) := by rw [Bool.eq_iff_iff]; simp; omega
      rw [hq]
      go_enter Try.func10, Try.ntmps10
      go_wp2
      go_quiet ((go_at_call 22; exact Calls.quiet_of_same (in_yes _ _ _ _ (by omega) (by omega))))
      go_wp2
      go_ret
      exact ⟨rfl, below_box _ _ _⟩
    · rw [decide_eq_false (by omega)]
      have hkd : decide (x < k) = false := by simpa using hk
      go_enter Try.func10, Try.ntmps10
      go_wp2
      go_quiet ((go_at_call 22; exact Calls.quiet_of_same (in_yes _ _ _ _ (by omega) (by omega))))
      go_wp2
      go_ret
      exact ⟨rfl, below_box _ _ _⟩

theorem leD_step {A B : List Int} {k : Nat} (hl : k < A.length) (hr : k < B.length) : leD (A.drop k) (B.drop k) = (decide (A[k] ≤ B[k]) && leD (A.drop (k + 1)) (B.drop (k + 1))) := by
  rw [List.drop_eq_getElem_cons hl, List.drop_eq_getElem_cons hr, leD]

set_option maxHeartbeats 1000000 in
theorem rLe_any (a b : Option Addr) (n m cap dap : Nat) (A B : List Int) (w : World) (hn : A.length = n) (hm : B.length = m) (hl : n ≤ 65536) (hr : m ≤ 65536) (ha : RdI .i64 w a A) (hb : RdI .i64 w b B) :
    Calls Try.prog 11 #[.slice a n cap, .slice b m dap] w fun e w' => e = .returned (.bool (leD A B)) ∧ Below w.heap.size w w' := by
  by_cases hnm : n = m
  · subst hnm
    have HN : Hid (A.length = n) := hn
    have HM : Hid (B.length = n) := hm
    clear hn hm
    go_enter Try.func11, Try.ntmps11
    go_wp2
    go_loopw [5] (fun i wr => ∃ k : Nat, k ≤ n ∧ i = .int .i64 k ∧ Hid (leD A B = leD (A.drop k) (B.drop k)) ∧ Hid (Below w.heap.size w wr)) (fun i _ => n - (RowKit.intOf i).toNat)
    case atStart => exact ⟨0, Nat.zero_le _, rfl, rfl, Below.refl _ _⟩
    case round =>
      obtain ⟨k, hk, rfl, hT, hB⟩ := hrel
      by_cases hlt : k < n
      · have hkl : k < A.length := by rw [HN.out]; exact hlt
        have hkr : k < B.length := by rw [HM.out]; exact hlt
        obtain ⟨b1, o1, rfl, hc1⟩ := ha (by omega)
        obtain ⟨b2, o2, rfl, hc2⟩ := hb (by omega)
        have hx1 := cell_later hB.out (hc1 k hkl)
        have hx2 := cell_later hB.out (hc2 k hkr)
        have HQ : Hid (leD A B = (decide (A[k] ≤ B[k]) && leD (A.drop (k + 1)) (B.drop (k + 1)))) := by
          rw [← leD_step hkl hkr]; exact hT
        clear hc1 hc2 ha hb hT
        generalize A[k] = x at *
        generalize B[k] = y at *
        clear hkl hkr
        by_cases hq : x ≤ y
        · have HT' : Hid (leD A B = leD (A.drop (k + 1)) (B.drop (k + 1))) := by have := HQ.out; rwa [decide_eq_true hq, Bool.true_and] at this
          have hqd : decide (y < x) = false := by simp; omega
          clear HQ
          go_wp2
          go_quiet (fail)
          go_wp2
          go_roundw
          case rel => exact ⟨k + 1, by omega, by go_num, HT', below_drewN hB.out _⟩
          case measure => simp [RowKit.intOf]; omega
        · have HT' : Hid (leD A B = false) := by have := HQ.out; rwa [decide_eq_false hq, Bool.false_and] at this
          have hqd : decide (y < x) = true := by simp; omega
          clear HQ
          go_wp2
          go_quiet (fail)
          go_wp2
          go_ret
          exact ⟨by rw [HT'.out]; rfl, below_drewN hB.out _⟩
      · have HE : Hid (leD A B = true) := by
          have h1 := hT.out
          rw [List.drop_of_length_le (by rw [HN.out]; omega), List.drop_of_length_le (by rw [HM.out]; omega)] at h1
          exact h1
        go_wp2
        go_ret
        exact ⟨by rw [HE.out]; rfl, hB.out⟩
  · have HE : Hid (leD A B = false) := leD_len (by omega)
    have hbq : ((n : Int) != (m : Int)) = true := by simp; omega
    clear hn hm hnm
    go_enter Try.func11, Try.ntmps11
    go_wp2
    go_ret
    exact ⟨by rw [HE.out]; rfl, Below.refl _ _⟩

/-- A row of so many numbers' cells, which may be written. -/
def IRow (w : World) (g m : Nat) : Prop := ∃ cs : Array Value, cs.size = m ∧ w.heap[g]? = some (.cells cs 3 (0, 0))

theorem IRow.cell {w : World} {g m i : Nat} (h : IRow w g m) (hi : i < m) : ∃ u, w.cell? ⟨g, i, none⟩ = some u ∧ w.frozen? ⟨g, i, none⟩ = false := by
  obtain ⟨cs, hs, hh⟩ := h
  refine ⟨cs[i]'(by omega), ?_, by simp [World.frozen?, hh]⟩
  rw [cell_of_row w g i _ _ _ hh]
  exact Array.getElem?_eq_getElem (by omega)

theorem IRow.set {w : World} {g m i : Nat} {u : Value} (h : IRow w g m) : IRow (w.setCell ⟨g, i, none⟩ u) g m := by
  obtain ⟨cs, hs, hh⟩ := h
  exact ⟨_, by simpa using hs, Go.heap_setCell_same w g i _ _ u hh⟩

end Go.Proofs.Ytjddkodcbpnilaa

namespace Go.Proofs.Ytjddkodcbpnilaa
open Go.RowKit Go.Lib
set_option linter.unusedVariables false

theorem rdI_of {w : World} {b : Nat} {y : Int} (hc : w.cell? ⟨b, 0, none⟩ = some (.int .i64 y)) : RdI .i64 w (some ⟨b, 0, none⟩) [y] := by
  refine fun _ => ⟨b, 0, rfl, fun j hj => ?_⟩
  obtain rfl : j = 0 := by simp at hj; omega
  exact hc

/-- append(u, x), as one step of a region that draws its order. -/
theorem step_append_int {ops : Array Oper} {o : Oper} {a : Act} {w : World} {K : Act → World → Prop} {Q : Exit → Act → World → Prop} {E : Prop}
    (hg : o.guard = none) (s x : Operand) (hop : o.op = Op.call { callee := Callee.builtin Builtin.append, args := #[s, x], argTypes := #[26, 26] })
    {B n b : Nat} {u : Value} {xs : List Int} (y : Int) (hs : a.eval s = u) (hx : a.eval x = .slice (some ⟨b, 0, none⟩) 1 1)
    (T : OwnI w B u xs) (hn : xs.length = n) (h1 : n ≤ 65536) (hB : B ≤ w.heap.size) (hc : w.cell? ⟨b, 0, none⟩ = some (.int .i64 y))
    (h : ∀ a' cap w', n + 1 ≤ cap → OwnI w' B (.slice a' (n + 1) cap) (xs ++ [y]) → Below B w w' → K (a.put o.dst (.slice a' (n + 1) cap)) w') :
    if Region.wanted o (yielded ops a.tmps) = true then Oper.wp Try.prog o a w K Q else E := by
  obtain ⟨a', cap', w', hrun, hc', ho, _, _, _, hb⟩ := run_append_ints (ty := o.type) (cap := 1) T hn (m := 1) rfl (rdI_of hc) (fun h => by cases h) h1 (by omega) hB
  exact step_append_run hg s x 26 26 hop u _ _ w' hs hx hrun (h a' cap' w' hc' ho hb)

/-- New numbers of the call's own. -/
def NewI (w w' : World) (e : Ending) (N : List Int) : Prop :=
  ∃ a n cap, e = .returned (.slice a n cap) ∧ N.length = n ∧ n ≤ cap ∧ OwnI w' w.heap.size (.slice a n cap) N ∧ RdI .i64 w' a N ∧ (a = none → N = [] ∧ cap = 0) ∧ Below w.heap.size w w'

theorem keepTwoI {W w w' : World} {b c o p : Nat} {x y : Int} (hb : Below w.heap.size w w')
    (h : w.cell? ⟨b, o, none⟩ = some (.int .i64 x) ∧ w.cell? ⟨c, p, none⟩ = some (.int .i64 y) ∧ Hid (Below W.heap.size W w)) :
    w'.cell? ⟨b, o, none⟩ = some (.int .i64 x) ∧ w'.cell? ⟨c, p, none⟩ = some (.int .i64 y) ∧ Hid (Below W.heap.size W w') :=
  ⟨cell_later hb h.1, cell_later hb h.2.1, chain h.2.2.out hb⟩

theorem keepTwoB {W w w' : World} {b c o p : Nat} {x y : Int} (hb : Below W.heap.size w w') (h0 : b < W.heap.size ∧ c < W.heap.size)
    (h : w.cell? ⟨b, o, none⟩ = some (.int .i64 x) ∧ w.cell? ⟨c, p, none⟩ = some (.int .i64 y) ∧ Hid (Below W.heap.size W w)) :
    w'.cell? ⟨b, o, none⟩ = some (.int .i64 x) ∧ w'.cell? ⟨c, p, none⟩ = some (.int .i64 y) ∧ Hid (Below W.heap.size W w') :=
  ⟨(hb.cell (p := ⟨b, o, none⟩) h0.1).trans h.1, (hb.cell (p := ⟨c, p, none⟩) h0.2).trans h.2.1, h.2.2.out.trans hb⟩

theorem maxD_step {A B : List Int} {k : Nat} (hA : k < A.length) (hB : k < B.length) : maxD (A.take (k + 1)) (B.take (k + 1)) = maxD (A.take k) (B.take k) ++ [max A[k] B[k]] := by
  unfold maxD
  rw [List.take_succ_eq_append_getElem hA, List.take_succ_eq_append_getElem hB, List.zipWith_append (by simp; omega)]
  rfl

theorem Try.infoS : (Try.prog.info? 26).map (fun i => (i.zero, i.size, i.bytes)) = some (some (.slice none 0 0), 1, 24) := by kernel_rfl

/-- The slice v is a row of slices of the call's own, from block B on, and its elements are rows of the call's own with these numbers. -/
def OwnII (w : World) (B : Nat) (v : Value) (L : List (List Int)) : Prop := ∃ us : List Value, us.length = L.length ∧ w.ownsRow B 26 1 v L.length us ∧ ∀ i (h1 : i < us.length) (h2 : i < L.length), OwnI w 0 us[i] L[i]

theorem OwnII.nought (w : World) (B : Nat) : OwnII w B (.slice none 0 0) [] := ⟨[], rfl, World.ownsRow_nil w B 26 1, fun i h => absurd h (by simp)⟩

theorem OwnI.sl {w : World} {B : Nat} {v : Value} {N : List Int} (h : OwnI w B v N) : SlI w v N := by
  obtain ⟨a, cap, h1, h2, h3, h4⟩ := h.form
  exact ⟨a, cap, h1, h2, h3, h4⟩

theorem OwnII.form {w : World} {B : Nat} {v : Value} {L : List (List Int)} (h : OwnII w B v L) : ∃ a cap, v = .slice a L.length cap ∧ L.length ≤ cap ∧ RdII w a L ∧ (a = none → L = [] ∧ cap = 0) := by
  obtain ⟨us, hl, ⟨_, ⟨hv, hn⟩ | ⟨g, cap, cur, hv, _, hh, hc, _, hs, ht⟩⟩, hsl⟩ := h
  · have : L = [] := List.eq_nil_of_length_eq_zero hn
    subst this
    exact ⟨none, 0, hv, Nat.le_refl _, RdII.nil _ _, fun _ => ⟨rfl, rfl⟩⟩
  · refine ⟨_, cap, hv, hc, fun _ => ⟨g, 0, rfl, fun i hi => ⟨us[i]'(by omega), ?_, (hsl i (by omega) hi).sl⟩⟩, fun h => by cases h⟩
    rw [cell_of_row w g _ _ _ _ hh, Nat.zero_add]
    have hx : us[i]? = some (us[i]'(by omega)) := List.getElem?_eq_getElem (by omega)
    rw [← hx, ← ht, Nat.mul_one, List.getElem?_take_of_lt hi]
    simp

theorem OwnII.later {w w' : World} {B : Nat} {v : Value} {L : List (List Int)} (h : OwnII w B v L) (hb : Below w.heap.size w w') : OwnII w' B v L := by
  obtain ⟨us, hl, ⟨h1, h2⟩, hsl⟩ := h
  refine ⟨us, hl, ⟨h1, ?_⟩, fun i k1 k2 => (hsl i k1 k2).later hb⟩
  rcases h2 with h2 | ⟨g, cap, cur, hv, hg, hh, hc⟩
  · exact .inl h2
  · refine .inr ⟨g, cap, cur, hv, hg, (hb.block g ?_).trans hh, hc⟩
    rcases Nat.lt_or_ge g w.heap.size with h3 | h3
    · exact h3
    · simp [Array.getElem?_eq_none h3] at hh

/-- A row of numbers is no row of slices. -/
theorem own_apart {w : World} {B C n : Nat} {u v : Value} {N : List Int} {us : List Value} (h : OwnI w B u N) (h' : w.ownsRow C 26 1 v n us) : u.ownBlock = none ∨ u.ownBlock ≠ v.ownBlock := by
  obtain ⟨_, ⟨rfl, _⟩ | ⟨g, cap, cur, rfl, _, hh, _⟩⟩ := h
  · exact .inl rfl
  · obtain ⟨_, ⟨rfl, _⟩ | ⟨g', cap', cur', rfl, _, hh', _⟩⟩ := h'
    · exact .inr (by simp [Value.ownBlock])
    · refine .inr fun e => ?_
      have e' : g = g' := by simpa [Value.ownBlock] using e
      subst e'
      rw [hh] at hh'
      simp at hh'

theorem OwnI.zero {w : World} {B : Nat} {v : Value} {N : List Int} (h : OwnI w B v N) : OwnI w 0 v N := by
  obtain ⟨h1, h2 | ⟨g, cap, cur, hv, _, hh⟩⟩ := h
  · exact ⟨h1, .inl h2⟩
  · exact ⟨h1, .inr ⟨g, cap, cur, hv, Nat.zero_le _, hh⟩⟩

theorem cell_new (w : World) (g : Nat) (hg : w.heap.size = g) (u : Value) (t : TypeId) : (w.alloc (.cells #[u] t)).cell? ⟨g, 0, none⟩ = some u := by
  subst hg
  rw [cell_of_row (w.alloc (.cells #[u] t)) w.heap.size 0 #[u] t (0, 0) (by show (w.heap.push _)[w.heap.size]? = _; simp)]
  rfl

/-- More, or longer, than is played? -/
def heavyD (L : List (List Int)) : Bool := L.any fun v => decide (30 < v.length)

end Go.Proofs.Ytjddkodcbpnilaa
