/-
  Predicates as plain data: when they are right, of which rows they hold; the small calls of package pred.
-/
import Derived.Test.YtmolklaammfbmaaRows
import Derived.Test.YtmolklaammfbmaaVRef
import Derived.Test.YtmolklaammfbmaaVApi
import Derived.Test.YtmolklaammfbmaaRMem
import Derived.Test.YtmolklaammfbmaaRInts
namespace Go.Proofs.Ytmolklaammfbmaa
open Go.RowKit Go.Lib
set_option linter.unusedVariables false

/-- A predicate. -/
structure PPr where
  kind : Int
  col : Int
  other : Int
  val : PV

def cellsP (x : PPr) : Array Value := #[.int .i64 x.kind, .int .i64 x.col, .int .i64 x.other, .int .i64 x.val.k, .int .i64 x.val.i, .string x.val.s]

def askV (k : Int) : Bool := decide (k = 1) || decide (k = 2)

def askO (k : Int) : Bool := decide (k = 3) || decide (k = 4)

def kindB (k : Int) : Bool := decide (1 ≤ k) && decide (k ≤ 6)

def placeB (i n : Int) : Bool := decide (0 ≤ i) && decide (i < n)

def hasB (x : PPr) (n : Int) : Bool := placeB x.col n && (!askO x.kind || placeB x.other n)

def atV (vs : List PV) (i : Int) : PV := vs.getD i.toNat ⟨0, 0, ⟨#[]⟩⟩

def atI (ts : List Int) (i : Int) : Int := ts.getD i.toNat 0

/-- The document's Check: 0, 1 (ErrArg), 10 (ErrType). -/
def chkP (x : PPr) (ts : List Int) : Int :=
  if !kindB x.kind || !hasB x ts.length || (askV x.kind && !okV x.val) then 1
  else if (askV x.kind && !fitsV x.val (atI ts x.col)) || (askO x.kind && decide (atI ts x.other ≠ atI ts x.col)) then 10
  else 0

/-- The document's Holds. -/
def holdsP (x : PPr) (vs : List PV) : Bool :=
  if !hasB x vs.length then false
  else if x.kind = 1 then cmpV (atV vs x.col) x.val == 0
  else if x.kind = 2 then decide (cmpV (atV vs x.col) x.val < 0)
  else if x.kind = 3 then cmpV (atV vs x.col) (atV vs x.other) == 0
  else if x.kind = 4 then decide (cmpV (atV vs x.col) (atV vs x.other) < 0)
  else if x.kind = 5 then (atV vs x.col).k == 1
  else if x.kind = 6 then !((atV vs x.col).k == 1)
  else false

theorem askV_no {k : Int} (h : askO k = true) : askV k = false := by
  unfold askO at h
  unfold askV
  simp at h ⊢
  omega

theorem placeB_iff {i n : Int} : placeB i n = true ↔ 0 ≤ i ∧ i < n := by simp [placeB]

theorem atI_nat (ts : List Int) (i : Nat) (h : i < ts.length) : atI ts (i : Int) = ts[i] := by simp [atI, List.getD, h]

theorem atV_nat (vs : List PV) (i : Nat) (h : i < vs.length) : atV vs (i : Int) = vs[i] := by simp [atV, List.getD, h]

theorem below_rfl (w : World) : Below w.heap.size w w := Below.refl _ _

set_option maxHeartbeats 400000 in
theorem pAskV_any (k : Int) (w : World) :
    Calls Try.prog 21 #[.int .i64 k] w fun e w' => e = .returned (.bool (askV k)) ∧ Below w.heap.size w w' := by
  have e : askV k = (k == 1 || k == 2) := by rw [Bool.eq_iff_iff]; simp [askV]
  rw [e]
  go_enter Try.func21, Try.ntmps21
  go_wp2
  all_goals (go_ret; exact ⟨by simp_all, below_rfl _⟩)

set_option maxHeartbeats 400000 in
theorem pAskO_any (k : Int) (w : World) :
    Calls Try.prog 22 #[.int .i64 k] w fun e w' => e = .returned (.bool (askO k)) ∧ Below w.heap.size w w' := by
  have e : askO k = (k == 3 || k == 4) := by rw [Bool.eq_iff_iff]; simp [askO]
  rw [e]
  go_enter Try.func22, Try.ntmps22
  go_wp2
  all_goals (go_ret; exact ⟨by simp_all, below_rfl _⟩)

set_option maxHeartbeats 400000 in
theorem pKind_any (k : Int) (w : World) :
    Calls Try.prog 23 #[.int .i64 k] w fun e w' => e = .returned (.bool (kindB k)) ∧ Below w.heap.size w w' := by
  by_cases h : 1 ≤ k
  · have e : kindB k = decide (k ≤ 6) := by simp [kindB, h]
    rw [e]
    go_enter Try.func23, Try.ntmps23
    go_wp2
    go_ret
    exact ⟨rfl, below_rfl _⟩
  · have e : kindB k = false := by simp [kindB, h]
    have h' : decide (1 ≤ k) = false := decide_eq_false h
    rw [e]
    go_enter Try.func23, Try.ntmps23
    go_wp2
    go_ret
    exact ⟨rfl, below_rfl _⟩

set_option maxHeartbeats 400000 in
theorem pPlace_any (i n : Int) (w : World) :
    Calls Try.prog 32 #[.int .i64 i, .int .i64 n] w fun e w' => e = .returned (.bool (placeB i n)) ∧ Below w.heap.size w w' := by
  by_cases h : 0 ≤ i
  · have e : placeB i n = decide (i < n) := by simp [placeB, h]
    rw [e]
    go_enter Try.func32, Try.ntmps32
    go_wp2
    go_ret
    exact ⟨rfl, below_rfl _⟩
  · have e : placeB i n = false := by simp [placeB, h]
    have h' : decide (0 ≤ i) = false := decide_eq_false h
    rw [e]
    go_enter Try.func32, Try.ntmps32
    go_wp2
    go_ret
    exact ⟨rfl, below_rfl _⟩

set_option maxHeartbeats 400000 in
theorem p14In_any (n lo hi : Int) (w : World) :
    Calls Try.prog 27 #[.int .i64 n, .int .i64 lo, .int .i64 hi] w fun e w' => e = .returned (.bool (decide (lo ≤ n) && decide (n ≤ hi))) ∧ Below w.heap.size w w' := by
  by_cases h : lo ≤ n
  · have hd : decide (lo ≤ n) = true := decide_eq_true h
    go_enter Try.func27, Try.ntmps27
    go_wp2
    go_ret
    exact ⟨by simp [h], below_rfl _⟩
  · have hd : decide (lo ≤ n) = false := decide_eq_false h
    go_enter Try.func27, Try.ntmps27
    go_wp2
    go_ret
    exact ⟨by simp, below_rfl _⟩

theorem p14Place (i : Int) (n : Nat) {b : Bool} (h : placeB i n = b) (w : World) :
    Calls Try.prog 27 #[.int .i64 i, .int .i64 0, .int .i64 ((n : Int) - 1)] w fun e w' => e = .returned (.bool b) ∧ Below w.heap.size w w' := by
  have e : (decide (0 ≤ i) && decide (i ≤ (n : Int) - 1)) = b := by
    rw [← h, Bool.eq_iff_iff]
    simp [placeB]
    omega
  have := p14In_any i 0 ((n : Int) - 1) w
  rw [e] at this
  exact this

theorem wrap_less (n : Nat) (h : n ≤ 65536) : IntKind.i64.wrap ((n : Int) - 1) = (n : Int) - 1 := by rw [IntKind.wrap_i64]; omega

theorem box6 {w w1 : World} {a b c d e f : Value} {t : Nat} (hb : Below (w.alloc (.cells #[a, b, c, d, e, f] t)).heap.size (w.alloc (.cells #[a, b, c, d, e, f] t)) w1) :
    w1.cell? ⟨w.heap.size, 0, none⟩ = some a ∧ w1.cell? ⟨w.heap.size, 1, none⟩ = some b ∧ w1.cell? ⟨w.heap.size, 2, none⟩ = some c ∧ w1.cell? ⟨w.heap.size, 3, none⟩ = some d ∧ w1.cell? ⟨w.heap.size, 4, none⟩ = some e ∧ w1.cell? ⟨w.heap.size, 5, none⟩ = some f := by
  refine ⟨cell_later hb ?_, cell_later hb ?_, cell_later hb ?_, cell_later hb ?_, cell_later hb ?_, cell_later hb ?_⟩ <;> go_simp

set_option maxHeartbeats 1000000 in
theorem pHas_any (x : PPr) (n : Int) (w : World) :
    Calls Try.prog 24 #[.agg (cellsP x), .int .i64 n] w fun e w' => e = .returned (.bool (hasB x n)) ∧ Below w.heap.size w w' := by
  obtain ⟨k, c, o, vk, vi, vs⟩ := x
  simp only [cellsP, hasB]
  cases h1 : placeB c n with
  | false =>
    go_enter Try.func24, Try.ntmps24
    go_wp2_with fail
    refine (pPlace_any _ _ _).mono ?_
    rintro e w1 ⟨rfl, hb⟩
    rw [h1]
    go_wp2
    go_ret
    exact ⟨rfl, chain (alloc_below _ _) hb⟩
  | true =>
    cases h2 : askO k with
    | false =>
      go_enter Try.func24, Try.ntmps24
      go_wp2_with fail
      refine (pPlace_any _ _ _).mono ?_
      rintro e w1 ⟨rfl, hb⟩
      rw [h1]
      obtain ⟨c0, c1, c2, c3, c4, c5⟩ := box6 hb
      go_wp2_with fail
      refine (pAskO_any _ _).mono ?_
      rintro e w2 ⟨rfl, hb2⟩
      rw [h2]
      go_wp2
      go_ret
      exact ⟨rfl, chain (chain (alloc_below _ _) hb) hb2⟩
    | true =>
      go_enter Try.func24, Try.ntmps24
      go_wp2_with fail
      refine (pPlace_any _ _ _).mono ?_
      rintro e w1 ⟨rfl, hb⟩
      rw [h1]
      obtain ⟨c0, c1, c2, c3, c4, c5⟩ := box6 hb
      go_wp2_with fail
      refine (pAskO_any _ _).mono ?_
      rintro e w2 ⟨rfl, hb2⟩
      rw [h2]
      obtain ⟨c0, c1, c2, c3, c4, c5⟩ := box6 (chain hb hb2)
      go_wp2_with fail
      refine (pPlace_any _ _ _).mono ?_
      rintro e w3 ⟨rfl, hb3⟩
      go_wp2
      go_ret
      exact ⟨rfl, chain (chain (chain (alloc_below _ _) hb) hb2) hb3⟩

end Go.Proofs.Ytmolklaammfbmaa
