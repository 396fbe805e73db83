/-
  Texts of the proof of SetExact, one behind the other.
-/
import Derived.Test.YtajlkaedkifaoaaRows
import Derived.Test.YtajlkaedkifaoaaG3SetExact
import Derived.Test.YtajlkaedkifaoaaG5SetExact
import Derived.Test.YtajlkaedkifaoaaG6SetExact
import Derived.Test.YtajlkaedkifaoaaG15SetExact
import Derived.WalkKit
import Derived.ProofKit
import Derived.OpenShut
import Derived.Lib.SmallJoins
import Derived.Laws.AppendOwnNone
namespace Go.Proofs.Ytajlkaedkifaoaa
open Go.ChangeShapes Go.WideShapes Go.ChangeAt Go.RowKit Go.Lib
set_option linter.unusedVariables false

/-- A slice's beginning, and the values that are read from there on. -/
def RdV (w : World) (a : Option Addr) (vs : List PV) : Prop :=
  0 < vs.length → ∃ b off, a = some ⟨b, off, none⟩ ∧ ∀ i (hi : i < vs.length), w.cell? ⟨b, off + i * 3, none⟩ = some (.int .i64 vs[i].k) ∧ w.cell? ⟨b, off + i * 3 + 1, none⟩ = some (.int .i64 vs[i].i) ∧ w.cell? ⟨b, off + i * 3 + 2, none⟩ = some (.string vs[i].s)

theorem RdV.later {w w' : World} {a : Option Addr} {vs : List PV} (h : RdV w a vs) (hb : Below w.heap.size w w') : RdV w' a vs := by
  intro h0
  obtain ⟨b, off, e, hc⟩ := h h0
  exact ⟨b, off, e, fun i hi => ⟨cell_later hb (hc i hi).1, cell_later hb (hc i hi).2.1, cell_later hb (hc i hi).2.2⟩⟩

theorem RdV.nil (w : World) (a : Option Addr) : RdV w a [] := fun h => absurd h (by simp)

theorem RdV.take {w : World} {a : Option Addr} {vs : List PV} (h : RdV w a vs) (n : Nat) : RdV w a (vs.take n) := by
  intro h0
  obtain ⟨b, off, e, hc⟩ := h (by simp at h0; omega)
  refine ⟨b, off, e, fun i hi => ?_⟩
  have hi' : i < vs.length := by simp at hi; omega
  have := hc i hi'
  simpa using this

/-- A value's cells. -/
def cellV (v : PV) : List Value := [.int .i64 v.k, .int .i64 v.i, .string v.s]

/-- .. those of several, one behind the other. -/
def cellsV (vs : List PV) : List Value := vs.flatMap cellV

theorem cellsV_length (vs : List PV) : (cellsV vs).length = vs.length * 3 := by
  induction vs with
  | nil => rfl
  | cons v vs ih => simp [cellsV, cellV] at *; omega

theorem cellsV_append (a b : List PV) : cellsV (a ++ b) = cellsV a ++ cellsV b := by simp [cellsV]

theorem cellsV_one (vs : List PV) : ∀ u ∈ cellsV vs, u.oneCell' = true := by
  intro u hu
  simp [cellsV, cellV] at hu
  obtain ⟨v, _, h⟩ := hu
  rcases h with rfl | rfl | rfl <;> rfl

theorem cellsV_at : ∀ (vs : List PV) (i : Nat) (hi : i < vs.length), (cellsV vs)[i * 3]? = some (.int .i64 vs[i].k) ∧ (cellsV vs)[i * 3 + 1]? = some (.int .i64 vs[i].i) ∧ (cellsV vs)[i * 3 + 2]? = some (.string vs[i].s)
  | [], i, hi => absurd hi (by simp)
  | v :: vs, 0, hi => by simp [cellsV, cellV]
  | v :: vs, i + 1, hi => by
    have := cellsV_at vs i (by simpa using hi)
    have e1 : (i + 1) * 3 = i * 3 + 3 := by omega
    have e2 : (i + 1) * 3 + 1 = i * 3 + 1 + 3 := by omega
    have e3 : (i + 1) * 3 + 2 = i * 3 + 2 + 3 := by omega
    have ec : cellsV (v :: vs) = [.int .i64 v.k, .int .i64 v.i, .string v.s] ++ cellsV vs := by simp [cellsV, cellV]
    rw [ec, e3, e2, e1]
    simpa using this

/-- Each cell of a row of values is one of a value's three. -/
theorem cellsV_get {vs : List PV} {j : Nat} {u : Value} (h : (cellsV vs)[j]? = some u) : ∃ i, i < vs.length ∧ (j = i * 3 ∨ j = i * 3 + 1 ∨ j = i * 3 + 2) := by
  have hj : j < (cellsV vs).length := (List.getElem?_eq_some_iff.1 h).1
  rw [cellsV_length] at hj
  exact ⟨j / 3, by omega, by omega⟩

theorem add_plain3 (b off i : Nat) : (⟨b, off, none⟩ : Addr).add i = ⟨b, off + i, none⟩ := by unfold Addr.add; split <;> simp_all

theorem RdV.src {w : World} {a : Option Addr} {vs : List PV} (h : RdV w a vs) (h0 : 0 < vs.length) : ∃ ad, a = some ad ∧ ∀ j u, (cellsV vs)[j]? = some u → w.cell? (ad.add j) = some u := by
  obtain ⟨b, off, e, hc⟩ := h h0
  refine ⟨_, e, fun j u hu => ?_⟩
  rw [add_plain3]
  obtain ⟨i, hi, hj⟩ := cellsV_get hu
  obtain ⟨c0, c1, c2⟩ := hc i hi
  obtain ⟨d0, d1, d2⟩ := cellsV_at vs i hi
  rcases hj with rfl | rfl | rfl
  · rw [d0] at hu; cases hu; exact c0
  · rw [d1] at hu; cases hu; rw [← Nat.add_assoc]; exact c1
  · rw [d2] at hu; cases hu; rw [← Nat.add_assoc]; exact c2

theorem RdV.of_src {w : World} {b off : Nat} {vs : List PV} (h : ∀ j u, (cellsV vs)[j]? = some u → w.cell? ⟨b, off + j, none⟩ = some u) : RdV w (some ⟨b, off, none⟩) vs := fun _ =>
  ⟨b, off, rfl, fun i hi => by
    obtain ⟨d0, d1, d2⟩ := cellsV_at vs i hi
    exact ⟨h _ _ d0, by rw [Nat.add_assoc]; exact h _ _ d1, by rw [Nat.add_assoc]; exact h _ _ d2⟩⟩

/-- The slice v is a row of the call's own, from block B on, and its elements are these values. -/
def OwnV (w : World) (B : Nat) (v : Value) (vs : List PV) : Prop := w.ownsRow B 65 3 v vs.length (cellsV vs)

theorem OwnV.nought (w : World) (B : Nat) : OwnV w B (.slice none 0 0) [] := World.ownsRow_nil w B 65 3

theorem OwnV.form {w : World} {B : Nat} {v : Value} {vs : List PV} (h : OwnV w B v vs) : ∃ a cap, v = .slice a vs.length cap ∧ vs.length ≤ cap ∧ RdV w a vs ∧ (a = none → vs = [] ∧ cap = 0) := by
  obtain ⟨_, ⟨hv, hn⟩ | ⟨g, cap, cur, hv, _, hh, hc, _, hs, ht⟩⟩ := h
  · have : vs = [] := List.eq_nil_of_length_eq_zero hn
    subst this
    exact ⟨none, 0, hv, Nat.le_refl _, RdV.nil _ _, fun _ => ⟨rfl, rfl⟩⟩
  · refine ⟨_, cap, hv, hc, RdV.of_src fun j u hu => ?_, fun h => by cases h⟩
    rw [cell_of_row w g _ _ _ _ hh, Nat.zero_add]
    have hj : j < vs.length * 3 := by have := (List.getElem?_eq_some_iff.1 hu).1; rwa [cellsV_length] at this
    rw [← ht, List.getElem?_take_of_lt hj] at hu
    simpa using hu

theorem OwnV.later {w w' : World} {B : Nat} {v : Value} {vs : List PV} (h : OwnV w B v vs) (hb : Below w.heap.size w w') : OwnV w' B v vs := by
  obtain ⟨h1, h2⟩ := h
  refine ⟨h1, ?_⟩
  rcases h2 with h2 | ⟨g, cap, cur, hv, hg, hh, hc⟩
  · exact .inl h2
  · refine .inr ⟨g, cap, cur, hv, hg, (hb.block g ?_).trans hh, hc⟩
    rcases Nat.lt_or_ge g w.heap.size with h3 | h3
    · exact h3
    · simp [Array.getElem?_eq_none h3] at hh

theorem OwnV.block {w : World} {B : Nat} {v : Value} {vs : List PV} (h : OwnV w B v vs) : ∀ k, v.ownBlock = some k → B ≤ k := fun k hk => (World.ownsRow.lt h k hk).1

theorem Try.infoV : (Try.prog.info? 65).map (fun i => (i.zero, i.size, i.bytes)) = some (some (.agg #[.int .i64 0, .int .i64 0, .string ⟨#[]⟩]), 3, 32) := by kernel_rfl

/-- append(v, src...): v the call's own, src any values that can be read. -/
theorem run_append_vals {w : World} {B ty n m cap : Nat} {v : Value} {a : Option Addr} {xs vs : List PV}
    (hown : OwnV w B v xs) (hn : xs.length = n) (hm : vs.length = m) (hr : RdV w a vs) (hnil : a = none → vs = [] ∧ cap = 0) (h1 : n ≤ 65536) (h2 : m ≤ 65536) (hB : B ≤ w.heap.size) :
    ∃ a' cap' w', (Builtin.append_ #[23, 23] ty #[v, .slice a m cap]).run Try.prog w = .ok (.slice a' (n + m) cap') w' ∧ n + m ≤ cap' ∧ OwnV w' B (.slice a' (n + m) cap') (xs ++ vs) ∧ RdV w' a' (xs ++ vs) ∧ (a' = none → xs ++ vs = [] ∧ cap' = 0) ∧ w.heap.size ≤ w'.heap.size ∧ Below B w w' := by
  subst hn hm
  obtain ⟨i0, hi, hz0, hz1, hz2⟩ := info_parts Try.infoV
  have main : ∃ v' w', (Builtin.append_ #[23, 23] ty #[v, .slice a vs.length cap]).run Try.prog w = .ok v' w' ∧ OwnV w' B v' (xs ++ vs) ∧ w.grownBy w' v.ownBlock := by
    cases a with
    | none =>
      obtain ⟨rfl, rfl⟩ := hnil rfl
      exact ⟨v, w, run_append_owned_none (P := Try.prog) (w := w) B 23 ty 65 i0 3 Try.underlying23 hi v xs.length (cellsV xs) hown, by simpa [OwnV] using hown, World.grownBy.refl _ _⟩
    | some ad =>
      have hsrc : ∀ j u, (cellsV vs)[j]? = some u → w.cell? (ad.add j) = some u := by
        rcases Nat.eq_zero_or_pos vs.length with h0 | h0
        · obtain rfl := List.eq_nil_of_length_eq_zero h0
          intro j u hj
          simp [cellsV] at hj
        · obtain ⟨ad', e, h⟩ := hr.src h0
          cases e
          exact h
      obtain ⟨v', w', hrun, ho, hg, _⟩ := run_append_own (P := Try.prog) (w := w) B 23 ty 65 i0 (.agg #[.int .i64 0, .int .i64 0, .string ⟨#[]⟩]) 3 32 Try.underlying23 hi hz0 hz1 hz2 rfl (by decide) v xs.length (cellsV xs) hown ad vs.length cap (cellsV vs) (by rw [cellsV_length]) hsrc (cellsV_one _) (by unfold maxLen; omega) (by omega) hB
      refine ⟨v', w', hrun, ?_, hg⟩
      unfold OwnV
      rw [List.length_append, cellsV_append]
      exact ho
  obtain ⟨v', w', hrun, ho, hg⟩ := main
  obtain ⟨a', cap', rfl, hc, hrd, hnl⟩ := ho.form
  rw [List.length_append] at hrun ho hc
  exact ⟨a', cap', w', hrun, hc, ho, hrd, hnl, hg.size, (Below.refl _ _).grown hg hB (fun k hk => hown.block k hk)⟩

end Go.Proofs.Ytajlkaedkifaoaa
