/-
  Rows of times in memory: what a walk is told of a slice of times; a row that append makes; a slice of times that came in.
-/
import Derived.Test.YtncidjlobjgibaaRows
import Derived.Test.YtncidjlobjgibaaHCalc
import Derived.Test.YtncidjlobjgibaaRMem
import Derived.WalkKit
import Derived.ProofKit
import Derived.OpenShut
import Derived.Lib.SmallJoins
import Derived.Laws.AppendOwnNone
import Derived.Deep.Strs
namespace Go.Proofs.Ytncidjlobjgibaa
open Go.ChangeShapes Go.WideShapes Go.ChangeAt Go.RowKit Go.Lib
set_option linter.unusedVariables false

/-- A slice's beginning, and the times that are read from there on. -/
def RdT (w : World) (a : Option Addr) (vs : List PS) : Prop :=
  0 < vs.length → ∃ b off, a = some ⟨b, off, none⟩ ∧ ∀ i (hi : i < vs.length), w.cell? ⟨b, off + i * 3, none⟩ = some (.int .i64 vs[i].p) ∧ w.cell? ⟨b, off + i * 3 + 1, none⟩ = some (.int .i64 vs[i].l) ∧ w.cell? ⟨b, off + i * 3 + 2, none⟩ = some (.int .i64 vs[i].q)

theorem RdT.later {w w' : World} {a : Option Addr} {vs : List PS} (h : RdT w a vs) (hb : Below w.heap.size w w') : RdT w' a vs := by
  intro h0
  obtain ⟨b, off, e, hc⟩ := h h0
  exact ⟨b, off, e, fun i hi => ⟨cell_later hb (hc i hi).1, cell_later hb (hc i hi).2.1, cell_later hb (hc i hi).2.2⟩⟩

theorem RdT.nil (w : World) (a : Option Addr) : RdT w a [] := fun h => absurd h (by simp)

theorem RdT.take {w : World} {a : Option Addr} {vs : List PS} (h : RdT w a vs) (n : Nat) : RdT w a (vs.take n) := by
  intro h0
  obtain ⟨b, off, e, hc⟩ := h (by simp at h0; omega)
  refine ⟨b, off, e, fun i hi => ?_⟩
  have hi' : i < vs.length := by simp at hi; omega
  have := hc i hi'
  simpa using this

/-- A time's cells. -/
def cellT (v : PS) : List Value := [.int .i64 v.p, .int .i64 v.l, .int .i64 v.q]

/-- .. those of several, one behind the other. -/
def cellsT (vs : List PS) : List Value := vs.flatMap cellT

theorem cellsT_length (vs : List PS) : (cellsT vs).length = vs.length * 3 := by
  induction vs with
  | nil => rfl
  | cons v vs ih => simp [cellsT, cellT] at *; omega

theorem cellsT_append (a b : List PS) : cellsT (a ++ b) = cellsT a ++ cellsT b := by simp [cellsT]

theorem cellsT_one (vs : List PS) : ∀ u ∈ cellsT vs, u.oneCell' = true := by
  intro u hu
  simp [cellsT, cellT] at hu
  obtain ⟨v, _, h⟩ := hu
  rcases h with rfl | rfl | rfl <;> rfl

theorem cellsT_at : ∀ (vs : List PS) (i : Nat) (hi : i < vs.length), (cellsT vs)[i * 3]? = some (.int .i64 vs[i].p) ∧ (cellsT vs)[i * 3 + 1]? = some (.int .i64 vs[i].l) ∧ (cellsT vs)[i * 3 + 2]? = some (.int .i64 vs[i].q)
  | [], i, hi => absurd hi (by simp)
  | v :: vs, 0, hi => by simp [cellsT, cellT]
  | v :: vs, i + 1, hi => by
    have := cellsT_at vs i (by simpa using hi)
    have e1 : (i + 1) * 3 = i * 3 + 3 := by omega
    have e2 : (i + 1) * 3 + 1 = i * 3 + 1 + 3 := by omega
    have e3 : (i + 1) * 3 + 2 = i * 3 + 2 + 3 := by omega
    have ec : cellsT (v :: vs) = [.int .i64 v.p, .int .i64 v.l, .int .i64 v.q] ++ cellsT vs := by simp [cellsT, cellT]
    rw [ec, e3, e2, e1]
    simpa using this

/-- Each cell of a row of times is one of a time's three. -/
theorem cellsT_get {vs : List PS} {j : Nat} {u : Value} (h : (cellsT vs)[j]? = some u) : ∃ i, i < vs.length ∧ (j = i * 3 ∨ j = i * 3 + 1 ∨ j = i * 3 + 2) := by
  have hj : j < (cellsT vs).length := (List.getElem?_eq_some_iff.1 h).1
  rw [cellsT_length] at hj
  exact ⟨j / 3, by omega, by omega⟩

theorem RdT.src {w : World} {a : Option Addr} {vs : List PS} (h : RdT w a vs) (h0 : 0 < vs.length) : ∃ ad, a = some ad ∧ ∀ j u, (cellsT vs)[j]? = some u → w.cell? (ad.add j) = some u := by
  obtain ⟨b, off, e, hc⟩ := h h0
  refine ⟨_, e, fun j u hu => ?_⟩
  rw [add_plain3]
  obtain ⟨i, hi, hj⟩ := cellsT_get hu
  obtain ⟨c0, c1, c2⟩ := hc i hi
  obtain ⟨d0, d1, d2⟩ := cellsT_at vs i hi
  rcases hj with rfl | rfl | rfl
  · rw [d0] at hu; cases hu; exact c0
  · rw [d1] at hu; cases hu; rw [← Nat.add_assoc]; exact c1
  · rw [d2] at hu; cases hu; rw [← Nat.add_assoc]; exact c2

theorem RdT.of_src {w : World} {b off : Nat} {vs : List PS} (h : ∀ j u, (cellsT vs)[j]? = some u → w.cell? ⟨b, off + j, none⟩ = some u) : RdT w (some ⟨b, off, none⟩) vs := fun _ =>
  ⟨b, off, rfl, fun i hi => by
    obtain ⟨d0, d1, d2⟩ := cellsT_at vs i hi
    exact ⟨h _ _ d0, by rw [Nat.add_assoc]; exact h _ _ d1, by rw [Nat.add_assoc]; exact h _ _ d2⟩⟩

/-- The slice v is a row of the call's own, from block B on, and its elements are these times. -/
def OwnT (w : World) (B : Nat) (v : Value) (vs : List PS) : Prop := w.ownsRow B 23 3 v vs.length (cellsT vs)

theorem OwnT.nought (w : World) (B : Nat) : OwnT w B (.slice none 0 0) [] := World.ownsRow_nil w B 23 3

theorem OwnT.form {w : World} {B : Nat} {v : Value} {vs : List PS} (h : OwnT w B v vs) : ∃ a cap, v = .slice a vs.length cap ∧ vs.length ≤ cap ∧ RdT w a vs ∧ (a = none → vs = [] ∧ cap = 0) := by
  obtain ⟨_, ⟨hv, hn⟩ | ⟨g, cap, cur, hv, _, hh, hc, _, hs, ht⟩⟩ := h
  · have : vs = [] := List.eq_nil_of_length_eq_zero hn
    subst this
    exact ⟨none, 0, hv, Nat.le_refl _, RdT.nil _ _, fun _ => ⟨rfl, rfl⟩⟩
  · refine ⟨_, cap, hv, hc, RdT.of_src fun j u hu => ?_, fun h => by cases h⟩
    rw [cell_of_row w g _ _ _ _ hh, Nat.zero_add]
    have hj : j < vs.length * 3 := by have := (List.getElem?_eq_some_iff.1 hu).1; rwa [cellsT_length] at this
    rw [← ht, List.getElem?_take_of_lt hj] at hu
    simpa using hu

theorem OwnT.later {w w' : World} {B : Nat} {v : Value} {vs : List PS} (h : OwnT w B v vs) (hb : Below w.heap.size w w') : OwnT w' B v vs := by
  obtain ⟨h1, h2⟩ := h
  refine ⟨h1, ?_⟩
  rcases h2 with h2 | ⟨g, cap, cur, hv, hg, hh, hc⟩
  · exact .inl h2
  · refine .inr ⟨g, cap, cur, hv, hg, (hb.block g ?_).trans hh, hc⟩
    rcases Nat.lt_or_ge g w.heap.size with h3 | h3
    · exact h3
    · simp [Array.getElem?_eq_none h3] at hh

theorem OwnT.block {w : World} {B : Nat} {v : Value} {vs : List PS} (h : OwnT w B v vs) : ∀ k, v.ownBlock = some k → B ≤ k := fun k hk => (World.ownsRow.lt h k hk).1

theorem Try.infoSt : (Try.prog.info? 23).map (fun i => (i.zero, i.size, i.bytes)) = some (some (.agg #[.int .i64 0, .int .i64 0, .int .i64 0]), 3, 24) := by kernel_rfl

/-- append(v, src...): v the call's own, src any times that can be read. -/
theorem run_append_stamps {w : World} {B ty n m cap : Nat} {v : Value} {a : Option Addr} {xs vs : List PS}
    (hown : OwnT w B v xs) (hn : xs.length = n) (hm : vs.length = m) (hr : RdT w a vs) (hnil : a = none → vs = [] ∧ cap = 0) (h1 : n ≤ 65536) (h2 : m ≤ 65536) (hB : B ≤ w.heap.size) :
    ∃ a' cap' w', (Builtin.append_ #[38, 38] ty #[v, .slice a m cap]).run Try.prog w = .ok (.slice a' (n + m) cap') w' ∧ n + m ≤ cap' ∧ OwnT w' B (.slice a' (n + m) cap') (xs ++ vs) ∧ RdT w' a' (xs ++ vs) ∧ (a' = none → xs ++ vs = [] ∧ cap' = 0) ∧ w.heap.size ≤ w'.heap.size ∧ Below B w w' := by
  subst hn hm
  obtain ⟨i0, hi, hz0, hz1, hz2⟩ := info_parts Try.infoSt
  have main : ∃ v' w', (Builtin.append_ #[38, 38] ty #[v, .slice a vs.length cap]).run Try.prog w = .ok v' w' ∧ OwnT w' B v' (xs ++ vs) ∧ w.grownBy w' v.ownBlock := by
    cases a with
    | none =>
      obtain ⟨rfl, rfl⟩ := hnil rfl
      exact ⟨v, w, run_append_owned_none (P := Try.prog) (w := w) B 38 ty 23 i0 3 Try.underlying38 hi v xs.length (cellsT xs) hown, by simpa [OwnT] using hown, World.grownBy.refl _ _⟩
    | some ad =>
      have hsrc : ∀ j u, (cellsT vs)[j]? = some u → w.cell? (ad.add j) = some u := by
        rcases Nat.eq_zero_or_pos vs.length with h0 | h0
        · obtain rfl := List.eq_nil_of_length_eq_zero h0
          intro j u hj
          simp [cellsT] at hj
        · obtain ⟨ad', e, h⟩ := hr.src h0
          cases e
          exact h
      obtain ⟨v', w', hrun, ho, hg, _⟩ := run_append_own (P := Try.prog) (w := w) B 38 ty 23 i0 (.agg #[.int .i64 0, .int .i64 0, .int .i64 0]) 3 24 Try.underlying38 hi hz0 hz1 hz2 rfl (by decide) v xs.length (cellsT xs) hown ad vs.length cap (cellsT vs) (by rw [cellsT_length]) hsrc (cellsT_one _) (by unfold maxLen; omega) (by omega) hB
      refine ⟨v', w', hrun, ?_, hg⟩
      unfold OwnT
      rw [List.length_append, cellsT_append]
      exact ho
  obtain ⟨v', w', hrun, ho, hg⟩ := main
  obtain ⟨a', cap', rfl, hc, hrd, hnl⟩ := ho.form
  rw [List.length_append] at hrun ho hc
  exact ⟨a', cap', w', hrun, hc, ho, hrd, hnl, hg.size, (Below.refl _ _).grown hg hB (fun k hk => hown.block k hk)⟩

/-- A slice of times that came in: it is nil, or it leads to so many times. -/
def IsStamps (w : World) (a : Option Addr) (len cap : Nat) (vs : List PS) : Prop :=
  (a = none ∧ len = 0 ∧ cap = 0 ∧ vs = []) ∨
  ∃ x, a = some x ∧ len ≤ cap ∧ cap ≤ maxLen ∧ vs.length = len ∧ ∀ i (hi : i < vs.length), (w.cell? (x.add (i * 3)) = some (.int .i64 vs[i].p) ∧ w.cell? ((x.add (i * 3)).add 1) = some (.int .i64 vs[i].l) ∧ w.cell? ((x.add (i * 3)).add 2) = some (.int .i64 vs[i].q)) ∧ S64 vs[i]

theorem cells_three {w : World} {base : Nat} {a : Addr} {cs : List Value} (h : w.cells? base a 3 = some cs) : ∃ x y z, cs = [x, y, z] ∧ w.cell? a = some x ∧ w.cell? (a.add 1) = some y ∧ w.cell? (a.add 2) = some z := by
  unfold World.cells? at h
  split at h
  · rw [show List.range 3 = [0, 1, 2] from rfl] at h
    simp only [List.mapM_cons, List.mapM_nil, Option.pure_def, Option.bind_eq_bind, Option.bind_eq_some_iff, Option.some.injEq] at h
    obtain ⟨x, hx, r, ⟨y, hy, r', ⟨z, hz, r'', rfl, rfl⟩, rfl⟩, rfl⟩ := h
    have h0 : a.add 0 = a := by unfold Addr.add; split <;> simp_all
    rw [h0] at hx
    exact ⟨x, y, z, rfl, hx, hy, hz⟩
  · cases h

theorem stamps_of {H : Type} {enc : TypeId × Value → H} {w : World} {a : Option Addr} {len cap : Nat} {d : DataW H} {p : List MemPlace}
    (h : DataW.Trod enc Try.prog w 0 (fun _ => true) true 38 (Value.slice a len cap) d p) : ∃ vs, IsStamps w a len cap vs := by
  obtain ⟨fuel, hf⟩ := h
  have hci : Try.prog.cellsOf 3 = 1 := by kernel_rfl
  have hc : Try.prog.cellsOf 23 = 3 := by kernel_rfl
  rcases DataW.trod_slice Try.underlying38 hf with ⟨hcs, _⟩ | ⟨x, l, c, elems, rest, n, _, hcs, _, _, hl, hm, hlen, hel, _, _⟩
  · simp [Value.cells] at hcs
    obtain ⟨rfl, rfl, rfl⟩ := hcs
    exact ⟨[], .inl ⟨rfl, rfl, rfl, rfl⟩⟩
  · simp [Value.cells] at hcs
    obtain ⟨rfl, rfl, rfl⟩ := hcs
    have each : ∀ i, i < len → ∃ v : PS, (w.cell? (x.add (i * 3)) = some (.int .i64 v.p) ∧ w.cell? ((x.add (i * 3)).add 1) = some (.int .i64 v.l) ∧ w.cell? ((x.add (i * 3)).add 2) = some (.int .i64 v.q)) ∧ S64 v := by
      intro i hi
      have h1 := hel i hi
      rw [hc, List.getElem?_eq_getElem (by omega), Option.bind_eq_some_iff] at h1
      obtain ⟨cs, hcs, hy⟩ := h1
      obtain ⟨u0, u1, u2, rfl, c0, c1, c2⟩ := cells_three hcs
      obtain ⟨y0, y1, y2, m, _, _, t0, t1, t2⟩ := Go.Deep.trod_struct3 Try.underlying23 hy
      simp [hci] at t0 t1 t2
      obtain ⟨k, e0, _, w0⟩ := DataW.trod_int Try.underlying3 t0
      obtain ⟨j, e1, _, w1⟩ := DataW.trod_int Try.underlying3 t1
      obtain ⟨s, e2, _, w2⟩ := DataW.trod_int Try.underlying3 t2
      simp at e0 e1 e2
      subst e0 e1 e2
      exact ⟨⟨k, j, s⟩, ⟨c0, c1, c2⟩, bounds_i64 w0, bounds_i64 w1, bounds_i64 w2⟩
    refine ⟨(List.range len).map fun i => if h : i < len then (each i h).choose else noS, .inr ⟨x, rfl, hl, hm, by simp, fun i hi => ?_⟩⟩
    have hi' : i < len := by simpa using hi
    have := (each i hi').choose_spec
    simp only [List.getElem_map, List.getElem_range, dif_pos hi']
    exact this

theorem IsStamps.small {w : World} {a : Option Addr} {len cap : Nat} {vs : List PS} (h : IsStamps w a len cap vs) : len ≤ 9223372036854775807 := by
  rcases h with ⟨_, rfl, _, _⟩ | ⟨x, _, h1, h2, _⟩
  · omega
  · unfold maxLen at h2
    omega

theorem IsStamps.stamps {w : World} {a : Option Addr} {len cap : Nat} {vs : List PS} (h : IsStamps w a len cap vs) : vs.length = len ∧ len ≤ cap ∧ RdT w a vs ∧ (a = none → vs = [] ∧ cap = 0) ∧ ∀ v ∈ vs, S64 v := by
  rcases h with ⟨rfl, rfl, rfl, rfl⟩ | ⟨x, rfl, h1, _, h3, h4⟩
  · exact ⟨rfl, Nat.le_refl _, RdT.nil _ _, fun _ => ⟨rfl, rfl⟩, fun v hv => by cases hv⟩
  · refine ⟨h3, h1, fun h0 => ?_, (fun h => by cases h), fun v hv => ?_⟩
    · have hx : x.spot = none := by
        have h00 := (h4 0 h0).1.1
        have := World.cell?_spot h00
        simpa [Addr.add] using this
      obtain ⟨b, off, sp⟩ := x
      simp only at hx
      subst hx
      refine ⟨b, off, rfl, fun i hi => ?_⟩
      have := (h4 i hi).1
      rw [add_plain3, add_plain3, add_plain3] at this
      exact this
    · obtain ⟨i, hi, rfl⟩ := List.mem_iff_getElem.1 hv
      exact (h4 i hi).2

end Go.Proofs.Ytncidjlobjgibaa
