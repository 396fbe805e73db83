/-
  What a walk is told of a slice of byte rows, and of a slice of acts, that came in.
-/
import Derived.Test.YtdeeagphipfcaabRows
import Derived.Test.YtdeeagphipfcaabQBool
import Derived.Test.YtdeeagphipfcaabFrame
import Derived.WalkKit
import Derived.ProofKit
import Derived.OpenShut
import Derived.Lib.SmallJoins
namespace Go.Proofs.Ytdeeagphipfcaab
open Go.ChangeShapes Go.WideShapes Go.ChangeAt Go.RowKit Go.Lib
set_option linter.unusedVariables false

/-- A slice that leads to these bytes; to these bools. -/
def SlB (w : World) (v : Value) (l : List UInt8) : Prop := ∃ a cap, v = .slice a l.length cap ∧ l.length ≤ cap ∧ Rd w a l ∧ (a = none → l = [] ∧ cap = 0)

def SlO (w : World) (v : Value) (l : List Bool) : Prop := ∃ a cap, v = .slice a l.length cap ∧ l.length ≤ cap ∧ RdO w a l ∧ (a = none → l = [] ∧ cap = 0)

theorem SlB.later {w w' : World} {v : Value} {l : List UInt8} (h : SlB w v l) (hb : Below w.heap.size w w') : SlB w' v l := by
  obtain ⟨a, cap, h1, h2, h3, h4⟩ := h
  exact ⟨a, cap, h1, h2, h3.later hb, h4⟩

theorem SlO.later {w w' : World} {v : Value} {l : List Bool} (h : SlO w v l) (hb : Below w.heap.size w w') : SlO w' v l := by
  obtain ⟨a, cap, h1, h2, h3, h4⟩ := h
  exact ⟨a, cap, h1, h2, h3.later hb, h4⟩

/-- A slice's beginning, and the rows of bytes that are read from there on. -/
def RdBB (w : World) (a : Option Addr) (L : List (List UInt8)) : Prop :=
  0 < L.length → ∃ b off, a = some ⟨b, off, none⟩ ∧ ∀ i (hi : i < L.length), ∃ u, w.cell? ⟨b, off + i, none⟩ = some u ∧ SlB w u L[i]

theorem RdBB.later {w w' : World} {a : Option Addr} {L : List (List UInt8)} (h : RdBB w a L) (hb : Below w.heap.size w w') : RdBB w' a L := by
  intro h0
  obtain ⟨b, off, e, hc⟩ := h h0
  refine ⟨b, off, e, fun i hi => ?_⟩
  obtain ⟨u, h1, h2⟩ := hc i hi
  exact ⟨u, cell_later hb h1, h2.later hb⟩

def IsByteRows (w : World) (a : Option Addr) (len : Nat) (L : List (List UInt8)) : Prop := L.length = len ∧ len ≤ 9223372036854775807 ∧ RdBB w a L ∧ ∀ l ∈ L, l.length ≤ 9223372036854775807

/-- An act. -/
structure PA where
  d : Int
  n : Int
  b : List UInt8
  k : List Bool
  t : Int

def PA.Ok (x : PA) : Prop := (-9223372036854775808 ≤ x.d ∧ x.d ≤ 9223372036854775807) ∧ (-9223372036854775808 ≤ x.n ∧ x.n ≤ 9223372036854775807) ∧ (-9223372036854775808 ≤ x.t ∧ x.t ≤ 9223372036854775807) ∧ x.b.length ≤ 9223372036854775807 ∧ x.k.length ≤ 9223372036854775807

def noA : PA := ⟨0, 0, [], [], 0⟩

/-- An act's cells, from a place on. -/
def AtA (w : World) (b o : Nat) (x : PA) : Prop :=
  w.cell? ⟨b, o, none⟩ = some (.int .i64 x.d) ∧ w.cell? ⟨b, o + 1, none⟩ = some (.int .i64 x.n) ∧ (∃ u, w.cell? ⟨b, o + 2, none⟩ = some u ∧ SlB w u x.b) ∧ (∃ u, w.cell? ⟨b, o + 3, none⟩ = some u ∧ SlO w u x.k) ∧ w.cell? ⟨b, o + 4, none⟩ = some (.int .i64 x.t)

theorem AtA.later {w w' : World} {b o : Nat} {x : PA} (h : AtA w b o x) (hb : Below w.heap.size w w') : AtA w' b o x := by
  obtain ⟨h1, h2, ⟨u, h3, h4⟩, ⟨v, h5, h6⟩, h7⟩ := h
  exact ⟨cell_later hb h1, cell_later hb h2, ⟨u, cell_later hb h3, h4.later hb⟩, ⟨v, cell_later hb h5, h6.later hb⟩, cell_later hb h7⟩

def RdA (w : World) (a : Option Addr) (L : List PA) : Prop :=
  0 < L.length → ∃ b off, a = some ⟨b, off, none⟩ ∧ ∀ i (hi : i < L.length), AtA w b (off + i * 5) L[i]

theorem RdA.later {w w' : World} {a : Option Addr} {L : List PA} (h : RdA w a L) (hb : Below w.heap.size w w') : RdA w' a L := by
  intro h0
  obtain ⟨b, off, e, hc⟩ := h h0
  exact ⟨b, off, e, fun i hi => (hc i hi).later hb⟩

def IsActs (w : World) (a : Option Addr) (len : Nat) (L : List PA) : Prop := L.length = len ∧ len ≤ 9223372036854775807 ∧ RdA w a L ∧ ∀ x ∈ L, x.Ok

theorem one_cell {w : World} {base : Nat} {a : Addr} {cs : List Value} (h : w.cells? base a 1 = some cs) : ∃ x, cs = [x] ∧ w.cell? a = some x := by
  unfold World.cells? at h
  split at h
  · rw [show List.range 1 = [0] from rfl] at h
    simp only [List.mapM_cons, List.mapM_nil, Option.pure_def, Option.bind_eq_bind, Option.bind_eq_some_iff, Option.some.injEq] at h
    obtain ⟨u, hu, r, rfl, rfl⟩ := h
    have h0 : a.add 0 = a := by unfold Addr.add; split <;> simp_all
    rw [h0] at hu
    exact ⟨u, rfl, hu⟩
  · cases h

theorem five_cells {w : World} {base : Nat} {a : Addr} {cs : List Value} (h : w.cells? base a 5 = some cs) : ∃ x0 x1 x2 x3 x4, cs = [x0, x1, x2, x3, x4] ∧ w.cell? a = some x0 ∧ w.cell? (a.add 1) = some x1 ∧ w.cell? (a.add 2) = some x2 ∧ w.cell? (a.add 3) = some x3 ∧ w.cell? (a.add 4) = some x4 := by
  unfold World.cells? at h
  split at h
  · rw [show List.range 5 = [0, 1, 2, 3, 4] from rfl] at h
    simp only [List.mapM_cons, List.mapM_nil, Option.pure_def, Option.bind_eq_bind, Option.bind_eq_some_iff, Option.some.injEq] at h
    obtain ⟨x0, h0, r0, ⟨x1, h1, r1, ⟨x2, h2, r2, ⟨x3, h3, r3, ⟨x4, h4, r4, rfl, rfl⟩, rfl⟩, rfl⟩, rfl⟩, rfl⟩ := h
    have e : a.add 0 = a := by unfold Addr.add; split <;> simp_all
    rw [e] at h0
    exact ⟨x0, x1, x2, x3, x4, rfl, h0, h1, h2, h3, h4⟩
  · cases h

theorem slB_of {H : Type} {enc : TypeId × Value → H} {w : World} {u : Value} {fuel : Nat} {y : DataW H × List MemPlace} (hy : DataW.trod enc Try.prog w 0 (fun _ => true) true fuel 30 [u] = some y) : ∃ l, SlB w u l ∧ l.length ≤ 9223372036854775807 := by
  have hci : Try.prog.cellsOf 5 = 1 := by kernel_rfl
  have hs : ∃ a2 l2 c2 zs, u = .slice a2 l2 c2 ∧ IsInts .u8 w a2 l2 c2 zs := by
    rcases open_ints Try.underlying30 Try.underlying5 hci hy with ⟨h2, _⟩ | ⟨x2, l2, c2, zs, h2, _, hl2, hm2, hz2, _, hcell, hwz⟩
    · simp at h2
      exact ⟨none, 0, 0, [], h2, .inl ⟨rfl, rfl, rfl, rfl⟩⟩
    · simp at h2
      exact ⟨some x2, l2, c2, zs, h2, .inr ⟨_, rfl, hl2, hm2, by simpa using hz2, hcell, hwz⟩⟩
  obtain ⟨a2, l2, c2, zs, rfl, hi2⟩ := hs
  have hsm := hi2.small
  obtain ⟨l, h1, h2, h3, h4⟩ := hi2.bytes
  subst h1
  exact ⟨l, ⟨a2, c2, rfl, h2, h3, h4⟩, hsm⟩

theorem slO_of {H : Type} {enc : TypeId × Value → H} {w : World} {u : Value} {fuel : Nat} {y : DataW H × List MemPlace} (hy : DataW.trod enc Try.prog w 0 (fun _ => true) true fuel 36 [u] = some y) : ∃ l, SlO w u l ∧ l.length ≤ 9223372036854775807 := by
  obtain ⟨a, len, cap, hu⟩ := Go.Joins.slice_form Try.underlying36 hy
  simp at hu
  subst hu
  obtain ⟨L, h1, h2, h3, h4, h5⟩ := boolsQ_of (w := w) (a := a) (len := len) (cap := cap) (d := y.1) (p := y.2) ⟨fuel, by simpa [Value.cells] using hy⟩
  subst h1
  exact ⟨L, ⟨a, cap, rfl, h2, h4, h5⟩, h3⟩

theorem spot_none {w : World} {x : Addr} {v : Value} {k : Nat} (h : w.cell? (x.add k) = some v) (hk : k = 0) : x.spot = none := by
  subst hk
  have := World.cell?_spot h
  simpa [Addr.add] using this

theorem byteRows_of {H : Type} {enc : TypeId × Value → H} {w : World} {a : Option Addr} {len cap : Nat} {d : DataW H} {p : List MemPlace}
    (h : DataW.Trod enc Try.prog w 0 (fun _ => true) true 33 (Value.slice a len cap) d p) : ∃ L, IsByteRows w a len L := by
  obtain ⟨fuel, hf⟩ := h
  have hc : Try.prog.cellsOf 30 = 1 := by kernel_rfl
  rcases DataW.trod_slice Try.underlying33 hf with ⟨hcs, _⟩ | ⟨x, l, c, elems, rest, n, _, hcs, _, _, hl, hm, hlen, hel, _, _⟩
  · simp [Value.cells] at hcs
    obtain ⟨rfl, rfl, rfl⟩ := hcs
    exact ⟨[], rfl, by omega, fun h => absurd h (by simp), fun l hl => by cases hl⟩
  · simp [Value.cells] at hcs
    obtain ⟨rfl, rfl, rfl⟩ := hcs
    have each : ∀ i, i < len → ∃ l u, w.cell? (x.add i) = some u ∧ SlB w u l ∧ l.length ≤ 9223372036854775807 := by
      intro i hi
      have h1 := hel i hi
      rw [hc, List.getElem?_eq_getElem (by omega), Option.bind_eq_some_iff, Nat.mul_one] at h1
      obtain ⟨cs, hcs, hy⟩ := h1
      obtain ⟨u, rfl, hu⟩ := one_cell hcs
      obtain ⟨l, h2, h3⟩ := slB_of hy
      exact ⟨l, u, hu, h2, h3⟩
    refine ⟨(List.range len).map fun i => if h : i < len then (each i h).choose else [], by simp, by unfold maxLen at hm; omega, fun h0 => ?_, fun l hl => ?_⟩
    · have hx : x.spot = none := by
        obtain ⟨l, u, hu, _⟩ := each 0 (by simpa using h0)
        exact spot_none hu (by omega)
      obtain ⟨b, off, sp⟩ := x
      simp only at hx
      subst hx
      refine ⟨b, off, rfl, fun i hi => ?_⟩
      have hi' : i < len := by simpa using hi
      obtain ⟨u, h1, h2, _⟩ := (each i hi').choose_spec
      rw [add_plainQ] at h1
      refine ⟨u, h1, ?_⟩
      simp only [List.getElem_map, List.getElem_range, dif_pos hi']
      exact h2
    · obtain ⟨i, hi, rfl⟩ := List.mem_map.1 hl
      have hi' : i < len := by simpa using hi
      rw [dif_pos hi']
      obtain ⟨u, _, _, h3⟩ := (each i hi').choose_spec
      exact h3

theorem acts_of {H : Type} {enc : TypeId × Value → H} {w : World} {a : Option Addr} {len cap : Nat} {d : DataW H} {p : List MemPlace}
    (h : DataW.Trod enc Try.prog w 0 (fun _ => true) true 34 (Value.slice a len cap) d p) : ∃ L, IsActs w a len L := by
  obtain ⟨fuel, hf⟩ := h
  have hc : Try.prog.cellsOf 38 = 5 := by kernel_rfl
  have hci : Try.prog.cellsOf 3 = 1 := by kernel_rfl
  have hcb : Try.prog.cellsOf 30 = 1 := by kernel_rfl
  have hco : Try.prog.cellsOf 36 = 1 := by kernel_rfl
  rcases DataW.trod_slice Try.underlying34 hf with ⟨hcs, _⟩ | ⟨x, l, c, elems, rest, n, _, hcs, _, _, hl, hm, hlen, hel, _, _⟩
  · simp [Value.cells] at hcs
    obtain ⟨rfl, rfl, rfl⟩ := hcs
    exact ⟨[], rfl, by omega, fun h => absurd h (by simp), fun l hl => by cases hl⟩
  · simp [Value.cells] at hcs
    obtain ⟨rfl, rfl, rfl⟩ := hcs
    have each : ∀ i, i < len → ∃ v : PA, (w.cell? (x.add (i * 5)) = some (.int .i64 v.d) ∧ w.cell? ((x.add (i * 5)).add 1) = some (.int .i64 v.n) ∧ (∃ u, w.cell? ((x.add (i * 5)).add 2) = some u ∧ SlB w u v.b) ∧ (∃ u, w.cell? ((x.add (i * 5)).add 3) = some u ∧ SlO w u v.k) ∧ w.cell? ((x.add (i * 5)).add 4) = some (.int .i64 v.t)) ∧ v.Ok := by
      intro i hi
      have h1 := hel i hi
      rw [hc, List.getElem?_eq_getElem (by omega), Option.bind_eq_some_iff] at h1
      obtain ⟨cs, hcs, hy⟩ := h1
      obtain ⟨u0, u1, u2, u3, u4, rfl, c0, c1, c2, c3, c4⟩ := five_cells hcs
      obtain ⟨xs, m, _, _, _, hxl, hfs⟩ := DataW.trod_struct Try.underlying38 hy
      match xs, hxl with
      | [y0, y1, y2, y3, y4], _ =>
        have t0 := hfs 0 _ rfl
        have t1 := hfs 1 _ rfl
        have t2 := hfs 2 _ rfl
        have t3 := hfs 3 _ rfl
        have t4 := hfs 4 _ rfl
        simp [hci, hcb, hco] at t0 t1 t2 t3 t4
        obtain ⟨d0, e0, _, w0⟩ := DataW.trod_int Try.underlying3 t0
        obtain ⟨d1, e1, _, w1⟩ := DataW.trod_int Try.underlying3 t1
        obtain ⟨d4, e4, _, w4⟩ := DataW.trod_int Try.underlying3 t4
        obtain ⟨lb, hlb, hlb'⟩ := slB_of t2
        obtain ⟨lo, hlo, hlo'⟩ := slO_of t3
        simp at e0 e1 e4
        subst e0 e1 e4
        exact ⟨⟨d0, d1, lb, lo, d4⟩, ⟨c0, c1, ⟨u2, c2, hlb⟩, ⟨u3, c3, hlo⟩, c4⟩, bounds_i64 w0, bounds_i64 w1, bounds_i64 w4, hlb', hlo'⟩
    refine ⟨(List.range len).map fun i => if h : i < len then (each i h).choose else noA, by simp, by unfold maxLen at hm; omega, fun h0 => ?_, fun l hl => ?_⟩
    · have hx : x.spot = none := by
        obtain ⟨v, ⟨hu, _⟩, _⟩ := each 0 (by simpa using h0)
        exact spot_none hu (by omega)
      obtain ⟨b, off, sp⟩ := x
      simp only at hx
      subst hx
      refine ⟨b, off, rfl, fun i hi => ?_⟩
      have hi' : i < len := by simpa using hi
      have hs := (each i hi').choose_spec.1
      simp only [List.getElem_map, List.getElem_range, dif_pos hi']
      generalize (each i hi').choose = v at hs ⊢
      rw [add_plainQ, add_plainQ, add_plainQ, add_plainQ, add_plainQ] at hs
      exact hs
    · obtain ⟨i, hi, rfl⟩ := List.mem_map.1 hl
      have hi' : i < len := by simpa using hi
      rw [dif_pos hi']
      exact (each i hi').choose_spec.2

end Go.Proofs.Ytdeeagphipfcaab
