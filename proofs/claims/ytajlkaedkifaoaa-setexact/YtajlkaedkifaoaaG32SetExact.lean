/-
  Texts of the proof of SetExact, one behind the other.
-/
import Derived.Test.YtajlkaedkifaoaaRows
import Derived.Test.YtajlkaedkifaoaaG16SetExact
import Derived.Test.YtajlkaedkifaoaaG11SetExact
import Derived.Deep.Strs
namespace Go.Proofs.Ytajlkaedkifaoaa
open Go.ChangeShapes Go.WideShapes Go.ChangeAt Go.RowKit Go.Lib
set_option linter.unusedVariables false

/-- A slice of values that came in: it is nil, or it leads to so many values. -/
def IsVals (w : World) (a : Option Addr) (len cap : Nat) (vs : List PV) : Prop :=
  (a = none ∧ len = 0 ∧ cap = 0 ∧ vs = []) ∨
  ∃ x, a = some x ∧ len ≤ cap ∧ cap ≤ maxLen ∧ vs.length = len ∧ ∀ i (hi : i < vs.length), (w.cell? (x.add (i * 3)) = some (.int .i64 vs[i].k) ∧ w.cell? ((x.add (i * 3)).add 1) = some (.int .i64 vs[i].i) ∧ w.cell? ((x.add (i * 3)).add 2) = some (.string vs[i].s)) ∧ vs[i].s.size ≤ maxLen

theorem three_cells {w : World} {base : Nat} {a : Addr} {cs : List Value} (h : w.cells? base a 3 = some cs) : ∃ x y z, cs = [x, y, z] ∧ w.cell? a = some x ∧ w.cell? (a.add 1) = some y ∧ w.cell? (a.add 2) = some z := by
  unfold World.cells? at h
  split at h
  · rw [show List.range 3 = [0, 1, 2] from rfl] at h
    simp only [List.mapM_cons, List.mapM_nil, Option.pure_def, Option.bind_eq_bind, Option.bind_eq_some_iff, Option.some.injEq] at h
    obtain ⟨x, hx, r, ⟨y, hy, r', ⟨z, hz, r'', rfl, rfl⟩, rfl⟩, rfl⟩ := h
    have h0 : a.add 0 = a := by unfold Addr.add; split <;> simp_all
    rw [h0] at hx
    exact ⟨x, y, z, rfl, hx, hy, hz⟩
  · cases h

theorem vals_of {H : Type} {enc : TypeId × Value → H} {w : World} {a : Option Addr} {len cap : Nat} {d : DataW H} {p : List MemPlace}
    (h : DataW.Trod enc Try.prog w 0 (fun _ => true) true 23 (Value.slice a len cap) d p) : ∃ vs, IsVals w a len cap vs := by
  obtain ⟨fuel, hf⟩ := h
  have hci : Try.prog.cellsOf 3 = 1 := by kernel_rfl
  have hcst : Try.prog.cellsOf 9 = 1 := by kernel_rfl
  have hc : Try.prog.cellsOf 65 = 3 := by kernel_rfl
  rcases DataW.trod_slice Try.underlying23 hf with ⟨hcs, _⟩ | ⟨x, l, c, elems, rest, n, _, hcs, _, _, hl, hm, hlen, hel, _, _⟩
  · simp [Value.cells] at hcs
    obtain ⟨rfl, rfl, rfl⟩ := hcs
    exact ⟨[], .inl ⟨rfl, rfl, rfl, rfl⟩⟩
  · simp [Value.cells] at hcs
    obtain ⟨rfl, rfl, rfl⟩ := hcs
    have each : ∀ i, i < len → ∃ v : PV, (w.cell? (x.add (i * 3)) = some (.int .i64 v.k) ∧ w.cell? ((x.add (i * 3)).add 1) = some (.int .i64 v.i) ∧ w.cell? ((x.add (i * 3)).add 2) = some (.string v.s)) ∧ v.s.size ≤ maxLen := by
      intro i hi
      have h1 := hel i hi
      rw [hc, List.getElem?_eq_getElem (by omega), Option.bind_eq_some_iff] at h1
      obtain ⟨cs, hcs, hy⟩ := h1
      obtain ⟨u0, u1, u2, rfl, c0, c1, c2⟩ := three_cells hcs
      obtain ⟨y0, y1, y2, m, _, _, t0, t1, t2⟩ := Go.Deep.trod_struct3 Try.underlying65 hy
      simp [hci, hcst] at t0 t1 t2
      obtain ⟨k, e0, _, _⟩ := DataW.trod_int Try.underlying3 t0
      obtain ⟨j, e1, _, _⟩ := DataW.trod_int Try.underlying3 t1
      obtain ⟨s, e2, _, hs⟩ := DataW.trod_string Try.underlying9 t2
      simp at e0 e1 e2
      subst e0 e1 e2
      exact ⟨⟨k, j, s⟩, ⟨c0, c1, c2⟩, hs⟩
    refine ⟨(List.range len).map fun i => if h : i < len then (each i h).choose else noV, .inr ⟨x, rfl, hl, hm, by simp, fun i hi => ?_⟩⟩
    have hi' : i < len := by simpa using hi
    have := (each i hi').choose_spec
    simp only [List.getElem_map, List.getElem_range, dif_pos hi']
    exact this

theorem IsVals.small {w : World} {a : Option Addr} {len cap : Nat} {vs : List PV} (h : IsVals w a len cap vs) : len ≤ 9223372036854775807 := by
  rcases h with ⟨_, rfl, _, _⟩ | ⟨x, _, h1, h2, _⟩
  · omega
  · unfold maxLen at h2
    omega

theorem IsVals.vals {w : World} {a : Option Addr} {len cap : Nat} {vs : List PV} (h : IsVals w a len cap vs) : vs.length = len ∧ len ≤ cap ∧ RdV w a vs ∧ (a = none → vs = [] ∧ cap = 0) := by
  rcases h with ⟨rfl, rfl, rfl, rfl⟩ | ⟨x, rfl, h1, _, h3, h4⟩
  · exact ⟨rfl, Nat.le_refl _, RdV.nil _ _, fun _ => ⟨rfl, rfl⟩⟩
  · refine ⟨h3, h1, fun h0 => ?_, (fun h => by cases h)⟩
    have hx : x.spot = none := by
      have h00 := (h4 0 h0).1.1
      have := World.cell?_spot h00
      simpa [Addr.add] using this
    obtain ⟨b, off, sp⟩ := x
    simp only at hx
    subst hx
    refine ⟨b, off, rfl, fun i hi => ?_⟩
    have := (h4 i hi).1
    rw [add_plain3, add_plain3, add_plain3] at this
    exact this

end Go.Proofs.Ytajlkaedkifaoaa
