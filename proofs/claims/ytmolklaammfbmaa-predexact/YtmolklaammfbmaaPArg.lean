/-
  What a walk is told of a predicate that came in.
-/
import Derived.Test.YtmolklaammfbmaaRows
import Derived.Test.YtmolklaammfbmaaPCalc
import Derived.Lib.SmallJoins
namespace Go.Proofs.Ytmolklaammfbmaa
open Go.ChangeShapes Go.WideShapes Go.ChangeAt Go.RowKit Go.Lib
set_option linter.unusedVariables false

theorem list6 {α : Type} {l : List α} (h : l.length = 6) : ∃ c0 c1 c2 c3 c4 c5, l = [c0, c1, c2, c3, c4, c5] := by
  match l, h with
  | [c0, c1, c2, c3, c4, c5], _ => exact ⟨c0, c1, c2, c3, c4, c5, rfl⟩

theorem trod_struct4P {H : Type} {enc : TypeId × Value → H} {P : Program} {w : World} {base : Nat} {spare : Nat → Bool} {held : Bool} {t : TypeId} {f0 f1 f2 f3 : Field} {fuel : Nat} {cs : List Value} {x : DataW H × List MemPlace} (ht : P.underlying t = some (.struct #[f0, f1, f2, f3])) (h : DataW.trod enc P w base spare held fuel t cs = some x) :
    ∃ y0 y1 y2 y3 n, cs.length = P.cellsOf t ∧ DataW.trod enc P w base spare held n f0.type ((cs.drop f0.offset).take (P.cellsOf f0.type)) = some y0 ∧ DataW.trod enc P w base spare held n f1.type ((cs.drop f1.offset).take (P.cellsOf f1.type)) = some y1 ∧
      DataW.trod enc P w base spare held n f2.type ((cs.drop f2.offset).take (P.cellsOf f2.type)) = some y2 ∧ DataW.trod enc P w base spare held n f3.type ((cs.drop f3.offset).take (P.cellsOf f3.type)) = some y3 := by
  obtain ⟨xs, n, _, rfl, hl, hlen, hf⟩ := DataW.trod_struct ht h
  match xs, hlen with
  | [y0, y1, y2, y3], _ => exact ⟨y0, y1, y2, y3, n, hl, by simpa using hf 0 f0 rfl, by simpa using hf 1 f1 rfl, by simpa using hf 2 f2 rfl, by simpa using hf 3 f3 rfl⟩

set_option maxRecDepth 100000 in
theorem pred_in {H : Type} {enc : TypeId × Value → H} {w : World} {fuel : Nat} {cs : List Value} {y : DataW H × List MemPlace}
    (h : DataW.trod enc Try.prog w 0 (fun _ => true) true fuel 25 cs = some y) : ∃ x : PPr, cs = (cellsP x).toList := by
  have ci : Try.prog.cellsOf 3 = 1 := by kernel_rfl
  have cst : Try.prog.cellsOf 9 = 1 := by kernel_rfl
  have cV : Try.prog.cellsOf 23 = 3 := by kernel_rfl
  have cP : Try.prog.cellsOf 25 = 6 := by kernel_rfl
  obtain ⟨y0, y1, y2, y3, n, hl, t0, t1, t2, t3⟩ := trod_struct4P Try.underlying25 h
  obtain ⟨d0, d1, d2, d3, d4, d5, rfl⟩ := list6 (hl.trans cP)
  clear hl h
  simp [ci, cV] at t0 t1 t2 t3
  obtain ⟨k, e0, _, _⟩ := DataW.trod_int Try.underlying3 t0
  obtain ⟨c, e1, _, _⟩ := DataW.trod_int Try.underlying3 t1
  obtain ⟨o, e2, _, _⟩ := DataW.trod_int Try.underlying3 t2
  obtain ⟨z0, z1, z2, n2, _, _, u0, u1, u2⟩ := Go.Deep.trod_struct3 Try.underlying23 t3
  simp [ci, cst] at u0 u1 u2
  obtain ⟨vk, e3, _, _⟩ := DataW.trod_int Try.underlying3 u0
  obtain ⟨vi, e4, _, _⟩ := DataW.trod_int Try.underlying3 u1
  obtain ⟨vs, e5, _, _⟩ := DataW.trod_string Try.underlying9 u2
  simp at e0 e1 e2 e3 e4 e5
  subst e0 e1 e2 e3 e4 e5
  exact ⟨⟨k, c, o, ⟨vk, vi, vs⟩⟩, rfl⟩

theorem pred_arg {H : Type} {enc : TypeId × Value → H} {w : World} {base : Nat} {v : Value} {d : DataW H} {p : List MemPlace} (hv : Value.okWide Try.prog w .any base 25 v)
    (h : DataW.Trod enc Try.prog w 0 (fun _ => true) true 25 v d p) : ∃ x : PPr, v = .agg (cellsP x) := by
  obtain ⟨cs, rfl, _⟩ := okWide_struct Try.underlying25 hv
  obtain ⟨fuel, hf⟩ := h
  obtain ⟨x, e⟩ := pred_in hf
  refine ⟨x, ?_⟩
  have e' : cs.toList = (cellsP x).toList := e
  rw [Array.toList_inj.1 e']

end Go.Proofs.Ytmolklaammfbmaa
