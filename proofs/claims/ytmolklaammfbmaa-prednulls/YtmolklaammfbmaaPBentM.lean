/-
  What PredBent's walk wants: why a bent predicate is refused.
-/
import Derived.Test.YtmolklaammfbmaaRows
import Derived.Test.YtmolklaammfbmaaPThreeM
namespace Go.Proofs.Ytmolklaammfbmaa
open Go.RowKit Go.Lib
set_option linter.unusedVariables false

theorem bent_right {ts : List Int} {i : Nat} (hi : i < ts.length) (v : PV) (o : Int) : chkP ⟨6, i, o, v⟩ ts = 0 :=
  chkP_one rfl (by simp [hasB, placeB_nat hi, askO]) rfl rfl

theorem bent_col {ts : List Int} (n : Nat) (hn : ts.length = n) (v : PV) (o : Int) : chkP ⟨6, n, o, v⟩ ts = 1 :=
  chkP_has (by simp [hasB, placeB, hn])

theorem bent_oth {ts : List Int} (i : Int) (v : PV) : chkP ⟨3, i, -1, v⟩ ts = 1 :=
  chkP_has (by simp [hasB, placeB, askO])

theorem bent_kind {ts : List Int} (k i o : Int) (v : PV) (h : k < 1 ∨ 6 < k) : chkP ⟨k, i, o, v⟩ ts = 1 :=
  chkP_kind (by
    cases hk : kindB k with
    | false => rfl
    | true => simp [kindB] at hk; omega)

theorem bent_type {ts : List Int} {i : Nat} (hi : i < ts.length) (k o : Int) (hk : 2 ≤ k ∧ k ≤ 4) (hne : k ≠ ts[i]) : chkP ⟨1, i, o, ⟨k, 0, ⟨#[]⟩⟩⟩ ts = 10 := by
  have hok : okV ⟨k, 0, ⟨#[]⟩⟩ = true := by
    rcases (show k = 2 ∨ k = 3 ∨ k = 4 by omega) with rfl | rfl | rfl <;> rfl
  rw [chkP_val rfl (by simp [hasB, placeB_nat hi, askO]) rfl rfl hok]
  have h1 : k ≠ 1 := by omega
  simp [atI_nat ts i hi, fitsV, hne, h1]

/-- A predicate's box. -/
def BoxPd (w : World) (g : Nat) (cs : Array Value) : Prop := w.heap[g]? = some (.cells cs 25 (0, 0))

theorem BoxPd.made {w : World} {cs : Array Value} : BoxPd (w.alloc (.cells cs 25)) w.heap.size cs := by
  show (w.heap.push _)[w.heap.size]? = _
  simp

theorem BoxPd.free {w : World} {g : Nat} {cs : Array Value} (h : BoxPd w g cs) (i : Nat) : w.frozen? ⟨g, i, none⟩ = false := by
  unfold BoxPd at h
  simp [World.frozen?, h]

theorem heap_ltP {w : World} {g : Nat} {o : Obj} (h : w.heap[g]? = some o) : g < w.heap.size := (Array.getElem?_eq_some_iff.1 h).1

theorem below_putP {B : Nat} {a w : World} {g i : Nat} {v : Value} (h : Below B a w) (hg : B ≤ g) : Below B a (w.setCell ⟨g, i, none⟩ v) := h.setCell hg v

theorem BoxPd.later {w w' : World} {g : Nat} {cs : Array Value} (h : BoxPd w g cs) (hs : Below w.heap.size w w') : BoxPd w' g cs := (hs.block g (heap_ltP h)).trans h

/-- What a number is modulo a small one, as the walk has it. -/
theorem mod5 (k : Int) : ∃ j : Nat, j < 5 ∧ (IntKind.u64.wrap k).tmod 5 = (j : Int) := by
  have h0 : 0 ≤ IntKind.u64.wrap k := by rw [IntKind.wrap_u64]; omega
  have h2 : (IntKind.u64.wrap k).tmod 5 = IntKind.u64.wrap k % 5 := Int.tmod_eq_emod_of_nonneg h0
  exact ⟨(IntKind.u64.wrap k % 5).toNat, by omega, by rw [h2]; omega⟩

end Go.Proofs.Ytmolklaammfbmaa
