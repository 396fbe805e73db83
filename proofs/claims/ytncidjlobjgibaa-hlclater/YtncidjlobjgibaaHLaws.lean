/-
  What the laws of layer 6 share: wakes.
-/
import Derived.Test.YtncidjlobjgibaaRows
import Derived.Test.YtncidjlobjgibaaHRef
import Derived.Test.YtncidjlobjgibaaHeld
import Derived.Deep.RegionHeld3
import Derived.Deep.RegionLaw
import Derived.Deep.QuietTactic
import Derived.Deep.Cut
import Derived.BigQuiet
namespace Go.Proofs.Ytncidjlobjgibaa
open Go.RowKit Go.Lib
set_option linter.unusedVariables false

theorem in64' {x : Int} (h : -4611686018427387904 ≤ x ∧ x ≤ 4611686018427387904) : In64 x := by unfold In64; omega

theorem s64 {p l q : Int} (h0 : In64 p) (h1 : In64 l) (h2 : In64 q) : S64 ⟨p, l, q⟩ := ⟨h0, h1, h2⟩

set_option maxHeartbeats 1000000 in
theorem hwakes_any (D : HlcApi) (w : World) :
    Calls Try.prog 18 #[] w fun e w' => e = .returned (.bool true) ∧ Below w.heap.size w w' := by
  have C1 := fun (W : World) => D.next 5 3 1 5 0 W (s64 (in64 (by omega)) (in64 (by omega)) (in64 (by omega))) (in64 (by omega)) (in64 (by omega))
  have C2 := fun (W : World) => D.compare 0 0 0 5 4 0 W (s64 (in64 (by omega)) (in64 (by omega)) (in64 (by omega))) (s64 (in64 (by omega)) (in64 (by omega)) (in64 (by omega)))
  rw [show nextS ⟨5, 3, 1⟩ 5 0 = (⟨5, 4, 0⟩, 0) from by decide] at C1
  rw [show cmpS ⟨0, 0, 0⟩ ⟨5, 4, 0⟩ = -1 from by decide] at C2
  unfold TellsS at C1
  simp only at C1
  go_enter Try.func18, Try.ntmps18
  go_wp2_with fail
  refine (C1 _).mono ?_
  rintro e w1 ⟨rfl, hb1⟩
  go_wp2_with fail
  refine (C2 _).mono ?_
  rintro e w2 ⟨rfl, hb2⟩
  go_wp2
  go_ret
  exact ⟨rfl, chain hb1 (chain (alloc_below _ _) hb2)⟩

end Go.Proofs.Ytncidjlobjgibaa
