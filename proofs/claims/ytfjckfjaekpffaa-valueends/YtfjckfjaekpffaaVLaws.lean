/-
  What raddlelaw03's wakes answers; and the walks of ValueOrder, ValueExact, ValueReads, ValueKinds, ValueSizes, ValueEnds, each over whatever package value does that keeps 'ValueApi'.
-/
import Derived.Test.YtfjckfjaekpffaaRows
import Derived.Test.YtfjckfjaekpffaaVApi
import Derived.Test.YtfjckfjaekpffaaVBack
import Derived.Test.YtfjckfjaekpffaaVRefRead
import Derived.Test.YtfjckfjaekpffaaKeep
import Derived.Test.YtfjckfjaekpffaaGrow
import Derived.WalkKit
import Derived.WalkSpells
import Derived.WalkLawsBesides
import Derived.Handy
import Derived.Deep.RegionHeld3
namespace Go.Proofs.Ytfjckfjaekpffaa
open Go.RowKit Go.Lib
set_option linter.unusedVariables false

theorem okA : okV ⟨3, -3, ⟨#[]⟩⟩ = true := rfl
theorem putA : putV ⟨3, -3, ⟨#[]⟩⟩ = (bytesV ⟨3, -3, ⟨#[]⟩⟩, 0) := rfl
theorem lenA : (bytesV ⟨3, -3, ⟨#[]⟩⟩).length = 10 := rfl
theorem readA : readV (bytesV ⟨3, -3, ⟨#[]⟩⟩) 0 = (⟨3, -3, ⟨#[]⟩⟩, 10, 0) := by
  have := readV_bytes (l := bytesV ⟨3, -3, ⟨#[]⟩⟩) (r := []) (p := 0) okA (by simp)
  rw [lenA] at this
  exact this

set_option maxHeartbeats 400000 in
theorem vwakes_any (V : ValueApi) (w : World) :
    Calls Try.prog 19 #[] w fun e w' => e = .returned (.bool true) ∧ Below w.heap.size w w' := by
  go_enter Try.func19, Try.ntmps19
  go_wp2_with fail
  refine (V.bytes 3 (-3) ⟨#[]⟩ _).mono ?_
  rintro e w1 ⟨a, n, cap, rfl, hn, hs, hc, hr, hnl, hb1⟩
  rw [putA] at hn hr hnl ⊢
  rw [lenA] at hn
  subst hn
  go_wp2_with fail
  refine (V.read a 10 cap 0 _ _ lenA (by omega) hc hr).mono ?_
  rintro e w2 ⟨he, hb2⟩
  rw [readA] at he
  unfold TellsV at he
  simp only at he
  subst he
  have B1 : Box w2 w.heap.size 3 (-3) ⟨#[]⟩ := (Box.made rfl).later (chain (chain (alloc_below _ _) hb1) hb2)
  have B2 : Box w2 (w.heap.size + 1) 4 0 ⟨#[120]⟩ := (Box.made (by simp)).later (chain hb1 hb2)
  have HB : Hid (Below w.heap.size w w2) := chain (chain (below_two _ _ _) hb1) hb2
  clear hb1 hb2 hr hnl
  obtain ⟨c0, c1, c2, hl1⟩ := B1.cells
  obtain ⟨d0, d1, d2, hl2⟩ := B2.cells
  go_wp2_with fail
  refine (V.compare _ _ _ _ _ _ _).mono ?_
  rintro e w3 ⟨rfl, hb3⟩
  rw [show cmpV ⟨3, -3, ⟨#[]⟩⟩ ⟨4, 0, ⟨#[120]⟩⟩ = -1 from rfl]
  replace B1 := B1.later (chain (alloc_below _ _) hb3)
  replace B2 := B2.later (chain (alloc_below _ _) hb3)
  replace HB : Hid (Below w.heap.size w w3) := chain HB.out (chain (alloc_below _ _) hb3)
  clear c0 c1 c2 d0 d1 d2 hl1 hl2 hb3
  obtain ⟨c0, c1, c2, hl1⟩ := B1.cells
  obtain ⟨d0, d1, d2, hl2⟩ := B2.cells
  go_wp2_with fail
  refine (V.fits _ _ _ _ _).mono ?_
  rintro e w4 ⟨rfl, hb4⟩
  rw [show fitsV ⟨4, 0, ⟨#[120]⟩⟩ 4 = true from rfl]
  replace B1 := B1.later hb4
  replace HB : Hid (Below w.heap.size w w4) := chain HB.out hb4
  clear c0 c1 c2 d0 d1 d2 hl1 hl2 hb4
  obtain ⟨c0, c1, c2, hl1⟩ := B1.cells
  go_wp2_with fail
  refine (V.small _ _ _ _).mono ?_
  rintro e w5 ⟨rfl, hb5⟩
  rw [show smallV ⟨3, -3, ⟨#[]⟩⟩ = true from rfl]
  go_wp2
  go_ret
  exact ⟨rfl, chain HB.out hb5⟩

end Go.Proofs.Ytfjckfjaekpffaa
