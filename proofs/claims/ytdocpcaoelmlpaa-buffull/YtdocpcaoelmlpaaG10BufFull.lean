/-
  Texts of the proof of BufFull, one behind the other.
-/
import Derived.Test.YtdocpcaoelmlpaaRows
import Derived.Test.YtdocpcaoelmlpaaG4BufFull
import Derived.Test.YtdocpcaoelmlpaaG9BufFull
import Derived.WalkKit
import Derived.WalkSpells
import Derived.WalkLawsBesides
namespace Go.Proofs.Ytdocpcaoelmlpaa
open Go.RowKit Go.Lib
set_option linter.unusedVariables false

theorem okV_none {k i : Int} {s : ByteArray} (h : k ≠ 1 ∧ k ≠ 2 ∧ k ≠ 3 ∧ k ≠ 4) : okV ⟨k, i, s⟩ = false := by simp [okV, h]

/-- A box that was made earlier holds what it was made of. -/
theorem box3 {w w1 : World} {a b c : Value} {t : Nat} (hb : Below (w.alloc (.cells #[a, b, c] t)).heap.size (w.alloc (.cells #[a, b, c] t)) w1) :
    w1.cell? ⟨w.heap.size, 0, none⟩ = some a ∧ w1.cell? ⟨w.heap.size, 1, none⟩ = some b ∧ w1.cell? ⟨w.heap.size, 2, none⟩ = some c :=
  ⟨cell_later hb (by simp), cell_later hb (by simp), cell_later hb (by simp)⟩

set_option maxHeartbeats 400000 in
theorem keepValue_any (k i : Int) (s : ByteArray) (k' i' : Int) (s' : ByteArray) (w : World) :
    Calls Try.prog 48 #[.agg #[.int .i64 k, .int .i64 i, .string s], .agg #[.int .i64 k', .int .i64 i', .string s']] w fun e w' => e = .returned (.bool (decide (k = k') && decide (i = i') && (s.toList == s'.toList))) ∧ Below w.heap.size w w' := by
  by_cases h1 : k = k'
  · subst h1
    by_cases h2 : i = i'
    · subst h2
      go_enter Try.func48, Try.ntmps48
      go_wp2
      go_ret
      exact ⟨by simp, chain (alloc_below _ _) (alloc_below _ _)⟩
    · go_enter Try.func48, Try.ntmps48
      go_wp2
      go_ret
      exact ⟨by simp [h2], chain (alloc_below _ _) (alloc_below _ _)⟩
  · go_enter Try.func48, Try.ntmps48
    go_wp2
    go_ret
    exact ⟨by simp [h1], chain (alloc_below _ _) (alloc_below _ _)⟩

end Go.Proofs.Ytdocpcaoelmlpaa
