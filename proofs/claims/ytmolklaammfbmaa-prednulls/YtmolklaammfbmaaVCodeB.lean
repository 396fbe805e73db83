/-
  What Bytes and Read of package value answer, of the landed code.
-/
import Derived.Test.YtmolklaammfbmaaRows
import Derived.Test.YtmolklaammfbmaaVCode
namespace Go.Proofs.Ytmolklaammfbmaa
open Go.RowKit Go.Lib
set_option linter.unusedVariables false

theorem Box.set0 {w : World} {g : Nat} {k i : Int} {s : ByteArray} (h : Box w g k i s) (k' : Int) : Box (w.setCell ⟨g, 0, none⟩ (.int .i64 k')) g k' i s := by
  have := Go.heap_setCell_same w g 0 _ _ (.int .i64 k') h
  unfold Box
  rw [this]
  rfl

theorem Box.set1 {w : World} {g : Nat} {k i : Int} {s : ByteArray} (h : Box w g k i s) (i' : Int) : Box (w.setCell ⟨g, 1, none⟩ (.int .i64 i')) g k i' s := by
  have := Go.heap_setCell_same w g 1 _ _ (.int .i64 i') h
  unfold Box
  rw [this]
  rfl

theorem Box.set2 {w : World} {g : Nat} {k i : Int} {s : ByteArray} (h : Box w g k i s) (s' : ByteArray) : Box (w.setCell ⟨g, 2, none⟩ (.string s')) g k i s' := by
  have := Go.heap_setCell_same w g 2 _ _ (.string s') h
  unfold Box
  rw [this]
  rfl

theorem Box.free {w : World} {g : Nat} {k i : Int} {s : ByteArray} (h : Box w g k i s) (n : Nat) : w.frozen? ⟨g, n, none⟩ = false := by
  unfold Box at h
  simp [World.frozen?, h]

theorem rGet_one {l : List UInt8} {q : Nat} (h : q < l.length) : rGet l q 1 = (((l[q]?.getD 0).toNat : Int), (q : Int) + 1, 0) := by
  unfold rGet
  rw [if_neg (by omega), if_neg (by omega)]
  have e : (l.drop ((q : Nat) : Int).toNat).take (1 : Int).toNat = [l[q]?.getD 0] := by
    rw [Int.toNat_natCast, drop_at h]
    rfl
  rw [e]
  simp [num]

end Go.Proofs.Ytmolklaammfbmaa
