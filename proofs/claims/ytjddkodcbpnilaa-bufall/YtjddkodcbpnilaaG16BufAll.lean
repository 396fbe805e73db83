/-
  Texts of the proof of BufAll, one behind the other.
-/
import Derived.Test.YtjddkodcbpnilaaRows
import Derived.Test.YtjddkodcbpnilaaG11BufAll
import Derived.Test.YtjddkodcbpnilaaG15BufAll
import Derived.Test.YtjddkodcbpnilaaG8BufAll
import Derived.WalkKit
import Derived.WalkSpells
import Derived.WalkLawsBesides
import Derived.Handy
import Derived.Lib.Bytealg
namespace Go.Proofs.Ytjddkodcbpnilaa
open Go.RowKit Go.Lib
set_option linter.unusedVariables false

/-- How two numbers are ordered. -/
def cmpI (a b : Int) : Int := if a = b then 0 else sgnB (decide (a < b))

theorem compareBytes_eq : ∀ (a b : List UInt8), compareBytes a b = if a = b then 0 else sgnB (decide (a < b))
  | [], [] => by simp [compareBytes]
  | [], _ :: _ => by simp [compareBytes, sgnB]
  | _ :: _, [] => by simp [compareBytes, sgnB]
  | x :: a, y :: b => by
    unfold compareBytes
    rw [compareBytes_eq a b]
    by_cases h1 : x < y
    · have hne : x ≠ y := fun h => by subst h; exact UInt8.lt_irrefl x h1
      simp [h1, hne, sgnB, List.cons_lt_cons_iff]
    · by_cases h2 : y < x
      · have hne : x ≠ y := fun h => by subst h; exact UInt8.lt_irrefl x h2
        simp [h1, h2, hne, sgnB, List.cons_lt_cons_iff]
      · have he : x = y := UInt8.le_antisymm (UInt8.not_lt.1 h2) (UInt8.not_lt.1 h1)
        subst he
        simp

theorem cmpV_texts {k i : Int} {s s' : ByteArray} : cmpV ⟨k, i, s⟩ ⟨k, i, s'⟩ = compareBytes s.data.toList s'.data.toList := by
  rw [compareBytes_eq]
  simp only [cmpV, ByteArray.toList_eq, Proofs.bytesLess_eq]
  by_cases h : s.data.toList = s'.data.toList <;> simp [h]

end Go.Proofs.Ytjddkodcbpnilaa

namespace Go.Proofs.Ytjddkodcbpnilaa
open Go.RowKit Go.Lib
set_option linter.unusedVariables false

theorem Box.set0 {w : World} {g : Nat} {k i : Int} {s : ByteArray} (h : Box w g k i s) (k' : Int) : Box (w.setCell ⟨g, 0, none⟩ (.int .i64 k')) g k' i s := by
  have := Go.heap_setCell_same w g 0 _ _ (.int .i64 k') h
  unfold Box
  rw [this]
  rfl

theorem Box.set1 {w : World} {g : Nat} {k i : Int} {s : ByteArray} (h : Box w g k i s) (i' : Int) : Box (w.setCell ⟨g, 1, none⟩ (.int .i64 i')) g k i' s := by
  have := Go.heap_setCell_same w g 1 _ _ (.int .i64 i') h
  unfold Box
  rw [this]
  rfl

theorem Box.set2 {w : World} {g : Nat} {k i : Int} {s : ByteArray} (h : Box w g k i s) (s' : ByteArray) : Box (w.setCell ⟨g, 2, none⟩ (.string s')) g k i s' := by
  have := Go.heap_setCell_same w g 2 _ _ (.string s') h
  unfold Box
  rw [this]
  rfl

theorem Box.free {w : World} {g : Nat} {k i : Int} {s : ByteArray} (h : Box w g k i s) (n : Nat) : w.frozen? ⟨g, n, none⟩ = false := by
  unfold Box at h
  simp [World.frozen?, h]

theorem rGet_one {l : List UInt8} {q : Nat} (h : q < l.length) : rGet l q 1 = (((l[q]?.getD 0).toNat : Int), (q : Int) + 1, 0) := by
  unfold rGet
  rw [if_neg (by omega), if_neg (by omega)]
  have e : (l.drop ((q : Nat) : Int).toNat).take (1 : Int).toNat = [l[q]?.getD 0] := by
    rw [Int.toNat_natCast, drop_at h]
    rfl
  rw [e]
  simp [num]

end Go.Proofs.Ytjddkodcbpnilaa
