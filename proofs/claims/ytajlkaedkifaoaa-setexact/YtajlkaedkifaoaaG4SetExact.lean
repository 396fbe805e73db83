/-
  Texts of the proof of SetExact, one behind the other.
-/
import Derived.Test.YtajlkaedkifaoaaRows
import Derived.Test.YtajlkaedkifaoaaG2SetExact
import Derived.WalkKit
import Derived.WalkSpells
import Derived.WalkLawsBesides
namespace Go.Proofs.Ytajlkaedkifaoaa
open Go.RowKit Go.Lib

theorem fill_step {g off m n q j : Nat} {l t : List UInt8} {wr : World} (hbe : be n m = be q (j + 1) ++ t) (hrow : Row wr g (splice l (off + (j + 1)) t)) (hfit : off + m ≤ l.length) (hkt : j + 1 + t.length = m) :
    be n m = be (q / 256) j ++ (UInt8.ofNat (q % 256) :: t) ∧ Row (wr.setCell ⟨g, off + j, none⟩ (.int .u8 ((q : Int) % 256))) g (splice l (off + j) (UInt8.ofNat (q % 256) :: t)) := by
  refine ⟨by rw [hbe, be]; simp, ?_⟩
  have h := hrow.set (off + j) (UInt8.ofNat (q % 256))
  rw [ofNat_mod] at h
  have e : ((q % 256 : Nat) : Int) = (q : Int) % 256 := by omega
  rw [e, ← Nat.add_assoc, splice_cons _ _ _ _ (by omega)] at h
  exact h

theorem grown_set {w wr : World} {g i : Nat} {v : Value} (h : w.grownBy wr (some g)) : w.grownBy (wr.setCell ⟨g, i, none⟩ v) (some g) :=
  ⟨h.os, h.tape, h.output, by simpa [World.setCell] using h.size, fun k hk hne => (Below.heap_setCell _ _ _ _ (fun e => hne (by rw [e]))).trans (h.block k hk hne)⟩

theorem Try.info5 : (Try.prog.info? 5).map (fun i => (i.zero, i.size, i.bytes)) = some (some (.int .u8 0), 1, 1) := by kernel_rfl

theorem Try.size5 : (Try.prog.info? 5).map (·.size) = some 1 := by kernel_rfl

theorem row_made {w1 : World} {n g : Nat} (h : w1.ownsRow g 5 1 (.slice (some ⟨g, 0, none⟩) n n) n (madeCells (Value.int .u8 0).cells (n * 1)).toList) : Row w1 g (List.replicate n 0) := by
  obtain ⟨_, ⟨h1, _⟩ | ⟨g', cap, cur, hv, _, hh, _, _, hs, ht⟩⟩ := h
  · simp at h1
  · simp at hv
    obtain ⟨rfl, rfl⟩ := hv
    unfold Row
    rw [hh]
    have e : cur.toList = byteCells (List.replicate n 0) := by
      rw [← List.take_of_length_le (l := cur.toList) (i := n * 1) (by simp [hs]), ht]
      simp [madeCells, Value.cells, byteCells]
      apply List.ext_getElem
      · simp
      · intro i h1 h2
        simp [Nat.mod_one]
    rw [← e]

end Go.Proofs.Ytajlkaedkifaoaa

namespace Go.Proofs.Ytajlkaedkifaoaa
open Go.RowKit Go.Lib

theorem wrap_pow (size : Nat) (h1 : 1 ≤ size) (h7 : size ≤ 7) : wrap64 (2 ^ (8 * size)) = ((256 ^ size : Nat) : Int) := by
  have h : size = 1 ∨ size = 2 ∨ size = 3 ∨ size = 4 ∨ size = 5 ∨ size = 6 ∨ size = 7 := by omega
  rcases h with rfl | rfl | rfl | rfl | rfl | rfl | rfl <;> (unfold wrap64; decide)

theorem pow_le56 (size : Nat) (h7 : size ≤ 7) : 256 ^ size ≤ 72057594037927936 := by
  have : 256 ^ size ≤ 256 ^ 7 := Nat.pow_le_pow_right (by omega) h7
  omega

theorem set_front {l : List UInt8} {x : UInt8} {k : Nat} : (l ++ List.replicate (k + 1) 0).set l.length x = (l ++ [x]) ++ List.replicate k 0 := by
  rw [List.set_append_right _ _ (Nat.le_refl _)]
  simp [List.replicate_succ]

theorem Below.set {w w1 : World} {B g i : Nat} {v : Value} (h : Below B w w1) (hg : B ≤ g) : Below B w (w1.setCell ⟨g, i, none⟩ v) := h.setCell hg v

end Go.Proofs.Ytajlkaedkifaoaa
