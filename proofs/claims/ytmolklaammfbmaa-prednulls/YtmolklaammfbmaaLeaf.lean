/-
  What wire's smallest functions do: isSize, isPlace, extend, fill, number.
-/
import Derived.Test.YtmolklaammfbmaaRows
import Derived.Test.YtmolklaammfbmaaMem
import Derived.WalkKit
import Derived.WalkSpells
import Derived.WalkLawsBesides
namespace Go.Proofs.Ytmolklaammfbmaa
open Go.RowKit Go.Lib

theorem fill_step {g off m n q j : Nat} {l t : List UInt8} {wr : World} (hbe : be n m = be q (j + 1) ++ t) (hrow : Row wr g (splice l (off + (j + 1)) t)) (hfit : off + m ≤ l.length) (hkt : j + 1 + t.length = m) :
    be n m = be (q / 256) j ++ (UInt8.ofNat (q % 256) :: t) ∧ Row (wr.setCell ⟨g, off + j, none⟩ (.int .u8 ((q : Int) % 256))) g (splice l (off + j) (UInt8.ofNat (q % 256) :: t)) := by
  refine ⟨by rw [hbe, be]; simp, ?_⟩
  have h := hrow.set (off + j) (UInt8.ofNat (q % 256))
  rw [ofNat_mod] at h
  have e : ((q % 256 : Nat) : Int) = (q : Int) % 256 := by omega
  rw [e, ← Nat.add_assoc, splice_cons _ _ _ _ (by omega)] at h
  exact h

theorem grown_set {w wr : World} {g i : Nat} {v : Value} (h : w.grownBy wr (some g)) : w.grownBy (wr.setCell ⟨g, i, none⟩ v) (some g) :=
  ⟨h.os, h.tape, h.output, by simpa [World.setCell] using h.size, fun k hk hne => (Below.heap_setCell _ _ _ _ (fun e => hne (by rw [e]))).trans (h.block k hk hne)⟩

theorem Try.info5 : (Try.prog.info? 5).map (fun i => (i.zero, i.size, i.bytes)) = some (some (.int .u8 0), 1, 1) := by kernel_rfl

theorem Try.size5 : (Try.prog.info? 5).map (·.size) = some 1 := by kernel_rfl

theorem row_made {w1 : World} {n g : Nat} (h : w1.ownsRow g 5 1 (.slice (some ⟨g, 0, none⟩) n n) n (madeCells (Value.int .u8 0).cells (n * 1)).toList) : Row w1 g (List.replicate n 0) := by
  obtain ⟨_, ⟨h1, _⟩ | ⟨g', cap, cur, hv, _, hh, _, _, hs, ht⟩⟩ := h
  · simp at h1
  · simp at hv
    obtain ⟨rfl, rfl⟩ := hv
    unfold Row
    rw [hh]
    have e : cur.toList = byteCells (List.replicate n 0) := by
      rw [← List.take_of_length_le (l := cur.toList) (i := n * 1) (by simp [hs]), ht]
      simp [madeCells, Value.cells, byteCells]
      apply List.ext_getElem
      · simp
      · intro i h1 h2
        simp [Nat.mod_one]
    rw [← e]

end Go.Proofs.Ytmolklaammfbmaa
