/-
  Texts of the proof of SetExact, one behind the other.
-/
import Derived.Test.YtajlkaedkifaoaaG1SetExact
import Derived.WalkKit
import Derived.WalkSpells
import Derived.Laws.CopyOwn
import Derived.Lib.BufferWrite
namespace Go.Proofs.Ytajlkaedkifaoaa
open Go.RowKit Go.Lib

/-- Block g holds just these bytes, and may be written. -/
def Row (w : World) (g : Nat) (l : List UInt8) : Prop := w.heap[g]? = some (.cells (byteCells l).toArray 5 (0, 0))

theorem Row.lt {w : World} {g : Nat} {l : List UInt8} (h : Row w g l) : g < w.heap.size := by
  unfold Row at h
  rcases Nat.lt_or_ge g w.heap.size with h1 | h1
  · exact h1
  · simp [Array.getElem?_eq_none h1] at h

theorem Row.cell {w : World} {g : Nat} {l : List UInt8} (h : Row w g l) (i : Nat) (hi : i < l.length) : w.cell? ⟨g, i, none⟩ = some (.int .u8 (l[i].toNat : Int)) := by
  rw [cell_of_row w g i _ _ _ h]
  simp [byteCells, List.getElem?_eq_getElem hi]

theorem Row.some_cell {w : World} {g : Nat} {l : List UInt8} (h : Row w g l) (i : Nat) (hi : i < l.length) : ∃ z : Nat, w.cell? ⟨g, i, none⟩ = some (.int .u8 (z : Int)) := ⟨_, h.cell i hi⟩

theorem Row.free {w : World} {g : Nat} {l : List UInt8} (h : Row w g l) (i : Nat) : w.frozen? ⟨g, i, none⟩ = false := by
  unfold Row at h
  simp [World.frozen?, h]

theorem Row.set {w : World} {g : Nat} {l : List UInt8} (h : Row w g l) (i : Nat) (x : UInt8) : Row (w.setCell ⟨g, i, none⟩ (.int .u8 (x.toNat : Int))) g (l.set i x) := by
  have := Go.heap_setCell_same w g i _ _ (.int .u8 (x.toNat : Int)) h
  unfold Row
  rw [this]
  simp [byteCells, List.map_set]

theorem Row.below {w w' : World} {B g : Nat} {l : List UInt8} (h : Row w g l) (hb : Below B w w') (hg : g < B) : Row w' g l := (hb.block g hg).trans h

theorem Row.grown {w w' : World} {g : Nat} {r : Option Nat} {l : List UInt8} (h : Row w g l) (hg : w.grownBy w' r) (hne : some g ≠ r) : Row w' g l := (hg.block g h.lt hne).trans h

/-- A slice's beginning, and the bytes that are read from there on. -/
def Rd (w : World) (a : Option Addr) (l : List UInt8) : Prop :=
  0 < l.length → ∃ b off, a = some ⟨b, off, none⟩ ∧ ∀ i (hi : i < l.length), w.cell? ⟨b, off + i, none⟩ = some (.int .u8 (l[i].toNat : Int))

theorem Rd.later {w w' : World} {a : Option Addr} {l : List UInt8} (h : Rd w a l) (hb : Below w.heap.size w w') : Rd w' a l := by
  intro h0
  obtain ⟨b, off, e, hc⟩ := h h0
  exact ⟨b, off, e, fun i hi => cell_later hb (hc i hi)⟩

theorem Rd.nil (w : World) (a : Option Addr) : Rd w a [] := fun h => absurd h (by simp)

theorem Row.rd {w : World} {g : Nat} {l : List UInt8} (h : Row w g l) : Rd w (some ⟨g, 0, none⟩) l := fun _ => ⟨g, 0, rfl, fun i hi => by rw [Nat.zero_add]; exact h.cell i hi⟩

theorem Rd.cut {w : World} {b off : Nat} {l : List UInt8} (h : Rd w (some ⟨b, off, none⟩) l) (k m : Nat) : Rd w (some ⟨b, off + k, none⟩) ((l.drop k).take m) := by
  intro h0
  simp at h0
  obtain ⟨b', off', e, hc⟩ := h (by omega)
  cases e
  refine ⟨_, _, rfl, fun i hi => ?_⟩
  simp at hi
  have := hc (k + i) (by omega)
  rw [Nat.add_assoc, this]
  simp

theorem Below.of_grown {w w' : World} {g B : Nat} (hg : w.grownBy w' (some g)) (hB : B ≤ g) (hs : g < w.heap.size) : Below B w w' :=
  (Below.refl B w).grown hg (by omega) (fun k hk => by cases hk; exact hB)

theorem chain {a b c : World} (h : Below a.heap.size a b) (k : Below b.heap.size b c) : Below a.heap.size a c := h.trans (k.mono h.size)

/-- Bytes laid over a row. -/
theorem splice_cons {α : Type} (l : List α) (i : Nat) (x : α) (t : List α) (hi : i + 1 + t.length ≤ l.length) : (splice l (i + 1) t).set i x = splice l i (x :: t) := by
  unfold splice
  rw [List.set_append_left _ _ (by simp; omega), List.take_add_one, List.set_append_right _ _ (by simp; omega)]
  have hl : l[i]? = some l[i] := List.getElem?_eq_getElem (by omega)
  rw [hl]
  simp
  rw [Nat.min_eq_left (by omega)]
  simp
  congr 1
  omega

theorem splice_nil {α : Type} (l : List α) (i : Nat) : splice l i [] = l := by simp [splice]

theorem splice_front {α : Type} (a z t : List α) (h : z.length = t.length) : splice (a ++ z) a.length t = a ++ t := by
  unfold splice
  rw [List.take_append_of_le_length (Nat.le_refl _), List.take_length, List.drop_append, ← h]
  simp

theorem splice_cells (z t : List UInt8) (i : Nat) : splice (byteCells z) i (byteCells t) = byteCells (splice z i t) := by
  simp [splice, byteCells]

theorem splice_zeros (l : List UInt8) (x : Nat) : splice (List.replicate (l.length + x) 0) 0 l = l ++ List.replicate x 0 := by
  simp [splice, List.drop_replicate]

theorem Rd.src {w : World} {a : Option Addr} {l : List UInt8} (h : Rd w a l) (h0 : 0 < (byteCells l).length) : ∃ ad, a = some ad ∧ ∀ j v, (byteCells l)[j]? = some v → w.cell? (ad.add j) = some v := by
  rw [byteCells_length] at h0
  obtain ⟨b, off, e, hc⟩ := h h0
  refine ⟨_, e, fun j v hj => ?_⟩
  have hp : (⟨b, off, none⟩ : Addr).add j = ⟨b, off + j, none⟩ := by unfold Addr.add; split <;> simp_all
  rw [hp]
  rcases Nat.lt_or_ge j l.length with h1 | h1
  · simp [byteCells, List.getElem?_eq_getElem h1] at hj
    rw [hc j h1, ← hj]
  · simp [byteCells, List.getElem?_eq_none h1] at hj

theorem grown_setRow (w : World) (g : Nat) (cs : Array Value) : w.grownBy (w.setRow g cs) (some g) :=
  ⟨rfl, rfl, rfl, by simp [World.setRow], fun k _ hne => setRow_other w g k cs (fun e => hne (by rw [e]))⟩

theorem Row.setRow {w : World} {g : Nat} {z l : List UInt8} (hz : Row w g z) : Row (w.setRow g (byteCells l).toArray) g l := setRow_heap w g _ _ _ _ hz

theorem splice_cells' (z t : List UInt8) (o : Nat) : (byteCells z).toArray.toList.take o ++ byteCells t ++ (byteCells z).toArray.toList.drop (o + t.length) = byteCells (splice z o t) := by
  simp [splice, byteCells]

/-- copy(dst, src): both bytes, dst in a row of the call's own. -/
theorem run_copy_rd {P : Program} {w : World} {dT sT ty g o dLen dCap cap : Nat} {a : Option Addr} {z l : List UInt8} (hu : P.underlying dT = some (.slice 5)) (hs : (P.info? 5).map (·.size) = some 1)
    (hz : Row w g z) (hr : Rd w a l) (hle : l.length ≤ dLen) (hfit : o + l.length ≤ z.length) :
    ∃ w2, (Builtin.copy_ #[dT, sT] ty #[.slice (some ⟨g, o, none⟩) dLen dCap, .slice a l.length cap]).run P w = .ok (goInt l.length) w2 ∧ Row w2 g (splice z o l) ∧ w.grownBy w2 (some g) := by
  rcases Nat.eq_zero_or_pos l.length with h0 | h0
  · obtain rfl : l = [] := List.eq_nil_of_length_eq_zero h0
    exact ⟨w, run_copy_none w dT sT ty 5 _ a dLen dCap 0 cap hu hs (Nat.min_eq_left (Nat.zero_le _)), by rw [splice_nil]; exact hz, World.grownBy.refl _ _⟩
  · obtain ⟨ad, rfl, hsrc⟩ := hr.src (by rw [byteCells_length]; exact h0)
    have := run_copy_row P w dT sT ty 5 g o dLen dCap ad l.length cap _ _ (byteCells l) hu hs hz (by rw [byteCells_length]; exact (Nat.min_eq_left hle).symm) hsrc (by rw [byteCells_length]; simpa [byteCells] using hfit) (byteCells_one _)
    rw [byteCells_length, splice_cells'] at this
    exact ⟨_, this, hz.setRow, grown_setRow _ _ _⟩

/-- copy(dst, s): s a string. -/
theorem run_copy_text {P : Program} {w : World} {dT sT ty g o dLen dCap : Nat} {t : ByteArray} {z : List UInt8} (hu : P.underlying dT = some (.slice 5)) (hs : (P.info? 5).map (·.size) = some 1)
    (hz : Row w g z) (hle : t.size ≤ dLen) (hfit : o + t.size ≤ z.length) :
    ∃ w2, (Builtin.copy_ #[dT, sT] ty #[.slice (some ⟨g, o, none⟩) dLen dCap, .string t]).run P w = .ok (goInt t.size) w2 ∧ Row w2 g (splice z o t.data.toList) ∧ w.grownBy w2 (some g) := by
  have := run_copy_row_string w dT sT ty 5 g o dLen dCap t _ _ hu hs hz hle (by simp [byteCells_length]; exact hfit)
  have hsz : t.size = t.data.toList.length := size_eq t
  rw [hsz, splice_cells', ← hsz] at this
  exact ⟨_, this, hz.setRow, grown_setRow _ _ _⟩

end Go.Proofs.Ytajlkaedkifaoaa
