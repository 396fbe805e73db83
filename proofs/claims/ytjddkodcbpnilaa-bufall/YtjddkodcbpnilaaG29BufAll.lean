/-
  Texts of the proof of BufAll, one behind the other.
-/
import Derived.Test.YtjddkodcbpnilaaRows
import Derived.Test.YtjddkodcbpnilaaG28BufAll
import Derived.Test.YtjddkodcbpnilaaG3BufAll
import Derived.WalkKit
import Derived.WalkSpells
import Derived.Test.YtjddkodcbpnilaaG27BufAll
import Derived.Test.YtjddkodcbpnilaaG8BufAll
import Derived.Deep.QuietTactic
import Derived.BigQuiet
namespace Go.Proofs.Ytjddkodcbpnilaa
open Go.RowKit Go.Lib
set_option linter.unusedVariables false

/-- A slice's beginning, and the dots that are read from there on. -/
def RdD (w : World) (a : Option Addr) (ds : List (Int × Int)) : Prop :=
  0 < ds.length → ∃ b off, a = some ⟨b, off, none⟩ ∧ ∀ i (hi : i < ds.length), w.cell? ⟨b, off + i * 2, none⟩ = some (.int .i64 ds[i].1) ∧ w.cell? ⟨b, off + i * 2 + 1, none⟩ = some (.int .i64 ds[i].2)

theorem RdD.later {w w' : World} {a : Option Addr} {ds : List (Int × Int)} (h : RdD w a ds) (hb : Below w.heap.size w w') : RdD w' a ds := by
  intro h0
  obtain ⟨b, off, e, hc⟩ := h h0
  exact ⟨b, off, e, fun i hi => ⟨cell_later hb (hc i hi).1, cell_later hb (hc i hi).2⟩⟩

theorem RdD.nil (w : World) (a : Option Addr) : RdD w a [] := fun h => absurd h (by simp)

theorem addWs_two (s : List UInt8 × Bool) (p k : Int) : addWs s (dotP p k) = addW (addW s (putN p 1)) (putN k 4) := rfl

theorem addWs_three (s : List UInt8 × Bool) (p l q : Int) : addWs s (stampP p l q) = addW (addW (addW s (putN p 6)) (putN l 3)) (putN q 1) := rfl

theorem addW_le {s : List UInt8 × Bool} {n : Int} {size m : Nat} (h : s.1.length + size ≤ m) : (addW s (putN n size)).1.length ≤ m := by
  have h1 := addW_length s (putN n size)
  have h2 := putN_len n size
  omega

theorem beside_lt {K : Nat → Prop} {w : World} (hK : ∀ b, K b → b < w.heap.size) (o : Obj) : ∀ b, (K b ∨ b = w.heap.size) → b < (w.alloc o).heap.size := by
  intro b h
  rcases h with h | h
  · have := hK b h
    simp
    omega
  · simp
    omega

theorem Stay.beside {K : Nat → Prop} {w w' : World} {o : Obj} (hK : ∀ b, K b → b < w.heap.size) (h : Stay (fun b => K b ∨ b = w.heap.size) (w.alloc o) w') : Stay K w w' :=
  ((Stay.refl K w).alloc hK o).trans (h.mono fun b hb => .inl hb)

/-- A block that K names reads as before. -/
theorem Stay.cell {K : Nat → Prop} {w w' : World} (h : Stay K w w') {b o : Nat} (hb : K b) : w'.cell? ⟨b, o, none⟩ = w.cell? ⟨b, o, none⟩ := World.cell?_of_block (w := w) (a := ⟨b, o, none⟩) (h.block b hb)

end Go.Proofs.Ytjddkodcbpnilaa

namespace Go.Proofs.Ytjddkodcbpnilaa
open Go.RowKit Go.Lib
set_option linter.unusedVariables false

theorem vecP_length (v : List Int) : (vecP v).length = v.length + 1 := by simp [vecP]

theorem vecP_small (v : List Int) : ∀ o ∈ vecP v, lenO o ≤ 4 := by
  intro o ho
  simp only [vecP, List.mem_cons, List.mem_map] at ho
  rcases ho with rfl | ⟨n, _, rfl⟩
  · unfold putC
    split
    · simp [lenO]
    · exact Nat.le_trans (putN_len _ _) (by omega)
  · exact putN_len n 4

/-- Behind k numbers of a vector. -/
def vecTo (s : List UInt8 × Bool) (v : List Int) (k : Nat) : List UInt8 × Bool := addWs s (putC v.length 1 5 :: (v.take k).map fun n => putN n 4)

theorem vecTo_zero (s : List UInt8 × Bool) (v : List Int) : vecTo s v 0 = addW s (putC v.length 1 5) := rfl

theorem vecTo_succ (s : List UInt8 × Bool) (v : List Int) (k : Nat) (h : k < v.length) : vecTo s v (k + 1) = addW (vecTo s v k) (putN v[k] 4) := by
  unfold vecTo
  rw [List.take_succ_eq_append_getElem h, List.map_append, ← List.cons_append, addWs_append]
  rfl

theorem vecTo_all (s : List UInt8 × Bool) (v : List Int) : vecTo s v v.length = addWs s (vecP v) := by simp [vecTo, vecP]

/-- Of too many numbers nothing is written. -/
theorem vecTo_le (s : List UInt8 × Bool) (v : List Int) (k : Nat) (h : s.1.length ≤ 50000) (hv : v.length ≤ 65536) : (vecTo s v k).1.length ≤ 60000 := by
  by_cases hc : 5 < v.length
  · have e : vecTo s v k = addW s none := by
      unfold vecTo
      rw [addWs_cons, show putC v.length 1 5 = none from if_pos hc, addWs_bad rfl]
    rw [e]
    simp only [addW]
    omega
  · unfold vecTo
    have := addWs_length s (putC v.length 1 5 :: (v.take k).map fun n => putN n 4) 4 (by
      intro o ho
      simp only [List.mem_cons, List.mem_map] at ho
      rcases ho with rfl | ⟨n, _, rfl⟩
      · rw [show putC v.length 1 5 = putN (v.length : Int) 1 from if_neg hc]
        exact Nat.le_trans (putN_len _ _) (by omega)
      · exact putN_len n 4)
    simp only [List.length_cons, List.length_map, List.length_take] at this
    omega

/-- Behind k dots. -/
def dotsTo (s : List UInt8 × Bool) (most : Nat) (ds : List (Int × Int)) (k : Nat) : List UInt8 × Bool := addWs s (putC ds.length 1 most :: (ds.take k).flatMap fun d => dotP d.1 d.2)

theorem dotsTo_zero (s : List UInt8 × Bool) (most : Nat) (ds : List (Int × Int)) : dotsTo s most ds 0 = addW s (putC ds.length 1 most) := rfl

theorem dotsTo_succ (s : List UInt8 × Bool) (most : Nat) (ds : List (Int × Int)) (k : Nat) (h : k < ds.length) : dotsTo s most ds (k + 1) = addWs (dotsTo s most ds k) (dotP ds[k].1 ds[k].2) := by
  unfold dotsTo
  rw [List.take_succ_eq_append_getElem h, List.flatMap_append, ← List.cons_append, addWs_append]
  simp [List.flatMap_cons]

theorem dotsTo_all (s : List UInt8 × Bool) (most : Nat) (ds : List (Int × Int)) : dotsTo s most ds ds.length = addWs s (dotsP most ds) := by simp [dotsTo, dotsP]

theorem dotsTo_le (s : List UInt8 × Bool) (most : Nat) (ds : List (Int × Int)) (k : Nat) (h : s.1.length ≤ 50000) (hm : most ≤ 255) : (dotsTo s most ds k).1.length ≤ 59000 := by
  by_cases hc : most < ds.length
  · have e : dotsTo s most ds k = addW s none := by
      unfold dotsTo
      rw [addWs_cons, show putC ds.length 1 most = none from if_pos hc, addWs_bad rfl]
    rw [e]
    simp only [addW]
    omega
  · unfold dotsTo
    have := addWs_length s (putC ds.length 1 most :: (ds.take k).flatMap fun d => dotP d.1 d.2) 4 (by
      intro o ho
      simp only [List.mem_cons, List.mem_flatMap, dotP] at ho
      rcases ho with rfl | ⟨n, _, h | h | h⟩
      · rw [show putC ds.length 1 most = putN (ds.length : Int) 1 from if_neg hc]
        exact Nat.le_trans (putN_len _ _) (by omega)
      · rw [h]
        exact Nat.le_trans (putN_len _ _) (by omega)
      · rw [h]
        exact putN_len _ _
      · cases h)
    have e2 : ((ds.take k).flatMap fun d => dotP d.1 d.2).length ≤ 510 := by
      have : ∀ l : List (Int × Int), (l.flatMap fun d => dotP d.1 d.2).length = l.length * 2 := by
        intro l
        induction l with
        | nil => rfl
        | cons x l ih => simp [dotP] at *; omega
      rw [this]
      simp
      omega
    simp only [List.length_cons] at this
    omega

end Go.Proofs.Ytjddkodcbpnilaa

namespace Go.Proofs.Ytjddkodcbpnilaa
open Go.RowKit Go.Lib
set_option linter.unusedVariables false

/-- All but the box at g stays. -/
def Aside (g : Nat) (w w' : World) : Prop := Stay (fun b => b ≠ g ∧ b < w.heap.size) w w'

theorem Aside.refl (g : Nat) (w : World) : Aside g w w := Stay.refl _ w

theorem Aside.trans {g : Nat} {a b c : World} (h : Aside g a b) (k : Aside g b c) : Aside g a c :=
  Stay.trans h (Stay.mono k fun x hx => ⟨hx.1, Nat.lt_of_lt_of_le hx.2 h.size⟩)

theorem Aside.of_below {g : Nat} {w w' : World} (h : Below w.heap.size w w') : Aside g w w' := Stay.of_below h fun b hb => hb.2

theorem Aside.cell {g : Nat} {w w' : World} (h : Aside g w w') {b o : Nat} (hg : b ≠ g) (hb : b < w.heap.size) : w'.cell? ⟨b, o, none⟩ = w.cell? ⟨b, o, none⟩ := Stay.cell h ⟨hg, hb⟩

theorem Aside.below {g : Nat} {w w' : World} (h : Aside g w w') (hg : w.heap.size ≤ g) : Below w.heap.size w w' := Stay.below h fun b hb => ⟨by omega, hb⟩

/-- Blocks below B stay, be w before or behind it. -/
theorem Aside.below_from {g : Nat} {w0 w w' : World} (h : Aside g w w') (h0 : Below w0.heap.size w0 w) (hg : w0.heap.size ≤ g) : Below w0.heap.size w0 w' :=
  h0.trans (Stay.below h fun b hb => ⟨by omega, Nat.lt_of_lt_of_le hb h0.size⟩)

theorem Aside.drewN {g : Nat} {w : World} (n : Nat) : Aside g w (w.drewN n) := Stay.drewN (Stay.refl _ w) n

/-- A Reader's pointer. -/
abbrev vR (g : Nat) : Value := .pointer (some ⟨g, 0, none⟩)

/-- A number that is taken. -/
def takeN (l : List UInt8) (s : Int × Int) (size : Int) : Int × (Int × Int) := if s.2 = 0 then ((rGet l s.1 size).1, ((rGet l s.1 size).2.1, (rGet l s.1 size).2.2)) else (0, s)

/-- A text that is taken. -/
def takeT (l : List UInt8) (s : Int × Int) : ByteArray × (Int × Int) := if s.2 = 0 then (⟨(rGetText l s.1).1.toArray⟩, ((rGetText l s.1).2.1, (rGetText l s.1).2.2)) else (ByteArray.empty, s)

/-- A count that is taken. -/
def takeC (l : List UInt8) (s : Int × Int) (size most : Int) : Int × (Int × Int) := if most < (takeN l s size).1 then (0, ((takeN l s size).2.1, 3)) else takeN l s size

end Go.Proofs.Ytjddkodcbpnilaa

namespace Go.Proofs.Ytjddkodcbpnilaa
open Go.RowKit Go.Lib
set_option linter.unusedVariables false

/-- A block of these cells. -/
def CellsAt (w : World) (b : Nat) (cs : Array Value) (t : TypeId) : Prop := w.heap[b]? = some (.cells cs t (0, 0))

theorem CellsAt.lt {w : World} {b : Nat} {cs : Array Value} {t : TypeId} (h : CellsAt w b cs t) : b < w.heap.size := heap_lt h
theorem CellsAt.made {w : World} {b : Nat} {cs : Array Value} {t : TypeId} (hb : w.heap.size = b) : CellsAt (w.alloc (.cells cs t)) b cs t := by
  subst hb
  show (w.heap.push _)[w.heap.size]? = _
  simp
theorem CellsAt.free {w : World} {b : Nat} {cs : Array Value} {t : TypeId} (h : CellsAt w b cs t) (i : Nat) : w.frozen? ⟨b, i, none⟩ = false := by
  unfold CellsAt at h
  simp [World.frozen?, h]
theorem CellsAt.cell {w : World} {b : Nat} {cs : Array Value} {t : TypeId} (h : CellsAt w b cs t) (i : Nat) : w.cell? ⟨b, i, none⟩ = cs[i]? := cell_of_row w b i _ _ _ h
theorem CellsAt.set {w : World} {b : Nat} {cs : Array Value} {t : TypeId} (h : CellsAt w b cs t) (i : Nat) (v : Value) : CellsAt (w.setCell ⟨b, i, none⟩ v) b (cs.setIfInBounds i v) t := Go.heap_setCell_same _ _ _ _ _ _ h
theorem CellsAt.other {w : World} {b c : Nat} {cs : Array Value} {t : TypeId} (h : CellsAt w b cs t) (hc : b ≠ c) (i : Nat) (v : Value) : CellsAt (w.setCell ⟨c, i, none⟩ v) b cs t := (same_set b hc).trans h
theorem CellsAt.aside {w w' : World} {g b : Nat} {cs : Array Value} {t : TypeId} (h : CellsAt w b cs t) (hs : Aside g w w') (hg : b ≠ g) : CellsAt w' b cs t := (hs.block b ⟨hg, h.lt⟩).trans h
theorem CellsAt.later {w w' : World} {b : Nat} {cs : Array Value} {t : TypeId} (h : CellsAt w b cs t) (hs : Below w.heap.size w w') : CellsAt w' b cs t := (hs.block b h.lt).trans h

theorem Aside.set {g b i : Nat} {w w1 : World} {v : Value} (h : Aside g w w1) (hb : w.heap.size ≤ b) : Aside g w (w1.setCell ⟨b, i, none⟩ v) :=
  Stay.setCell (p := ⟨b, i, none⟩) h (fun k => absurd k.2 (Nat.not_lt.2 hb)) _

/-- A dot that is taken. -/
def takeD (l : List UInt8) (s : Int × Int) : (Int × Int) × (Int × Int) := (((takeN l s 1).1, (takeN l (takeN l s 1).2 4).1), (takeN l (takeN l s 1).2 4).2)

/-- A time that is taken. -/
def takeS (l : List UInt8) (s : Int × Int) : (Int × Int × Int) × (Int × Int) :=
  (((takeN l s 6).1, (takeN l (takeN l s 6).2 3).1, (takeN l (takeN l (takeN l s 6).2 3).2 1).1), (takeN l (takeN l (takeN l s 6).2 3).2 1).2)

end Go.Proofs.Ytjddkodcbpnilaa
