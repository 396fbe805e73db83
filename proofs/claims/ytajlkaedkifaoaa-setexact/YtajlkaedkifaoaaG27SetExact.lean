/-
  Texts of the proof of SetExact, one behind the other.
-/
import Derived.Test.YtajlkaedkifaoaaG2SetExact
import Derived.WalkKit
import Derived.WalkSpells
import Derived.Deep.QuietTactic
namespace Go.Proofs.Ytajlkaedkifaoaa
open Go.RowKit Go.Lib
set_option linter.unusedVariables false

/-- The blocks that K names stay as they are. -/
structure Stay (K : Nat → Prop) (w w' : World) : Prop where
  os : w'.os = w.os
  tape : w'.tape = w.tape
  output : w'.output = w.output
  size : w.heap.size ≤ w'.heap.size
  block : ∀ b, K b → w'.heap[b]? = w.heap[b]?

theorem Stay.refl (K : Nat → Prop) (w : World) : Stay K w w := ⟨rfl, rfl, rfl, Nat.le_refl _, fun _ _ => rfl⟩

theorem Stay.trans {K : Nat → Prop} {a b c : World} (h : Stay K a b) (k : Stay K b c) : Stay K a c :=
  ⟨k.os.trans h.os, k.tape.trans h.tape, k.output.trans h.output, Nat.le_trans h.size k.size, fun i hi => (k.block i hi).trans (h.block i hi)⟩

theorem Stay.mono {K K' : Nat → Prop} {w w' : World} (h : Stay K w w') (hk : ∀ b, K' b → K b) : Stay K' w w' := ⟨h.os, h.tape, h.output, h.size, fun b hb => h.block b (hk b hb)⟩

theorem Stay.below {K : Nat → Prop} {w w' : World} {B : Nat} (h : Stay K w w') (hB : ∀ b, b < B → K b) : Below B w w' := ⟨h.os, h.tape, h.output, h.size, fun b hb => h.block b (hB b hb)⟩

theorem Stay.of_below {K : Nat → Prop} {w w' : World} {B : Nat} (h : Below B w w') (hK : ∀ b, K b → b < B) : Stay K w w' := ⟨h.os, h.tape, h.output, h.size, fun b hb => h.block b (hK b hb)⟩

theorem Stay.drew {K : Nat → Prop} {a w : World} (h : Stay K a w) : Stay K a w.drew := ⟨h.os, h.tape, h.output, h.size, h.block⟩

theorem Stay.alloc {K : Nat → Prop} {a w : World} (h : Stay K a w) (hK : ∀ b, K b → b < a.heap.size) (o : Obj) : Stay K a (w.alloc o) :=
  ⟨h.os, h.tape, h.output, Nat.le_trans h.size (by simp), fun b hb => (Below.heap_alloc w o b (Nat.lt_of_lt_of_le (hK b hb) h.size)).trans (h.block b hb)⟩

theorem Stay.setCell {K : Nat → Prop} {a w : World} (h : Stay K a w) {p : Addr} (hp : ¬ K p.block) (u : Value) : Stay K a (w.setCell p u) :=
  ⟨h.os, h.tape, h.output, by simpa [World.setCell] using h.size, fun b hb => (Below.heap_setCell w p u b (fun e => hp (e ▸ hb))).trans (h.block b hb)⟩

theorem Stay.grown {K : Nat → Prop} {a w w' : World} {row : Option Nat} (h : Stay K a w) (hg : w.grownBy w' row) (hK : ∀ b, K b → b < a.heap.size) (hr : ∀ k, row = some k → ¬ K k) : Stay K a w' :=
  ⟨hg.os.trans h.os, hg.tape.trans h.tape, hg.output.trans h.output, Nat.le_trans h.size hg.size, fun b hb => (hg.block b (Nat.lt_of_lt_of_le (hK b hb) h.size) (fun e => hr b e.symm hb)).trans (h.block b hb)⟩

theorem heap_lt {w : World} {b : Nat} {o : Obj} (h : w.heap[b]? = some o) : b < w.heap.size := by
  rcases Nat.lt_or_ge b w.heap.size with h1 | h1
  · exact h1
  · simp [Array.getElem?_eq_none h1] at h

theorem Stay.drewN {K : Nat → Prop} {a w : World} (h : Stay K a w) (n : Nat) : Stay K a (w.drewN n) := ⟨h.os, h.tape, h.output, h.size, h.block⟩

theorem stay_later {K : Nat → Prop} {w w1 w2 : World} (h : Stay K w w1) (hK : ∀ b, K b → b < w.heap.size) (hb : Below w1.heap.size w1 w2) : Stay K w w2 := h.trans (Stay.of_below hb (fun b hb' => Nat.lt_of_lt_of_le (hK b hb') h.size))

theorem below_of_stay {w w1 : World} (h : Stay (fun b => b < w.heap.size) w w1) : Below w.heap.size w w1 := h.below (fun _ h => h)

theorem same_set {w : World} {g i : Nat} {u : Value} (b : Nat) (hb : b ≠ g) : (w.setCell ⟨g, i, none⟩ u).heap[b]? = w.heap[b]? := Below.heap_setCell w ⟨g, i, none⟩ u b hb

end Go.Proofs.Ytajlkaedkifaoaa
