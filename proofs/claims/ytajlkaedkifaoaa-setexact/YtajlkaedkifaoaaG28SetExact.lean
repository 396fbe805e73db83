/-
  Texts of the proof of SetExact, one behind the other.
-/
import Derived.Test.YtajlkaedkifaoaaRows
import Derived.Test.YtajlkaedkifaoaaG2SetExact
import Derived.Test.YtajlkaedkifaoaaG26SetExact
import Derived.Test.YtajlkaedkifaoaaG27SetExact
import Derived.WalkKit
import Derived.Laws.AppendOwn
import Derived.Laws.AppendOwnNone
import Derived.Laws.OwnMore
namespace Go.Proofs.Ytajlkaedkifaoaa
open Go.RowKit Go.Lib
set_option linter.unusedVariables false

/-- Rows of bytes and of bools stay as they are. -/
def Leafs (w w' : World) : Prop := ∀ (b : Nat) (c : Array Value) (t : TypeId), w.heap[b]? = some (.cells c t (0, 0)) → t = 5 ∨ t = 4 → w'.heap[b]? = w.heap[b]?

theorem Leafs.refl (w : World) : Leafs w w := fun _ _ _ _ _ => rfl

theorem Leafs.trans {a b c : World} (h : Leafs a b) (k : Leafs b c) : Leafs a c := fun i cs t hi ht => (k i cs t ((h i cs t hi ht).trans hi) ht).trans (h i cs t hi ht)

theorem Leafs.of_below {w w' : World} (h : Below w.heap.size w w') : Leafs w w' := fun b c t hb ht => h.block b (by
  rcases Nat.lt_or_ge b w.heap.size with h1 | h1
  · exact h1
  · simp [Array.getElem?_eq_none h1] at hb)

theorem Leafs.setCell {w : World} {g : Nat} {cs : Array Value} {t : TypeId} (hg : w.heap[g]? = some (.cells cs t (0, 0))) (ht : t ≠ 5 ∧ t ≠ 4) (i : Nat) (u : Value) : Leafs w (w.setCell ⟨g, i, none⟩ u) := by
  intro b c t' hb ht'
  refine Below.heap_setCell w ⟨g, i, none⟩ u b (fun e => ?_)
  simp only at e
  subst e
  rw [hb] at hg
  cases hg
  rcases ht' with rfl | rfl
  · exact ht.1 rfl
  · exact ht.2 rfl

theorem Leafs.grown {w w' : World} {row : Option Nat} (hg : w.grownBy w' row) (hr : ∀ k, row = some k → ∃ cs t, w.heap[k]? = some (.cells cs t (0, 0)) ∧ t ≠ 5 ∧ t ≠ 4) : Leafs w w' := by
  intro b c t hb ht
  refine hg.block b ?_ (fun e => ?_)
  · rcases Nat.lt_or_ge b w.heap.size with h1 | h1
    · exact h1
    · simp [Array.getElem?_eq_none h1] at hb
  · obtain ⟨cs, t', h1, h2, h3⟩ := hr b e.symm
    rw [hb] at h1
    cases h1
    rcases ht with rfl | rfl
    · exact h2 rfl
    · exact h3 rfl

/-- A slot's first cell: its bytes, in a row of its own that K does not name; of a spoilt one nothing. -/
def SlotV (K : Nat → Prop) (w : World) (v : Value) (s : Option (List UInt8)) : Prop :=
  (s = none ∧ v = .slice none 0 0) ∨ ∃ l b, s = some l ∧ v = .slice (some ⟨b, 0, none⟩) l.length l.length ∧ Row w b l ∧ ¬ K b

theorem SlotV.leafs {K : Nat → Prop} {w w' : World} {v : Value} {s : Option (List UInt8)} (h : SlotV K w v s) (hl : Leafs w w') : SlotV K w' v s := by
  rcases h with h | ⟨l, b, h1, h2, h3, h4⟩
  · exact .inl h
  · exact .inr ⟨l, b, h1, h2, (hl b _ _ h3 (.inl rfl)).trans h3, h4⟩

theorem SlotV.stay {K K' : Nat → Prop} {w w' : World} {v : Value} {s : Option (List UInt8)} (h : SlotV K w v s) (hb : ∀ b, b < w.heap.size → ¬ K b → w'.heap[b]? = w.heap[b]? ∧ ¬ K' b) : SlotV K' w' v s := by
  rcases h with h | ⟨l, b, h1, h2, h3, h4⟩
  · exact .inl h
  · exact .inr ⟨l, b, h1, h2, (hb b h3.lt h4).1.trans h3, (hb b h3.lt h4).2⟩

theorem SlotV.one {K : Nat → Prop} {w : World} {v : Value} {s : Option (List UInt8)} (h : SlotV K w v s) : v.oneCell' = true := by
  rcases h with ⟨_, rfl⟩ | ⟨l, b, _, rfl, _⟩ <;> rfl

/-- What is armed to be kept. -/
def KeepV (K : Nat → Prop) (w : World) (v : Value) (l : List Bool) : Prop :=
  ∃ a cap, v = .slice a l.length cap ∧ l.length ≤ cap ∧ (l = [] ∨ ∃ b cs, a = some ⟨b, 0, none⟩ ∧ w.heap[b]? = some (.cells cs 4 (0, 0)) ∧ cs.toList.take l.length = l.map Value.bool ∧ ¬ K b)

theorem KeepV.nought (K : Nat → Prop) (w : World) : KeepV K w (.slice none 0 0) [] := ⟨none, 0, rfl, Nat.le_refl _, .inl rfl⟩

theorem KeepV.leafs {K : Nat → Prop} {w w' : World} {v : Value} {l : List Bool} (h : KeepV K w v l) (hl : Leafs w w') : KeepV K w' v l := by
  obtain ⟨a, cap, h1, h2, h3⟩ := h
  refine ⟨a, cap, h1, h2, ?_⟩
  rcases h3 with h3 | ⟨b, cs, h4, h5, h6, h7⟩
  · exact .inl h3
  · exact .inr ⟨b, cs, h4, (hl b _ _ h5 (.inr rfl)).trans h5, h6, h7⟩

theorem KeepV.stay {K K' : Nat → Prop} {w w' : World} {v : Value} {l : List Bool} (h : KeepV K w v l) (hb : ∀ b, b < w.heap.size → ¬ K b → w'.heap[b]? = w.heap[b]? ∧ ¬ K' b) : KeepV K' w' v l := by
  obtain ⟨a, cap, h1, h2, h3⟩ := h
  refine ⟨a, cap, h1, h2, ?_⟩
  rcases h3 with h3 | ⟨b, cs, h4, h5, h6, h7⟩
  · exact .inl h3
  · exact .inr ⟨b, cs, h4, (hb b (heap_lt h5) h7).1.trans h5, h6, (hb b (heap_lt h5) h7).2⟩

/-- A slot as it lies: its first cell, and what it is. -/
abbrev SlotP := Value × Option (List UInt8)

def cellQ (p : SlotP) : List Value := [p.1, .bool p.2.isNone]

def cellsQ (ps : List SlotP) : List Value := ps.flatMap cellQ

theorem cellsQ_length (ps : List SlotP) : (cellsQ ps).length = ps.length * 2 := by
  induction ps with
  | nil => rfl
  | cons p ps ih => simp [cellsQ, cellQ] at *; omega

theorem cellsQ_append (a b : List SlotP) : cellsQ (a ++ b) = cellsQ a ++ cellsQ b := by simp [cellsQ]

theorem cellsQ_cons (p : SlotP) (ps : List SlotP) : cellsQ (p :: ps) = p.1 :: .bool p.2.isNone :: cellsQ ps := by simp [cellsQ, cellQ]

theorem cellsQ_at : ∀ (ps : List SlotP) (i : Nat) (hi : i < ps.length), (cellsQ ps)[i * 2]? = some ps[i].1 ∧ (cellsQ ps)[i * 2 + 1]? = some (.bool ps[i].2.isNone)
  | [], i, hi => absurd hi (by simp)
  | p :: ps, 0, hi => by simp [cellsQ_cons]
  | p :: ps, i + 1, hi => by
    have := cellsQ_at ps i (by simpa using hi)
    have e1 : (i + 1) * 2 = i * 2 + 1 + 1 := by omega
    have e2 : (i + 1) * 2 + 1 = i * 2 + 1 + 1 + 1 := by omega
    rw [cellsQ_cons, e2, e1]
    simpa using this

theorem cellsQ_set : ∀ (ps : List SlotP) (k : Nat) (p : SlotP), cellsQ (ps.set k p) = ((cellsQ ps).set (k * 2) p.1).set (k * 2 + 1) (.bool p.2.isNone)
  | [], k, p => by simp [cellsQ]
  | q :: ps, 0, p => by simp [cellsQ_cons]
  | q :: ps, k + 1, p => by
    have ih := cellsQ_set ps k p
    have e1 : (k + 1) * 2 = k * 2 + 1 + 1 := by omega
    rw [List.set_cons_succ, cellsQ_cons, cellsQ_cons, ih, e1]
    simp [List.set_cons_succ]

theorem cellsQ_take (ps : List SlotP) (n : Nat) : cellsQ (ps.take n) = (cellsQ ps).take (n * 2) := by
  rcases Nat.lt_or_ge n ps.length with h | h
  · have e : cellsQ ps = cellsQ (ps.take n) ++ cellsQ (ps.drop n) := by rw [← cellsQ_append, List.take_append_drop]
    rw [e, List.take_left' (by rw [cellsQ_length]; simp; omega)]
  · rw [List.take_of_length_le h, List.take_of_length_le (by rw [cellsQ_length]; omega)]

theorem cellsQ_drop (ps : List SlotP) (n : Nat) : cellsQ (ps.drop n) = (cellsQ ps).drop (n * 2) := by
  rcases Nat.lt_or_ge n ps.length with h | h
  · have e : cellsQ ps = cellsQ (ps.take n) ++ cellsQ (ps.drop n) := by rw [← cellsQ_append, List.take_append_drop]
    rw [e, List.drop_left' (by rw [cellsQ_length]; simp; omega)]
  · rw [List.drop_of_length_le h, List.drop_of_length_le (by rw [cellsQ_length]; omega)]
    rfl

end Go.Proofs.Ytajlkaedkifaoaa
