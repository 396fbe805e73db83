/-
  Texts of the proof of SetExact, one behind the other.
-/
import Derived.Test.YtajlkaedkifaoaaRows
import Derived.Test.YtajlkaedkifaoaaG28SetExact
import Derived.WalkKit
import Derived.WalkSpells
import Derived.Deep.RegionLaw
import Derived.Lib.SliceRun
namespace Go.Proofs.Ytajlkaedkifaoaa
open Go.RowKit Go.Lib
set_option linter.unusedVariables false

theorem setCells_size (b : Nat) : ∀ (vs : List Value) (o : Nat) (w : World), (w.setCells b o vs).heap.size = w.heap.size
  | [], _, _ => rfl
  | v :: r, o, w => by rw [World.setCells, setCells_size b r]; simp [World.setCell]

theorem setCells_grown (w : World) (b : Nat) : ∀ (vs : List Value) (o : Nat), w.grownBy (w.setCells b o vs) (some b)
  | [], _ => World.grownBy.refl _ _
  | v :: r, o => by
    have h := setCells_grown (w.setCell ⟨b, o, none⟩ v) b r (o + 1)
    exact ⟨h.os, h.tape, h.output, by rw [setCells_size]; exact Nat.le_refl _, fun k hk hne => (h.block k (by simpa [World.setCell] using hk) hne).trans (Below.heap_setCell w ⟨b, o, none⟩ v k (fun e => hne (by rw [e])))⟩

theorem World.isSome_setCells' (b : Nat) : ∀ (vs : List Value) (o : Nat) (w : World) (x : Addr), (w.cell? x).isSome = true → ((w.setCells b o vs).cell? x).isSome = true
  | [], _, _, _, h => h
  | v :: r, o, w, x, h => by
    refine World.isSome_setCells' b r (o + 1) _ x ?_
    by_cases e : (⟨b, o, none⟩ : Addr) = x
    · subst e
      obtain ⟨u, hu⟩ := Option.isSome_iff_exists.1 h
      rw [World.cell?_setCell_same _ _ _ hu]
      rfl
    · rw [World.cell?_setCell_other _ _ _ _ e]
      exact h

/-- Values laid over a block's cells. -/
def over : Array Value → Nat → List Value → Array Value
  | c, _, [] => c
  | c, o, v :: r => over (c.setIfInBounds o v) (o + 1) r

theorem setCells_block (b t : Nat) : ∀ (vs : List Value) (o : Nat) (w : World) (cur : Array Value), w.heap[b]? = some (.cells cur t (0, 0)) → (w.setCells b o vs).heap[b]? = some (.cells (over cur o vs) t (0, 0))
  | [], _, _, _, h => h
  | v :: r, o, w, cur, h => setCells_block b t r (o + 1) _ _ (Go.heap_setCell_same _ _ _ _ _ _ h)

theorem over_size : ∀ (vs : List Value) (o : Nat) (c : Array Value), (over c o vs).size = c.size
  | [], _, _ => rfl
  | v :: r, o, c => by rw [over, over_size r]; simp

theorem over_take : ∀ (vs : List Value) (o : Nat) (c : Array Value) (k : Nat), k ≤ o → (over c o vs).toList.take k = c.toList.take k
  | [], _, _, _, _ => rfl
  | v :: r, o, c, k, h => by
    rw [over, over_take r (o + 1) _ k (by omega), Array.toList_setIfInBounds, List.take_set_of_le (by omega)]

theorem over_upto : ∀ (vs : List Value) (o : Nat) (c : Array Value), o + vs.length ≤ c.size → (over c o vs).toList.take (o + vs.length) = c.toList.take o ++ vs
  | [], o, c, _ => by simp [over]
  | v :: r, o, c, h => by
    simp only [List.length_cons] at h
    have ih := over_upto r (o + 1) (c.setIfInBounds o v) (by simp; omega)
    rw [over, List.length_cons, show o + (r.length + 1) = o + 1 + r.length by omega, ih, Array.toList_setIfInBounds]
    have hl : o < c.toList.length := by simp; omega
    rw [List.take_succ_eq_append_getElem (by simp; omega), List.take_set_of_le (Nat.le_refl _)]
    simp

theorem ownsRow_slice' {w : World} {B e size n : Nat} {v : Value} {xs : List Value} (h : w.ownsRow B e size v n xs) : ∃ a cap, v = .slice a n cap ∧ n ≤ cap ∧ cap ≤ 9223372036854775807 := by
  rcases h.2 with ⟨rfl, rfl⟩ | ⟨g, cap, cur, rfl, _, _, hc, hm, _⟩
  · exact ⟨none, 0, rfl, Nat.le_refl _, by omega⟩
  · exact ⟨_, cap, rfl, hc, by unfold maxLen at hm; omega⟩

theorem zeroQ (n : Nat) : (Builtin.zeroCells (Value.agg #[.slice none 0 0, .bool false]).cells n).toList = cellsQ (List.replicate n (.slice none 0 0, some [])) := by
  induction n with
  | zero => simp [Builtin.zeroCells, cellsQ]
  | succ n ih =>
    rw [List.replicate_succ', cellsQ_append, ← ih]
    simp only [Builtin.zeroCells, Value.cells]
    have e : (n + 1) * 2 = n * 2 + 1 + 1 := by omega
    rw [show (#[Value.slice none 0 0, Value.bool false] : Array Value).size = 2 from rfl, e]
    simp only [Array.toList_map, Array.toList_range, List.range_succ, List.map_append, List.append_assoc]
    congr 1
    have m0 : n * 2 % 2 = 0 := by omega
    have m1 : (n * 2 + 1) % 2 = 1 := by omega
    simp [cellsQ, cellQ, m0, m1]

theorem cellsQ_one {ps : List SlotP} (h : ∀ p ∈ ps, p.1.oneCell' = true) : ∀ u ∈ cellsQ ps, u.oneCell' = true := by
  intro u hu
  simp [cellsQ, cellQ] at hu
  obtain ⟨v, s, h1, h2⟩ := hu
  rcases h2 with rfl | rfl
  · exact h _ h1
  · rfl

end Go.Proofs.Ytajlkaedkifaoaa
