/-
  A pad in memory: its box, the row of its slots, each slot's bytes, what is armed; and how they stay.
-/
import Derived.Test.YtdeeagphipfcaabRows
import Derived.Test.YtdeeagphipfcaabMem
import Derived.Test.YtdeeagphipfcaabQCalc
import Derived.WalkKit
import Derived.Laws.AppendOwn
import Derived.Laws.AppendOwnNone
import Derived.Laws.OwnMore
namespace Go.Proofs.Ytdeeagphipfcaab
open Go.RowKit Go.Lib
set_option linter.unusedVariables false

/-- The blocks that K names stay as they are. -/
structure Stay (K : Nat → Prop) (w w' : World) : Prop where
  os : w'.os = w.os
  tape : w'.tape = w.tape
  output : w'.output = w.output
  size : w.heap.size ≤ w'.heap.size
  block : ∀ b, K b → w'.heap[b]? = w.heap[b]?

theorem Stay.refl (K : Nat → Prop) (w : World) : Stay K w w := ⟨rfl, rfl, rfl, Nat.le_refl _, fun _ _ => rfl⟩

theorem Stay.trans {K : Nat → Prop} {a b c : World} (h : Stay K a b) (k : Stay K b c) : Stay K a c :=
  ⟨k.os.trans h.os, k.tape.trans h.tape, k.output.trans h.output, Nat.le_trans h.size k.size, fun i hi => (k.block i hi).trans (h.block i hi)⟩

theorem Stay.mono {K K' : Nat → Prop} {w w' : World} (h : Stay K w w') (hk : ∀ b, K' b → K b) : Stay K' w w' := ⟨h.os, h.tape, h.output, h.size, fun b hb => h.block b (hk b hb)⟩

theorem Stay.below {K : Nat → Prop} {w w' : World} {B : Nat} (h : Stay K w w') (hB : ∀ b, b < B → K b) : Below B w w' := ⟨h.os, h.tape, h.output, h.size, fun b hb => h.block b (hB b hb)⟩

theorem Stay.of_below {K : Nat → Prop} {w w' : World} {B : Nat} (h : Below B w w') (hK : ∀ b, K b → b < B) : Stay K w w' := ⟨h.os, h.tape, h.output, h.size, fun b hb => h.block b (hK b hb)⟩

theorem Stay.drew {K : Nat → Prop} {a w : World} (h : Stay K a w) : Stay K a w.drew := ⟨h.os, h.tape, h.output, h.size, h.block⟩

theorem Stay.alloc {K : Nat → Prop} {a w : World} (h : Stay K a w) (hK : ∀ b, K b → b < a.heap.size) (o : Obj) : Stay K a (w.alloc o) :=
  ⟨h.os, h.tape, h.output, Nat.le_trans h.size (by simp), fun b hb => (Below.heap_alloc w o b (Nat.lt_of_lt_of_le (hK b hb) h.size)).trans (h.block b hb)⟩

theorem Stay.setCell {K : Nat → Prop} {a w : World} (h : Stay K a w) {p : Addr} (hp : ¬ K p.block) (u : Value) : Stay K a (w.setCell p u) :=
  ⟨h.os, h.tape, h.output, by simpa [World.setCell] using h.size, fun b hb => (Below.heap_setCell w p u b (fun e => hp (e ▸ hb))).trans (h.block b hb)⟩

theorem Stay.grown {K : Nat → Prop} {a w w' : World} {row : Option Nat} (h : Stay K a w) (hg : w.grownBy w' row) (hK : ∀ b, K b → b < a.heap.size) (hr : ∀ k, row = some k → ¬ K k) : Stay K a w' :=
  ⟨hg.os.trans h.os, hg.tape.trans h.tape, hg.output.trans h.output, Nat.le_trans h.size hg.size, fun b hb => (hg.block b (Nat.lt_of_lt_of_le (hK b hb) h.size) (fun e => hr b e.symm hb)).trans (h.block b hb)⟩

/-- A pad's box. -/
def PadBox (w : World) (g : Nat) (v : Value) (safe : Int) (off : Bool) (life calls : Int) (kv : Value) (torn : Int) : Prop :=
  w.heap[g]? = some (.cells #[v, .int .i64 safe, .bool off, .int .i64 life, .int .i64 calls, kv, .int .i64 torn] 49 (0, 0))

theorem PadBox.made {w : World} {g : Nat} {v : Value} {safe : Int} {off : Bool} {life calls : Int} {kv : Value} {torn : Int} (hg : w.heap.size = g) :
    PadBox (w.alloc (.cells #[v, .int .i64 safe, .bool off, .int .i64 life, .int .i64 calls, kv, .int .i64 torn] 49)) g v safe off life calls kv torn := by
  subst hg
  show (w.heap.push _)[w.heap.size]? = _
  simp

theorem PadBox.lt {w : World} {g : Nat} {v : Value} {safe : Int} {off : Bool} {life calls : Int} {kv : Value} {torn : Int} (h : PadBox w g v safe off life calls kv torn) : g < w.heap.size := by
  unfold PadBox at h
  rcases Nat.lt_or_ge g w.heap.size with h1 | h1
  · exact h1
  · simp [Array.getElem?_eq_none h1] at h

theorem PadBox.free {w : World} {g : Nat} {v : Value} {safe : Int} {off : Bool} {life calls : Int} {kv : Value} {torn : Int} (h : PadBox w g v safe off life calls kv torn) (i : Nat) : w.frozen? ⟨g, i, none⟩ = false := by
  unfold PadBox at h
  simp [World.frozen?, h]

theorem PadBox.cells {w : World} {g : Nat} {v : Value} {safe : Int} {off : Bool} {life calls : Int} {kv : Value} {torn : Int} (h : PadBox w g v safe off life calls kv torn) :
    w.cell? ⟨g, 0, none⟩ = some v ∧ w.cell? ⟨g, 1, none⟩ = some (.int .i64 safe) ∧ w.cell? ⟨g, 2, none⟩ = some (.bool off) ∧ w.cell? ⟨g, 3, none⟩ = some (.int .i64 life) ∧ w.cell? ⟨g, 4, none⟩ = some (.int .i64 calls) ∧ w.cell? ⟨g, 5, none⟩ = some kv ∧ w.cell? ⟨g, 6, none⟩ = some (.int .i64 torn) := by
  refine ⟨?_, ?_, ?_, ?_, ?_, ?_, ?_⟩ <;> (rw [cell_of_row w g _ _ _ _ h]; rfl)

theorem PadBox.set0 {w : World} {g : Nat} {v : Value} {safe : Int} {off : Bool} {life calls : Int} {kv : Value} {torn : Int} (h : PadBox w g v safe off life calls kv torn) (v' : Value) : PadBox (w.setCell ⟨g, 0, none⟩ v') g v' safe off life calls kv torn := by
  unfold PadBox at h ⊢
  rw [Go.heap_setCell_same _ _ _ _ _ _ h]
  rfl

theorem PadBox.set1 {w : World} {g : Nat} {v : Value} {safe : Int} {off : Bool} {life calls : Int} {kv : Value} {torn : Int} (h : PadBox w g v safe off life calls kv torn) (safe' : Int) : PadBox (w.setCell ⟨g, 1, none⟩ (.int .i64 safe')) g v safe' off life calls kv torn := by
  unfold PadBox at h ⊢
  rw [Go.heap_setCell_same _ _ _ _ _ _ h]
  rfl

theorem PadBox.set2 {w : World} {g : Nat} {v : Value} {safe : Int} {off : Bool} {life calls : Int} {kv : Value} {torn : Int} (h : PadBox w g v safe off life calls kv torn) (off' : Bool) : PadBox (w.setCell ⟨g, 2, none⟩ (.bool off')) g v safe off' life calls kv torn := by
  unfold PadBox at h ⊢
  rw [Go.heap_setCell_same _ _ _ _ _ _ h]
  rfl

theorem PadBox.set3 {w : World} {g : Nat} {v : Value} {safe : Int} {off : Bool} {life calls : Int} {kv : Value} {torn : Int} (h : PadBox w g v safe off life calls kv torn) (life' : Int) : PadBox (w.setCell ⟨g, 3, none⟩ (.int .i64 life')) g v safe off life' calls kv torn := by
  unfold PadBox at h ⊢
  rw [Go.heap_setCell_same _ _ _ _ _ _ h]
  rfl

theorem PadBox.set4 {w : World} {g : Nat} {v : Value} {safe : Int} {off : Bool} {life calls : Int} {kv : Value} {torn : Int} (h : PadBox w g v safe off life calls kv torn) (calls' : Int) : PadBox (w.setCell ⟨g, 4, none⟩ (.int .i64 calls')) g v safe off life calls' kv torn := by
  unfold PadBox at h ⊢
  rw [Go.heap_setCell_same _ _ _ _ _ _ h]
  rfl

theorem PadBox.set5 {w : World} {g : Nat} {v : Value} {safe : Int} {off : Bool} {life calls : Int} {kv : Value} {torn : Int} (h : PadBox w g v safe off life calls kv torn) (kv' : Value) : PadBox (w.setCell ⟨g, 5, none⟩ kv') g v safe off life calls kv' torn := by
  unfold PadBox at h ⊢
  rw [Go.heap_setCell_same _ _ _ _ _ _ h]
  rfl

theorem PadBox.set6 {w : World} {g : Nat} {v : Value} {safe : Int} {off : Bool} {life calls : Int} {kv : Value} {torn : Int} (h : PadBox w g v safe off life calls kv torn) (torn' : Int) : PadBox (w.setCell ⟨g, 6, none⟩ (.int .i64 torn')) g v safe off life calls kv torn' := by
  unfold PadBox at h ⊢
  rw [Go.heap_setCell_same _ _ _ _ _ _ h]
  rfl

theorem PadBox.same {w w' : World} {g : Nat} {v : Value} {safe : Int} {off : Bool} {life calls : Int} {kv : Value} {torn : Int} (h : PadBox w g v safe off life calls kv torn) (hb : w'.heap[g]? = w.heap[g]?) : PadBox w' g v safe off life calls kv torn := hb.trans h

/-- Rows of bytes and of bools stay as they are. -/
def Leafs (w w' : World) : Prop := ∀ (b : Nat) (c : Array Value) (t : TypeId), w.heap[b]? = some (.cells c t (0, 0)) → t = 5 ∨ t = 4 → w'.heap[b]? = w.heap[b]?

theorem Leafs.refl (w : World) : Leafs w w := fun _ _ _ _ _ => rfl

theorem Leafs.trans {a b c : World} (h : Leafs a b) (k : Leafs b c) : Leafs a c := fun i cs t hi ht => (k i cs t ((h i cs t hi ht).trans hi) ht).trans (h i cs t hi ht)

theorem Leafs.of_below {w w' : World} (h : Below w.heap.size w w') : Leafs w w' := fun b c t hb ht => h.block b (by
  rcases Nat.lt_or_ge b w.heap.size with h1 | h1
  · exact h1
  · simp [Array.getElem?_eq_none h1] at hb)

theorem Leafs.setCell {w : World} {g : Nat} {cs : Array Value} {t : TypeId} (hg : w.heap[g]? = some (.cells cs t (0, 0))) (ht : t ≠ 5 ∧ t ≠ 4) (i : Nat) (u : Value) : Leafs w (w.setCell ⟨g, i, none⟩ u) := by
  intro b c t' hb ht'
  refine Below.heap_setCell w ⟨g, i, none⟩ u b (fun e => ?_)
  simp only at e
  subst e
  rw [hb] at hg
  cases hg
  rcases ht' with rfl | rfl
  · exact ht.1 rfl
  · exact ht.2 rfl

theorem Leafs.pad {w : World} {g : Nat} {v : Value} {safe : Int} {off : Bool} {life calls : Int} {kv : Value} {torn : Int} (h : PadBox w g v safe off life calls kv torn) (i : Nat) (u : Value) : Leafs w (w.setCell ⟨g, i, none⟩ u) := Leafs.setCell h (by decide) i u

theorem Leafs.grown {w w' : World} {row : Option Nat} (hg : w.grownBy w' row) (hr : ∀ k, row = some k → ∃ cs t, w.heap[k]? = some (.cells cs t (0, 0)) ∧ t ≠ 5 ∧ t ≠ 4) : Leafs w w' := by
  intro b c t hb ht
  refine hg.block b ?_ (fun e => ?_)
  · rcases Nat.lt_or_ge b w.heap.size with h1 | h1
    · exact h1
    · simp [Array.getElem?_eq_none h1] at hb
  · obtain ⟨cs, t', h1, h2, h3⟩ := hr b e.symm
    rw [hb] at h1
    cases h1
    rcases ht with rfl | rfl
    · exact h2 rfl
    · exact h3 rfl

/-- A slot's first cell: its bytes, in a row of its own that K does not name; of a spoilt one nothing. -/
def SlotV (K : Nat → Prop) (w : World) (v : Value) (s : Option (List UInt8)) : Prop :=
  (s = none ∧ v = .slice none 0 0) ∨ ∃ l b, s = some l ∧ v = .slice (some ⟨b, 0, none⟩) l.length l.length ∧ Row w b l ∧ ¬ K b

theorem SlotV.leafs {K : Nat → Prop} {w w' : World} {v : Value} {s : Option (List UInt8)} (h : SlotV K w v s) (hl : Leafs w w') : SlotV K w' v s := by
  rcases h with h | ⟨l, b, h1, h2, h3, h4⟩
  · exact .inl h
  · exact .inr ⟨l, b, h1, h2, (hl b _ _ h3 (.inl rfl)).trans h3, h4⟩

theorem SlotV.stay {K K' : Nat → Prop} {w w' : World} {v : Value} {s : Option (List UInt8)} (h : SlotV K w v s) (hb : ∀ b, b < w.heap.size → ¬ K b → w'.heap[b]? = w.heap[b]? ∧ ¬ K' b) : SlotV K' w' v s := by
  rcases h with h | ⟨l, b, h1, h2, h3, h4⟩
  · exact .inl h
  · exact .inr ⟨l, b, h1, h2, (hb b h3.lt h4).1.trans h3, (hb b h3.lt h4).2⟩

theorem SlotV.one {K : Nat → Prop} {w : World} {v : Value} {s : Option (List UInt8)} (h : SlotV K w v s) : v.oneCell' = true := by
  rcases h with ⟨_, rfl⟩ | ⟨l, b, _, rfl, _⟩ <;> rfl

/-- What is armed to be kept. -/
def KeepV (K : Nat → Prop) (w : World) (v : Value) (l : List Bool) : Prop :=
  ∃ a cap, v = .slice a l.length cap ∧ l.length ≤ cap ∧ (l = [] ∨ ∃ b cs, a = some ⟨b, 0, none⟩ ∧ w.heap[b]? = some (.cells cs 4 (0, 0)) ∧ cs.toList.take l.length = l.map Value.bool ∧ ¬ K b)

theorem KeepV.nought (K : Nat → Prop) (w : World) : KeepV K w (.slice none 0 0) [] := ⟨none, 0, rfl, Nat.le_refl _, .inl rfl⟩

theorem KeepV.leafs {K : Nat → Prop} {w w' : World} {v : Value} {l : List Bool} (h : KeepV K w v l) (hl : Leafs w w') : KeepV K w' v l := by
  obtain ⟨a, cap, h1, h2, h3⟩ := h
  refine ⟨a, cap, h1, h2, ?_⟩
  rcases h3 with h3 | ⟨b, cs, h4, h5, h6, h7⟩
  · exact .inl h3
  · exact .inr ⟨b, cs, h4, (hl b _ _ h5 (.inr rfl)).trans h5, h6, h7⟩

theorem heap_lt {w : World} {b : Nat} {o : Obj} (h : w.heap[b]? = some o) : b < w.heap.size := by
  rcases Nat.lt_or_ge b w.heap.size with h1 | h1
  · exact h1
  · simp [Array.getElem?_eq_none h1] at h

theorem KeepV.stay {K K' : Nat → Prop} {w w' : World} {v : Value} {l : List Bool} (h : KeepV K w v l) (hb : ∀ b, b < w.heap.size → ¬ K b → w'.heap[b]? = w.heap[b]? ∧ ¬ K' b) : KeepV K' w' v l := by
  obtain ⟨a, cap, h1, h2, h3⟩ := h
  refine ⟨a, cap, h1, h2, ?_⟩
  rcases h3 with h3 | ⟨b, cs, h4, h5, h6, h7⟩
  · exact .inl h3
  · exact .inr ⟨b, cs, h4, (hb b (heap_lt h5) h7).1.trans h5, h6, (hb b (heap_lt h5) h7).2⟩

/-- A slot as it lies: its first cell, and what it is. -/
abbrev SlotP := Value × Option (List UInt8)

def cellQ (p : SlotP) : List Value := [p.1, .bool p.2.isNone]

def cellsQ (ps : List SlotP) : List Value := ps.flatMap cellQ

theorem cellsQ_length (ps : List SlotP) : (cellsQ ps).length = ps.length * 2 := by
  induction ps with
  | nil => rfl
  | cons p ps ih => simp [cellsQ, cellQ] at *; omega

theorem cellsQ_append (a b : List SlotP) : cellsQ (a ++ b) = cellsQ a ++ cellsQ b := by simp [cellsQ]

theorem cellsQ_cons (p : SlotP) (ps : List SlotP) : cellsQ (p :: ps) = p.1 :: .bool p.2.isNone :: cellsQ ps := by simp [cellsQ, cellQ]

theorem cellsQ_at : ∀ (ps : List SlotP) (i : Nat) (hi : i < ps.length), (cellsQ ps)[i * 2]? = some ps[i].1 ∧ (cellsQ ps)[i * 2 + 1]? = some (.bool ps[i].2.isNone)
  | [], i, hi => absurd hi (by simp)
  | p :: ps, 0, hi => by simp [cellsQ_cons]
  | p :: ps, i + 1, hi => by
    have := cellsQ_at ps i (by simpa using hi)
    have e1 : (i + 1) * 2 = i * 2 + 1 + 1 := by omega
    have e2 : (i + 1) * 2 + 1 = i * 2 + 1 + 1 + 1 := by omega
    rw [cellsQ_cons, e2, e1]
    simpa using this

theorem cellsQ_set : ∀ (ps : List SlotP) (k : Nat) (p : SlotP), cellsQ (ps.set k p) = ((cellsQ ps).set (k * 2) p.1).set (k * 2 + 1) (.bool p.2.isNone)
  | [], k, p => by simp [cellsQ]
  | q :: ps, 0, p => by simp [cellsQ_cons]
  | q :: ps, k + 1, p => by
    have ih := cellsQ_set ps k p
    have e1 : (k + 1) * 2 = k * 2 + 1 + 1 := by omega
    rw [List.set_cons_succ, cellsQ_cons, cellsQ_cons, ih, e1]
    simp [List.set_cons_succ]

theorem cellsQ_take (ps : List SlotP) (n : Nat) : cellsQ (ps.take n) = (cellsQ ps).take (n * 2) := by
  rcases Nat.lt_or_ge n ps.length with h | h
  · have e : cellsQ ps = cellsQ (ps.take n) ++ cellsQ (ps.drop n) := by rw [← cellsQ_append, List.take_append_drop]
    rw [e, List.take_left' (by rw [cellsQ_length]; simp; omega)]
  · rw [List.take_of_length_le h, List.take_of_length_le (by rw [cellsQ_length]; omega)]

theorem cellsQ_drop (ps : List SlotP) (n : Nat) : cellsQ (ps.drop n) = (cellsQ ps).drop (n * 2) := by
  rcases Nat.lt_or_ge n ps.length with h | h
  · have e : cellsQ ps = cellsQ (ps.take n) ++ cellsQ (ps.drop n) := by rw [← cellsQ_append, List.take_append_drop]
    rw [e, List.drop_left' (by rw [cellsQ_length]; simp; omega)]
  · rw [List.drop_of_length_le h, List.drop_of_length_le (by rw [cellsQ_length]; omega)]
    rfl

/-- A pad in memory: none of its blocks is one that K names. -/
structure PadAt (K : Nat → Prop) (w : World) (g : Nat) (s : PadS) : Prop where
  ok : s.Ok
  out : ¬ K g
  lies : ∃ v ps kv, PadBox w g v (s.safe : Int) s.off s.life s.calls kv s.torn ∧ ps.map Prod.snd = s.slots ∧ w.ownsRow 0 52 2 v ps.length (cellsQ ps) ∧ (∀ b, v.ownBlock = some b → ¬ K b) ∧ (∀ p ∈ ps, SlotV K w p.1 p.2) ∧ KeepV K w kv s.keep

theorem PadAt.lt {K : Nat → Prop} {w : World} {g : Nat} {s : PadS} (h : PadAt K w g s) : g < w.heap.size := by
  obtain ⟨v, ps, kv, hb, _⟩ := h.lies
  exact hb.lt

/-- What is no pad's block may turn. -/
theorem PadAt.stay {K K' : Nat → Prop} {w w' : World} {g : Nat} {s : PadS} (h : PadAt K w g s) (hb : ∀ b, b < w.heap.size → ¬ K b → w'.heap[b]? = w.heap[b]? ∧ ¬ K' b) : PadAt K' w' g s := by
  obtain ⟨ok, out, v, ps, kv, h1, h2, h3, h4, h5, h6⟩ := h
  refine ⟨ok, (hb g h1.lt out).2, v, ps, kv, h1.same (hb g h1.lt out).1, h2, ⟨h3.1, ?_⟩, fun b e => (hb b (World.ownsRow.lt h3 b e).2 (h4 b e)).2, fun p hp => (h5 p hp).stay hb, h6.stay hb⟩
  rcases h3.2 with h7 | ⟨r, cap, cur, hv, hg, hh, hc⟩
  · exact .inl h7
  · refine .inr ⟨r, cap, cur, hv, hg, (hb r (heap_lt hh) (h4 r (by rw [hv]; rfl))).1.trans hh, hc⟩

theorem PadAt.later {K : Nat → Prop} {w w' : World} {g : Nat} {s : PadS} (h : PadAt K w g s) (hb : Below w.heap.size w w') : PadAt K w' g s := h.stay fun b h1 h2 => ⟨hb.block b h1, h2⟩

theorem PadAt.mono {K K' : Nat → Prop} {w : World} {g : Nat} {s : PadS} (h : PadAt K w g s) (hk : ∀ b, b < w.heap.size → K' b → K b) : PadAt K' w g s := h.stay fun b h1 h2 => ⟨rfl, fun h3 => h2 (hk b h1 h3)⟩

theorem Try.infoQ : (Try.prog.info? 52).map (fun i => (i.zero, i.size, i.bytes)) = some (some (.agg #[.slice none 0 0, .bool false]), 2, 32) := by kernel_rfl

end Go.Proofs.Ytdeeagphipfcaab
