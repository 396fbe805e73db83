/-
  Texts of the proof of SetExact, one behind the other.
-/
import Derived.Test.YtajlkaedkifaoaaRows
import Derived.Test.YtajlkaedkifaoaaG4SetExact
import Derived.WalkKit
import Derived.WalkSpells
import Derived.WalkLawsBesides
import Derived.Laws.AppendOwnNone
import Derived.Lib.AppendStr
namespace Go.Proofs.Ytajlkaedkifaoaa
open Go.RowKit Go.Lib

/-- The slice v is a row of the call's own, from block B on, and its elements are these bytes. -/
def Own (w : World) (B : Nat) (v : Value) (l : List UInt8) : Prop := w.ownsRow B 5 1 v l.length (byteCells l)

theorem Own.nought (w : World) (B : Nat) : Own w B (.slice none 0 0) [] := World.ownsRow_nil w B 5 1

theorem Own.form {w : World} {B : Nat} {v : Value} {l : List UInt8} (h : Own w B v l) : ∃ a cap, v = .slice a l.length cap ∧ l.length ≤ cap ∧ Rd w a l ∧ (a = none → l = [] ∧ cap = 0) := by
  obtain ⟨_, ⟨hv, hn⟩ | ⟨g, cap, cur, hv, _, hh, hc, _, hs, ht⟩⟩ := h
  · have : l = [] := List.eq_nil_of_length_eq_zero hn
    subst this
    exact ⟨none, 0, hv, Nat.le_refl _, Rd.nil _ _, fun _ => ⟨rfl, rfl⟩⟩
  · refine ⟨_, cap, hv, hc, fun _ => ⟨g, 0, rfl, fun i hi => ?_⟩, fun h => by cases h⟩
    rw [cell_of_row w g _ _ _ _ hh, Nat.zero_add]
    have hx : (byteCells l)[i]? = some (.int .u8 (l[i].toNat : Int)) := by simp [byteCells, List.getElem?_eq_getElem hi]
    rw [← ht, Nat.mul_one, List.getElem?_take_of_lt hi] at hx
    simpa using hx

theorem Own.later {w w' : World} {B : Nat} {v : Value} {l : List UInt8} (h : Own w B v l) (hb : Below w.heap.size w w') : Own w' B v l := by
  obtain ⟨h1, h2⟩ := h
  refine ⟨h1, ?_⟩
  rcases h2 with h2 | ⟨g, cap, cur, hv, hg, hh, hc⟩
  · exact .inl h2
  · refine .inr ⟨g, cap, cur, hv, hg, (hb.block g ?_).trans hh, hc⟩
    rcases Nat.lt_or_ge g w.heap.size with h3 | h3
    · exact h3
    · simp [Array.getElem?_eq_none h3] at hh

theorem Own.block {w : World} {B : Nat} {v : Value} {l : List UInt8} (h : Own w B v l) : ∀ k, v.ownBlock = some k → B ≤ k := fun k hk => (World.ownsRow.lt h k hk).1

/-- append(v, src...): v the call's own, src any bytes that can be read. -/
theorem run_append_rd {P : Program} {w : World} {B t ty m cap : Nat} {v : Value} {a : Option Addr} {xs l : List UInt8} (ht : P.underlying t = some (.slice 5)) (hinfo : (P.info? 5).map (fun i => (i.zero, i.size, i.bytes)) = some (some (.int .u8 0), 1, 1))
    (hown : Own w B v xs) (hm : l.length = m) (hr : Rd w a l) (hnil : a = none → l = [] ∧ cap = 0) (h1 : xs.length ≤ 4294967296) (h2 : m ≤ 4294967296) (hB : B ≤ w.heap.size) :
    ∃ v' w', (Builtin.append_ #[t, t] ty #[v, .slice a m cap]).run P w = .ok v' w' ∧ Own w' B v' (xs ++ l) ∧ w.grownBy w' v.ownBlock ∧ (v' = .slice none 0 0 ↔ v = .slice none 0 0 ∧ m = 0) := by
  subst hm
  obtain ⟨i0, hi, hz0, hz1, hz2⟩ := info_parts hinfo
  cases a with
  | none =>
    obtain ⟨rfl, rfl⟩ := hnil rfl
    refine ⟨v, w, run_append_owned_none (P := P) (w := w) B t ty 5 i0 1 ht hi v xs.length (byteCells xs) hown, by simpa [Own] using hown, World.grownBy.refl _ _, by simp⟩
  | some ad =>
    have hsrc : ∀ j u, (byteCells l)[j]? = some u → w.cell? (ad.add j) = some u := by
      rcases Nat.eq_zero_or_pos l.length with h0 | h0
      · obtain rfl := List.eq_nil_of_length_eq_zero h0
        intro j u hj
        simp [byteCells] at hj
      · obtain ⟨ad', e, h⟩ := hr.src (by rw [byteCells_length]; exact h0)
        cases e
        exact h
    obtain ⟨v', w', hrun, ho, hg, hn⟩ := run_append_own (P := P) (w := w) B t ty 5 i0 (.int .u8 0) 1 1 ht hi hz0 hz1 hz2 rfl (by decide) v xs.length (byteCells xs) hown ad l.length cap (byteCells l) (by simp [byteCells_length]) hsrc (byteCells_one _) (by unfold maxLen; omega) (by omega) hB
    refine ⟨v', w', hrun, ?_, hg, hn⟩
    unfold Own
    rw [List.length_append, byteCells_append]
    exact ho

/-- The same, with what it makes laid open. -/
theorem run_append_form {P : Program} {w : World} {B t ty n m cap : Nat} {v : Value} {a : Option Addr} {xs l : List UInt8} (ht : P.underlying t = some (.slice 5)) (hinfo : (P.info? 5).map (fun i => (i.zero, i.size, i.bytes)) = some (some (.int .u8 0), 1, 1))
    (hown : Own w B v xs) (hn : xs.length = n) (hm : l.length = m) (hr : Rd w a l) (hnil : a = none → l = [] ∧ cap = 0) (h1 : n ≤ 4294967296) (h2 : m ≤ 4294967296) (hB : B ≤ w.heap.size) :
    ∃ a' cap' w', (Builtin.append_ #[t, t] ty #[v, .slice a m cap]).run P w = .ok (.slice a' (n + m) cap') w' ∧ n + m ≤ cap' ∧ Own w' B (.slice a' (n + m) cap') (xs ++ l) ∧ Rd w' a' (xs ++ l) ∧ (a' = none → xs ++ l = [] ∧ cap' = 0) ∧ w.heap.size ≤ w'.heap.size ∧ Below B w w' := by
  obtain ⟨v', w', hrun, ho, hg, _⟩ := run_append_rd (ty := ty) ht hinfo hown hm hr hnil (by omega) h2 hB
  obtain ⟨a', cap', rfl, hc, hrd, hnl⟩ := ho.form
  have e : (xs ++ l).length = n + m := by simp [hn, hm]
  rw [e] at hrun ho hc
  exact ⟨a', cap', w', hrun, hc, ho, hrd, hnl, hg.size, (Below.refl _ _).grown hg hB (fun k hk => hown.block k hk)⟩

/-- append(v, s...): v the call's own, s a text. -/
theorem run_append_text {P : Program} {w : World} {B t u ty n : Nat} {v : Value} {s : ByteArray} {xs : List UInt8} (ht : P.underlying t = some (.slice 5)) (hu : P.underlying u = some .string) (hinfo : (P.info? 5).map (fun i => (i.zero, i.size, i.bytes)) = some (some (.int .u8 0), 1, 1))
    (hown : Own w B v xs) (hn : xs.length = n) (h1 : n ≤ 4294967296) (h2 : s.size ≤ 4294967296) (hB : B ≤ w.heap.size) :
    ∃ a' cap' w', (Builtin.append_ #[t, u] ty #[v, .string s]).run P w = .ok (.slice a' (n + s.size) cap') w' ∧ n + s.size ≤ cap' ∧ Own w' B (.slice a' (n + s.size) cap') (xs ++ s.data.toList) ∧ Rd w' a' (xs ++ s.data.toList) ∧ (a' = none → xs ++ s.data.toList = [] ∧ cap' = 0) ∧ w.heap.size ≤ w'.heap.size ∧ Below B w w' := by
  obtain ⟨i0, hi, hz0, hz1, hz2⟩ := info_parts hinfo
  obtain ⟨v', w', hrun, ho, hg, _⟩ := run_append_own_string (P := P) w B t u ty 5 i0 ht hu hi hz0 hz1 hz2 v xs.length (byteCells xs) hown s (by unfold maxLen; omega) (by omega) hB
  have e : (xs ++ s.data.toList).length = n + s.size := by rw [List.length_append, hn, size_eq]
  have ho' : Own w' B v' (xs ++ s.data.toList) := by
    unfold Own
    rw [e, byteCells_append]
    rw [hn] at ho
    exact ho
  obtain ⟨a', cap', rfl, hc, hrd, hnl⟩ := ho'.form
  rw [e] at hrun ho' hc
  exact ⟨a', cap', w', hrun, hc, ho', hrd, hnl, hg.size, (Below.refl _ _).grown hg hB (fun k hk => hown.block k hk)⟩

/-- A law for the walk: an append whose run is known. -/
theorem wpList_append_run {P : Program} {w : World} {ops : Array Oper} {rest : List Oper} {o : Oper} {a : Act} {Q : Exit → Act → World → Prop} (hgd : o.guard = none) (s x : Operand) (t u : TypeId)
    (ho : o.op = .call { callee := .builtin .append, args := #[s, x], argTypes := #[t, u] }) (v y v' : Value) (w' : World) (hs : a.eval s = v) (hx : a.eval x = y)
    (hrun : (Builtin.append_ #[t, u] o.type #[v, y]).run P w = .ok v' w') (h : wpList P ops Q rest (a.put o.dst v') w') : wpList P ops Q (o :: rest) a w := by
  refine wpList_plain hgd fun K hK => ?_
  unfold Oper.wp
  simp [execOp, ho, resolve, invoke, builtin, hs, hx, hrun, Result.andThen]
  exact hK _ _ h

end Go.Proofs.Ytajlkaedkifaoaa
