/-
  Texts of the proof of SetExact, one behind the other.
-/
import Derived.Test.YtajlkaedkifaoaaRows
import Derived.Test.YtajlkaedkifaoaaG25SetExact
import Derived.Test.YtajlkaedkifaoaaG30SetExact
import Derived.Test.YtajlkaedkifaoaaG27SetExact
namespace Go.Proofs.Ytajlkaedkifaoaa
open Go.RowKit Go.Lib
set_option linter.unusedVariables false

theorem cellZ_lt {w : World} {b o : Nat} {v : Value} (h : w.cell? ⟨b, o, none⟩ = some v) : b < w.heap.size := by
  rcases Nat.lt_or_ge b w.heap.size with h1 | h1
  · exact h1
  · simp [World.cell?, Array.getElem?_eq_none h1] at h

/-- All blocks stay but those that E names. -/
def Sz (E : Nat → Prop) (w w' : World) : Prop := Stay (fun b => b < w.heap.size ∧ ¬ E b) w w'

theorem Sz.of_below {E : Nat → Prop} {w w' : World} (h : Below w.heap.size w w') : Sz E w w' := Stay.of_below h fun b hb => hb.1

theorem Sz.of_grown {E : Nat → Prop} {w w' : World} {r : Option Nat} (h : w.grownBy w' r) (hr : ∀ b, r = some b → E b) : Sz E w w' :=
  ⟨h.os, h.tape, h.output, h.size, fun b hb => h.block b hb.1 (fun e => hb.2 (hr b e.symm))⟩

theorem Sz.cell {E : Nat → Prop} {w w' : World} (h : Sz E w w') {b o : Nat} {v : Value} (hc : w.cell? ⟨b, o, none⟩ = some v) (hb : ¬ E b) : w'.cell? ⟨b, o, none⟩ = some v := by
  have hl : b < w.heap.size := cellZ_lt hc
  rw [World.cell?_of_block (h.block b ⟨hl, hb⟩)]
  exact hc

theorem LiesZ.sz {E : Nat → Prop} {w w' : World} {c : List Value} {x : PI} (h : LiesZ E w c x) (hs : Sz E w w') : LiesZ E w' c x := by
  obtain ⟨a, cap, e, h1, h2, h3, h4, h5, h6⟩ := h
  refine ⟨a, cap, e, fun h0 => ?_, h2, h3, h4, h5, h6⟩
  obtain ⟨b, off, ea, hk⟩ := h1 h0
  exact ⟨b, off, ea, fun i hi => ⟨hs.cell (hk i hi).1 (h6 h0 _ _ _ ea), hs.cell (hk i hi).2.1 (h6 h0 _ _ _ ea), hs.cell (hk i hi).2.2 (h6 h0 _ _ _ ea)⟩⟩

theorem LiesZ.later {E : Nat → Prop} {w w' : World} {c : List Value} {x : PI} (h : LiesZ E w c x) (hs : Below w.heap.size w w') : LiesZ E w' c x := h.sz (Sz.of_below hs)

theorem LiesZ.less {E E' : Nat → Prop} {w : World} {c : List Value} {x : PI} (h : LiesZ E w c x) (hE : ∀ b, E' b → E b) : LiesZ E' w c x := by
  obtain ⟨a, cap, e, h1, h2, h3, h4, h5, h6⟩ := h
  exact ⟨a, cap, e, h1, h2, h3, h4, h5, fun h0 b o s ea k => h6 h0 b o s ea (hE b k)⟩

/-- .. nor in one that is not there yet. -/
theorem LiesZ.now {E : Nat → Prop} {w : World} {c : List Value} {x : PI} (h : LiesZ E w c x) : LiesZ (fun b => E b ∨ w.heap.size ≤ b) w c x := by
  obtain ⟨a, cap, e, h1, h2, h3, h4, h5, h6⟩ := h
  refine ⟨a, cap, e, h1, h2, h3, h4, h5, fun h0 b o s ea k => ?_⟩
  rcases k with k | k
  · exact h6 h0 b o s ea k
  · obtain ⟨b', o', e', hk⟩ := h1 h0
    rw [ea] at e'
    cases e'
    have := cellZ_lt (hk 0 h0).1
    omega

theorem LiesZ.wide {E : Nat → Prop} {w : World} {c : List Value} {x : PI} (h : LiesZ E w c x) : c.length = 2 ∧ ∀ u ∈ c, u.oneCell' = true := by
  obtain ⟨a, cap, rfl, -⟩ := h
  exact ⟨rfl, fun u hu => by simp at hu; rcases hu with rfl | rfl <;> rfl⟩

theorem LiesZ.wides {w : World} {Z : List (List Value × PI)} {E : Nat → Prop} (h : ∀ z ∈ Z, LiesZ E w z.1 z.2) : Wide 2 (Z.map (·.1)) := fun c hc => by
  obtain ⟨z, hz, rfl⟩ := List.mem_map.1 hc
  exact (h z hz).wide

/-- A slice's beginning, and the Items that are read from there on. -/
def RdZ (w : World) (a : Option Addr) (X : List PI) : Prop := ∃ Z : List (List Value × PI), Z.map (·.2) = X ∧ RdK 2 w a (Z.map (·.1)) ∧ ∀ z ∈ Z, LiesZ (fun _ => False) w z.1 z.2

theorem RdZ.later {w w' : World} {a : Option Addr} {X : List PI} (h : RdZ w a X) (hb : Below w.heap.size w w') : RdZ w' a X := by
  obtain ⟨Z, e, hc, hl⟩ := h
  exact ⟨Z, e, hc.later hb, fun z hz => (hl z hz).later hb⟩

theorem RdZ.nil (w : World) (a : Option Addr) : RdZ w a [] := ⟨[], rfl, RdK.nil _ _ _, fun z hz => by cases hz⟩

/-- One Item of a row. -/
theorem RdZ.at_ {w : World} {a : Option Addr} {X : List PI} (h : RdZ w a X) {i : Nat} (hi : i < X.length) : ∃ b off ra rc, a = some ⟨b, off, none⟩ ∧ w.cell? ⟨b, off + i * 2, none⟩ = some (.slice ra X[i].row.length rc) ∧ w.cell? ⟨b, off + i * 2 + 1, none⟩ = some (.int .i64 X[i].wt) ∧ LiesZ (fun _ => False) w [.slice ra X[i].row.length rc, .int .i64 X[i].wt] X[i] := by
  obtain ⟨Z, rfl, hc, hl⟩ := h
  have hi' : i < Z.length := by rw [List.length_map] at hi; exact hi
  obtain ⟨b, off, e, hk⟩ := hc (by rw [List.length_map]; omega)
  have hz := hl _ (List.getElem_mem hi')
  obtain ⟨ra, rc, hcs, hrest⟩ := id hz
  rw [List.getElem_map]
  refine ⟨b, off, ra, rc, e, ?_, ?_, ?_⟩
  · have := hk i (by rw [List.length_map]; exact hi') 0 (.slice ra Z[i].2.row.length rc) (by rw [List.getElem_map, hcs]; rfl)
    rw [Nat.add_zero] at this
    exact this
  · exact hk i (by rw [List.length_map]; exact hi') 1 (.int .i64 Z[i].2.wt) (by rw [List.getElem_map, hcs]; rfl)
  · rw [hcs] at hz
    exact hz

/-- A row of Items of the call's own, their rows in other blocks, from B on. -/
def RowZ (w : World) (B : Nat) (v : Value) (Z : List (List Value × PI)) : Prop := OwnK 2 40 w B v (Z.map (·.1)) ∧ ∀ z ∈ Z, LiesZ (fun b => b < B ∨ v.ownBlock = some b) w z.1 z.2

theorem RowZ.nought (w : World) (B : Nat) : RowZ w B (.slice none 0 0) [] := ⟨OwnK.nought _ _ _ _, fun z hz => by cases hz⟩

theorem RowZ.later {w w' : World} {B : Nat} {v : Value} {Z : List (List Value × PI)} (h : RowZ w B v Z) (hb : Below w.heap.size w w') : RowZ w' B v Z := ⟨h.1.later hb, fun z hz => (h.2 z hz).later hb⟩

theorem RowZ.base {w : World} {B B' : Nat} {v : Value} {Z : List (List Value × PI)} (h : RowZ w B v Z) (hB : B' ≤ B) : RowZ w B' v Z :=
  ⟨h.1.base hB, fun z hz => (h.2 z hz).less fun b hb => by rcases hb with hb | hb; exact .inl (by omega); exact .inr hb⟩

theorem RowZ.form {w : World} {B : Nat} {v : Value} {Z : List (List Value × PI)} (h : RowZ w B v Z) : ∃ a cap, v = .slice a Z.length cap ∧ Z.length ≤ cap ∧ cap ≤ 9223372036854775807 ∧ RdZ w a (Z.map (·.2)) ∧ (a = none → Z.map (·.2) = [] ∧ cap = 0) ∧ ∀ b o, a = some ⟨b, o, none⟩ → B ≤ b := by
  obtain ⟨a, cap, e, h1, h2, hr, hn, hb⟩ := h.1.form
  rw [List.length_map] at e h1
  refine ⟨a, cap, e, h1, h2, ⟨Z, rfl, hr, fun z hz => (h.2 z hz).less fun _ k => k.elim⟩, fun hh => ?_, hb⟩
  obtain ⟨h1, h2⟩ := hn hh
  exact ⟨by rw [List.map_eq_nil_iff] at h1 ⊢; exact h1, h2⟩

/-- Behind an append to it of Items whose rows lie elsewhere. -/
theorem RowZ.grow {w w' : World} {B : Nat} {v v' : Value} {Z Y : List (List Value × PI)} (h : RowZ w B v Z) (hY : ∀ z ∈ Y, LiesZ (fun b => b < B ∨ v.ownBlock = some b) w z.1 z.2) (ho : OwnK 2 40 w' B v' (Z.map (·.1) ++ Y.map (·.1))) (hg : w.grownBy w' v.ownBlock) (hl : v'.ownBlock = v.ownBlock ∨ v'.ownBlock = some w.heap.size) : RowZ w' B v' (Z ++ Y) := by
  refine ⟨by rw [List.map_append]; exact ho, fun z hz => ?_⟩
  have hz' : LiesZ (fun b => b < B ∨ v.ownBlock = some b) w z.1 z.2 := by
    rcases List.mem_append.1 hz with hz | hz
    · exact h.2 z hz
    · exact hY z hz
  have hsv : Sz (fun b => (b < B ∨ v.ownBlock = some b) ∨ w.heap.size ≤ b) w w' := ⟨hg.os, hg.tape, hg.output, hg.size, fun b hb => hg.block b hb.1 (fun e => hb.2 (.inl (.inr e.symm)))⟩
  refine (hz'.now.sz hsv).less fun b hb => ?_
  rcases hb with hb | hb
  · exact .inl (.inl hb)
  · rcases hl with hl | hl
    · exact .inl (.inr (by rw [← hl]; exact hb))
    · rw [hl] at hb
      cases hb
      exact .inr (Nat.le_refl _)

end Go.Proofs.Ytajlkaedkifaoaa
