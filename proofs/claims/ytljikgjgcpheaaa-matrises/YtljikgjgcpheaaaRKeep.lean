/-
  What raddlekeep's TwinRow, Row, TwinInts, Ints do, and raddlelaw04's Heavy.
-/
import Derived.Test.YtljikgjgcpheaaaRows
import Derived.Test.YtljikgjgcpheaaaRMem
import Derived.Test.YtljikgjgcpheaaaVApi
import Derived.Test.YtljikgjgcpheaaaVRef
import Derived.Test.YtljikgjgcpheaaaHeld
import Derived.WalkKit
import Derived.WalkSpells
import Derived.WalkLawsBesides
import Derived.Deep.QuietTactic
import Derived.BigQuiet
import Derived.Deep.RegionHeld3
namespace Go.Proofs.Ytljikgjgcpheaaa
open Go.RowKit Go.Lib
set_option linter.unusedVariables false

theorem pv_take_succ {l m : List PV} {k : Nat} (h : l.take k = m.take k) (hl : k < l.length) (hm : k < m.length) (hx : l[k] = m[k]) : l.take (k + 1) = m.take (k + 1) := by
  rw [List.take_succ_eq_append_getElem hl, List.take_succ_eq_append_getElem hm, h, hx]

theorem pv_ne_of_at {l m : List PV} {k : Nat} (hl : k < l.length) (hm : k < m.length) (hx : l[k] ≠ m[k]) : l ≠ m := by
  intro e
  subst e
  exact hx rfl

/-- raddlekeep.Value's answer. -/
def sameV (v u : PV) : Bool := decide (v.k = u.k) && decide (v.i = u.i) && (v.s.toList == u.s.toList)

theorem sameV_iff (v u : PV) : sameV v u = true ↔ v = u := by
  unfold sameV
  simp only [Bool.and_eq_true, decide_eq_true_eq, beq_iff_eq]
  constructor
  · rintro ⟨⟨h1, h2⟩, h3⟩
    exact PV.eq_of h1 h2 h3
  · rintro rfl
    exact ⟨⟨rfl, rfl⟩, rfl⟩

/-- raddlekeep.Row's answer. -/
def sameVs (l m : List PV) : Bool := l.length == m.length && (l.zip m).all fun p => sameV p.1 p.2

theorem sameVs_iff : ∀ (l m : List PV), sameVs l m = true ↔ l = m
  | [], [] => by simp [sameVs]
  | [], y :: m => by simp [sameVs]
  | x :: l, [] => by simp [sameVs]
  | x :: l, y :: m => by
    have h1 := sameVs_iff l m
    have h2 := sameV_iff x y
    simp only [sameVs, List.length_cons, List.zip_cons_cons, List.all_cons, Bool.and_eq_true, beq_iff_eq, Nat.add_right_cancel_iff, List.cons.injEq] at h1 ⊢
    constructor
    · rintro ⟨hl, hx, hr⟩
      exact ⟨h2.1 hx, h1.1 ⟨hl, hr⟩⟩
    · rintro ⟨hx, hr⟩
      have := h1.2 hr
      exact ⟨this.1, h2.2 hx, this.2⟩

/-- Two values of two rows stay. -/
theorem keepAt {W w w' : World} {b c o p : Nat} {k0 i0 k1 i1 : Int} {s0 s1 : ByteArray}
    (hb : Below w.heap.size w w')
    (h : w.cell? ⟨b, o, none⟩ = some (.int .i64 k0) ∧ w.cell? ⟨b, o + 1, none⟩ = some (.int .i64 i0) ∧ w.cell? ⟨b, o + 2, none⟩ = some (.string s0) ∧ w.cell? ⟨c, p, none⟩ = some (.int .i64 k1) ∧ w.cell? ⟨c, p + 1, none⟩ = some (.int .i64 i1) ∧ w.cell? ⟨c, p + 2, none⟩ = some (.string s1) ∧ Hid (Below W.heap.size W w)) :
    w'.cell? ⟨b, o, none⟩ = some (.int .i64 k0) ∧ w'.cell? ⟨b, o + 1, none⟩ = some (.int .i64 i0) ∧ w'.cell? ⟨b, o + 2, none⟩ = some (.string s0) ∧ w'.cell? ⟨c, p, none⟩ = some (.int .i64 k1) ∧ w'.cell? ⟨c, p + 1, none⟩ = some (.int .i64 i1) ∧ w'.cell? ⟨c, p + 2, none⟩ = some (.string s1) ∧ Hid (Below W.heap.size W w') := by
  obtain ⟨h0, h1, h2, h3, h4, h5, h9⟩ := h
  exact ⟨cell_later hb h0, cell_later hb h1, cell_later hb h2, cell_later hb h3, cell_later hb h4, cell_later hb h5, chain h9.out hb⟩

/-- Heavy's answer of at most 40 values. -/
def heavyV (vs : List PV) : Bool := longT (vs.map (·.s))

end Go.Proofs.Ytljikgjgcpheaaa
