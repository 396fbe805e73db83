/-
  Rows of rows of numbers: made by make, and stored into.
-/
import Derived.Test.YtljikgjgcpheaaaRows
import Derived.Test.YtljikgjgcpheaaaDCode
import Derived.Test.YtljikgjgcpheaaaDMake
import Derived.Test.YtljikgjgcpheaaaMCalc
namespace Go.Proofs.Ytljikgjgcpheaaa
open Go.RowKit Go.Lib
set_option linter.unusedVariables false

/-- A new row of slices without numbers. -/
theorem run_make_rows (w : World) (n : Nat) (h : n ≤ 65536) :
    ∃ w', (Instr.makeSlice 22 (.int .i64 (n : Int)) (.int .i64 (n : Int))).run Try.prog w = .ok (.slice (some ⟨w.heap.size, 0, none⟩) n n) w' ∧ OwnII w' w.heap.size (.slice (some ⟨w.heap.size, 0, none⟩) n n) (List.replicate n []) ∧ Below w.heap.size w w' := by
  obtain ⟨i0, hi, hz0, hz1, hz2⟩ := info_parts Try.infoS
  obtain ⟨w', hrun, ho, hg⟩ := run_make_full (P := Try.prog) w w.heap.size 22 23 i0 (.slice none 0 0) 1 Try.underlying22 hi hz0 hz1 .i64 .i64 n (by rw [hz2]; omega) (by unfold maxLen; omega) (Nat.le_refl _)
  refine ⟨w', hrun, ?_, (Below.refl _ _).grown hg (Nat.le_refl _) (fun k hk => by cases hk)⟩
  have e : (madeCells (Value.slice none 0 0).cells (n * 1)).toList = List.replicate n (.slice none 0 0) := by
    rw [Nat.mul_one, show (Value.slice none 0 0).cells = #[.slice none 0 0] from rfl, toList_madeCells_one]
  refine ⟨List.replicate n (.slice none 0 0), by simp, by rw [List.length_replicate, ← e]; exact ho, fun i h1 h2 => ?_⟩
  simp only [List.getElem_replicate]
  exact OwnI.nought _ _

theorem OwnII.at_ {w : World} {B g n cap k : Nat} {L : List (List Int)} (h : OwnII w B (.slice (some ⟨g, 0, none⟩) n cap) L) (hn : L.length = n) (hk : k < n) : (∃ u, w.cell? ⟨g, k, none⟩ = some u) ∧ w.frozen? ⟨g, k, none⟩ = false := by
  subst hn
  obtain ⟨us, hl, hown, _⟩ := h
  refine ⟨⟨us[k]'(by omega), (World.ownsRow.cellAt hown _ (by omega)).trans ?_⟩, World.ownsRow.frozenAt hown _⟩
  exact List.getElem?_eq_getElem (by omega)

/-- A row of numbers is put into a row of slices of the call's own. -/
theorem OwnII.put {w : World} {B g n cap : Nat} {L : List (List Int)} (h : OwnII w B (.slice (some ⟨g, 0, none⟩) n cap) L) (hn : L.length = n) (k : Nat) {u : Value} {N : List Int} (hu : OwnI w 0 u N) :
    OwnII (w.setCell ⟨g, k, none⟩ u) B (.slice (some ⟨g, 0, none⟩) n cap) (L.set k N) ∧ Below B w (w.setCell ⟨g, k, none⟩ u) := by
  subst hn
  obtain ⟨us, hl, hown, hsl⟩ := h
  obtain ⟨h1, g1⟩ := World.ownsRow.stored hown k u
  have hg : B ≤ g := (World.ownsRow.lt hown g rfl).1
  have kept : ∀ {v : Value} {N : List Int}, OwnI w 0 v N → OwnI (w.setCell ⟨g, k, none⟩ u) 0 v N := fun h => World.ownsRow.kept h g1 (own_apart h hown)
  refine ⟨⟨us.set k u, by simp [hl], by rw [List.length_set]; exact h1, fun i k1 k2 => ?_⟩, (Below.refl B w).setCell hg _⟩
  have hi : i < us.length := by simpa using k1
  rw [List.getElem_set, List.getElem_set]
  split
  · exact kept hu
  · exact kept (hsl i hi _)

theorem OwnII.base {w : World} {B C : Nat} {v : Value} {L : List (List Int)} (h : OwnII w B v L) (hb : C ≤ B) : OwnII w C v L := by
  obtain ⟨us, hl, ⟨h1, h2⟩, hsl⟩ := h
  refine ⟨us, hl, ⟨h1, ?_⟩, hsl⟩
  rcases h2 with h2 | ⟨g, cap, cur, hv, hg, hh⟩
  · exact .inl h2
  · exact .inr ⟨g, cap, cur, hv, Nat.le_trans hb hg, hh⟩

/-- A row of rows of the call's own, as it is read. -/
theorem OwnII.rd {w : World} {B n cap : Nat} {a : Option Addr} {L : List (List Int)} (h : OwnII w B (.slice a n cap) L) : RdII w a L := by
  obtain ⟨a5, cap5, e5, _, hr5, _⟩ := h.form
  simp only [Value.slice.injEq] at e5
  obtain ⟨rfl, _, _⟩ := e5
  exact hr5

theorem OwnI.rd {w : World} {B n cap : Nat} {a : Option Addr} {N : List Int} (h : OwnI w B (.slice a n cap) N) : RdI .i64 w a N := by
  obtain ⟨a5, cap5, e5, _, hr5, _⟩ := h.form
  simp only [Value.slice.injEq] at e5
  obtain ⟨rfl, _, _⟩ := e5
  exact hr5

theorem mid_set {n k : Nat} {N : List Int} (hk : k < n) : (List.replicate k N ++ List.replicate (n - k) ([] : List Int)).set k N = List.replicate (k + 1) N ++ List.replicate (n - (k + 1)) [] := by
  rw [List.set_append_right _ _ (by simp), List.length_replicate, Nat.sub_self, show n - k = (n - (k + 1)) + 1 from by omega, List.replicate_succ, List.set_cons_zero, List.replicate_succ']
  simp

theorem mid_take {L : List (List Int)} {n k : Nat} (hn : L.length = n) (hk : k < n) : (L.take k ++ List.replicate (n - k) ([] : List Int)).set k (L[k]'(by omega)) = L.take (k + 1) ++ List.replicate (n - (k + 1)) [] := by
  have hl : (L.take k).length = k := by rw [List.length_take]; omega
  rw [List.set_append_right _ _ (by omega), hl, Nat.sub_self, show n - k = (n - (k + 1)) + 1 from by omega, List.replicate_succ, List.set_cons_zero, List.take_succ_eq_append_getElem (by omega)]
  rw [List.append_assoc]
  rfl

end Go.Proofs.Ytljikgjgcpheaaa
