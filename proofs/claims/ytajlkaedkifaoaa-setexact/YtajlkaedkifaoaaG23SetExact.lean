/-
  Texts of the proof of SetExact, one behind the other.
-/
import Derived.Test.YtajlkaedkifaoaaRows
import Derived.Test.YtajlkaedkifaoaaG16SetExact
import Derived.Laws.OwnMore
import Derived.WalkKit
import Derived.WalkSpells
namespace Go.Proofs.Ytajlkaedkifaoaa
open Go.RowKit Go.Lib
set_option linter.unusedVariables false

theorem cellsV_cons (v : PV) (vs : List PV) : cellsV (v :: vs) = .int .i64 v.k :: .int .i64 v.i :: .string v.s :: cellsV vs := by simp [cellsV, cellV]

theorem cellsV_set : ∀ (vs : List PV) (k : Nat) (v : PV), cellsV (vs.set k v) = (((cellsV vs).set (k * 3) (.int .i64 v.k)).set (k * 3 + 1) (.int .i64 v.i)).set (k * 3 + 2) (.string v.s)
  | [], k, v => by simp [cellsV]
  | u :: vs, 0, v => by simp [cellsV_cons]
  | u :: vs, k + 1, v => by
    have ih := cellsV_set vs k v
    have e1 : (k + 1) * 3 = k * 3 + 1 + 1 + 1 := by omega
    rw [List.set_cons_succ, cellsV_cons, cellsV_cons, ih, e1]
    simp [List.set_cons_succ]

theorem cellsV_rep (n : Nat) : (madeCells (Value.agg #[.int .i64 0, .int .i64 0, .string ⟨#[]⟩]).cells (n * 3)).toList = cellsV (List.replicate n noV) := by
  induction n with
  | zero => simp [madeCells, cellsV]
  | succ n ih =>
    rw [List.replicate_succ', cellsV_append, ← ih]
    have e : (n + 1) * 3 = n * 3 + 1 + 1 + 1 := by omega
    rw [e]
    simp only [madeCells, Value.cells, Array.toList_map, Array.toList_range, List.range_succ, List.map_append, List.append_assoc]
    congr 1
    have m0 : n * 3 % 3 = 0 := by omega
    have m1 : (n * 3 + 1) % 3 = 1 := by omega
    have m2 : (n * 3 + 1 + 1) % 3 = 2 := by omega
    simp [cellsV, cellV, noV, m0, m1, m2]

/-- A new row of noughts. -/
theorem run_make_vals (w : World) (n : Nat) (h : n ≤ 65536) :
    ∃ w', (Instr.makeSlice 23 (.int .i64 (n : Int)) (.int .i64 (n : Int))).run Try.prog w = .ok (.slice (some ⟨w.heap.size, 0, none⟩) n n) w' ∧ OwnV w' w.heap.size (.slice (some ⟨w.heap.size, 0, none⟩) n n) (List.replicate n noV) ∧ Below w.heap.size w w' := by
  obtain ⟨i0, hi, hz0, hz1, hz2⟩ := info_parts Try.infoV
  obtain ⟨w', hrun, ho, hg⟩ := run_make_full (P := Try.prog) w w.heap.size 23 65 i0 (.agg #[.int .i64 0, .int .i64 0, .string ⟨#[]⟩]) 3 Try.underlying23 hi hz0 hz1 .i64 .i64 n (by rw [hz2]; omega) (by unfold maxLen; omega) (Nat.le_refl _)
  refine ⟨w', hrun, ?_, (Below.refl _ _).grown hg (Nat.le_refl _) (fun k hk => by cases hk)⟩
  unfold OwnV
  rw [List.length_replicate, ← cellsV_rep]
  exact ho

theorem OwnV.at_ {w : World} {B g n cap k : Nat} {vs : List PV} (h : OwnV w B (.slice (some ⟨g, 0, none⟩) n cap) vs) (hn : vs.length = n) (hk : k < n) :
    w.cell? ⟨g, k * 3, none⟩ = some (.int .i64 (vs[k]'(by omega)).k) ∧ w.cell? ⟨g, k * 3 + 1, none⟩ = some (.int .i64 (vs[k]'(by omega)).i) ∧ w.cell? ⟨g, k * 3 + 2, none⟩ = some (.string (vs[k]'(by omega)).s) ∧
      w.frozen? ⟨g, k * 3, none⟩ = false ∧ w.frozen? ⟨g, k * 3 + 1, none⟩ = false ∧ w.frozen? ⟨g, k * 3 + 2, none⟩ = false := by
  subst hn
  have d := cellsV_at vs k hk
  exact ⟨(World.ownsRow.cellAt h _ (by omega)).trans d.1, (World.ownsRow.cellAt h _ (by omega)).trans d.2.1, (World.ownsRow.cellAt h _ (by omega)).trans d.2.2, World.ownsRow.frozenAt h _, World.ownsRow.frozenAt h _, World.ownsRow.frozenAt h _⟩

/-- A value is put into a row of the call's own. -/
theorem OwnV.put {w : World} {B g n cap : Nat} {vs : List PV} (h : OwnV w B (.slice (some ⟨g, 0, none⟩) n cap) vs) (hn : vs.length = n) (k : Nat) (v : PV) :
    OwnV (((w.setCell ⟨g, k * 3, none⟩ (.int .i64 v.k)).setCell ⟨g, k * 3 + 1, none⟩ (.int .i64 v.i)).setCell ⟨g, k * 3 + 2, none⟩ (.string v.s)) B (.slice (some ⟨g, 0, none⟩) n cap) (vs.set k v) ∧
      Below B w (((w.setCell ⟨g, k * 3, none⟩ (.int .i64 v.k)).setCell ⟨g, k * 3 + 1, none⟩ (.int .i64 v.i)).setCell ⟨g, k * 3 + 2, none⟩ (.string v.s)) := by
  subst hn
  obtain ⟨h1, g1⟩ := World.ownsRow.stored h (k * 3) (.int .i64 v.k)
  obtain ⟨h2, g2⟩ := World.ownsRow.stored h1 (k * 3 + 1) (.int .i64 v.i)
  obtain ⟨h3, g3⟩ := World.ownsRow.stored h2 (k * 3 + 2) (.string v.s)
  refine ⟨?_, ?_⟩
  · unfold OwnV
    rw [cellsV_set, List.length_set]
    exact h3
  · have hg : B ≤ g := (World.ownsRow.lt h g rfl).1
    exact ((Below.refl B w).setCell (p := ⟨g, k * 3, none⟩) hg _).setCell (p := ⟨g, k * 3 + 1, none⟩) hg _ |>.setCell (p := ⟨g, k * 3 + 2, none⟩) hg _

end Go.Proofs.Ytajlkaedkifaoaa

namespace Go.Proofs.Ytajlkaedkifaoaa
open Go.RowKit Go.Lib
set_option linter.unusedVariables false

set_option maxHeartbeats 1000000 in
theorem vclone_any (a : Option Addr) (n cap : Nat) (N : List PV) (w : World) (hn : N.length = n) (h : n ≤ 65536) (hnil : a = none → N = [] ∧ cap = 0) (hr : RdV w a N) :
    Calls Try.prog 45 #[.slice a n cap] w fun e w' => ∃ a' cap', e = .returned (.slice a' n cap') ∧ n ≤ cap' ∧ OwnV w' w.heap.size (.slice a' n cap') N ∧ (a' = none → N = [] ∧ cap' = 0) ∧ Below w.heap.size w w' := by
  have q := fun (w : World) (a : Option Addr) (n c n' c' : Nat) => Lib.run_eql_slice_nil (P := Try.prog) w 23 65 a n c n' c' Try.underlying23
  cases a with
  | none =>
    obtain ⟨rfl, rfl⟩ := hnil rfl
    simp only [List.length_nil] at hn
    subst hn
    clear hr hnil h
    go_enter Try.func45, Try.ntmps45
    go_wp2
    go_ret
    exact ⟨none, 0, rfl, Nat.le_refl _, OwnV.nought _ _, by simp, Below.refl _ _⟩
  | some ad =>
    have hO : OwnV (w.alloc (.cells #[] 65)) w.heap.size (.slice (some ⟨w.heap.size, 0, none⟩) 0 0) [] := World.ownsRow_made w #[] 0 (Nat.le_refl _) (by unfold maxLen; omega) rfl
    obtain ⟨a', cap', w', hrun, hc, ho, hrd, hnl, _, hb⟩ := run_append_vals (ty := 23) (cap := cap) hO (n := 0) rfl hn (hr.later (alloc_below w _)) (fun h => by cases h) (by omega) h (by simp)
    rw [Nat.zero_add, List.nil_append] at *
    have HO : Hid (OwnV w' w.heap.size (.slice a' n cap') N) := ho
    have HB : Hid (Below w.heap.size w w') := (alloc_below w _).trans hb
    have HNL : Hid (a' = none → N = [] ∧ cap' = 0) := hnl
    clear hn hr hO ho hrd hnl hb hnil
    go_enter Try.func45, Try.ntmps45
    go_wp2_with (at_builtin; refine wpList_append_run rfl _ _ 23 23 rfl _ _ _ _ rfl rfl hrun ?_)
    go_ret
    exact ⟨a', cap', rfl, hc, HO.out, HNL.out, HB.out⟩

end Go.Proofs.Ytajlkaedkifaoaa
