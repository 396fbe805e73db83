/-
  Texts of the proof of BufAll, one behind the other.
-/
import Derived.Test.YtjddkodcbpnilaaRows
import Derived.Test.YtjddkodcbpnilaaG29BufAll
import Derived.Test.YtjddkodcbpnilaaG31BufAll
import Derived.Test.YtjddkodcbpnilaaG32BufAll
import Derived.WalkKit
import Derived.WalkSpells
import Derived.Deep.QuietTactic
import Derived.BigQuiet
namespace Go.Proofs.Ytjddkodcbpnilaa
open Go.RowKit Go.Lib
set_option linter.unusedVariables false

theorem rGet_nat (l : List UInt8) (p size : Int) : 0 ≤ (rGet l p size).1 := by
  unfold rGet
  split
  · simp
  · split
    · simp
    · simp

theorem takeN_nat (l : List UInt8) (s : Int × Int) (size : Int) : 0 ≤ (takeN l s size).1 := by
  unfold takeN
  split
  · exact rGet_nat _ _ _
  · simp

theorem takeC_nat (l : List UInt8) (s : Int × Int) (size : Int) (most : Nat) : ∃ n : Nat, n ≤ most ∧ (takeC l s size (most : Int)).1 = (n : Int) := by
  unfold takeC
  split
  · exact ⟨0, by omega, rfl⟩
  · have := takeN_nat l s size
    exact ⟨(takeN l s size).1.toNat, by omega, by omega⟩

/-- Numbers that are taken. -/
def takeNs (l : List UInt8) : Nat → Int × Int → List Int × (Int × Int)
  | 0, s => ([], s)
  | n + 1, s => ((takeN l s 4).1 :: (takeNs l n (takeN l s 4).2).1, (takeNs l n (takeN l s 4).2).2)

theorem takeNs_length (l : List UInt8) : ∀ n s, (takeNs l n s).1.length = n
  | 0, s => rfl
  | n + 1, s => by simp [takeNs, takeNs_length l n]

/-- A vector that is taken. -/
def takeV (l : List UInt8) (s : Int × Int) : List Int × (Int × Int) := takeNs l (takeC l s 1 5).1.toNat (takeC l s 1 5).2

theorem OwnI.aside {w w' : World} {g B : Nat} {v : Value} {N : List Int} (h : OwnI w B v N) (hs : Aside g w w') (hg : g < B) : OwnI w' B v N := by
  obtain ⟨h1, h2⟩ := h
  refine ⟨h1, ?_⟩
  rcases h2 with h2 | ⟨x, cap, cur, hv, hx, hh, hc⟩
  · exact .inl h2
  · exact .inr ⟨x, cap, cur, hv, hx, (hs.block x ⟨by omega, heap_lt hh⟩).trans hh, hc⟩

end Go.Proofs.Ytjddkodcbpnilaa

namespace Go.Proofs.Ytjddkodcbpnilaa
open Go.RowKit Go.Lib
set_option linter.unusedVariables false

/-- A row of dots, cell by cell. -/
def cellsDs (ds : List (Int × Int)) : List Value := ds.flatMap fun d => [.int .i64 d.1, .int .i64 d.2]

theorem cellsDs_cons (d : Int × Int) (ds : List (Int × Int)) : cellsDs (d :: ds) = .int .i64 d.1 :: .int .i64 d.2 :: cellsDs ds := by simp [cellsDs]

theorem cellsDs_append (xs ys : List (Int × Int)) : cellsDs (xs ++ ys) = cellsDs xs ++ cellsDs ys := by simp [cellsDs]

theorem cellsDs_length : ∀ ds : List (Int × Int), (cellsDs ds).length = ds.length * 2
  | [] => rfl
  | d :: ds => by
    rw [cellsDs_cons]
    simp only [List.length_cons, cellsDs_length ds]
    omega

theorem cellsDs_at : ∀ (ds : List (Int × Int)) (i : Nat) (hi : i < ds.length), (cellsDs ds)[i * 2]? = some (.int .i64 ds[i].1) ∧ (cellsDs ds)[i * 2 + 1]? = some (.int .i64 ds[i].2)
  | d :: ds, 0, _ => by simp [cellsDs_cons]
  | d :: ds, i + 1, hi => by
    have := cellsDs_at ds i (by simpa using hi)
    have e1 : (i + 1) * 2 = i * 2 + 1 + 1 := by omega
    rw [e1, cellsDs_cons]
    simpa using this

theorem cellsDs_set : ∀ (ds : List (Int × Int)) (k : Nat) (d : Int × Int), cellsDs (ds.set k d) = ((cellsDs ds).set (k * 2) (.int .i64 d.1)).set (k * 2 + 1) (.int .i64 d.2)
  | [], k, d => by simp [cellsDs]
  | u :: ds, 0, d => by simp [cellsDs_cons]
  | u :: ds, k + 1, d => by
    have ih := cellsDs_set ds k d
    have e1 : (k + 1) * 2 = k * 2 + 1 + 1 := by omega
    rw [List.set_cons_succ, cellsDs_cons, cellsDs_cons, ih, e1]
    simp [List.set_cons_succ]

theorem cellsDs_rep (n : Nat) : (madeCells (Value.agg #[.int .i64 0, .int .i64 0]).cells (n * 2)).toList = cellsDs (List.replicate n (0, 0)) := by
  induction n with
  | zero => simp [madeCells, cellsDs]
  | succ n ih =>
    rw [List.replicate_succ', cellsDs_append, ← ih]
    have e : (n + 1) * 2 = n * 2 + 1 + 1 := by omega
    rw [e]
    simp only [madeCells, Value.cells, Array.toList_map, Array.toList_range, List.range_succ, List.map_append, List.append_assoc]
    congr 1
    have m0 : n * 2 % 2 = 0 := by omega
    have m1 : (n * 2 + 1) % 2 = 1 := by omega
    simp [cellsDs, m0, m1]

/-- The slice v is a row of the call's own, from block B on, and its elements are these dots. -/
def OwnD (w : World) (B : Nat) (v : Value) (ds : List (Int × Int)) : Prop := w.ownsRow B 25 2 v ds.length (cellsDs ds)

theorem OwnD.form {w : World} {B : Nat} {v : Value} {ds : List (Int × Int)} (h : OwnD w B v ds) : ∃ a cap, v = .slice a ds.length cap ∧ ds.length ≤ cap ∧ RdD w a ds ∧ (a = none → ds = [] ∧ cap = 0) := by
  obtain ⟨_, ⟨hv, hn⟩ | ⟨g, cap, cur, hv, _, hh, hc, _, hs, ht⟩⟩ := h
  · have : ds = [] := List.eq_nil_of_length_eq_zero hn
    subst this
    exact ⟨none, 0, hv, Nat.le_refl _, RdD.nil _ _, fun _ => ⟨rfl, rfl⟩⟩
  · refine ⟨_, cap, hv, hc, fun _ => ⟨g, 0, rfl, fun i hi => ?_⟩, fun h => by cases h⟩
    obtain ⟨d0, d1⟩ := cellsDs_at ds i hi
    rw [← ht, List.getElem?_take_of_lt (by omega)] at d0
    rw [← ht, List.getElem?_take_of_lt (by omega)] at d1
    rw [cell_of_row w g _ _ _ _ hh, cell_of_row w g _ _ _ _ hh, Nat.zero_add]
    exact ⟨by simpa using d0, by simpa using d1⟩

theorem OwnD.aside {w w' : World} {g B : Nat} {v : Value} {ds : List (Int × Int)} (h : OwnD w B v ds) (hs : Aside g w w') (hg : g < B) : OwnD w' B v ds := by
  obtain ⟨h1, h2⟩ := h
  refine ⟨h1, ?_⟩
  rcases h2 with h2 | ⟨x, cap, cur, hv, hx, hh, hc⟩
  · exact .inl h2
  · exact .inr ⟨x, cap, cur, hv, hx, (hs.block x ⟨by omega, heap_lt hh⟩).trans hh, hc⟩

theorem OwnD.base {w : World} {B C : Nat} {v : Value} {ds : List (Int × Int)} (h : OwnD w B v ds) (hb : C ≤ B) : OwnD w C v ds := by
  obtain ⟨h1, h2 | ⟨g, cap, cur, hv, hg, hh⟩⟩ := h
  · exact ⟨h1, .inl h2⟩
  · exact ⟨h1, .inr ⟨g, cap, cur, hv, Nat.le_trans hb hg, hh⟩⟩

theorem OwnD.at_ {w : World} {B g n cap k : Nat} {ds : List (Int × Int)} (h : OwnD w B (.slice (some ⟨g, 0, none⟩) n cap) ds) (hn : ds.length = n) (hk : k < n) :
    (∃ x, w.cell? ⟨g, k * 2, none⟩ = some (.int .i64 x)) ∧ (∃ x, w.cell? ⟨g, k * 2 + 1, none⟩ = some (.int .i64 x)) ∧ w.frozen? ⟨g, k * 2, none⟩ = false ∧ w.frozen? ⟨g, k * 2 + 1, none⟩ = false := by
  subst hn
  have d := cellsDs_at ds k hk
  exact ⟨⟨_, (World.ownsRow.cellAt h _ (by omega)).trans d.1⟩, ⟨_, (World.ownsRow.cellAt h _ (by omega)).trans d.2⟩, World.ownsRow.frozenAt h _, World.ownsRow.frozenAt h _⟩

theorem OwnD.put {w : World} {B g n cap : Nat} {ds : List (Int × Int)} (h : OwnD w B (.slice (some ⟨g, 0, none⟩) n cap) ds) (hn : ds.length = n) (k : Nat) (d : Int × Int) :
    OwnD ((w.setCell ⟨g, k * 2, none⟩ (.int .i64 d.1)).setCell ⟨g, k * 2 + 1, none⟩ (.int .i64 d.2)) B (.slice (some ⟨g, 0, none⟩) n cap) (ds.set k d) := by
  subst hn
  obtain ⟨h1, g1⟩ := World.ownsRow.stored h (k * 2) (.int .i64 d.1)
  obtain ⟨h2, g2⟩ := World.ownsRow.stored h1 (k * 2 + 1) (.int .i64 d.2)
  unfold OwnD
  rw [cellsDs_set, List.length_set]
  exact h2

theorem Try.infoD : (Try.prog.info? 25).map (fun i => (i.zero, i.size, i.bytes)) = some (some (.agg #[.int .i64 0, .int .i64 0]), 2, 16) := by kernel_rfl

theorem run_make_dots (w : World) (n : Nat) (h : n ≤ 65536) :
    ∃ w', (Instr.makeSlice 30 (.int .i64 (n : Int)) (.int .i64 (n : Int))).run Try.prog w = .ok (.slice (some ⟨w.heap.size, 0, none⟩) n n) w' ∧ OwnD w' w.heap.size (.slice (some ⟨w.heap.size, 0, none⟩) n n) (List.replicate n (0, 0)) ∧ Below w.heap.size w w' := by
  obtain ⟨i0, hi, hz0, hz1, hz2⟩ := info_parts Try.infoD
  obtain ⟨w', hrun, ho, hg⟩ := run_make_full (P := Try.prog) w w.heap.size 30 25 i0 (.agg #[.int .i64 0, .int .i64 0]) 2 Try.underlying30 hi hz0 hz1 .i64 .i64 n (by rw [hz2]; omega) (by unfold maxLen; omega) (Nat.le_refl _)
  refine ⟨w', hrun, ?_, (Below.refl _ _).grown hg (Nat.le_refl _) (fun k hk => by cases hk)⟩
  unfold OwnD
  rw [List.length_replicate, ← cellsDs_rep]
  exact ho

/-- Dots that are taken. -/
def takeDs (l : List UInt8) : Nat → Int × Int → List (Int × Int) × (Int × Int)
  | 0, s => ([], s)
  | n + 1, s => ((takeD l s).1 :: (takeDs l n (takeD l s).2).1, (takeDs l n (takeD l s).2).2)

theorem takeDs_length (l : List UInt8) : ∀ n s, (takeDs l n s).1.length = n
  | 0, s => rfl
  | n + 1, s => by simp [takeDs, takeDs_length l n]

/-- A list of dots that is taken. -/
def takeDots (l : List UInt8) (s : Int × Int) (most : Nat) : List (Int × Int) × (Int × Int) := takeDs l (takeC l s 1 most).1.toNat (takeC l s 1 most).2

end Go.Proofs.Ytjddkodcbpnilaa
