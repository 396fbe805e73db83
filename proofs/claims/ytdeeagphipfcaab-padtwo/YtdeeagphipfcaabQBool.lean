/-
  Rows of bools in memory; a slice of bools that came in; what slices.Clone does at bools.
-/
import Derived.Test.YtdeeagphipfcaabRows
import Derived.Test.YtdeeagphipfcaabQMem
import Derived.Test.YtdeeagphipfcaabGrow
import Derived.WalkKit
import Derived.ProofKit
import Derived.WalkSpells
import Derived.OpenShut
import Derived.Lib.SmallJoins
import Derived.Deep.Grids
import Derived.Lib.SliceRun
namespace Go.Proofs.Ytdeeagphipfcaab
open Go.ChangeShapes Go.WideShapes Go.ChangeAt Go.RowKit Go.Lib
set_option linter.unusedVariables false

/-- A slice's beginning, and the bools that are read from there on. -/
def RdO (w : World) (a : Option Addr) (L : List Bool) : Prop :=
  0 < L.length → ∃ b off, a = some ⟨b, off, none⟩ ∧ ∀ i (hi : i < L.length), w.cell? ⟨b, off + i, none⟩ = some (.bool L[i])

theorem RdO.later {w w' : World} {a : Option Addr} {L : List Bool} (h : RdO w a L) (hb : Below w.heap.size w w') : RdO w' a L := by
  intro h0
  obtain ⟨b, off, e, hc⟩ := h h0
  exact ⟨b, off, e, fun i hi => cell_later hb (hc i hi)⟩

theorem RdO.nil (w : World) (a : Option Addr) : RdO w a [] := fun h => absurd h (by simp)

theorem RdO.take {w : World} {a : Option Addr} {L : List Bool} (h : RdO w a L) (n : Nat) : RdO w a (L.take n) := by
  intro h0
  obtain ⟨b, off, e, hc⟩ := h (by simp at h0; omega)
  refine ⟨b, off, e, fun i hi => ?_⟩
  have := hc i (by simp at hi; omega)
  simpa using this

/-- A slice of bools that came in. -/
def IsBoolsQ (w : World) (a : Option Addr) (len cap : Nat) (L : List Bool) : Prop := L.length = len ∧ len ≤ cap ∧ len ≤ 9223372036854775807 ∧ RdO w a L ∧ (a = none → L = [] ∧ cap = 0)

theorem add_plainQ (b off i : Nat) : (⟨b, off, none⟩ : Addr).add i = ⟨b, off + i, none⟩ := by unfold Addr.add; split <;> simp_all

theorem boolsQ_of {H : Type} {enc : TypeId × Value → H} {w : World} {a : Option Addr} {len cap : Nat} {d : DataW H} {p : List MemPlace}
    (h : DataW.Trod enc Try.prog w 0 (fun _ => true) true 36 (Value.slice a len cap) d p) : ∃ L, IsBoolsQ w a len cap L := by
  obtain ⟨fuel, hf⟩ := h
  have hcb : Try.prog.cellsOf 4 = 1 := by kernel_rfl
  rcases DataW.trod_slice Try.underlying36 hf with ⟨hcs, _⟩ | ⟨x, l, c, elems, rest, n, _, hcs, _, _, hl, hm, hlen, hel, _, _⟩
  · simp [Value.cells] at hcs
    obtain ⟨rfl, rfl, rfl⟩ := hcs
    exact ⟨[], rfl, Nat.le_refl _, by omega, RdO.nil _ _, fun _ => ⟨rfl, rfl⟩⟩
  · simp [Value.cells] at hcs
    obtain ⟨rfl, rfl, rfl⟩ := hcs
    have each : ∀ i, i < len → ∃ v : Bool, w.cell? (x.add i) = some (.bool v) := by
      intro i hi
      have h1 := hel i hi
      rw [hcb, List.getElem?_eq_getElem (by omega), Option.bind_eq_some_iff, Nat.mul_one] at h1
      obtain ⟨cs, hcs, hy⟩ := h1
      have hu : ∃ u, cs = [u] ∧ w.cell? (x.add i) = some u := by
        unfold World.cells? at hcs
        split at hcs
        · rw [show List.range 1 = [0] from rfl] at hcs
          simp only [List.mapM_cons, List.mapM_nil, Option.pure_def, Option.bind_eq_bind, Option.bind_eq_some_iff, Option.some.injEq] at hcs
          obtain ⟨u, hu, r, rfl, rfl⟩ := hcs
          have h0 : (x.add i).add 0 = x.add i := by unfold Addr.add; split <;> simp_all
          rw [h0] at hu
          exact ⟨u, rfl, hu⟩
        · cases hcs
      obtain ⟨u, rfl, hu⟩ := hu
      obtain ⟨b, e, _⟩ := DataW.trod_bool Try.underlying4 hy
      simp at e
      exact ⟨b, by rw [hu, e]⟩
    refine ⟨(List.range len).map fun i => if h : i < len then (each i h).choose else false, by simp, hl, by unfold maxLen at hm; omega, fun h0 => ?_, fun h => by cases h⟩
    have hx : x.spot = none := by
      obtain ⟨u, hu⟩ := each 0 (by simpa using h0)
      have := World.cell?_spot hu
      simpa [Addr.add] using this
    obtain ⟨b, off, sp⟩ := x
    simp only at hx
    subst hx
    refine ⟨b, off, rfl, fun i hi => ?_⟩
    have hi' : i < len := by simpa using hi
    have := (each i hi').choose_spec
    rw [← add_plainQ]
    simp only [List.getElem_map, List.getElem_range, dif_pos hi']
    exact this

theorem KeepV.rd {K : Nat → Prop} {w : World} {v : Value} {l : List Bool} (h : KeepV K w v l) : ∃ a cap, v = .slice a l.length cap ∧ l.length ≤ cap ∧ RdO w a l := by
  obtain ⟨a, cap, h1, h2, h3⟩ := h
  refine ⟨a, cap, h1, h2, ?_⟩
  rcases h3 with rfl | ⟨b, cs, rfl, h5, h6, h7⟩
  · exact RdO.nil _ _
  · refine fun _ => ⟨b, 0, rfl, fun i hi => ?_⟩
    rw [cell_of_row w b _ _ _ _ h5, Nat.zero_add]
    have hx : (l.map Value.bool)[i]? = some (.bool l[i]) := by simp [List.getElem?_eq_getElem hi]
    rw [← h6, List.getElem?_take_of_lt hi] at hx
    simpa using hx

theorem Try.infoB : (Try.prog.info? 4).map (fun i => (i.zero, i.size, i.bytes)) = some (some (.bool false), 1, 1) := by kernel_rfl

/-- append(v, src...): v a row of bools of the call's own. -/
theorem run_append_bools {w : World} {B ty n m cap : Nat} {v : Value} {a : Option Addr} {xs l : List Bool} (hown : w.ownsRow B 4 1 v n (xs.map Value.bool)) (hm : l.length = m) (hr : RdO w a l) (hnil : a = none → l = [] ∧ cap = 0) (h1 : n ≤ 65536) (h2 : m ≤ 65536) (hB : B ≤ w.heap.size) :
    ∃ v' w', (Builtin.append_ #[36, 36] ty #[v, .slice a m cap]).run Try.prog w = .ok v' w' ∧ w'.ownsRow B 4 1 v' (n + m) ((xs ++ l).map Value.bool) ∧ w.grownBy w' v.ownBlock := by
  subst hm
  obtain ⟨i0, hi, hz0, hz1, hz2⟩ := info_parts Try.infoB
  cases a with
  | none =>
    obtain ⟨rfl, rfl⟩ := hnil rfl
    exact ⟨v, w, run_append_owned_none (P := Try.prog) (w := w) B 36 ty 4 i0 1 Try.underlying36 hi v n (xs.map Value.bool) hown, by simpa using hown, World.grownBy.refl _ _⟩
  | some ad =>
    have hsrc : ∀ j u, (l.map Value.bool)[j]? = some u → w.cell? (ad.add j) = some u := by
      intro j u hj
      have hj' : j < l.length := by have := (List.getElem?_eq_some_iff.1 hj).1; simpa using this
      obtain ⟨b, off, e, hc⟩ := hr (by omega)
      cases e
      rw [add_plainQ, hc j hj']
      simpa [List.getElem?_eq_getElem hj'] using hj
    obtain ⟨v', w', hrun, ho, hg, hn⟩ := run_append_own (P := Try.prog) (w := w) B 36 ty 4 i0 (.bool false) 1 1 Try.underlying36 hi hz0 hz1 hz2 rfl (by decide) v n (xs.map Value.bool) hown ad l.length cap (l.map Value.bool) (by simp) hsrc (by intro u hu; obtain ⟨x, _, rfl⟩ := List.mem_map.1 hu; rfl) (by unfold maxLen; omega) (by omega) hB
    refine ⟨v', w', hrun, ?_, hg⟩
    rw [List.map_append]
    exact ho

theorem KeepV.of_own {K : Nat → Prop} {w : World} {v : Value} {B : Nat} {l : List Bool} (h : w.ownsRow B 4 1 v l.length (l.map Value.bool)) (hK : ∀ b, K b → b < B) : KeepV K w v l := by
  rcases h.2 with ⟨rfl, h0⟩ | ⟨g, cap, cur, rfl, hg, hh, hc, _, _, ht⟩
  · obtain rfl := List.eq_nil_of_length_eq_zero h0
    exact KeepV.nought _ _
  · refine ⟨_, cap, rfl, hc, .inr ⟨g, cur, rfl, hh, by simpa using ht, fun h => ?_⟩⟩
    have := hK _ h
    omega

set_option maxHeartbeats 400000 in
theorem clone_any (K : Nat → Prop) (a : Option Addr) (n cap : Nat) (l : List Bool) (w : World) (hK : ∀ b, K b → b < w.heap.size) (hn : l.length = n) (hl : n ≤ 4000) (hnil : a = none → l = [] ∧ cap = 0) (hr : RdO w a l) :
    Calls Try.prog 24 #[.slice a n cap] w fun e w' => ∃ v, e = .returned v ∧ KeepV K w' v l ∧ Below w.heap.size w w' := by
  have q0 : ∀ (w : World) (a : Option Addr) (n c n' c' : Nat), (binOp .eql 36 (.slice a n c) (.slice none n' c')).run Try.prog w = .ok (.bool a.isNone) w := fun w a n c n' c' => Go.Lib.run_eql_slice_nil w _ _ a n c n' c' Try.underlying36
  cases a with
  | none =>
    obtain ⟨rfl, rfl⟩ := hnil rfl
    subst hn
    go_enter Try.func24, Try.ntmps24
    go_wp2
    go_ret
    exact ⟨_, rfl, KeepV.nought _ _, Below.refl _ _⟩
  | some ad =>
    have ho : (w.alloc (.cells #[] 4)).ownsRow w.heap.size 4 1 (.slice (some ⟨w.heap.size, 0, none⟩) 0 0) 0 (([] : List Bool).map Value.bool) := World.ownsRow_lit w #[] 0 (Nat.le_refl _) (by unfold maxLen; omega) rfl
    have hb0 : Below w.heap.size w (w.alloc (.cells #[] 4)) := (Below.refl _ _).alloc (Nat.le_refl _) _
    obtain ⟨v', w', hrun, ho', hg⟩ := run_append_bools (ty := 36) ho hn (hr.later hb0) hnil (by omega) (by omega) (by simp)
    have R : Hid (KeepV K w' v' l) := by
      refine KeepV.of_own (B := w.heap.size) ?_ hK
      rw [hn]
      simpa using ho'
    have S : Hid (Below w.heap.size w w') := hb0.grown hg (by simp) (fun k hk => by simp [Value.ownBlock] at hk; omega)
    clear ho hb0 ho' hg hr hnil hK
    go_enter Try.func24, Try.ntmps24
    go_wp2_with (at_builtin; refine wpList_append_run rfl _ _ 36 36 rfl _ _ _ _ rfl rfl hrun ?_)
    go_ret
    exact ⟨_, rfl, R.out, S.out⟩

end Go.Proofs.Ytdeeagphipfcaab
