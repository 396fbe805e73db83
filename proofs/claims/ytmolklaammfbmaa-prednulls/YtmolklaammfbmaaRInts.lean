/-
  What raddlekeep's TwinInts, Ints and SpoilRow do.
-/
import Derived.Test.YtmolklaammfbmaaRows
import Derived.Test.YtmolklaammfbmaaRMem
import Derived.Test.YtmolklaammfbmaaRKeep
import Derived.WalkKit
import Derived.WalkSpells
import Derived.WalkLawsBesides
import Derived.Deep.QuietTactic
import Derived.BigQuiet
namespace Go.Proofs.Ytmolklaammfbmaa
open Go.RowKit Go.Lib
set_option linter.unusedVariables false

/-- Numbers' cells. -/
def cellsI (N : List Int) : List Value := N.map fun n => .int .i64 n

theorem cellsI_length (N : List Int) : (cellsI N).length = N.length := by simp [cellsI]

theorem cellsI_one (N : List Int) : ∀ u ∈ cellsI N, u.oneCell' = true := by
  intro u hu
  simp [cellsI] at hu
  obtain ⟨n, _, rfl⟩ := hu
  rfl

theorem RdI.src {w : World} {a : Option Addr} {N : List Int} (h : RdI .i64 w a N) (h0 : 0 < N.length) : ∃ ad, a = some ad ∧ ∀ j u, (cellsI N)[j]? = some u → w.cell? (ad.add j) = some u := by
  obtain ⟨b, off, e, hc⟩ := h h0
  refine ⟨_, e, fun j u hu => ?_⟩
  rw [add_plain3]
  have hj : j < N.length := by have := (List.getElem?_eq_some_iff.1 hu).1; rwa [cellsI_length] at this
  simp [cellsI, List.getElem?_eq_getElem hj] at hu
  rw [hc j hj, ← hu]

/-- The slice v is a row of the call's own, from block B on, and its elements are these numbers. -/
def OwnI (w : World) (B : Nat) (v : Value) (N : List Int) : Prop := w.ownsRow B 3 1 v N.length (cellsI N)

theorem OwnI.nought (w : World) (B : Nat) : OwnI w B (.slice none 0 0) [] := World.ownsRow_nil w B 3 1

theorem OwnI.form {w : World} {B : Nat} {v : Value} {N : List Int} (h : OwnI w B v N) : ∃ a cap, v = .slice a N.length cap ∧ N.length ≤ cap ∧ RdI .i64 w a N ∧ (a = none → N = [] ∧ cap = 0) := by
  obtain ⟨_, ⟨hv, hn⟩ | ⟨g, cap, cur, hv, _, hh, hc, _, hs, ht⟩⟩ := h
  · have : N = [] := List.eq_nil_of_length_eq_zero hn
    subst this
    exact ⟨none, 0, hv, Nat.le_refl _, fun h => absurd h (by simp), fun _ => ⟨rfl, rfl⟩⟩
  · refine ⟨_, cap, hv, hc, fun _ => ⟨g, 0, rfl, fun i hi => ?_⟩, fun h => by cases h⟩
    rw [cell_of_row w g _ _ _ _ hh, Nat.zero_add]
    have hx : (cellsI N)[i]? = some (.int .i64 N[i]) := by simp [cellsI, List.getElem?_eq_getElem hi]
    rw [← ht, Nat.mul_one, List.getElem?_take_of_lt hi] at hx
    simpa using hx

theorem OwnI.later {w w' : World} {B : Nat} {v : Value} {N : List Int} (h : OwnI w B v N) (hb : Below w.heap.size w w') : OwnI w' B v N := by
  obtain ⟨h1, h2⟩ := h
  refine ⟨h1, ?_⟩
  rcases h2 with h2 | ⟨g, cap, cur, hv, hg, hh, hc⟩
  · exact .inl h2
  · refine .inr ⟨g, cap, cur, hv, hg, (hb.block g ?_).trans hh, hc⟩
    rcases Nat.lt_or_ge g w.heap.size with h3 | h3
    · exact h3
    · simp [Array.getElem?_eq_none h3] at hh

theorem OwnI.block {w : World} {B : Nat} {v : Value} {N : List Int} (h : OwnI w B v N) : ∀ k, v.ownBlock = some k → B ≤ k := fun k hk => (World.ownsRow.lt h k hk).1

theorem Try.infoI : (Try.prog.info? 3).map (fun i => (i.zero, i.size, i.bytes)) = some (some (.int .i64 0), 1, 8) := by kernel_rfl

/-- append(v, src...): v the call's own, src any numbers that can be read. -/
theorem run_append_ints {w : World} {B ty n m cap : Nat} {v : Value} {a : Option Addr} {xs N : List Int}
    (hown : OwnI w B v xs) (hn : xs.length = n) (hm : N.length = m) (hr : RdI .i64 w a N) (hnil : a = none → N = [] ∧ cap = 0) (h1 : n ≤ 65536) (h2 : m ≤ 65536) (hB : B ≤ w.heap.size) :
    ∃ a' cap' w', (Builtin.append_ #[26, 26] ty #[v, .slice a m cap]).run Try.prog w = .ok (.slice a' (n + m) cap') w' ∧ n + m ≤ cap' ∧ OwnI w' B (.slice a' (n + m) cap') (xs ++ N) ∧ RdI .i64 w' a' (xs ++ N) ∧ (a' = none → xs ++ N = [] ∧ cap' = 0) ∧ w.heap.size ≤ w'.heap.size ∧ Below B w w' := by
  subst hn hm
  obtain ⟨i0, hi, hz0, hz1, hz2⟩ := info_parts Try.infoI
  have main : ∃ v' w', (Builtin.append_ #[26, 26] ty #[v, .slice a N.length cap]).run Try.prog w = .ok v' w' ∧ OwnI w' B v' (xs ++ N) ∧ w.grownBy w' v.ownBlock := by
    cases a with
    | none =>
      obtain ⟨rfl, rfl⟩ := hnil rfl
      exact ⟨v, w, run_append_owned_none (P := Try.prog) (w := w) B 26 ty 3 i0 1 Try.underlying26 hi v xs.length (cellsI xs) hown, by simpa [OwnI] using hown, World.grownBy.refl _ _⟩
    | some ad =>
      have hsrc : ∀ j u, (cellsI N)[j]? = some u → w.cell? (ad.add j) = some u := by
        rcases Nat.eq_zero_or_pos N.length with h0 | h0
        · obtain rfl := List.eq_nil_of_length_eq_zero h0
          intro j u hj
          simp [cellsI] at hj
        · obtain ⟨ad', e, h⟩ := hr.src h0
          cases e
          exact h
      obtain ⟨v', w', hrun, ho, hg, _⟩ := run_append_own (P := Try.prog) (w := w) B 26 ty 3 i0 (.int .i64 0) 1 8 Try.underlying26 hi hz0 hz1 hz2 rfl (by decide) v xs.length (cellsI xs) hown ad N.length cap (cellsI N) (by rw [cellsI_length]; omega) hsrc (cellsI_one _) (by unfold maxLen; omega) (by omega) hB
      refine ⟨v', w', hrun, ?_, hg⟩
      unfold OwnI
      rw [List.length_append, show cellsI (xs ++ N) = cellsI xs ++ cellsI N from by simp [cellsI]]
      exact ho
  obtain ⟨v', w', hrun, ho, hg⟩ := main
  obtain ⟨a', cap', rfl, hc, hrd, hnl⟩ := ho.form
  rw [List.length_append] at hrun ho hc
  exact ⟨a', cap', w', hrun, hc, ho, hrd, hnl, hg.size, (Below.refl _ _).grown hg hB (fun k hk => hown.block k hk)⟩

set_option maxHeartbeats 400000 in
theorem twinInts_any (a : Option Addr) (len cap : Nat) (N : List Int) (w : World) (hlen : N.length = len) (hl : len ≤ 65536) (hnil : a = none → N = [] ∧ cap = 0) (hr : RdI .i64 w a N) :
    Calls Try.prog 9 #[.slice a len cap] w fun e w' => ∃ a' cap', e = .returned (.slice a' len cap') ∧ len ≤ cap' ∧ OwnI w' w.heap.size (.slice a' len cap') N ∧ (a' = none → N = [] ∧ cap' = 0) ∧ RdI .i64 w' a' N ∧ Below w.heap.size w w' := by
  obtain ⟨a', cap', w', hrun, hc, ho, hrd, hnl, _, hb⟩ := run_append_ints (ty := 26) (OwnI.nought w w.heap.size) (n := 0) rfl hlen hr hnil (by omega) hl (Nat.le_refl _)
  rw [Nat.zero_add, List.nil_append] at *
  clear hlen hr hnil
  go_enter Try.func9, Try.ntmps9
  go_wp2_with (at_builtin; refine wpList_append_run rfl _ _ 26 26 rfl _ _ _ _ rfl rfl hrun ?_)
  go_ret
  exact ⟨a', cap', rfl, hc, ho, hnl, hrd, hb⟩

theorem ints_take_succ {l m : List Int} {k : Nat} (h : l.take k = m.take k) (hl : k < l.length) (hm : k < m.length) (hx : l[k] = m[k]) : l.take (k + 1) = m.take (k + 1) := by
  rw [List.take_succ_eq_append_getElem hl, List.take_succ_eq_append_getElem hm, h, hx]

set_option maxHeartbeats 400000 in
theorem keepInts_any (a b : Option Addr) (n m cap dap : Nat) (l r : List Int) (w : World) (hn : l.length = n) (hm : r.length = m) (hl : n ≤ 65536) (hr : m ≤ 65536) (ha : RdI .i64 w a l) (hb : RdI .i64 w b r) :
    Calls Try.prog 15 #[.slice a n cap, .slice b m dap] w fun e w' => e = .returned (.bool (decide (l = r))) ∧ Below w.heap.size w w' := by
  by_cases hnm : n = m
  · subst hnm
    have HN : Hid (l.length = n) := hn
    have HM : Hid (r.length = n) := hm
    clear hn hm
    go_enter Try.func15, Try.ntmps15
    go_wp2
    go_loopw [5] (fun i wr => ∃ k : Nat, k ≤ n ∧ i = .int .i64 k ∧ Hid (l.take k = r.take k) ∧ Below w.heap.size w wr) (fun i _ => n - (RowKit.intOf i).toNat)
    case atStart => exact ⟨0, Nat.zero_le _, rfl, by simp [Hid], Below.refl _ _⟩
    case round =>
      obtain ⟨k, hk, rfl, hT, hB⟩ := hrel
      by_cases hlt : k < n
      · have hkl : k < l.length := by rw [HN.out]; exact hlt
        have hkr : k < r.length := by rw [HM.out]; exact hlt
        obtain ⟨b1, o1, rfl, hc1⟩ := ha (by omega)
        obtain ⟨b2, o2, rfl, hc2⟩ := hb (by omega)
        have hx1 := cell_later hB (hc1 k hkl)
        have hx2 := cell_later hB (hc2 k hkr)
        have HQ : Hid (l[k] = r[k] → l.take (k + 1) = r.take (k + 1)) := fun hq => ints_take_succ hT.out hkl hkr hq
        have HF : Hid (l[k] ≠ r[k] → l ≠ r) := fun hq e => by subst e; exact hq rfl
        have HB : Hid (Below w.heap.size w wr) := hB
        clear hc1 hc2 ha hb hB
        generalize l[k] = x at *
        generalize r[k] = y at *
        clear hkl hkr
        by_cases hq : x = y
        · have HT' : Hid (l.take (k + 1) = r.take (k + 1)) := HQ.out hq
          subst hq
          clear HQ HF
          go_wp2
          go_quiet (fail)
          go_wp2
          go_roundw
          case rel => exact ⟨k + 1, by omega, by go_num, HT', below_drewN HB.out _⟩
          case measure => simp [RowKit.intOf]; omega
        · have HNE : Hid (l ≠ r) := HF.out hq
          have hbq : (x != y) = true := by simp [hq]
          clear HQ HF hq
          go_wp2
          go_quiet (fail)
          go_wp2
          go_ret
          exact ⟨by rw [decide_eq_false HNE.out]; rfl, below_drewN HB.out _⟩
      · have HE : Hid (l = r) := by
          have h1 := hT.out
          rw [List.take_of_length_le (by rw [HN.out]; omega), List.take_of_length_le (by rw [HM.out]; omega)] at h1
          exact h1
        go_wp2
        go_ret
        exact ⟨by rw [decide_eq_true HE.out]; rfl, hB⟩
  · have HNE : Hid (l ≠ r) := fun e => hnm (by rw [← hn, ← hm, e])
    have hbq : ((n : Int) != (m : Int)) = true := by simp; omega
    clear hn hm hnm
    go_enter Try.func15, Try.ntmps15
    go_wp2
    go_ret
    exact ⟨by rw [decide_eq_false HNE.out]; rfl, Below.refl _ _⟩

/-- A row of so many cells of values, which may be written. -/
def VRow (w : World) (g m : Nat) : Prop := ∃ cs : Array Value, cs.size = m ∧ w.heap[g]? = some (.cells cs 23 (0, 0))

theorem VRow.cell {w : World} {g m i : Nat} (h : VRow w g m) (hi : i < m) : ∃ u, w.cell? ⟨g, i, none⟩ = some u ∧ w.frozen? ⟨g, i, none⟩ = false := by
  obtain ⟨cs, hs, hh⟩ := h
  refine ⟨cs[i]'(by omega), ?_, by simp [World.frozen?, hh]⟩
  rw [cell_of_row w g i _ _ _ hh]
  exact Array.getElem?_eq_getElem (by omega)

theorem VRow.set {w : World} {g m i : Nat} {u : Value} (h : VRow w g m) : VRow (w.setCell ⟨g, i, none⟩ u) g m := by
  obtain ⟨cs, hs, hh⟩ := h
  exact ⟨_, by simpa using hs, Go.heap_setCell_same w g i _ _ u hh⟩

end Go.Proofs.Ytmolklaammfbmaa
