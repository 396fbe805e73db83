/-
  Texts of the proof of BufAll, one behind the other.
-/
import Derived.Test.YtjddkodcbpnilaaRows
import Derived.Test.YtjddkodcbpnilaaG17BufAll
import Derived.Test.YtjddkodcbpnilaaG11BufAll
import Derived.Test.YtjddkodcbpnilaaG10BufAll
import Derived.Test.YtjddkodcbpnilaaG18BufAll
import Derived.WalkKit
import Derived.WalkSpells
import Derived.WalkLawsBesides
import Derived.Deep.QuietTactic
import Derived.BigQuiet
import Derived.Deep.RegionHeld3
namespace Go.Proofs.Ytjddkodcbpnilaa
open Go.RowKit Go.Lib
set_option linter.unusedVariables false

theorem pv_take_succ {l m : List PV} {k : Nat} (h : l.take k = m.take k) (hl : k < l.length) (hm : k < m.length) (hx : l[k] = m[k]) : l.take (k + 1) = m.take (k + 1) := by
  rw [List.take_succ_eq_append_getElem hl, List.take_succ_eq_append_getElem hm, h, hx]

theorem pv_ne_of_at {l m : List PV} {k : Nat} (hl : k < l.length) (hm : k < m.length) (hx : l[k] ≠ m[k]) : l ≠ m := by
  intro e
  subst e
  exact hx rfl

/-- raddlekeep.Value's answer. -/
def sameV (v u : PV) : Bool := decide (v.k = u.k) && decide (v.i = u.i) && (v.s.toList == u.s.toList)

theorem sameV_iff (v u : PV) : sameV v u = true ↔ v = u := by
  unfold sameV
  simp only [Bool.and_eq_true, decide_eq_true_eq, beq_iff_eq]
  constructor
  · rintro ⟨⟨h1, h2⟩, h3⟩
    exact PV.eq_of h1 h2 h3
  · rintro rfl
    exact ⟨⟨rfl, rfl⟩, rfl⟩

/-- raddlekeep.Row's answer. -/
def sameVs (l m : List PV) : Bool := l.length == m.length && (l.zip m).all fun p => sameV p.1 p.2

theorem sameVs_iff : ∀ (l m : List PV), sameVs l m = true ↔ l = m
  | [], [] => by simp [sameVs]
  | [], y :: m => by simp [sameVs]
  | x :: l, [] => by simp [sameVs]
  | x :: l, y :: m => by
    have h1 := sameVs_iff l m
    have h2 := sameV_iff x y
    simp only [sameVs, List.length_cons, List.zip_cons_cons, List.all_cons, Bool.and_eq_true, beq_iff_eq, Nat.add_right_cancel_iff, List.cons.injEq] at h1 ⊢
    constructor
    · rintro ⟨hl, hx, hr⟩
      exact ⟨h2.1 hx, h1.1 ⟨hl, hr⟩⟩
    · rintro ⟨hx, hr⟩
      have := h1.2 hr
      exact ⟨this.1, h2.2 hx, this.2⟩

/-- Two values of two rows stay. -/
theorem keepAt {W w w' : World} {b c o p : Nat} {k0 i0 k1 i1 : Int} {s0 s1 : ByteArray}
    (hb : Below w.heap.size w w')
    (h : w.cell? ⟨b, o, none⟩ = some (.int .i64 k0) ∧ w.cell? ⟨b, o + 1, none⟩ = some (.int .i64 i0) ∧ w.cell? ⟨b, o + 2, none⟩ = some (.string s0) ∧ w.cell? ⟨c, p, none⟩ = some (.int .i64 k1) ∧ w.cell? ⟨c, p + 1, none⟩ = some (.int .i64 i1) ∧ w.cell? ⟨c, p + 2, none⟩ = some (.string s1) ∧ Hid (Below W.heap.size W w)) :
    w'.cell? ⟨b, o, none⟩ = some (.int .i64 k0) ∧ w'.cell? ⟨b, o + 1, none⟩ = some (.int .i64 i0) ∧ w'.cell? ⟨b, o + 2, none⟩ = some (.string s0) ∧ w'.cell? ⟨c, p, none⟩ = some (.int .i64 k1) ∧ w'.cell? ⟨c, p + 1, none⟩ = some (.int .i64 i1) ∧ w'.cell? ⟨c, p + 2, none⟩ = some (.string s1) ∧ Hid (Below W.heap.size W w') := by
  obtain ⟨h0, h1, h2, h3, h4, h5, h9⟩ := h
  exact ⟨cell_later hb h0, cell_later hb h1, cell_later hb h2, cell_later hb h3, cell_later hb h4, cell_later hb h5, chain h9.out hb⟩

set_option maxHeartbeats 400000 in
theorem heavy_long (a : Option Addr) (n cap : Nat) (w : World) (hn : 40 < n) (hb : n ≤ 9223372036854775807) :
    Calls Try.prog 9 #[.slice a n cap] w fun e w' => e = .returned (.bool true) ∧ w' = w := by
  go_enter Try.func9, Try.ntmps9
  go_wp2
  go_ret
  exact ⟨rfl, rfl⟩

/-- Heavy's answer of at most 40 values. -/
def heavyV (vs : List PV) : Bool := longT (vs.map (·.s))

set_option maxHeartbeats 400000 in
theorem long_vals (a : Option Addr) (n cap : Nat) (vs : List PV) (w : World) (hn : vs.length = n) (h3 : n ≤ 1000) (hr : RdV w a vs) :
    Calls Try.prog 21 #[.slice a n cap] w fun e w' => e = .returned (.bool (heavyV vs)) ∧ w' = w := by
  have HN : Hid (vs.length = n) := hn
  clear hn
  go_enter Try.func21, Try.ntmps21
  go_wp2
  go_loop [3] (fun i => ∃ k : Nat, k ≤ n ∧ i = .int .i64 k ∧ Hid (heavyV (vs.take k) = false)) (fun i => n - (RowKit.intOf i).toNat)
  case atStart => exact ⟨0, Nat.zero_le _, rfl, rfl⟩
  case round =>
    obtain ⟨k, hk, rfl, hT⟩ := hrel
    by_cases hlt : k < n
    · have hkl : k < vs.length := by rw [HN.out]; exact hlt
      obtain ⟨b, off, rfl, hc⟩ := hr (by omega)
      have hck := (hc k hkl).2.2
      have HS : Hid (heavyV (vs.take (k + 1)) = decide (300 < vs[k].s.size)) := by
        have h := hT.out
        unfold heavyV longT at h ⊢
        show _ = _
        rw [List.take_succ_eq_append_getElem hkl, List.map_append, List.any_append, h]
        simp
      have HX : Hid (300 < vs[k].s.size → heavyV vs = true) := fun h => by
        unfold heavyV longT
        rw [List.any_eq_true]
        exact ⟨_, List.mem_map_of_mem (List.getElem_mem hkl), by simpa using h⟩
      clear hc hr
      generalize vs[k].s = s at *
      by_cases hs : 300 < s.size
      · have HX' : Hid (heavyV vs = true) := HX.out hs
        go_wp2
        go_ret
        exact ⟨by rw [HX'.out]; rfl, rfl⟩
      · have HS' : Hid (heavyV (vs.take (k + 1)) = false) := by rw [HS.out]; show _ = _; simpa using hs
        go_wp2
        go_round
        case rel => exact ⟨k + 1, by omega, by go_num, HS'⟩
        case measure => simp [RowKit.intOf]; omega
    · have h := hT.out
      rw [List.take_of_length_le (by rw [HN.out]; omega)] at h
      have HH : Hid (heavyV vs = false) := h
      clear h
      go_wp2
      go_ret
      exact ⟨by rw [HH.out]; rfl, rfl⟩

set_option maxHeartbeats 400000 in
theorem heavy_few (a : Option Addr) (n cap : Nat) (vs : List PV) (w : World) (hn : vs.length = n) (h40 : n ≤ 40) (hr : RdV w a vs) :
    Calls Try.prog 9 #[.slice a n cap] w fun e w' => e = .returned (.bool (heavyV vs)) ∧ w' = w := by
  have HN : Hid (vs.length = n) := hn
  have hd : decide ((40 : Int) < (n : Int)) = false := by simp; omega
  clear hn
  cases hv : heavyV vs
  all_goals
    go_enter Try.func9, Try.ntmps9
    go_wp2_with fail
    refine (long_vals a n cap vs _ HN.out (by omega) hr).mono ?_
    rintro e w1 ⟨rfl, rfl⟩
    rw [hv]
    go_wp2
    go_ret
    exact ⟨rfl, rfl⟩

end Go.Proofs.Ytjddkodcbpnilaa

namespace Go.Proofs.Ytjddkodcbpnilaa
open Go.RowKit Go.Lib
set_option linter.unusedVariables false

/-- Numbers' cells. -/
def cellsI (N : List Int) : List Value := N.map fun n => .int .i64 n

theorem cellsI_length (N : List Int) : (cellsI N).length = N.length := by simp [cellsI]

theorem cellsI_one (N : List Int) : ∀ u ∈ cellsI N, u.oneCell' = true := by
  intro u hu
  simp [cellsI] at hu
  obtain ⟨n, _, rfl⟩ := hu
  rfl

theorem RdI.src {w : World} {a : Option Addr} {N : List Int} (h : RdI .i64 w a N) (h0 : 0 < N.length) : ∃ ad, a = some ad ∧ ∀ j u, (cellsI N)[j]? = some u → w.cell? (ad.add j) = some u := by
  obtain ⟨b, off, e, hc⟩ := h h0
  refine ⟨_, e, fun j u hu => ?_⟩
  rw [add_plain3]
  have hj : j < N.length := by have := (List.getElem?_eq_some_iff.1 hu).1; rwa [cellsI_length] at this
  simp [cellsI, List.getElem?_eq_getElem hj] at hu
  rw [hc j hj, ← hu]

/-- The slice v is a row of the call's own, from block B on, and its elements are these numbers. -/
def OwnI (w : World) (B : Nat) (v : Value) (N : List Int) : Prop := w.ownsRow B 3 1 v N.length (cellsI N)

theorem OwnI.nought (w : World) (B : Nat) : OwnI w B (.slice none 0 0) [] := World.ownsRow_nil w B 3 1

theorem OwnI.form {w : World} {B : Nat} {v : Value} {N : List Int} (h : OwnI w B v N) : ∃ a cap, v = .slice a N.length cap ∧ N.length ≤ cap ∧ RdI .i64 w a N ∧ (a = none → N = [] ∧ cap = 0) := by
  obtain ⟨_, ⟨hv, hn⟩ | ⟨g, cap, cur, hv, _, hh, hc, _, hs, ht⟩⟩ := h
  · have : N = [] := List.eq_nil_of_length_eq_zero hn
    subst this
    exact ⟨none, 0, hv, Nat.le_refl _, fun h => absurd h (by simp), fun _ => ⟨rfl, rfl⟩⟩
  · refine ⟨_, cap, hv, hc, fun _ => ⟨g, 0, rfl, fun i hi => ?_⟩, fun h => by cases h⟩
    rw [cell_of_row w g _ _ _ _ hh, Nat.zero_add]
    have hx : (cellsI N)[i]? = some (.int .i64 N[i]) := by simp [cellsI, List.getElem?_eq_getElem hi]
    rw [← ht, Nat.mul_one, List.getElem?_take_of_lt hi] at hx
    simpa using hx

theorem OwnI.later {w w' : World} {B : Nat} {v : Value} {N : List Int} (h : OwnI w B v N) (hb : Below w.heap.size w w') : OwnI w' B v N := by
  obtain ⟨h1, h2⟩ := h
  refine ⟨h1, ?_⟩
  rcases h2 with h2 | ⟨g, cap, cur, hv, hg, hh, hc⟩
  · exact .inl h2
  · refine .inr ⟨g, cap, cur, hv, hg, (hb.block g ?_).trans hh, hc⟩
    rcases Nat.lt_or_ge g w.heap.size with h3 | h3
    · exact h3
    · simp [Array.getElem?_eq_none h3] at hh

theorem OwnI.block {w : World} {B : Nat} {v : Value} {N : List Int} (h : OwnI w B v N) : ∀ k, v.ownBlock = some k → B ≤ k := fun k hk => (World.ownsRow.lt h k hk).1

theorem Try.infoI : (Try.prog.info? 3).map (fun i => (i.zero, i.size, i.bytes)) = some (some (.int .i64 0), 1, 8) := by kernel_rfl

/-- append(v, src...): v the call's own, src any numbers that can be read. -/
theorem run_append_ints {w : World} {B ty n m cap : Nat} {v : Value} {a : Option Addr} {xs N : List Int}
    (hown : OwnI w B v xs) (hn : xs.length = n) (hm : N.length = m) (hr : RdI .i64 w a N) (hnil : a = none → N = [] ∧ cap = 0) (h1 : n ≤ 65536) (h2 : m ≤ 65536) (hB : B ≤ w.heap.size) :
    ∃ a' cap' w', (Builtin.append_ #[26, 26] ty #[v, .slice a m cap]).run Try.prog w = .ok (.slice a' (n + m) cap') w' ∧ n + m ≤ cap' ∧ OwnI w' B (.slice a' (n + m) cap') (xs ++ N) ∧ RdI .i64 w' a' (xs ++ N) ∧ (a' = none → xs ++ N = [] ∧ cap' = 0) ∧ w.heap.size ≤ w'.heap.size ∧ Below B w w' := by
  subst hn hm
  obtain ⟨i0, hi, hz0, hz1, hz2⟩ := info_parts Try.infoI
  have main : ∃ v' w', (Builtin.append_ #[26, 26] ty #[v, .slice a N.length cap]).run Try.prog w = .ok v' w' ∧ OwnI w' B v' (xs ++ N) ∧ w.grownBy w' v.ownBlock := by
    cases a with
    | none =>
      obtain ⟨rfl, rfl⟩ := hnil rfl
      exact ⟨v, w, run_append_owned_none (P := Try.prog) (w := w) B 26 ty 3 i0 1 Try.underlying26 hi v xs.length (cellsI xs) hown, by simpa [OwnI] using hown, World.grownBy.refl _ _⟩
    | some ad =>
      have hsrc : ∀ j u, (cellsI N)[j]? = some u → w.cell? (ad.add j) = some u := by
        rcases Nat.eq_zero_or_pos N.length with h0 | h0
        · obtain rfl := List.eq_nil_of_length_eq_zero h0
          intro j u hj
          simp [cellsI] at hj
        · obtain ⟨ad', e, h⟩ := hr.src h0
          cases e
          exact h
      obtain ⟨v', w', hrun, ho, hg, _⟩ := run_append_own (P := Try.prog) (w := w) B 26 ty 3 i0 (.int .i64 0) 1 8 Try.underlying26 hi hz0 hz1 hz2 rfl (by decide) v xs.length (cellsI xs) hown ad N.length cap (cellsI N) (by rw [cellsI_length]; omega) hsrc (cellsI_one _) (by unfold maxLen; omega) (by omega) hB
      refine ⟨v', w', hrun, ?_, hg⟩
      unfold OwnI
      rw [List.length_append, show cellsI (xs ++ N) = cellsI xs ++ cellsI N from by simp [cellsI]]
      exact ho
  obtain ⟨v', w', hrun, ho, hg⟩ := main
  obtain ⟨a', cap', rfl, hc, hrd, hnl⟩ := ho.form
  rw [List.length_append] at hrun ho hc
  exact ⟨a', cap', w', hrun, hc, ho, hrd, hnl, hg.size, (Below.refl _ _).grown hg hB (fun k hk => hown.block k hk)⟩

theorem ints_take_succ {l m : List Int} {k : Nat} (h : l.take k = m.take k) (hl : k < l.length) (hm : k < m.length) (hx : l[k] = m[k]) : l.take (k + 1) = m.take (k + 1) := by
  rw [List.take_succ_eq_append_getElem hl, List.take_succ_eq_append_getElem hm, h, hx]

set_option maxHeartbeats 400000 in
theorem keepInts_any (a b : Option Addr) (n m cap dap : Nat) (l r : List Int) (w : World) (hn : l.length = n) (hm : r.length = m) (hl : n ≤ 65536) (hr : m ≤ 65536) (ha : RdI .i64 w a l) (hb : RdI .i64 w b r) :
    Calls Try.prog 7 #[.slice a n cap, .slice b m dap] w fun e w' => e = .returned (.bool (decide (l = r))) ∧ Below w.heap.size w w' := by
  by_cases hnm : n = m
  · subst hnm
    have HN : Hid (l.length = n) := hn
    have HM : Hid (r.length = n) := hm
    clear hn hm
    go_enter Try.func7, Try.ntmps7
    go_wp2
    go_loopw [5] (fun i wr => ∃ k : Nat, k ≤ n ∧ i = .int .i64 k ∧ Hid (l.take k = r.take k) ∧ Below w.heap.size w wr) (fun i _ => n - (RowKit.intOf i).toNat)
    case atStart => exact ⟨0, Nat.zero_le _, rfl, by simp [Hid], Below.refl _ _⟩
    case round =>
      obtain ⟨k, hk, rfl, hT, hB⟩ := hrel
      by_cases hlt : k < n
      · have hkl : k < l.length := by rw [HN.out]; exact hlt
        have hkr : k < r.length := by rw [HM.out]; exact hlt
        obtain ⟨b1, o1, rfl, hc1⟩ := ha (by omega)
        obtain ⟨b2, o2, rfl, hc2⟩ := hb (by omega)
        have hx1 := cell_later hB (hc1 k hkl)
        have hx2 := cell_later hB (hc2 k hkr)
        have HQ : Hid (l[k] = r[k] → l.take (k + 1) = r.take (k + 1)) := fun hq => ints_take_succ hT.out hkl hkr hq
        have HF : Hid (l[k] ≠ r[k] → l ≠ r) := fun hq e => by subst e; exact hq rfl
        have HB : Hid (Below w.heap.size w wr) := hB
        clear hc1 hc2 ha hb hB
        generalize l[k] = x at *
        generalize r[k] = y at *
        clear hkl hkr
        by_cases hq : x = y
        · have HT' : Hid (l.take (k + 1) = r.take (k + 1)) := HQ.out hq
          subst hq
          clear HQ HF
          go_wp2
          go_quiet (fail)
          go_wp2
          go_roundw
          case rel => exact ⟨k + 1, by omega, by go_num, HT', below_drewN HB.out _⟩
          case measure => simp [RowKit.intOf]; omega
        · have HNE : Hid (l ≠ r) := HF.out hq
          have hbq : (x != y) = true := by simp [hq]
          clear HQ HF hq
          go_wp2
          go_quiet (fail)
          go_wp2
          go_ret
          exact ⟨by rw [decide_eq_false HNE.out]; rfl, below_drewN HB.out _⟩
      · have HE : Hid (l = r) := by
          have h1 := hT.out
          rw [List.take_of_length_le (by rw [HN.out]; omega), List.take_of_length_le (by rw [HM.out]; omega)] at h1
          exact h1
        go_wp2
        go_ret
        exact ⟨by rw [decide_eq_true HE.out]; rfl, hB⟩
  · have HNE : Hid (l ≠ r) := fun e => hnm (by rw [← hn, ← hm, e])
    have hbq : ((n : Int) != (m : Int)) = true := by simp; omega
    clear hn hm hnm
    go_enter Try.func7, Try.ntmps7
    go_wp2
    go_ret
    exact ⟨by rw [decide_eq_false HNE.out]; rfl, Below.refl _ _⟩

/-- A row of so many cells of values, which may be written. -/
def VRow (w : World) (g m : Nat) : Prop := ∃ cs : Array Value, cs.size = m ∧ w.heap[g]? = some (.cells cs 64 (0, 0))

theorem VRow.cell {w : World} {g m i : Nat} (h : VRow w g m) (hi : i < m) : ∃ u, w.cell? ⟨g, i, none⟩ = some u ∧ w.frozen? ⟨g, i, none⟩ = false := by
  obtain ⟨cs, hs, hh⟩ := h
  refine ⟨cs[i]'(by omega), ?_, by simp [World.frozen?, hh]⟩
  rw [cell_of_row w g i _ _ _ hh]
  exact Array.getElem?_eq_getElem (by omega)

theorem VRow.set {w : World} {g m i : Nat} {u : Value} (h : VRow w g m) : VRow (w.setCell ⟨g, i, none⟩ u) g m := by
  obtain ⟨cs, hs, hh⟩ := h
  exact ⟨_, by simpa using hs, Go.heap_setCell_same w g i _ _ u hh⟩

end Go.Proofs.Ytjddkodcbpnilaa

namespace Go.Proofs.Ytjddkodcbpnilaa
open Go.RowKit Go.Lib
set_option linter.unusedVariables false

/-- Row's answer: 0, 2 (too many), 1. -/
def errR (vs : List PV) : Int := if vs.all okV = true then 0 else 1

theorem errR_ok {vs : List PV} (h : vs.all okV = true) : errR vs = 0 := by simp only [errR, h, if_true]
theorem errR_no {vs : List PV} (h : vs.all okV = false) : errR vs = 1 := by simp only [errR, h]; rfl

def chkR (vs : List PV) : Int := if 12 < vs.length then 2 else errR vs

theorem all_take_succ {f : PV → Bool} {vs : List PV} {k : Nat} (hk : k < vs.length) (h : (vs.take k).all f = true) : (vs.take (k + 1)).all f = f vs[k] := by
  rw [List.take_succ_eq_append_getElem hk, List.all_append, h]
  simp

theorem all_false_at {f : PV → Bool} {vs : List PV} {k : Nat} (hk : k < vs.length) (h : f vs[k] = false) : vs.all f = false := by
  rw [List.all_eq_false]
  exact ⟨_, List.getElem_mem hk, by simp [h]⟩

/-- How two rows are ordered. -/
def cmpR : List PV → List PV → Int
  | [], [] => 0
  | [], _ :: _ => -1
  | _ :: _, [] => 1
  | v :: l, u :: m => if cmpV v u ≠ 0 then cmpV v u else cmpR l m

theorem cmpR_step {l r : List PV} {k : Nat} (hl : k < l.length) (hr : k < r.length) : cmpR (l.drop k) (r.drop k) = if cmpV l[k] r[k] ≠ 0 then cmpV l[k] r[k] else cmpR (l.drop (k + 1)) (r.drop (k + 1)) := by
  rw [List.drop_eq_getElem_cons hl, List.drop_eq_getElem_cons hr, cmpR]

theorem cmpR_end {l r : List PV} {k : Nat} (hl : k ≤ l.length) (hr : k ≤ r.length) (h : ¬ (k < l.length ∧ k < r.length)) : cmpR (l.drop k) (r.drop k) = if l.length = r.length then 0 else sgnB (decide (l.length < r.length)) := by
  by_cases h1 : k = l.length
  · rw [List.drop_of_length_le (l := l) (by omega)]
    by_cases h2 : k = r.length
    · rw [List.drop_of_length_le (by omega), if_pos (by omega)]
      rfl
    · rw [if_neg (by omega), List.drop_eq_getElem_cons (l := r) (by omega), show decide (l.length < r.length) = true from by simp; omega]
      rfl
  · have h2 : k = r.length := by omega
    rw [List.drop_of_length_le (l := r) (by omega), if_neg (by omega), List.drop_eq_getElem_cons (l := l) (by omega), show decide (l.length < r.length) = false from by simp; omega]
    rfl

/-- A value of a row and a number stay. -/
theorem keepFit {W w w' : World} {b c o p : Nat} {k0 i0 k1 : Int} {s0 : ByteArray}
    (hb : Below w.heap.size w w')
    (h : w.cell? ⟨b, o, none⟩ = some (.int .i64 k0) ∧ w.cell? ⟨b, o + 1, none⟩ = some (.int .i64 i0) ∧ w.cell? ⟨b, o + 2, none⟩ = some (.string s0) ∧ w.cell? ⟨c, p, none⟩ = some (.int .i64 k1) ∧ Hid (Below W.heap.size W w)) :
    w'.cell? ⟨b, o, none⟩ = some (.int .i64 k0) ∧ w'.cell? ⟨b, o + 1, none⟩ = some (.int .i64 i0) ∧ w'.cell? ⟨b, o + 2, none⟩ = some (.string s0) ∧ w'.cell? ⟨c, p, none⟩ = some (.int .i64 k1) ∧ Hid (Below W.heap.size W w') := by
  obtain ⟨h0, h1, h2, h3, h9⟩ := h
  exact ⟨cell_later hb h0, cell_later hb h1, cell_later hb h2, cell_later hb h3, chain h9.out hb⟩

/-- Do the values fit the types, one by one? -/
def fitsR : List PV → List Int → Bool
  | [], [] => true
  | v :: l, t :: ts => fitsV v t && fitsR l ts
  | _, _ => false

theorem fitsR_step {l : List PV} {ts : List Int} {k : Nat} (hl : k < l.length) (ht : k < ts.length) : fitsR (l.drop k) (ts.drop k) = (fitsV l[k] ts[k] && fitsR (l.drop (k + 1)) (ts.drop (k + 1))) := by
  rw [List.drop_eq_getElem_cons hl, List.drop_eq_getElem_cons ht, fitsR]

theorem fitsR_len : ∀ {l : List PV} {ts : List Int}, fitsR l ts = true → l.length = ts.length
  | [], [], _ => rfl
  | [], _ :: _, h => by simp [fitsR] at h
  | _ :: _, [], h => by simp [fitsR] at h
  | v :: l, t :: ts, h => by
    simp only [fitsR, Bool.and_eq_true] at h
    simp [fitsR_len h.2]

end Go.Proofs.Ytjddkodcbpnilaa

namespace Go.Proofs.Ytjddkodcbpnilaa
open Go.RowKit Go.Lib
set_option linter.unusedVariables false

/-- Is each a place? -/
def inCols (n : Nat) (cols : List Int) : Bool := cols.all fun c => decide (0 ≤ c ∧ c ≤ (n : Int) - 1)

/-- The values at these places. -/
def pickAt (vs : List PV) (cols : List Int) : List PV := cols.map fun c => vs[c.toNat]?.getD noV

/-- Pick's answer. -/
def pickR (vs : List PV) (cols : List Int) : List PV × Int := if inCols vs.length cols = true then (if 12 < cols.length then ([], 2) else (pickAt vs cols, 0)) else ([], 1)

/-- What a call that makes a row hands back. -/
def GivesR (w w' : World) (e : Ending) (r : List PV × Int) : Prop :=
  ∃ a n cap, e = .returned (.tuple #[.slice a n cap, .int .i64 r.2]) ∧ r.1.length = n ∧ n ≤ 65536 ∧ n ≤ cap ∧ OwnV w' w.heap.size (.slice a n cap) r.1 ∧ RdV w' a r.1 ∧ (a = none → r.1 = [] ∧ cap = 0) ∧ Below w.heap.size w w'

theorem GivesR.of_no {w w' : World} {e : Ending} {k : Int} (h : e = .returned (.tuple #[.slice none 0 0, .int .i64 k]) ∧ w' = w) : GivesR w w' e ([], k) := by
  obtain ⟨he, rfl⟩ := h
  exact ⟨none, 0, 0, he, rfl, by omega, Nat.le_refl _, OwnV.nought _ _, RdV.nil _ _, fun _ => ⟨rfl, rfl⟩, Below.refl _ _⟩

theorem rdV_at (w : World) (g : Nat) (hg : w.heap.size = g) (k i : Int) (s : ByteArray) : RdV (w.alloc (.cells #[.int .i64 k, .int .i64 i, .string s] 64)) (some ⟨g, 0, none⟩) [⟨k, i, s⟩] := by
  have B := Box.made (w := w) (g := g) (k := k) (i := i) (s := s) hg
  obtain ⟨c0, c1, c2, _⟩ := B.cells
  refine fun _ => ⟨g, 0, rfl, fun j hj => ?_⟩
  obtain rfl : j = 0 := by simp at hj; omega
  exact ⟨by simpa using c0, by simpa using c1, by simpa using c2⟩

/-- append(out, v): out the call's own. -/
theorem run_append_val {w : World} {B n : Nat} {v : Value} {xs : List PV} (g : Nat) (hg : w.heap.size = g) (k i : Int) (s : ByteArray) (hown : OwnV w B v xs) (hn : xs.length = n) (h1 : n ≤ 65536) (hB : B ≤ w.heap.size) :
    ∃ a' cap' w', (Builtin.append_ #[29, 29] 29 #[v, .slice (some ⟨g, 0, none⟩) 1 1]).run Try.prog (w.alloc (.cells #[.int .i64 k, .int .i64 i, .string s] 64)) = .ok (.slice a' (n + 1) cap') w' ∧ n + 1 ≤ cap' ∧ OwnV w' B (.slice a' (n + 1) cap') (xs ++ [⟨k, i, s⟩]) ∧ RdV w' a' (xs ++ [⟨k, i, s⟩]) ∧ (a' = none → xs ++ [⟨k, i, s⟩] = [] ∧ cap' = 0) ∧ Below B w w' := by
  obtain ⟨a', cap', w', hrun, hc, ho, hrd, hnl, _, hb⟩ := run_append_vals (ty := 29) (cap := 1) (hown.later (alloc_below w (.cells #[.int .i64 k, .int .i64 i, .string s] 64))) hn (m := 1) rfl (rdV_at w g hg k i s) (fun h => by cases h) h1 (by omega) (Nat.le_trans hB (by simp))
  exact ⟨a', cap', w', hrun, hc, ho, hrd, hnl, ((alloc_below w _).mono hB).trans hb⟩

end Go.Proofs.Ytjddkodcbpnilaa

namespace Go.Proofs.Ytjddkodcbpnilaa
open Go.RowKit Go.Lib
set_option linter.unusedVariables false

/-- Values' bytes, one behind the other. -/
def bytesVs (vs : List PV) : List UInt8 := vs.flatMap bytesV

/-- A right row's bytes. -/
def bytesR (vs : List PV) : List UInt8 := UInt8.ofNat vs.length :: bytesVs vs

theorem bytesV_small {v : PV} (h : okV v = true) : (bytesV v).length ≤ 26 := by
  obtain ⟨k, i, s⟩ := v
  unfold bytesV
  simp only
  by_cases k2 : k = 2
  · simp [k2]
  by_cases k3 : k = 3
  · simp [k3, intBytes_length]
  by_cases k4 : k = 4
  · subst k4
    simp [okV] at h
    simp [textBytes_length]
    omega
  · simp [k2, k3, k4]

theorem bytesVs_small : ∀ {vs : List PV}, vs.all okV = true → (bytesVs vs).length ≤ 26 * vs.length
  | [], _ => by simp [bytesVs]
  | v :: vs, h => by
    simp only [List.all_cons, Bool.and_eq_true] at h
    have h1 := bytesV_small h.1
    have h2 := bytesVs_small h.2
    simp only [bytesVs, List.flatMap_cons, List.length_append, List.length_cons] at h2 ⊢
    omega

theorem bytesVs_take {vs : List PV} {k : Nat} (h : k < vs.length) : bytesVs (vs.take (k + 1)) = bytesVs (vs.take k) ++ bytesV vs[k] := by
  unfold bytesVs
  rw [List.take_succ_eq_append_getElem h, List.flatMap_append]
  simp

theorem all_take {vs : List PV} (h : vs.all okV = true) (k : Nat) : (vs.take k).all okV = true := by
  rw [List.all_eq_true] at h ⊢
  exact fun x hx => h x (List.mem_of_mem_take hx)

end Go.Proofs.Ytjddkodcbpnilaa
