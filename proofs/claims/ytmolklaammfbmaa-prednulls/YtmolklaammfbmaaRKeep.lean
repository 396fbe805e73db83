/-
  What raddlekeep's TwinRow, Row, TwinInts, Ints do, and raddlelaw04's Heavy.
-/
import Derived.Test.YtmolklaammfbmaaRows
import Derived.Test.YtmolklaammfbmaaRMem
import Derived.Test.YtmolklaammfbmaaVApi
import Derived.Test.YtmolklaammfbmaaVRef
import Derived.Test.YtmolklaammfbmaaHeld
import Derived.WalkKit
import Derived.WalkSpells
import Derived.WalkLawsBesides
import Derived.Deep.QuietTactic
import Derived.BigQuiet
import Derived.Deep.RegionHeld3
namespace Go.Proofs.Ytmolklaammfbmaa
open Go.RowKit Go.Lib
set_option linter.unusedVariables false

set_option maxHeartbeats 400000 in
theorem twinRow_any (a : Option Addr) (len cap : Nat) (vs : List PV) (w : World) (hlen : vs.length = len) (hl : len ≤ 65536) (hnil : a = none → vs = [] ∧ cap = 0) (hr : RdV w a vs) :
    Calls Try.prog 10 #[.slice a len cap] w fun e w' => ∃ a' cap', e = .returned (.slice a' len cap') ∧ len ≤ cap' ∧ OwnV w' w.heap.size (.slice a' len cap') vs ∧ (a' = none → vs = [] ∧ cap' = 0) ∧ RdV w' a' vs ∧ Below w.heap.size w w' := by
  obtain ⟨a', cap', w', hrun, hc, ho, hrd, hnl, _, hb⟩ := run_append_vals (ty := 27) (OwnV.nought w w.heap.size) (n := 0) rfl hlen hr hnil (by omega) hl (Nat.le_refl _)
  rw [Nat.zero_add, List.nil_append] at *
  clear hlen hr hnil
  go_enter Try.func10, Try.ntmps10
  go_wp2_with (at_builtin; refine wpList_append_run rfl _ _ 27 27 rfl _ _ _ _ rfl rfl hrun ?_)
  go_ret
  exact ⟨a', cap', rfl, hc, ho, hnl, hrd, hb⟩

theorem pv_take_succ {l m : List PV} {k : Nat} (h : l.take k = m.take k) (hl : k < l.length) (hm : k < m.length) (hx : l[k] = m[k]) : l.take (k + 1) = m.take (k + 1) := by
  rw [List.take_succ_eq_append_getElem hl, List.take_succ_eq_append_getElem hm, h, hx]

theorem pv_ne_of_at {l m : List PV} {k : Nat} (hl : k < l.length) (hm : k < m.length) (hx : l[k] ≠ m[k]) : l ≠ m := by
  intro e
  subst e
  exact hx rfl

/-- raddlekeep.Value's answer. -/
def sameV (v u : PV) : Bool := decide (v.k = u.k) && decide (v.i = u.i) && (v.s.toList == u.s.toList)

theorem sameV_iff (v u : PV) : sameV v u = true ↔ v = u := by
  unfold sameV
  simp only [Bool.and_eq_true, decide_eq_true_eq, beq_iff_eq]
  constructor
  · rintro ⟨⟨h1, h2⟩, h3⟩
    exact PV.eq_of h1 h2 h3
  · rintro rfl
    exact ⟨⟨rfl, rfl⟩, rfl⟩

/-- raddlekeep.Row's answer. -/
def sameVs (l m : List PV) : Bool := l.length == m.length && (l.zip m).all fun p => sameV p.1 p.2

theorem sameVs_iff : ∀ (l m : List PV), sameVs l m = true ↔ l = m
  | [], [] => by simp [sameVs]
  | [], y :: m => by simp [sameVs]
  | x :: l, [] => by simp [sameVs]
  | x :: l, y :: m => by
    have h1 := sameVs_iff l m
    have h2 := sameV_iff x y
    simp only [sameVs, List.length_cons, List.zip_cons_cons, List.all_cons, Bool.and_eq_true, beq_iff_eq, Nat.add_right_cancel_iff, List.cons.injEq] at h1 ⊢
    constructor
    · rintro ⟨hl, hx, hr⟩
      exact ⟨h2.1 hx, h1.1 ⟨hl, hr⟩⟩
    · rintro ⟨hx, hr⟩
      have := h1.2 hr
      exact ⟨this.1, h2.2 hx, this.2⟩

/-- Two values of two rows stay. -/
theorem keepAt {W w w' : World} {b c o p : Nat} {k0 i0 k1 i1 : Int} {s0 s1 : ByteArray}
    (hb : Below w.heap.size w w')
    (h : w.cell? ⟨b, o, none⟩ = some (.int .i64 k0) ∧ w.cell? ⟨b, o + 1, none⟩ = some (.int .i64 i0) ∧ w.cell? ⟨b, o + 2, none⟩ = some (.string s0) ∧ w.cell? ⟨c, p, none⟩ = some (.int .i64 k1) ∧ w.cell? ⟨c, p + 1, none⟩ = some (.int .i64 i1) ∧ w.cell? ⟨c, p + 2, none⟩ = some (.string s1) ∧ Hid (Below W.heap.size W w)) :
    w'.cell? ⟨b, o, none⟩ = some (.int .i64 k0) ∧ w'.cell? ⟨b, o + 1, none⟩ = some (.int .i64 i0) ∧ w'.cell? ⟨b, o + 2, none⟩ = some (.string s0) ∧ w'.cell? ⟨c, p, none⟩ = some (.int .i64 k1) ∧ w'.cell? ⟨c, p + 1, none⟩ = some (.int .i64 i1) ∧ w'.cell? ⟨c, p + 2, none⟩ = some (.string s1) ∧ Hid (Below W.heap.size W w') := by
  obtain ⟨h0, h1, h2, h3, h4, h5, h9⟩ := h
  exact ⟨cell_later hb h0, cell_later hb h1, cell_later hb h2, cell_later hb h3, cell_later hb h4, cell_later hb h5, chain h9.out hb⟩

set_option maxHeartbeats 1000000 in
theorem keepRow_any (a b : Option Addr) (n m cap dap : Nat) (l r : List PV) (w : World) (hn : l.length = n) (hm : r.length = m) (hl : n ≤ 65536) (hr : m ≤ 65536) (ha : RdV w a l) (hb : RdV w b r) :
    Calls Try.prog 16 #[.slice a n cap, .slice b m dap] w fun e w' => e = .returned (.bool (sameVs l r)) ∧ Below w.heap.size w w' := by
  by_cases hnm : n = m
  · subst hnm
    have HN : Hid (l.length = n) := hn
    have HM : Hid (r.length = n) := hm
    clear hn hm
    go_enter Try.func16, Try.ntmps16
    go_wp2
    go_loopw [5] (fun i wr => ∃ k : Nat, k ≤ n ∧ i = .int .i64 k ∧ Hid (l.take k = r.take k) ∧ Hid (Below w.heap.size w wr)) (fun i _ => n - (RowKit.intOf i).toNat)
    case atStart => exact ⟨0, Nat.zero_le _, rfl, by simp [Hid], Below.refl _ _⟩
    case round =>
      obtain ⟨k, hk, rfl, hT, hB⟩ := hrel
      by_cases hlt : k < n
      · have hkl : k < l.length := by rw [HN.out]; exact hlt
        have hkr : k < r.length := by rw [HM.out]; exact hlt
        obtain ⟨b1, o1, rfl, hc1⟩ := ha (by omega)
        obtain ⟨b2, o2, rfl, hc2⟩ := hb (by omega)
        obtain ⟨x0, x1, x2⟩ := hc1 k hkl
        obtain ⟨y0, y1, y2⟩ := hc2 k hkr
        have HS := And.intro (cell_later hB.out x0) (And.intro (cell_later hB.out x1) (And.intro (cell_later hB.out x2) (And.intro (cell_later hB.out y0) (And.intro (cell_later hB.out y1) (And.intro (cell_later hB.out y2) hB)))))
        have HQ : Hid (l[k] = r[k] → l.take (k + 1) = r.take (k + 1)) := fun hq => pv_take_succ hT.out hkl hkr hq
        have HF : Hid (l[k] ≠ r[k] → l ≠ r) := fun hq => pv_ne_of_at hkl hkr hq
        clear hc1 hc2 ha hb x0 x1 x2 y0 y1 y2
        generalize l[k] = x at *
        generalize r[k] = y at *
        clear hkl hkr
        obtain ⟨k0, i0, s0⟩ := x
        obtain ⟨k1, i1, s1⟩ := y
        simp only at HS
        have C := keepValue_any k0 i0 s0 k1 i1 s1
        cases hq : sameV ⟨k0, i0, s0⟩ ⟨k1, i1, s1⟩ with
        | true =>
          have HT' : Hid (l.take (k + 1) = r.take (k + 1)) := HQ.out ((sameV_iff _ _).1 hq)
          rw [show (decide (k0 = k1) && decide (i0 = i1) && (s0.toList == s1.toList)) = true from hq] at C
          clear HQ HF hq hT hB
          have b1' : (0 : Int) ≤ (k : Int) := by omega
          have b2' : (k : Int) < (n : Int) := by omega
          go_wp2
          go_region_held3 (fun w' => w'.cell? ⟨b1, o1 + k * 3, none⟩ = some (.int .i64 k0) ∧ w'.cell? ⟨b1, o1 + k * 3 + 1, none⟩ = some (.int .i64 i0) ∧ w'.cell? ⟨b1, o1 + k * 3 + 2, none⟩ = some (.string s0) ∧ w'.cell? ⟨b2, o2 + k * 3, none⟩ = some (.int .i64 k1) ∧ w'.cell? ⟨b2, o2 + k * 3 + 1, none⟩ = some (.int .i64 i1) ∧ w'.cell? ⟨b2, o2 + k * 3 + 2, none⟩ = some (.string s1) ∧ Hid (Below w.heap.size w w')) (first | exact keepAt (by assumption) (by assumption) | exact keepAt (Below.refl _ _).drew (by assumption)) (first | (go_at_call 19; refine (C _).mono ?_; rintro e w' ⟨rfl, hb⟩))
          have HS1 : w'.cell? ⟨b1, o1 + k * 3, none⟩ = some (.int .i64 k0) ∧ w'.cell? ⟨b1, o1 + k * 3 + 1, none⟩ = some (.int .i64 i0) ∧ w'.cell? ⟨b1, o1 + k * 3 + 2, none⟩ = some (.string s0) ∧ w'.cell? ⟨b2, o2 + k * 3, none⟩ = some (.int .i64 k1) ∧ w'.cell? ⟨b2, o2 + k * 3 + 1, none⟩ = some (.int .i64 i1) ∧ w'.cell? ⟨b2, o2 + k * 3 + 2, none⟩ = some (.string s1) ∧ Hid (Below w.heap.size w w') := by assumption
          obtain ⟨_, _, _, _, _, _, HB1⟩ := HS1
          go_wp2
          go_roundw
          case rel => exact ⟨k + 1, by omega, by go_num, HT', HB1⟩
          case measure => simp [RowKit.intOf]; omega
        | false =>
          have HT' : Hid (l ≠ r) := HF.out (fun e => by rw [(sameV_iff _ _).2 e] at hq; cases hq)
          rw [show (decide (k0 = k1) && decide (i0 = i1) && (s0.toList == s1.toList)) = false from hq] at C
          clear HQ HF hq hT hB
          have b1' : (0 : Int) ≤ (k : Int) := by omega
          have b2' : (k : Int) < (n : Int) := by omega
          go_wp2
          go_region_held3 (fun w' => w'.cell? ⟨b1, o1 + k * 3, none⟩ = some (.int .i64 k0) ∧ w'.cell? ⟨b1, o1 + k * 3 + 1, none⟩ = some (.int .i64 i0) ∧ w'.cell? ⟨b1, o1 + k * 3 + 2, none⟩ = some (.string s0) ∧ w'.cell? ⟨b2, o2 + k * 3, none⟩ = some (.int .i64 k1) ∧ w'.cell? ⟨b2, o2 + k * 3 + 1, none⟩ = some (.int .i64 i1) ∧ w'.cell? ⟨b2, o2 + k * 3 + 2, none⟩ = some (.string s1) ∧ Hid (Below w.heap.size w w')) (first | exact keepAt (by assumption) (by assumption) | exact keepAt (Below.refl _ _).drew (by assumption)) (first | (go_at_call 19; refine (C _).mono ?_; rintro e w' ⟨rfl, hb⟩))
          have HS1 : w'.cell? ⟨b1, o1 + k * 3, none⟩ = some (.int .i64 k0) ∧ w'.cell? ⟨b1, o1 + k * 3 + 1, none⟩ = some (.int .i64 i0) ∧ w'.cell? ⟨b1, o1 + k * 3 + 2, none⟩ = some (.string s0) ∧ w'.cell? ⟨b2, o2 + k * 3, none⟩ = some (.int .i64 k1) ∧ w'.cell? ⟨b2, o2 + k * 3 + 1, none⟩ = some (.int .i64 i1) ∧ w'.cell? ⟨b2, o2 + k * 3 + 2, none⟩ = some (.string s1) ∧ Hid (Below w.heap.size w w') := by assumption
          obtain ⟨_, _, _, _, _, _, HB1⟩ := HS1
          go_wp2
          go_ret
          have e : sameVs l r = false := by
            cases h : sameVs l r with
            | false => rfl
            | true => exact absurd ((sameVs_iff _ _).1 h) HT'.out
          exact ⟨by rw [e]; rfl, HB1.out⟩
      · have HE : Hid (sameVs l r = true) := by
          have h1 := hT.out
          rw [List.take_of_length_le (by rw [HN.out]; omega), List.take_of_length_le (by rw [HM.out]; omega)] at h1
          exact (sameVs_iff _ _).2 h1
        go_wp2
        go_ret
        exact ⟨by rw [HE.out]; rfl, hB.out⟩
  · have HE : Hid (sameVs l r = false) := by
      show _ = _
      cases h : sameVs l r with
      | false => rfl
      | true => exact absurd ((sameVs_iff _ _).1 h) (fun e => hnm (by rw [← hn, ← hm, e]))
    have hbq : ((n : Int) != (m : Int)) = true := by simp; omega
    clear hn hm hnm
    go_enter Try.func16, Try.ntmps16
    go_wp2
    go_ret
    exact ⟨by rw [HE.out]; rfl, Below.refl _ _⟩

set_option maxHeartbeats 400000 in
theorem heavy_long (a : Option Addr) (n cap : Nat) (w : World) (hn : 40 < n) (hb : n ≤ 9223372036854775807) :
    Calls Try.prog 8 #[.slice a n cap] w fun e w' => e = .returned (.bool true) ∧ w' = w := by
  go_enter Try.func8, Try.ntmps8
  go_wp2
  go_ret
  exact ⟨rfl, rfl⟩

/-- Heavy's answer of at most 40 values. -/
def heavyV (vs : List PV) : Bool := longT (vs.map (·.s))

set_option maxHeartbeats 400000 in
theorem long_vals (a : Option Addr) (n cap : Nat) (vs : List PV) (w : World) (hn : vs.length = n) (h3 : n ≤ 1000) (hr : RdV w a vs) :
    Calls Try.prog 7 #[.slice a n cap] w fun e w' => e = .returned (.bool (heavyV vs)) ∧ w' = w := by
  have HN : Hid (vs.length = n) := hn
  clear hn
  go_enter Try.func7, Try.ntmps7
  go_wp2
  go_loop [3] (fun i => ∃ k : Nat, k ≤ n ∧ i = .int .i64 k ∧ Hid (heavyV (vs.take k) = false)) (fun i => n - (RowKit.intOf i).toNat)
  case atStart => exact ⟨0, Nat.zero_le _, rfl, rfl⟩
  case round =>
    obtain ⟨k, hk, rfl, hT⟩ := hrel
    by_cases hlt : k < n
    · have hkl : k < vs.length := by rw [HN.out]; exact hlt
      obtain ⟨b, off, rfl, hc⟩ := hr (by omega)
      have hck := (hc k hkl).2.2
      have HS : Hid (heavyV (vs.take (k + 1)) = decide (300 < vs[k].s.size)) := by
        have h := hT.out
        unfold heavyV longT at h ⊢
        show _ = _
        rw [List.take_succ_eq_append_getElem hkl, List.map_append, List.any_append, h]
        simp
      have HX : Hid (300 < vs[k].s.size → heavyV vs = true) := fun h => by
        unfold heavyV longT
        rw [List.any_eq_true]
        exact ⟨_, List.mem_map_of_mem (List.getElem_mem hkl), by simpa using h⟩
      clear hc hr
      generalize vs[k].s = s at *
      by_cases hs : 300 < s.size
      · have HX' : Hid (heavyV vs = true) := HX.out hs
        go_wp2
        go_ret
        exact ⟨by rw [HX'.out]; rfl, rfl⟩
      · have HS' : Hid (heavyV (vs.take (k + 1)) = false) := by rw [HS.out]; show _ = _; simpa using hs
        go_wp2
        go_round
        case rel => exact ⟨k + 1, by omega, by go_num, HS'⟩
        case measure => simp [RowKit.intOf]; omega
    · have h := hT.out
      rw [List.take_of_length_le (by rw [HN.out]; omega)] at h
      have HH : Hid (heavyV vs = false) := h
      clear h
      go_wp2
      go_ret
      exact ⟨by rw [HH.out]; rfl, rfl⟩

set_option maxHeartbeats 400000 in
theorem heavy_few (a : Option Addr) (n cap : Nat) (vs : List PV) (w : World) (hn : vs.length = n) (h40 : n ≤ 40) (hr : RdV w a vs) :
    Calls Try.prog 8 #[.slice a n cap] w fun e w' => e = .returned (.bool (heavyV vs)) ∧ w' = w := by
  have HN : Hid (vs.length = n) := hn
  have hd : decide ((40 : Int) < (n : Int)) = false := by simp; omega
  clear hn
  cases hv : heavyV vs
  all_goals
    go_enter Try.func8, Try.ntmps8
    go_wp2_with fail
    refine (long_vals a n cap vs _ HN.out (by omega) hr).mono ?_
    rintro e w1 ⟨rfl, rfl⟩
    rw [hv]
    go_wp2
    go_ret
    exact ⟨rfl, rfl⟩

end Go.Proofs.Ytmolklaammfbmaa
