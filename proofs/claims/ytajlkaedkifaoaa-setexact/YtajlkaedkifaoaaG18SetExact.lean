/-
  Texts of the proof of SetExact, one behind the other.
-/
import Derived.Test.YtajlkaedkifaoaaRows
import Derived.Test.YtajlkaedkifaoaaG16SetExact
import Derived.Test.YtajlkaedkifaoaaG11SetExact
import Derived.Test.YtajlkaedkifaoaaG10SetExact
import Derived.Test.YtajlkaedkifaoaaG17SetExact
import Derived.WalkKit
import Derived.WalkSpells
import Derived.WalkLawsBesides
import Derived.Deep.QuietTactic
import Derived.BigQuiet
import Derived.Deep.RegionHeld3
namespace Go.Proofs.Ytajlkaedkifaoaa
open Go.RowKit Go.Lib
set_option linter.unusedVariables false

set_option maxHeartbeats 400000 in
theorem twinRow_any (a : Option Addr) (len cap : Nat) (vs : List PV) (w : World) (hlen : vs.length = len) (hl : len ≤ 65536) (hnil : a = none → vs = [] ∧ cap = 0) (hr : RdV w a vs) :
    Calls Try.prog 31 #[.slice a len cap] w fun e w' => ∃ a' cap', e = .returned (.slice a' len cap') ∧ len ≤ cap' ∧ OwnV w' w.heap.size (.slice a' len cap') vs ∧ (a' = none → vs = [] ∧ cap' = 0) ∧ RdV w' a' vs ∧ Below w.heap.size w w' := by
  obtain ⟨a', cap', w', hrun, hc, ho, hrd, hnl, _, hb⟩ := run_append_vals (ty := 23) (OwnV.nought w w.heap.size) (n := 0) rfl hlen hr hnil (by omega) hl (Nat.le_refl _)
  rw [Nat.zero_add, List.nil_append] at *
  clear hlen hr hnil
  go_enter Try.func31, Try.ntmps31
  go_wp2_with (at_builtin; refine wpList_append_run rfl _ _ 23 23 rfl _ _ _ _ rfl rfl hrun ?_)
  go_ret
  exact ⟨a', cap', rfl, hc, ho, hnl, hrd, hb⟩

theorem pv_take_succ {l m : List PV} {k : Nat} (h : l.take k = m.take k) (hl : k < l.length) (hm : k < m.length) (hx : l[k] = m[k]) : l.take (k + 1) = m.take (k + 1) := by
  rw [List.take_succ_eq_append_getElem hl, List.take_succ_eq_append_getElem hm, h, hx]

theorem pv_ne_of_at {l m : List PV} {k : Nat} (hl : k < l.length) (hm : k < m.length) (hx : l[k] ≠ m[k]) : l ≠ m := by
  intro e
  subst e
  exact hx rfl

/-- raddlekeep.Value's answer. -/
def sameV (v u : PV) : Bool := decide (v.k = u.k) && decide (v.i = u.i) && (v.s.toList == u.s.toList)

theorem sameV_iff (v u : PV) : sameV v u = true ↔ v = u := by
  unfold sameV
  simp only [Bool.and_eq_true, decide_eq_true_eq, beq_iff_eq]
  constructor
  · rintro ⟨⟨h1, h2⟩, h3⟩
    exact PV.eq_of h1 h2 h3
  · rintro rfl
    exact ⟨⟨rfl, rfl⟩, rfl⟩

/-- raddlekeep.Row's answer. -/
def sameVs (l m : List PV) : Bool := l.length == m.length && (l.zip m).all fun p => sameV p.1 p.2

theorem sameVs_iff : ∀ (l m : List PV), sameVs l m = true ↔ l = m
  | [], [] => by simp [sameVs]
  | [], y :: m => by simp [sameVs]
  | x :: l, [] => by simp [sameVs]
  | x :: l, y :: m => by
    have h1 := sameVs_iff l m
    have h2 := sameV_iff x y
    simp only [sameVs, List.length_cons, List.zip_cons_cons, List.all_cons, Bool.and_eq_true, beq_iff_eq, Nat.add_right_cancel_iff, List.cons.injEq] at h1 ⊢
    constructor
    · rintro ⟨hl, hx, hr⟩
      exact ⟨h2.1 hx, h1.1 ⟨hl, hr⟩⟩
    · rintro ⟨hx, hr⟩
      have := h1.2 hr
      exact ⟨this.1, h2.2 hx, this.2⟩

/-- Two values of two rows stay. -/
theorem keepAt {W w w' : World} {b c o p : Nat} {k0 i0 k1 i1 : Int} {s0 s1 : ByteArray}
    (hb : Below w.heap.size w w')
    (h : w.cell? ⟨b, o, none⟩ = some (.int .i64 k0) ∧ w.cell? ⟨b, o + 1, none⟩ = some (.int .i64 i0) ∧ w.cell? ⟨b, o + 2, none⟩ = some (.string s0) ∧ w.cell? ⟨c, p, none⟩ = some (.int .i64 k1) ∧ w.cell? ⟨c, p + 1, none⟩ = some (.int .i64 i1) ∧ w.cell? ⟨c, p + 2, none⟩ = some (.string s1) ∧ Hid (Below W.heap.size W w)) :
    w'.cell? ⟨b, o, none⟩ = some (.int .i64 k0) ∧ w'.cell? ⟨b, o + 1, none⟩ = some (.int .i64 i0) ∧ w'.cell? ⟨b, o + 2, none⟩ = some (.string s0) ∧ w'.cell? ⟨c, p, none⟩ = some (.int .i64 k1) ∧ w'.cell? ⟨c, p + 1, none⟩ = some (.int .i64 i1) ∧ w'.cell? ⟨c, p + 2, none⟩ = some (.string s1) ∧ Hid (Below W.heap.size W w') := by
  obtain ⟨h0, h1, h2, h3, h4, h5, h9⟩ := h
  exact ⟨cell_later hb h0, cell_later hb h1, cell_later hb h2, cell_later hb h3, cell_later hb h4, cell_later hb h5, chain h9.out hb⟩

set_option maxHeartbeats 1000000 in
theorem keepRow_any (a b : Option Addr) (n m cap dap : Nat) (l r : List PV) (w : World) (hn : l.length = n) (hm : r.length = m) (hl : n ≤ 65536) (hr : m ≤ 65536) (ha : RdV w a l) (hb : RdV w b r) :
    Calls Try.prog 28 #[.slice a n cap, .slice b m dap] w fun e w' => e = .returned (.bool (sameVs l r)) ∧ Below w.heap.size w w' := by
  by_cases hnm : n = m
  · subst hnm
    have HN : Hid (l.length = n) := hn
    have HM : Hid (r.length = n) := hm
    clear hn hm
    go_enter Try.func28, Try.ntmps28
    go_wp2
    go_loopw [5] (fun i wr => ∃ k : Nat, k ≤ n ∧ i = .int .i64 k ∧ Hid (l.take k = r.take k) ∧ Hid (Below w.heap.size w wr)) (fun i _ => n - (RowKit.intOf i).toNat)
    case atStart => exact ⟨0, Nat.zero_le _, rfl, by simp [Hid], Below.refl _ _⟩
    case round =>
      obtain ⟨k, hk, rfl, hT, hB⟩ := hrel
      by_cases hlt : k < n
      · have hkl : k < l.length := by rw [HN.out]; exact hlt
        have hkr : k < r.length := by rw [HM.out]; exact hlt
        obtain ⟨b1, o1, rfl, hc1⟩ := ha (by omega)
        obtain ⟨b2, o2, rfl, hc2⟩ := hb (by omega)
        obtain ⟨x0, x1, x2⟩ := hc1 k hkl
        obtain ⟨y0, y1, y2⟩ := hc2 k hkr
        have HS := And.intro (cell_later hB.out x0) (And.intro (cell_later hB.out x1) (And.intro (cell_later hB.out x2) (And.intro (cell_later hB.out y0) (And.intro (cell_later hB.out y1) (And.intro (cell_later hB.out y2) hB)))))
        have HQ : Hid (l[k] = r[k] → l.take (k + 1) = r.take (k + 1)) := fun hq => pv_take_succ hT.out hkl hkr hq
        have HF : Hid (l[k] ≠ r[k] → l ≠ r) := fun hq => pv_ne_of_at hkl hkr hq
        clear hc1 hc2 ha hb x0 x1 x2 y0 y1 y2
        generalize l[k] = x at *
        generalize r[k] = y at *
        clear hkl hkr
        obtain ⟨k0, i0, s0⟩ := x
        obtain ⟨k1, i1, s1⟩ := y
        simp only at HS
        have C := keepValue_any k0 i0 s0 k1 i1 s1
        cases hq : sameV ⟨k0, i0, s0⟩ ⟨k1, i1, s1⟩ with
        | true =>
          have HT' : Hid (l.take (k + 1) = r.take (k + 1)) := HQ.out ((sameV_iff _ _).1 hq)
          rw [show (decide (k0 = k1) && decide (i0 = i1) && (s0.toList == s1.toList)) = true from hq] at C
          clear HQ HF hq hT hB
          have b1' : (0 : Int) ≤ (k : Int) := by omega
          have b2' : (k : Int) < (n : Int) := by omega
          go_wp2
          go_region_held3 (fun w' => w'.cell? ⟨b1, o1 + k * 3, none⟩ = some (.int .i64 k0) ∧ w'.cell? ⟨b1, o1 + k * 3 + 1, none⟩ = some (.int .i64 i0) ∧ w'.cell? ⟨b1, o1 + k * 3 + 2, none⟩ = some (.string s0) ∧ w'.cell? ⟨b2, o2 + k * 3, none⟩ = some (.int .i64 k1) ∧ w'.cell? ⟨b2, o2 + k * 3 + 1, none⟩ = some (.int .i64 i1) ∧ w'.cell? ⟨b2, o2 + k * 3 + 2, none⟩ = some (.string s1) ∧ Hid (Below w.heap.size w w')) (first | exact keepAt (by assumption) (by assumption) | exact keepAt (Below.refl _ _).drew (by assumption)) (first | (go_at_call 48; refine (C _).mono ?_; rintro e w' ⟨rfl, hb⟩))
          have HS1 : w'.cell? ⟨b1, o1 + k * 3, none⟩ = some (.int .i64 k0) ∧ w'.cell? ⟨b1, o1 + k * 3 + 1, none⟩ = some (.int .i64 i0) ∧ w'.cell? ⟨b1, o1 + k * 3 + 2, none⟩ = some (.string s0) ∧ w'.cell? ⟨b2, o2 + k * 3, none⟩ = some (.int .i64 k1) ∧ w'.cell? ⟨b2, o2 + k * 3 + 1, none⟩ = some (.int .i64 i1) ∧ w'.cell? ⟨b2, o2 + k * 3 + 2, none⟩ = some (.string s1) ∧ Hid (Below w.heap.size w w') := by assumption
          obtain ⟨_, _, _, _, _, _, HB1⟩ := HS1
          go_wp2
          go_roundw
          case rel => exact ⟨k + 1, by omega, by go_num, HT', HB1⟩
          case measure => simp [RowKit.intOf]; omega
        | false =>
          have HT' : Hid (l ≠ r) := HF.out (fun e => by rw [(sameV_iff _ _).2 e] at hq; cases hq)
          rw [show (decide (k0 = k1) && decide (i0 = i1) && (s0.toList == s1.toList)) = false from hq] at C
          clear HQ HF hq hT hB
          have b1' : (0 : Int) ≤ (k : Int) := by omega
          have b2' : (k : Int) < (n : Int) := by omega
          go_wp2
          go_region_held3 (fun w' => w'.cell? ⟨b1, o1 + k * 3, none⟩ = some (.int .i64 k0) ∧ w'.cell? ⟨b1, o1 + k * 3 + 1, none⟩ = some (.int .i64 i0) ∧ w'.cell? ⟨b1, o1 + k * 3 + 2, none⟩ = some (.string s0) ∧ w'.cell? ⟨b2, o2 + k * 3, none⟩ = some (.int .i64 k1) ∧ w'.cell? ⟨b2, o2 + k * 3 + 1, none⟩ = some (.int .i64 i1) ∧ w'.cell? ⟨b2, o2 + k * 3 + 2, none⟩ = some (.string s1) ∧ Hid (Below w.heap.size w w')) (first | exact keepAt (by assumption) (by assumption) | exact keepAt (Below.refl _ _).drew (by assumption)) (first | (go_at_call 48; refine (C _).mono ?_; rintro e w' ⟨rfl, hb⟩))
          have HS1 : w'.cell? ⟨b1, o1 + k * 3, none⟩ = some (.int .i64 k0) ∧ w'.cell? ⟨b1, o1 + k * 3 + 1, none⟩ = some (.int .i64 i0) ∧ w'.cell? ⟨b1, o1 + k * 3 + 2, none⟩ = some (.string s0) ∧ w'.cell? ⟨b2, o2 + k * 3, none⟩ = some (.int .i64 k1) ∧ w'.cell? ⟨b2, o2 + k * 3 + 1, none⟩ = some (.int .i64 i1) ∧ w'.cell? ⟨b2, o2 + k * 3 + 2, none⟩ = some (.string s1) ∧ Hid (Below w.heap.size w w') := by assumption
          obtain ⟨_, _, _, _, _, _, HB1⟩ := HS1
          go_wp2
          go_ret
          have e : sameVs l r = false := by
            cases h : sameVs l r with
            | false => rfl
            | true => exact absurd ((sameVs_iff _ _).1 h) HT'.out
          exact ⟨by rw [e]; rfl, HB1.out⟩
      · have HE : Hid (sameVs l r = true) := by
          have h1 := hT.out
          rw [List.take_of_length_le (by rw [HN.out]; omega), List.take_of_length_le (by rw [HM.out]; omega)] at h1
          exact (sameVs_iff _ _).2 h1
        go_wp2
        go_ret
        exact ⟨by rw [HE.out]; rfl, hB.out⟩
  · have HE : Hid (sameVs l r = false) := by
      show _ = _
      cases h : sameVs l r with
      | false => rfl
      | true => exact absurd ((sameVs_iff _ _).1 h) (fun e => hnm (by rw [← hn, ← hm, e]))
    have hbq : ((n : Int) != (m : Int)) = true := by simp; omega
    clear hn hm hnm
    go_enter Try.func28, Try.ntmps28
    go_wp2
    go_ret
    exact ⟨by rw [HE.out]; rfl, Below.refl _ _⟩

set_option maxHeartbeats 400000 in
theorem heavy_long (a : Option Addr) (n cap : Nat) (w : World) (hn : 40 < n) (hb : n ≤ 9223372036854775807) :
    Calls Try.prog 9 #[.slice a n cap] w fun e w' => e = .returned (.bool true) ∧ w' = w := by
  go_enter Try.func9, Try.ntmps9
  go_wp2
  go_ret
  exact ⟨rfl, rfl⟩

/-- Heavy's answer of at most 40 values. -/
def heavyV (vs : List PV) : Bool := longT (vs.map (·.s))

set_option maxHeartbeats 400000 in
theorem long_vals (a : Option Addr) (n cap : Nat) (vs : List PV) (w : World) (hn : vs.length = n) (h3 : n ≤ 1000) (hr : RdV w a vs) :
    Calls Try.prog 30 #[.slice a n cap] w fun e w' => e = .returned (.bool (heavyV vs)) ∧ w' = w := by
  have HN : Hid (vs.length = n) := hn
  clear hn
  go_enter Try.func30, Try.ntmps30
  go_wp2
  go_loop [3] (fun i => ∃ k : Nat, k ≤ n ∧ i = .int .i64 k ∧ Hid (heavyV (vs.take k) = false)) (fun i => n - (RowKit.intOf i).toNat)
  case atStart => exact ⟨0, Nat.zero_le _, rfl, rfl⟩
  case round =>
    obtain ⟨k, hk, rfl, hT⟩ := hrel
    by_cases hlt : k < n
    · have hkl : k < vs.length := by rw [HN.out]; exact hlt
      obtain ⟨b, off, rfl, hc⟩ := hr (by omega)
      have hck := (hc k hkl).2.2
      have HS : Hid (heavyV (vs.take (k + 1)) = decide (300 < vs[k].s.size)) := by
        have h := hT.out
        unfold heavyV longT at h ⊢
        show _ = _
        rw [List.take_succ_eq_append_getElem hkl, List.map_append, List.any_append, h]
        simp
      have HX : Hid (300 < vs[k].s.size → heavyV vs = true) := fun h => by
        unfold heavyV longT
        rw [List.any_eq_true]
        exact ⟨_, List.mem_map_of_mem (List.getElem_mem hkl), by simpa using h⟩
      clear hc hr
      generalize vs[k].s = s at *
      by_cases hs : 300 < s.size
      · have HX' : Hid (heavyV vs = true) := HX.out hs
        go_wp2
        go_ret
        exact ⟨by rw [HX'.out]; rfl, rfl⟩
      · have HS' : Hid (heavyV (vs.take (k + 1)) = false) := by rw [HS.out]; show _ = _; simpa using hs
        go_wp2
        go_round
        case rel => exact ⟨k + 1, by omega, by go_num, HS'⟩
        case measure => simp [RowKit.intOf]; omega
    · have h := hT.out
      rw [List.take_of_length_le (by rw [HN.out]; omega)] at h
      have HH : Hid (heavyV vs = false) := h
      clear h
      go_wp2
      go_ret
      exact ⟨by rw [HH.out]; rfl, rfl⟩

set_option maxHeartbeats 400000 in
theorem heavy_few (a : Option Addr) (n cap : Nat) (vs : List PV) (w : World) (hn : vs.length = n) (h40 : n ≤ 40) (hr : RdV w a vs) :
    Calls Try.prog 9 #[.slice a n cap] w fun e w' => e = .returned (.bool (heavyV vs)) ∧ w' = w := by
  have HN : Hid (vs.length = n) := hn
  have hd : decide ((40 : Int) < (n : Int)) = false := by simp; omega
  clear hn
  cases hv : heavyV vs
  all_goals
    go_enter Try.func9, Try.ntmps9
    go_wp2_with fail
    refine (long_vals a n cap vs _ HN.out (by omega) hr).mono ?_
    rintro e w1 ⟨rfl, rfl⟩
    rw [hv]
    go_wp2
    go_ret
    exact ⟨rfl, rfl⟩

end Go.Proofs.Ytajlkaedkifaoaa

namespace Go.Proofs.Ytajlkaedkifaoaa
open Go.RowKit Go.Lib
set_option linter.unusedVariables false

/-- Row's answer: 0, 2 (too many), 1. -/
def errR (vs : List PV) : Int := if vs.all okV = true then 0 else 1

theorem errR_ok {vs : List PV} (h : vs.all okV = true) : errR vs = 0 := by simp only [errR, h, if_true]
theorem errR_no {vs : List PV} (h : vs.all okV = false) : errR vs = 1 := by simp only [errR, h]; rfl

def chkR (vs : List PV) : Int := if 12 < vs.length then 2 else errR vs

theorem all_take_succ {f : PV → Bool} {vs : List PV} {k : Nat} (hk : k < vs.length) (h : (vs.take k).all f = true) : (vs.take (k + 1)).all f = f vs[k] := by
  rw [List.take_succ_eq_append_getElem hk, List.all_append, h]
  simp

theorem all_false_at {f : PV → Bool} {vs : List PV} {k : Nat} (hk : k < vs.length) (h : f vs[k] = false) : vs.all f = false := by
  rw [List.all_eq_false]
  exact ⟨_, List.getElem_mem hk, by simp [h]⟩

set_option maxHeartbeats 400000 in
theorem rRow_long (a : Option Addr) (n cap : Nat) (w : World) (h : 12 < n) (hb : n ≤ 65536) :
    Calls Try.prog 27 #[.slice a n cap] w fun e w' => e = .returned (.int .i64 2) ∧ Below w.heap.size w w' := by
  go_enter Try.func27, Try.ntmps27
  go_wp2
  go_ret
  exact ⟨rfl, Below.refl _ _⟩

set_option maxHeartbeats 400000 in
theorem rRow_few (a : Option Addr) (n cap : Nat) (vs : List PV) (w : World) (hn : vs.length = n) (h : n ≤ 12) (hr : RdV w a vs) :
    Calls Try.prog 27 #[.slice a n cap] w fun e w' => e = .returned (.int .i64 (errR vs)) ∧ Below w.heap.size w w' := by
  have HN : Hid (vs.length = n) := hn
  clear hn
  go_enter Try.func27, Try.ntmps27
  go_wp2
  go_loopw [3] (fun i wr => ∃ k : Nat, k ≤ n ∧ i = .int .i64 k ∧ Hid ((vs.take k).all okV = true) ∧ Hid (Below w.heap.size w wr)) (fun i _ => n - (RowKit.intOf i).toNat)
  case atStart => exact ⟨0, Nat.zero_le _, rfl, rfl, Below.refl _ _⟩
  case round =>
    obtain ⟨k, hk, rfl, hT, hB⟩ := hrel
    by_cases hlt : k < n
    · have hkl : k < vs.length := by rw [HN.out]; exact hlt
      obtain ⟨b, off, rfl, hc⟩ := hr (by omega)
      obtain ⟨x0, x1, x2⟩ := hc k hkl
      replace x0 := cell_later hB.out x0
      replace x1 := cell_later hB.out x1
      replace x2 := cell_later hB.out x2
      have HS : Hid ((vs.take (k + 1)).all okV = okV vs[k]) := all_take_succ hkl hT.out
      have HX : Hid (okV vs[k] = false → vs.all okV = false) := fun h => all_false_at hkl h
      clear hc hr
      generalize vs[k] = x at *
      obtain ⟨k0, i0, s0⟩ := x
      simp only at x0 x1 x2
      cases hok : okV ⟨k0, i0, s0⟩ with
      | true =>
        rw [hok] at HS
        go_wp2_with fail
        refine (rValue_of _ _ _ _ hok).mono ?_
        rintro e w1 ⟨rfl, hb⟩
        go_wp2
        go_roundw
        case rel => exact ⟨k + 1, by omega, by go_num, HS, chain hB.out hb⟩
        case measure => simp [RowKit.intOf]; omega
      | false =>
        have HX' : Hid (vs.all okV = false) := HX.out hok
        go_wp2_with fail
        refine (rValue_of _ _ _ _ hok).mono ?_
        rintro e w1 ⟨rfl, hb⟩
        go_wp2
        go_ret
        exact ⟨by rw [errR_no HX'.out]; rfl, chain hB.out hb⟩
    · have h1 := hT.out
      rw [List.take_of_length_le (by rw [HN.out]; omega)] at h1
      have HH : Hid (vs.all okV = true) := h1
      clear h1
      go_wp2
      go_ret
      exact ⟨by rw [errR_ok HH.out]; rfl, hB.out⟩

theorem rRow_any (a : Option Addr) (n cap : Nat) (vs : List PV) (w : World) (hn : vs.length = n) (h : n ≤ 65536) (hr : RdV w a vs) :
    Calls Try.prog 27 #[.slice a n cap] w fun e w' => e = .returned (.int .i64 (chkR vs)) ∧ Below w.heap.size w w' := by
  unfold chkR
  by_cases h12 : 12 < n
  · rw [if_pos (by omega)]
    exact rRow_long a n cap w h12 h
  · rw [if_neg (by omega)]
    exact rRow_few a n cap vs w hn (by omega) hr

/-- How two rows are ordered. -/
def cmpR : List PV → List PV → Int
  | [], [] => 0
  | [], _ :: _ => -1
  | _ :: _, [] => 1
  | v :: l, u :: m => if cmpV v u ≠ 0 then cmpV v u else cmpR l m

theorem cmpR_step {l r : List PV} {k : Nat} (hl : k < l.length) (hr : k < r.length) : cmpR (l.drop k) (r.drop k) = if cmpV l[k] r[k] ≠ 0 then cmpV l[k] r[k] else cmpR (l.drop (k + 1)) (r.drop (k + 1)) := by
  rw [List.drop_eq_getElem_cons hl, List.drop_eq_getElem_cons hr, cmpR]

theorem cmpR_end {l r : List PV} {k : Nat} (hl : k ≤ l.length) (hr : k ≤ r.length) (h : ¬ (k < l.length ∧ k < r.length)) : cmpR (l.drop k) (r.drop k) = if l.length = r.length then 0 else sgnB (decide (l.length < r.length)) := by
  by_cases h1 : k = l.length
  · rw [List.drop_of_length_le (l := l) (by omega)]
    by_cases h2 : k = r.length
    · rw [List.drop_of_length_le (by omega), if_pos (by omega)]
      rfl
    · rw [if_neg (by omega), List.drop_eq_getElem_cons (l := r) (by omega), show decide (l.length < r.length) = true from by simp; omega]
      rfl
  · have h2 : k = r.length := by omega
    rw [List.drop_of_length_le (l := r) (by omega), if_neg (by omega), List.drop_eq_getElem_cons (l := l) (by omega), show decide (l.length < r.length) = false from by simp; omega]
    rfl

set_option maxHeartbeats 1000000 in
theorem rCompareRows_any (a b : Option Addr) (n m cap dap : Nat) (l r : List PV) (w : World) (hn : l.length = n) (hm : r.length = m) (hl : n ≤ 65536) (hr : m ≤ 65536) (ha : RdV w a l) (hb : RdV w b r) :
    Calls Try.prog 39 #[.slice a n cap, .slice b m dap] w fun e w' => e = .returned (.int .i64 (cmpR l r)) ∧ Below w.heap.size w w' := by
  have HN : Hid (l.length = n) := hn
  have HM : Hid (r.length = m) := hm
  clear hn hm
  go_enter Try.func39, Try.ntmps39
  go_wp2
  go_loopw [5] (fun i wr => ∃ k : Nat, k ≤ n ∧ k ≤ m ∧ i = .int .i64 k ∧ Hid (cmpR l r = cmpR (l.drop k) (r.drop k)) ∧ Hid (Below w.heap.size w wr)) (fun i _ => n - (RowKit.intOf i).toNat)
  case atStart => exact ⟨0, Nat.zero_le _, Nat.zero_le _, rfl, rfl, Below.refl _ _⟩
  case round =>
    obtain ⟨k, hk, hk', rfl, hT, hB⟩ := hrel
    by_cases hlt : k < n ∧ k < m
    · obtain ⟨hlt1, hlt2⟩ := hlt
      have hkl : k < l.length := by rw [HN.out]; exact hlt1
      have hkr : k < r.length := by rw [HM.out]; exact hlt2
      obtain ⟨b1, o1, rfl, hc1⟩ := ha (by omega)
      obtain ⟨b2, o2, rfl, hc2⟩ := hb (by omega)
      obtain ⟨x0, x1, x2⟩ := hc1 k hkl
      obtain ⟨y0, y1, y2⟩ := hc2 k hkr
      have HS := And.intro (cell_later hB.out x0) (And.intro (cell_later hB.out x1) (And.intro (cell_later hB.out x2) (And.intro (cell_later hB.out y0) (And.intro (cell_later hB.out y1) (And.intro (cell_later hB.out y2) hB)))))
      have HQ : Hid (cmpR l r = if cmpV l[k] r[k] ≠ 0 then cmpV l[k] r[k] else cmpR (l.drop (k + 1)) (r.drop (k + 1))) := by
        rw [← cmpR_step hkl hkr]; exact hT
      clear hc1 hc2 ha hb x0 x1 x2 y0 y1 y2
      generalize l[k] = x at *
      generalize r[k] = y at *
      clear hkl hkr
      obtain ⟨k0, i0, s0⟩ := x
      obtain ⟨k1, i1, s1⟩ := y
      simp only at HS
      have C := rCompare_any k0 i0 s0 k1 i1 s1
      generalize cmpV ⟨k0, i0, s0⟩ ⟨k1, i1, s1⟩ = X at *
      have b1' : (0 : Int) ≤ (k : Int) := by omega
      have b2' : (k : Int) < (n : Int) := by omega
      have b3' : (k : Int) < (m : Int) := by omega
      by_cases hX : X = 0
      · subst hX
        have HT' : Hid (cmpR l r = cmpR (l.drop (k + 1)) (r.drop (k + 1))) := by have := HQ.out; rwa [if_neg (by simp)] at this
        clear HQ hT hB
        go_wp2
        go_region_held3 (fun w' => w'.cell? ⟨b1, o1 + k * 3, none⟩ = some (.int .i64 k0) ∧ w'.cell? ⟨b1, o1 + k * 3 + 1, none⟩ = some (.int .i64 i0) ∧ w'.cell? ⟨b1, o1 + k * 3 + 2, none⟩ = some (.string s0) ∧ w'.cell? ⟨b2, o2 + k * 3, none⟩ = some (.int .i64 k1) ∧ w'.cell? ⟨b2, o2 + k * 3 + 1, none⟩ = some (.int .i64 i1) ∧ w'.cell? ⟨b2, o2 + k * 3 + 2, none⟩ = some (.string s1) ∧ Hid (Below w.heap.size w w')) (first | exact keepAt (by assumption) (by assumption) | exact keepAt (Below.refl _ _).drew (by assumption)) (first | (go_at_call 56; refine (C _).mono ?_; rintro e w' ⟨rfl, hb⟩))
        have HS1 : w'.cell? ⟨b1, o1 + k * 3, none⟩ = some (.int .i64 k0) ∧ w'.cell? ⟨b1, o1 + k * 3 + 1, none⟩ = some (.int .i64 i0) ∧ w'.cell? ⟨b1, o1 + k * 3 + 2, none⟩ = some (.string s0) ∧ w'.cell? ⟨b2, o2 + k * 3, none⟩ = some (.int .i64 k1) ∧ w'.cell? ⟨b2, o2 + k * 3 + 1, none⟩ = some (.int .i64 i1) ∧ w'.cell? ⟨b2, o2 + k * 3 + 2, none⟩ = some (.string s1) ∧ Hid (Below w.heap.size w w') := by assumption
        obtain ⟨_, _, _, _, _, _, HB1⟩ := HS1
        go_wp2
        go_roundw
        case rel => exact ⟨k + 1, by omega, by omega, by go_num, HT', HB1⟩
        case measure => simp [RowKit.intOf]; omega
      · have HT' : Hid (cmpR l r = X) := by have := HQ.out; rwa [if_pos hX] at this
        have hXn : (X != 0) = true := by simp [hX]
        clear HQ hT hB hX
        go_wp2
        go_region_held3 (fun w' => w'.cell? ⟨b1, o1 + k * 3, none⟩ = some (.int .i64 k0) ∧ w'.cell? ⟨b1, o1 + k * 3 + 1, none⟩ = some (.int .i64 i0) ∧ w'.cell? ⟨b1, o1 + k * 3 + 2, none⟩ = some (.string s0) ∧ w'.cell? ⟨b2, o2 + k * 3, none⟩ = some (.int .i64 k1) ∧ w'.cell? ⟨b2, o2 + k * 3 + 1, none⟩ = some (.int .i64 i1) ∧ w'.cell? ⟨b2, o2 + k * 3 + 2, none⟩ = some (.string s1) ∧ Hid (Below w.heap.size w w')) (first | exact keepAt (by assumption) (by assumption) | exact keepAt (Below.refl _ _).drew (by assumption)) (first | (go_at_call 56; refine (C _).mono ?_; rintro e w' ⟨rfl, hb⟩))
        have HS1 : w'.cell? ⟨b1, o1 + k * 3, none⟩ = some (.int .i64 k0) ∧ w'.cell? ⟨b1, o1 + k * 3 + 1, none⟩ = some (.int .i64 i0) ∧ w'.cell? ⟨b1, o1 + k * 3 + 2, none⟩ = some (.string s0) ∧ w'.cell? ⟨b2, o2 + k * 3, none⟩ = some (.int .i64 k1) ∧ w'.cell? ⟨b2, o2 + k * 3 + 1, none⟩ = some (.int .i64 i1) ∧ w'.cell? ⟨b2, o2 + k * 3 + 2, none⟩ = some (.string s1) ∧ Hid (Below w.heap.size w w') := by assumption
        obtain ⟨_, _, _, _, _, _, HB1⟩ := HS1
        go_wp2
        go_ret
        exact ⟨by rw [HT'.out]; rfl, HB1.out⟩
    · have HE : Hid (cmpR l r = if n = m then 0 else sgnB (decide (n < m))) := by
        have h1 := cmpR_end (l := l) (r := r) (k := k) (by rw [HN.out]; exact hk) (by rw [HM.out]; exact hk') (by rw [HN.out, HM.out]; exact hlt)
        rw [HN.out, HM.out] at h1
        rw [← h1]
        exact hT
      have hcond : (decide ((k : Int) < (n : Int)) && decide ((k : Int) < (m : Int))) = false := by
        cases h : (decide ((k : Int) < (n : Int)) && decide ((k : Int) < (m : Int))) with
        | false => rfl
        | true => simp at h; exact absurd h (by omega)
      by_cases hnm : n = m
      · subst hnm
        have HE' : Hid (cmpR l r = 0) := by have := HE.out; rwa [if_pos rfl] at this
        have hkn : k = n := by omega
        subst hkn
        clear hcond
        go_wp2
        go_ret
        exact ⟨by rw [HE'.out]; rfl, hB.out⟩
      · have HE' : Hid (cmpR l r = sgnB (decide (n < m))) := by have := HE.out; rwa [if_neg hnm] at this
        have hne : ((n : Int) != (m : Int)) = true := by simp; omega
        by_cases h1 : k < n
        · have h2 : ¬ k < m := by omega
          go_wp2_with fail
          refine (rsign_any _ _).mono ?_
          rintro e w1 ⟨rfl, rfl⟩
          go_wp2
          go_ret
          exact ⟨by rw [HE'.out]; rfl, hB.out⟩
        · go_wp2_with fail
          refine (rsign_any _ _).mono ?_
          rintro e w1 ⟨rfl, rfl⟩
          go_wp2
          go_ret
          exact ⟨by rw [HE'.out]; rfl, hB.out⟩

/-- A value of a row and a number stay. -/
theorem keepFit {W w w' : World} {b c o p : Nat} {k0 i0 k1 : Int} {s0 : ByteArray}
    (hb : Below w.heap.size w w')
    (h : w.cell? ⟨b, o, none⟩ = some (.int .i64 k0) ∧ w.cell? ⟨b, o + 1, none⟩ = some (.int .i64 i0) ∧ w.cell? ⟨b, o + 2, none⟩ = some (.string s0) ∧ w.cell? ⟨c, p, none⟩ = some (.int .i64 k1) ∧ Hid (Below W.heap.size W w)) :
    w'.cell? ⟨b, o, none⟩ = some (.int .i64 k0) ∧ w'.cell? ⟨b, o + 1, none⟩ = some (.int .i64 i0) ∧ w'.cell? ⟨b, o + 2, none⟩ = some (.string s0) ∧ w'.cell? ⟨c, p, none⟩ = some (.int .i64 k1) ∧ Hid (Below W.heap.size W w') := by
  obtain ⟨h0, h1, h2, h3, h9⟩ := h
  exact ⟨cell_later hb h0, cell_later hb h1, cell_later hb h2, cell_later hb h3, chain h9.out hb⟩

/-- Do the values fit the types, one by one? -/
def fitsR : List PV → List Int → Bool
  | [], [] => true
  | v :: l, t :: ts => fitsV v t && fitsR l ts
  | _, _ => false

theorem fitsR_step {l : List PV} {ts : List Int} {k : Nat} (hl : k < l.length) (ht : k < ts.length) : fitsR (l.drop k) (ts.drop k) = (fitsV l[k] ts[k] && fitsR (l.drop (k + 1)) (ts.drop (k + 1))) := by
  rw [List.drop_eq_getElem_cons hl, List.drop_eq_getElem_cons ht, fitsR]

theorem fitsR_len : ∀ {l : List PV} {ts : List Int}, fitsR l ts = true → l.length = ts.length
  | [], [], _ => rfl
  | [], _ :: _, h => by simp [fitsR] at h
  | _ :: _, [], h => by simp [fitsR] at h
  | v :: l, t :: ts, h => by
    simp only [fitsR, Bool.and_eq_true] at h
    simp [fitsR_len h.2]

end Go.Proofs.Ytajlkaedkifaoaa

namespace Go.Proofs.Ytajlkaedkifaoaa
open Go.RowKit Go.Lib
set_option linter.unusedVariables false

/-- Is each a place? -/
def inCols (n : Nat) (cols : List Int) : Bool := cols.all fun c => decide (0 ≤ c ∧ c ≤ (n : Int) - 1)

/-- The values at these places. -/
def pickAt (vs : List PV) (cols : List Int) : List PV := cols.map fun c => vs[c.toNat]?.getD noV

/-- Pick's answer. -/
def pickR (vs : List PV) (cols : List Int) : List PV × Int := if inCols vs.length cols = true then (if 12 < cols.length then ([], 2) else (pickAt vs cols, 0)) else ([], 1)

/-- What a call that makes a row hands back. -/
def GivesR (w w' : World) (e : Ending) (r : List PV × Int) : Prop :=
  ∃ a n cap, e = .returned (.tuple #[.slice a n cap, .int .i64 r.2]) ∧ r.1.length = n ∧ n ≤ 65536 ∧ n ≤ cap ∧ OwnV w' w.heap.size (.slice a n cap) r.1 ∧ RdV w' a r.1 ∧ (a = none → r.1 = [] ∧ cap = 0) ∧ Below w.heap.size w w'

theorem GivesR.of_no {w w' : World} {e : Ending} {k : Int} (h : e = .returned (.tuple #[.slice none 0 0, .int .i64 k]) ∧ w' = w) : GivesR w w' e ([], k) := by
  obtain ⟨he, rfl⟩ := h
  exact ⟨none, 0, 0, he, rfl, by omega, Nat.le_refl _, OwnV.nought _ _, RdV.nil _ _, fun _ => ⟨rfl, rfl⟩, Below.refl _ _⟩

theorem rdV_at (w : World) (g : Nat) (hg : w.heap.size = g) (k i : Int) (s : ByteArray) : RdV (w.alloc (.cells #[.int .i64 k, .int .i64 i, .string s] 65)) (some ⟨g, 0, none⟩) [⟨k, i, s⟩] := by
  have B := Box.made (w := w) (g := g) (k := k) (i := i) (s := s) hg
  obtain ⟨c0, c1, c2, _⟩ := B.cells
  refine fun _ => ⟨g, 0, rfl, fun j hj => ?_⟩
  obtain rfl : j = 0 := by simp at hj; omega
  exact ⟨by simpa using c0, by simpa using c1, by simpa using c2⟩

/-- append(out, v): out the call's own. -/
theorem run_append_val {w : World} {B n : Nat} {v : Value} {xs : List PV} (g : Nat) (hg : w.heap.size = g) (k i : Int) (s : ByteArray) (hown : OwnV w B v xs) (hn : xs.length = n) (h1 : n ≤ 65536) (hB : B ≤ w.heap.size) :
    ∃ a' cap' w', (Builtin.append_ #[23, 23] 23 #[v, .slice (some ⟨g, 0, none⟩) 1 1]).run Try.prog (w.alloc (.cells #[.int .i64 k, .int .i64 i, .string s] 65)) = .ok (.slice a' (n + 1) cap') w' ∧ n + 1 ≤ cap' ∧ OwnV w' B (.slice a' (n + 1) cap') (xs ++ [⟨k, i, s⟩]) ∧ RdV w' a' (xs ++ [⟨k, i, s⟩]) ∧ (a' = none → xs ++ [⟨k, i, s⟩] = [] ∧ cap' = 0) ∧ Below B w w' := by
  obtain ⟨a', cap', w', hrun, hc, ho, hrd, hnl, _, hb⟩ := run_append_vals (ty := 23) (cap := 1) (hown.later (alloc_below w (.cells #[.int .i64 k, .int .i64 i, .string s] 65))) hn (m := 1) rfl (rdV_at w g hg k i s) (fun h => by cases h) h1 (by omega) (Nat.le_trans hB (by simp))
  exact ⟨a', cap', w', hrun, hc, ho, hrd, hnl, ((alloc_below w _).mono hB).trans hb⟩

end Go.Proofs.Ytajlkaedkifaoaa

namespace Go.Proofs.Ytajlkaedkifaoaa
open Go.RowKit Go.Lib
set_option linter.unusedVariables false

/-- Values' bytes, one behind the other. -/
def bytesVs (vs : List PV) : List UInt8 := vs.flatMap bytesV

/-- A right row's bytes. -/
def bytesR (vs : List PV) : List UInt8 := UInt8.ofNat vs.length :: bytesVs vs

theorem bytesV_small {v : PV} (h : okV v = true) : (bytesV v).length ≤ 26 := by
  obtain ⟨k, i, s⟩ := v
  unfold bytesV
  simp only
  by_cases k2 : k = 2
  · simp [k2]
  by_cases k3 : k = 3
  · simp [k3, intBytes_length]
  by_cases k4 : k = 4
  · subst k4
    simp [okV] at h
    simp [textBytes_length]
    omega
  · simp [k2, k3, k4]

theorem bytesVs_small : ∀ {vs : List PV}, vs.all okV = true → (bytesVs vs).length ≤ 26 * vs.length
  | [], _ => by simp [bytesVs]
  | v :: vs, h => by
    simp only [List.all_cons, Bool.and_eq_true] at h
    have h1 := bytesV_small h.1
    have h2 := bytesVs_small h.2
    simp only [bytesVs, List.flatMap_cons, List.length_append, List.length_cons] at h2 ⊢
    omega

theorem bytesVs_take {vs : List PV} {k : Nat} (h : k < vs.length) : bytesVs (vs.take (k + 1)) = bytesVs (vs.take k) ++ bytesV vs[k] := by
  unfold bytesVs
  rw [List.take_succ_eq_append_getElem h, List.flatMap_append]
  simp

theorem all_take {vs : List PV} (h : vs.all okV = true) (k : Nat) : (vs.take k).all okV = true := by
  rw [List.all_eq_true] at h ⊢
  exact fun x hx => h x (List.mem_of_mem_take hx)

end Go.Proofs.Ytajlkaedkifaoaa

namespace Go.Proofs.Ytajlkaedkifaoaa
open Go.RowKit Go.Lib
set_option linter.unusedVariables false

/-- Numbers' cells. -/
def cellsI (N : List Int) : List Value := N.map fun n => .int .i64 n

theorem cellsI_length (N : List Int) : (cellsI N).length = N.length := by simp [cellsI]

theorem cellsI_one (N : List Int) : ∀ u ∈ cellsI N, u.oneCell' = true := by
  intro u hu
  simp [cellsI] at hu
  obtain ⟨n, _, rfl⟩ := hu
  rfl

theorem RdI.src {w : World} {a : Option Addr} {N : List Int} (h : RdI .i64 w a N) (h0 : 0 < N.length) : ∃ ad, a = some ad ∧ ∀ j u, (cellsI N)[j]? = some u → w.cell? (ad.add j) = some u := by
  obtain ⟨b, off, e, hc⟩ := h h0
  refine ⟨_, e, fun j u hu => ?_⟩
  rw [add_plain3]
  have hj : j < N.length := by have := (List.getElem?_eq_some_iff.1 hu).1; rwa [cellsI_length] at this
  simp [cellsI, List.getElem?_eq_getElem hj] at hu
  rw [hc j hj, ← hu]

/-- The slice v is a row of the call's own, from block B on, and its elements are these numbers. -/
def OwnI (w : World) (B : Nat) (v : Value) (N : List Int) : Prop := w.ownsRow B 3 1 v N.length (cellsI N)

theorem OwnI.nought (w : World) (B : Nat) : OwnI w B (.slice none 0 0) [] := World.ownsRow_nil w B 3 1

theorem OwnI.form {w : World} {B : Nat} {v : Value} {N : List Int} (h : OwnI w B v N) : ∃ a cap, v = .slice a N.length cap ∧ N.length ≤ cap ∧ RdI .i64 w a N ∧ (a = none → N = [] ∧ cap = 0) := by
  obtain ⟨_, ⟨hv, hn⟩ | ⟨g, cap, cur, hv, _, hh, hc, _, hs, ht⟩⟩ := h
  · have : N = [] := List.eq_nil_of_length_eq_zero hn
    subst this
    exact ⟨none, 0, hv, Nat.le_refl _, fun h => absurd h (by simp), fun _ => ⟨rfl, rfl⟩⟩
  · refine ⟨_, cap, hv, hc, fun _ => ⟨g, 0, rfl, fun i hi => ?_⟩, fun h => by cases h⟩
    rw [cell_of_row w g _ _ _ _ hh, Nat.zero_add]
    have hx : (cellsI N)[i]? = some (.int .i64 N[i]) := by simp [cellsI, List.getElem?_eq_getElem hi]
    rw [← ht, Nat.mul_one, List.getElem?_take_of_lt hi] at hx
    simpa using hx

theorem OwnI.later {w w' : World} {B : Nat} {v : Value} {N : List Int} (h : OwnI w B v N) (hb : Below w.heap.size w w') : OwnI w' B v N := by
  obtain ⟨h1, h2⟩ := h
  refine ⟨h1, ?_⟩
  rcases h2 with h2 | ⟨g, cap, cur, hv, hg, hh, hc⟩
  · exact .inl h2
  · refine .inr ⟨g, cap, cur, hv, hg, (hb.block g ?_).trans hh, hc⟩
    rcases Nat.lt_or_ge g w.heap.size with h3 | h3
    · exact h3
    · simp [Array.getElem?_eq_none h3] at hh

theorem OwnI.block {w : World} {B : Nat} {v : Value} {N : List Int} (h : OwnI w B v N) : ∀ k, v.ownBlock = some k → B ≤ k := fun k hk => (World.ownsRow.lt h k hk).1

theorem Try.infoI : (Try.prog.info? 3).map (fun i => (i.zero, i.size, i.bytes)) = some (some (.int .i64 0), 1, 8) := by kernel_rfl

theorem ints_take_succ {l m : List Int} {k : Nat} (h : l.take k = m.take k) (hl : k < l.length) (hm : k < m.length) (hx : l[k] = m[k]) : l.take (k + 1) = m.take (k + 1) := by
  rw [List.take_succ_eq_append_getElem hl, List.take_succ_eq_append_getElem hm, h, hx]

/-- A row of so many cells of values, which may be written. -/
def VRow (w : World) (g m : Nat) : Prop := ∃ cs : Array Value, cs.size = m ∧ w.heap[g]? = some (.cells cs 65 (0, 0))

theorem VRow.cell {w : World} {g m i : Nat} (h : VRow w g m) (hi : i < m) : ∃ u, w.cell? ⟨g, i, none⟩ = some u ∧ w.frozen? ⟨g, i, none⟩ = false := by
  obtain ⟨cs, hs, hh⟩ := h
  refine ⟨cs[i]'(by omega), ?_, by simp [World.frozen?, hh]⟩
  rw [cell_of_row w g i _ _ _ hh]
  exact Array.getElem?_eq_getElem (by omega)

theorem VRow.set {w : World} {g m i : Nat} {u : Value} (h : VRow w g m) : VRow (w.setCell ⟨g, i, none⟩ u) g m := by
  obtain ⟨cs, hs, hh⟩ := h
  exact ⟨_, by simpa using hs, Go.heap_setCell_same w g i _ _ u hh⟩

set_option maxHeartbeats 1000000 in
theorem spoilRow_some (g n cap m : Nat) (w : World) (hn : n * 3 ≤ m) (h64 : n ≤ 65536) (hg : VRow w g m) :
    Calls Try.prog 43 #[.slice (some ⟨g, 0, none⟩) n cap] w fun e w' => e = .returned (.tuple #[]) ∧ Below g w w' := by
  go_enter Try.func43, Try.ntmps43
  go_wp2
  go_loopw [2] (fun i wr => ∃ k : Nat, k ≤ n ∧ i = .int .i64 k ∧ VRow wr g m ∧ Hid (Below g w wr)) (fun i _ => n - (RowKit.intOf i).toNat)
  case atStart => exact ⟨0, Nat.zero_le _, rfl, hg, Below.refl _ _⟩
  case round =>
    obtain ⟨k, hk, rfl, hV, hB⟩ := hrel
    by_cases hlt : k < n
    · obtain ⟨u0, c0, f0⟩ := hV.cell (i := k * 3) (by omega)
      obtain ⟨u1, c1, f1⟩ := hV.cell (i := k * 3 + 1) (by omega)
      obtain ⟨u2, c2, f2⟩ := hV.cell (i := k * 3 + 2) (by omega)
      go_wp2
      go_roundw
      case rel => exact ⟨k + 1, by omega, by go_num, ((hV.set).set).set, ((hB.out.setCell (Nat.le_refl _) _).setCell (Nat.le_refl _) _).setCell (Nat.le_refl _) _⟩
      case measure => simp [RowKit.intOf]; omega
    · go_wp2
      go_end0
      exact ⟨rfl, hB.out⟩

set_option maxHeartbeats 400000 in
theorem spoilRow_none (a : Option Addr) (cap : Nat) (w : World) :
    Calls Try.prog 43 #[.slice a 0 cap] w fun e w' => e = .returned (.tuple #[]) ∧ w' = w := by
  go_enter Try.func43, Try.ntmps43
  go_wp2
  go_loop [2] (fun i => i = .int .i64 0) (fun i => 0)
  case atStart => rfl
  case round =>
    subst hrel
    go_wp2
    go_end0
    exact ⟨rfl, rfl⟩

theorem spoilRow_own (a : Option Addr) (n cap B : Nat) (vs : List PV) (w : World) (hn : vs.length = n) (h64 : n ≤ 65536) (ho : OwnV w B (.slice a n cap) vs) :
    Calls Try.prog 43 #[.slice a n cap] w fun e w' => e = .returned (.tuple #[]) ∧ Below B w w' := by
  obtain ⟨_, ⟨hv, h0⟩ | ⟨g, c, cur, hv, hg, hh, hc, _, hs, ht⟩⟩ := ho
  · obtain rfl : n = 0 := by omega
    exact (spoilRow_none a cap w).mono fun e w' ⟨h1, h2⟩ => ⟨h1, by rw [h2]; exact Below.refl _ _⟩
  · simp only [Value.slice.injEq] at hv
    obtain ⟨rfl, _, rfl⟩ := hv
    exact (spoilRow_some g n cap (cap * 3) w (by omega) h64 ⟨cur, hs, hh⟩).mono fun e w' ⟨h1, h2⟩ => ⟨h1, h2.mono hg⟩

end Go.Proofs.Ytajlkaedkifaoaa
