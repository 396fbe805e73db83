/-
  What the document's own Row, CompareRows, RowFits do.
-/
import Derived.Test.YthmclopndmcojaaRows
import Derived.Test.YthmclopndmcojaaRKeep
namespace Go.Proofs.Ythmclopndmcojaa
open Go.RowKit Go.Lib
set_option linter.unusedVariables false

/-- Row's answer: 0, 2 (too many), 1. -/
def errR (vs : List PV) : Int := if vs.all okV = true then 0 else 1

theorem errR_ok {vs : List PV} (h : vs.all okV = true) : errR vs = 0 := by simp only [errR, h, if_true]
theorem errR_no {vs : List PV} (h : vs.all okV = false) : errR vs = 1 := by simp only [errR, h]; rfl

def chkR (vs : List PV) : Int := if 12 < vs.length then 2 else errR vs

theorem all_take_succ {f : PV → Bool} {vs : List PV} {k : Nat} (hk : k < vs.length) (h : (vs.take k).all f = true) : (vs.take (k + 1)).all f = f vs[k] := by
  rw [List.take_succ_eq_append_getElem hk, List.all_append, h]
  simp

theorem all_false_at {f : PV → Bool} {vs : List PV} {k : Nat} (hk : k < vs.length) (h : f vs[k] = false) : vs.all f = false := by
  rw [List.all_eq_false]
  exact ⟨_, List.getElem_mem hk, by simp [h]⟩

set_option maxHeartbeats 400000 in
theorem rRow_long (a : Option Addr) (n cap : Nat) (w : World) (h : 12 < n) (hb : n ≤ 65536) :
    Calls Try.prog 12 #[.slice a n cap] w fun e w' => e = .returned (.int .i64 2) ∧ Below w.heap.size w w' := by
  go_enter Try.func12, Try.ntmps12
  go_wp2
  go_ret
  exact ⟨rfl, Below.refl _ _⟩

set_option maxHeartbeats 400000 in
theorem rRow_few (a : Option Addr) (n cap : Nat) (vs : List PV) (w : World) (hn : vs.length = n) (h : n ≤ 12) (hr : RdV w a vs) :
    Calls Try.prog 12 #[.slice a n cap] w fun e w' => e = .returned (.int .i64 (errR vs)) ∧ Below w.heap.size w w' := by
  have HN : Hid (vs.length = n) := hn
  clear hn
  go_enter Try.func12, Try.ntmps12
  go_wp2
  go_loopw [3] (fun i wr => ∃ k : Nat, k ≤ n ∧ i = .int .i64 k ∧ Hid ((vs.take k).all okV = true) ∧ Hid (Below w.heap.size w wr)) (fun i _ => n - (RowKit.intOf i).toNat)
  case atStart => exact ⟨0, Nat.zero_le _, rfl, rfl, Below.refl _ _⟩
  case round =>
    obtain ⟨k, hk, rfl, hT, hB⟩ := hrel
    by_cases hlt : k < n
    · have hkl : k < vs.length := by rw [HN.out]; exact hlt
      obtain ⟨b, off, rfl, hc⟩ := hr (by omega)
      obtain ⟨x0, x1, x2⟩ := hc k hkl
      replace x0 := cell_later hB.out x0
      replace x1 := cell_later hB.out x1
      replace x2 := cell_later hB.out x2
      have HS : Hid ((vs.take (k + 1)).all okV = okV vs[k]) := all_take_succ hkl hT.out
      have HX : Hid (okV vs[k] = false → vs.all okV = false) := fun h => all_false_at hkl h
      clear hc hr
      generalize vs[k] = x at *
      obtain ⟨k0, i0, s0⟩ := x
      simp only at x0 x1 x2
      cases hok : okV ⟨k0, i0, s0⟩ with
      | true =>
        rw [hok] at HS
        go_wp2_with fail
        refine (rValue_of _ _ _ _ hok).mono ?_
        rintro e w1 ⟨rfl, hb⟩
        go_wp2
        go_roundw
        case rel => exact ⟨k + 1, by omega, by go_num, HS, chain hB.out hb⟩
        case measure => simp [RowKit.intOf]; omega
      | false =>
        have HX' : Hid (vs.all okV = false) := HX.out hok
        go_wp2_with fail
        refine (rValue_of _ _ _ _ hok).mono ?_
        rintro e w1 ⟨rfl, hb⟩
        go_wp2
        go_ret
        exact ⟨by rw [errR_no HX'.out]; rfl, chain hB.out hb⟩
    · have h1 := hT.out
      rw [List.take_of_length_le (by rw [HN.out]; omega)] at h1
      have HH : Hid (vs.all okV = true) := h1
      clear h1
      go_wp2
      go_ret
      exact ⟨by rw [errR_ok HH.out]; rfl, hB.out⟩

theorem rRow_any (a : Option Addr) (n cap : Nat) (vs : List PV) (w : World) (hn : vs.length = n) (h : n ≤ 65536) (hr : RdV w a vs) :
    Calls Try.prog 12 #[.slice a n cap] w fun e w' => e = .returned (.int .i64 (chkR vs)) ∧ Below w.heap.size w w' := by
  unfold chkR
  by_cases h12 : 12 < n
  · rw [if_pos (by omega)]
    exact rRow_long a n cap w h12 h
  · rw [if_neg (by omega)]
    exact rRow_few a n cap vs w hn (by omega) hr

/-- How two rows are ordered. -/
def cmpR : List PV → List PV → Int
  | [], [] => 0
  | [], _ :: _ => -1
  | _ :: _, [] => 1
  | v :: l, u :: m => if cmpV v u ≠ 0 then cmpV v u else cmpR l m

theorem cmpR_step {l r : List PV} {k : Nat} (hl : k < l.length) (hr : k < r.length) : cmpR (l.drop k) (r.drop k) = if cmpV l[k] r[k] ≠ 0 then cmpV l[k] r[k] else cmpR (l.drop (k + 1)) (r.drop (k + 1)) := by
  rw [List.drop_eq_getElem_cons hl, List.drop_eq_getElem_cons hr, cmpR]

theorem cmpR_end {l r : List PV} {k : Nat} (hl : k ≤ l.length) (hr : k ≤ r.length) (h : ¬ (k < l.length ∧ k < r.length)) : cmpR (l.drop k) (r.drop k) = if l.length = r.length then 0 else sgnB (decide (l.length < r.length)) := by
  by_cases h1 : k = l.length
  · rw [List.drop_of_length_le (l := l) (by omega)]
    by_cases h2 : k = r.length
    · rw [List.drop_of_length_le (by omega), if_pos (by omega)]
      rfl
    · rw [if_neg (by omega), List.drop_eq_getElem_cons (l := r) (by omega), show decide (l.length < r.length) = true from by simp; omega]
      rfl
  · have h2 : k = r.length := by omega
    rw [List.drop_of_length_le (l := r) (by omega), if_neg (by omega), List.drop_eq_getElem_cons (l := l) (by omega), show decide (l.length < r.length) = false from by simp; omega]
    rfl

set_option maxHeartbeats 1000000 in
theorem rCompareRows_any (a b : Option Addr) (n m cap dap : Nat) (l r : List PV) (w : World) (hn : l.length = n) (hm : r.length = m) (hl : n ≤ 65536) (hr : m ≤ 65536) (ha : RdV w a l) (hb : RdV w b r) :
    Calls Try.prog 18 #[.slice a n cap, .slice b m dap] w fun e w' => e = .returned (.int .i64 (cmpR l r)) ∧ Below w.heap.size w w' := by
  have HN : Hid (l.length = n) := hn
  have HM : Hid (r.length = m) := hm
  clear hn hm
  go_enter Try.func18, Try.ntmps18
  go_wp2
  go_loopw [5] (fun i wr => ∃ k : Nat, k ≤ n ∧ k ≤ m ∧ i = .int .i64 k ∧ Hid (cmpR l r = cmpR (l.drop k) (r.drop k)) ∧ Hid (Below w.heap.size w wr)) (fun i _ => n - (RowKit.intOf i).toNat)
  case atStart => exact ⟨0, Nat.zero_le _, Nat.zero_le _, rfl, rfl, Below.refl _ _⟩
  case round =>
    obtain ⟨k, hk, hk', rfl, hT, hB⟩ := hrel
    by_cases hlt : k < n ∧ k < m
    · obtain ⟨hlt1, hlt2⟩ := hlt
      have hkl : k < l.length := by rw [HN.out]; exact hlt1
      have hkr : k < r.length := by rw [HM.out]; exact hlt2
      obtain ⟨b1, o1, rfl, hc1⟩ := ha (by omega)
      obtain ⟨b2, o2, rfl, hc2⟩ := hb (by omega)
      obtain ⟨x0, x1, x2⟩ := hc1 k hkl
      obtain ⟨y0, y1, y2⟩ := hc2 k hkr
      have HS := And.intro (cell_later hB.out x0) (And.intro (cell_later hB.out x1) (And.intro (cell_later hB.out x2) (And.intro (cell_later hB.out y0) (And.intro (cell_later hB.out y1) (And.intro (cell_later hB.out y2) hB)))))
      have HQ : Hid (cmpR l r = if cmpV l[k] r[k] ≠ 0 then cmpV l[k] r[k] else cmpR (l.drop (k + 1)) (r.drop (k + 1))) := by
        rw [← cmpR_step hkl hkr]; exact hT
      clear hc1 hc2 ha hb x0 x1 x2 y0 y1 y2
      generalize l[k] = x at *
      generalize r[k] = y at *
      clear hkl hkr
      obtain ⟨k0, i0, s0⟩ := x
      obtain ⟨k1, i1, s1⟩ := y
      simp only at HS
      have C := rCompare_any k0 i0 s0 k1 i1 s1
      generalize cmpV ⟨k0, i0, s0⟩ ⟨k1, i1, s1⟩ = X at *
      have b1' : (0 : Int) ≤ (k : Int) := by omega
      have b2' : (k : Int) < (n : Int) := by omega
      have b3' : (k : Int) < (m : Int) := by omega
      by_cases hX : X = 0
      · subst hX
        have HT' : Hid (cmpR l r = cmpR (l.drop (k + 1)) (r.drop (k + 1))) := by have := HQ.out; rwa [if_neg (by simp)] at this
        clear HQ hT hB
        go_wp2
        go_region_held3 (fun w' => w'.cell? ⟨b1, o1 + k * 3, none⟩ = some (.int .i64 k0) ∧ w'.cell? ⟨b1, o1 + k * 3 + 1, none⟩ = some (.int .i64 i0) ∧ w'.cell? ⟨b1, o1 + k * 3 + 2, none⟩ = some (.string s0) ∧ w'.cell? ⟨b2, o2 + k * 3, none⟩ = some (.int .i64 k1) ∧ w'.cell? ⟨b2, o2 + k * 3 + 1, none⟩ = some (.int .i64 i1) ∧ w'.cell? ⟨b2, o2 + k * 3 + 2, none⟩ = some (.string s1) ∧ Hid (Below w.heap.size w w')) (first | exact keepAt (by assumption) (by assumption) | exact keepAt (Below.refl _ _).drew (by assumption)) (first | (go_at_call 39; refine (C _).mono ?_; rintro e w' ⟨rfl, hb⟩))
        have HS1 : w'.cell? ⟨b1, o1 + k * 3, none⟩ = some (.int .i64 k0) ∧ w'.cell? ⟨b1, o1 + k * 3 + 1, none⟩ = some (.int .i64 i0) ∧ w'.cell? ⟨b1, o1 + k * 3 + 2, none⟩ = some (.string s0) ∧ w'.cell? ⟨b2, o2 + k * 3, none⟩ = some (.int .i64 k1) ∧ w'.cell? ⟨b2, o2 + k * 3 + 1, none⟩ = some (.int .i64 i1) ∧ w'.cell? ⟨b2, o2 + k * 3 + 2, none⟩ = some (.string s1) ∧ Hid (Below w.heap.size w w') := by assumption
        obtain ⟨_, _, _, _, _, _, HB1⟩ := HS1
        go_wp2
        go_roundw
        case rel => exact ⟨k + 1, by omega, by omega, by go_num, HT', HB1⟩
        case measure => simp [RowKit.intOf]; omega
      · have HT' : Hid (cmpR l r = X) := by have := HQ.out; rwa [if_pos hX] at this
        have hXn : (X != 0) = true := by simp [hX]
        clear HQ hT hB hX
        go_wp2
        go_region_held3 (fun w' => w'.cell? ⟨b1, o1 + k * 3, none⟩ = some (.int .i64 k0) ∧ w'.cell? ⟨b1, o1 + k * 3 + 1, none⟩ = some (.int .i64 i0) ∧ w'.cell? ⟨b1, o1 + k * 3 + 2, none⟩ = some (.string s0) ∧ w'.cell? ⟨b2, o2 + k * 3, none⟩ = some (.int .i64 k1) ∧ w'.cell? ⟨b2, o2 + k * 3 + 1, none⟩ = some (.int .i64 i1) ∧ w'.cell? ⟨b2, o2 + k * 3 + 2, none⟩ = some (.string s1) ∧ Hid (Below w.heap.size w w')) (first | exact keepAt (by assumption) (by assumption) | exact keepAt (Below.refl _ _).drew (by assumption)) (first | (go_at_call 39; refine (C _).mono ?_; rintro e w' ⟨rfl, hb⟩))
        have HS1 : w'.cell? ⟨b1, o1 + k * 3, none⟩ = some (.int .i64 k0) ∧ w'.cell? ⟨b1, o1 + k * 3 + 1, none⟩ = some (.int .i64 i0) ∧ w'.cell? ⟨b1, o1 + k * 3 + 2, none⟩ = some (.string s0) ∧ w'.cell? ⟨b2, o2 + k * 3, none⟩ = some (.int .i64 k1) ∧ w'.cell? ⟨b2, o2 + k * 3 + 1, none⟩ = some (.int .i64 i1) ∧ w'.cell? ⟨b2, o2 + k * 3 + 2, none⟩ = some (.string s1) ∧ Hid (Below w.heap.size w w') := by assumption
        obtain ⟨_, _, _, _, _, _, HB1⟩ := HS1
        go_wp2
        go_ret
        exact ⟨by rw [HT'.out]; rfl, HB1.out⟩
    · have HE : Hid (cmpR l r = if n = m then 0 else sgnB (decide (n < m))) := by
        have h1 := cmpR_end (l := l) (r := r) (k := k) (by rw [HN.out]; exact hk) (by rw [HM.out]; exact hk') (by rw [HN.out, HM.out]; exact hlt)
        rw [HN.out, HM.out] at h1
        rw [← h1]
        exact hT
      have hcond : (decide ((k : Int) < (n : Int)) && decide ((k : Int) < (m : Int))) = false := by
        cases h : (decide ((k : Int) < (n : Int)) && decide ((k : Int) < (m : Int))) with
        | false => rfl
        | true => simp at h; exact absurd h (by omega)
      by_cases hnm : n = m
      · subst hnm
        have HE' : Hid (cmpR l r = 0) := by have := HE.out; rwa [if_pos rfl] at this
        have hkn : k = n := by omega
        subst hkn
        clear hcond
        go_wp2
        go_ret
        exact ⟨by rw [HE'.out]; rfl, hB.out⟩
      · have HE' : Hid (cmpR l r = sgnB (decide (n < m))) := by have := HE.out; rwa [if_neg hnm] at this
        have hne : ((n : Int) != (m : Int)) = true := by simp; omega
        by_cases h1 : k < n
        · have h2 : ¬ k < m := by omega
          go_wp2_with fail
          refine (rsign_any _ _).mono ?_
          rintro e w1 ⟨rfl, rfl⟩
          go_wp2
          go_ret
          exact ⟨by rw [HE'.out]; rfl, hB.out⟩
        · go_wp2_with fail
          refine (rsign_any _ _).mono ?_
          rintro e w1 ⟨rfl, rfl⟩
          go_wp2
          go_ret
          exact ⟨by rw [HE'.out]; rfl, hB.out⟩

/-- A value of a row and a number stay. -/
theorem keepFit {W w w' : World} {b c o p : Nat} {k0 i0 k1 : Int} {s0 : ByteArray}
    (hb : Below w.heap.size w w')
    (h : w.cell? ⟨b, o, none⟩ = some (.int .i64 k0) ∧ w.cell? ⟨b, o + 1, none⟩ = some (.int .i64 i0) ∧ w.cell? ⟨b, o + 2, none⟩ = some (.string s0) ∧ w.cell? ⟨c, p, none⟩ = some (.int .i64 k1) ∧ Hid (Below W.heap.size W w)) :
    w'.cell? ⟨b, o, none⟩ = some (.int .i64 k0) ∧ w'.cell? ⟨b, o + 1, none⟩ = some (.int .i64 i0) ∧ w'.cell? ⟨b, o + 2, none⟩ = some (.string s0) ∧ w'.cell? ⟨c, p, none⟩ = some (.int .i64 k1) ∧ Hid (Below W.heap.size W w') := by
  obtain ⟨h0, h1, h2, h3, h9⟩ := h
  exact ⟨cell_later hb h0, cell_later hb h1, cell_later hb h2, cell_later hb h3, chain h9.out hb⟩

/-- Do the values fit the types, one by one? -/
def fitsR : List PV → List Int → Bool
  | [], [] => true
  | v :: l, t :: ts => fitsV v t && fitsR l ts
  | _, _ => false

theorem fitsR_step {l : List PV} {ts : List Int} {k : Nat} (hl : k < l.length) (ht : k < ts.length) : fitsR (l.drop k) (ts.drop k) = (fitsV l[k] ts[k] && fitsR (l.drop (k + 1)) (ts.drop (k + 1))) := by
  rw [List.drop_eq_getElem_cons hl, List.drop_eq_getElem_cons ht, fitsR]

theorem fitsR_len : ∀ {l : List PV} {ts : List Int}, fitsR l ts = true → l.length = ts.length
  | [], [], _ => rfl
  | [], _ :: _, h => by simp [fitsR] at h
  | _ :: _, [], h => by simp [fitsR] at h
  | v :: l, t :: ts, h => by
    simp only [fitsR, Bool.and_eq_true] at h
    simp [fitsR_len h.2]

set_option maxHeartbeats 1000000 in
theorem rRowFits_any (a b : Option Addr) (n m cap dap : Nat) (l : List PV) (ts : List Int) (w : World) (hn : l.length = n) (hm : ts.length = m) (hl : n ≤ 65536) (hr : m ≤ 65536) (ha : RdV w a l) (hb : RdI .i64 w b ts) :
    Calls Try.prog 20 #[.slice a n cap, .slice b m dap] w fun e w' => e = .returned (.bool (fitsR l ts)) ∧ Below w.heap.size w w' := by
  by_cases hnm : n = m
  · subst hnm
    have HN : Hid (l.length = n) := hn
    have HM : Hid (ts.length = n) := hm
    clear hn hm
    go_enter Try.func20, Try.ntmps20
    go_wp2
    go_loopw [5] (fun i wr => ∃ k : Nat, k ≤ n ∧ i = .int .i64 k ∧ Hid (fitsR l ts = fitsR (l.drop k) (ts.drop k)) ∧ Hid (Below w.heap.size w wr)) (fun i _ => n - (RowKit.intOf i).toNat)
    case atStart => exact ⟨0, Nat.zero_le _, rfl, rfl, Below.refl _ _⟩
    case round =>
      obtain ⟨k, hk, rfl, hT, hB⟩ := hrel
      by_cases hlt : k < n
      · have hkl : k < l.length := by rw [HN.out]; exact hlt
        have hkr : k < ts.length := by rw [HM.out]; exact hlt
        obtain ⟨b1, o1, rfl, hc1⟩ := ha (by omega)
        obtain ⟨b2, o2, rfl, hc2⟩ := hb (by omega)
        obtain ⟨x0, x1, x2⟩ := hc1 k hkl
        have y0 := hc2 k hkr
        have HS := And.intro (cell_later hB.out x0) (And.intro (cell_later hB.out x1) (And.intro (cell_later hB.out x2) (And.intro (cell_later hB.out y0) hB)))
        have HQ : Hid (fitsR l ts = (fitsV l[k] ts[k] && fitsR (l.drop (k + 1)) (ts.drop (k + 1)))) := by
          rw [← fitsR_step hkl hkr]; exact hT
        clear hc1 hc2 ha hb x0 x1 x2 y0
        generalize l[k] = x at *
        generalize ts[k] = ty at *
        clear hkl hkr
        obtain ⟨k0, i0, s0⟩ := x
        simp only at HS
        have C := rFits_any k0 i0 s0 ty
        have b1' : (0 : Int) ≤ (k : Int) := by omega
        have b2' : (k : Int) < (n : Int) := by omega
        cases hf : fitsV ⟨k0, i0, s0⟩ ty with
        | true =>
          rw [hf] at C HQ
          rw [Bool.true_and] at HQ
          clear hT hB hf
          go_wp2
          go_region_held3 (fun w' => w'.cell? ⟨b1, o1 + k * 3, none⟩ = some (.int .i64 k0) ∧ w'.cell? ⟨b1, o1 + k * 3 + 1, none⟩ = some (.int .i64 i0) ∧ w'.cell? ⟨b1, o1 + k * 3 + 2, none⟩ = some (.string s0) ∧ w'.cell? ⟨b2, o2 + k, none⟩ = some (.int .i64 ty) ∧ Hid (Below w.heap.size w w')) (first | exact keepFit (by assumption) (by assumption) | exact keepFit (Below.refl _ _).drew (by assumption)) (first | (go_at_call 41; refine (C _).mono ?_; rintro e w' ⟨rfl, hb⟩))
          have HS1 : w'.cell? ⟨b1, o1 + k * 3, none⟩ = some (.int .i64 k0) ∧ w'.cell? ⟨b1, o1 + k * 3 + 1, none⟩ = some (.int .i64 i0) ∧ w'.cell? ⟨b1, o1 + k * 3 + 2, none⟩ = some (.string s0) ∧ w'.cell? ⟨b2, o2 + k, none⟩ = some (.int .i64 ty) ∧ Hid (Below w.heap.size w w') := by assumption
          obtain ⟨_, _, _, _, HB1⟩ := HS1
          go_wp2
          go_roundw
          case rel => exact ⟨k + 1, by omega, by go_num, HQ, HB1⟩
          case measure => simp [RowKit.intOf]; omega
        | false =>
          rw [hf] at C HQ
          rw [Bool.false_and] at HQ
          clear hT hB hf
          go_wp2
          go_region_held3 (fun w' => w'.cell? ⟨b1, o1 + k * 3, none⟩ = some (.int .i64 k0) ∧ w'.cell? ⟨b1, o1 + k * 3 + 1, none⟩ = some (.int .i64 i0) ∧ w'.cell? ⟨b1, o1 + k * 3 + 2, none⟩ = some (.string s0) ∧ w'.cell? ⟨b2, o2 + k, none⟩ = some (.int .i64 ty) ∧ Hid (Below w.heap.size w w')) (first | exact keepFit (by assumption) (by assumption) | exact keepFit (Below.refl _ _).drew (by assumption)) (first | (go_at_call 41; refine (C _).mono ?_; rintro e w' ⟨rfl, hb⟩))
          have HS1 : w'.cell? ⟨b1, o1 + k * 3, none⟩ = some (.int .i64 k0) ∧ w'.cell? ⟨b1, o1 + k * 3 + 1, none⟩ = some (.int .i64 i0) ∧ w'.cell? ⟨b1, o1 + k * 3 + 2, none⟩ = some (.string s0) ∧ w'.cell? ⟨b2, o2 + k, none⟩ = some (.int .i64 ty) ∧ Hid (Below w.heap.size w w') := by assumption
          obtain ⟨_, _, _, _, HB1⟩ := HS1
          go_wp2
          go_ret
          exact ⟨by rw [HQ.out]; rfl, HB1.out⟩
      · have HE : Hid (fitsR l ts = true) := by
          have h1 := hT.out
          rw [List.drop_of_length_le (by rw [HN.out]; omega), List.drop_of_length_le (by rw [HM.out]; omega)] at h1
          exact h1
        go_wp2
        go_ret
        exact ⟨by rw [HE.out]; rfl, hB.out⟩
  · have HE : Hid (fitsR l ts = false) := by
      show _ = _
      cases h : fitsR l ts with
      | false => rfl
      | true => exact absurd (fitsR_len h) (by rw [hn, hm]; exact hnm)
    have hbq : ((n : Int) != (m : Int)) = true := by simp; omega
    clear hn hm hnm
    go_enter Try.func20, Try.ntmps20
    go_wp2
    go_ret
    exact ⟨by rw [HE.out]; rfl, Below.refl _ _⟩

end Go.Proofs.Ythmclopndmcojaa
