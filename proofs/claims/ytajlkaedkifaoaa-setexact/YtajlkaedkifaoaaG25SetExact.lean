/-
  Texts of the proof of SetExact, one behind the other.
-/
import Derived.Test.YtajlkaedkifaoaaRows
import Derived.Test.YtajlkaedkifaoaaG24SetExact
import Derived.Test.YtajlkaedkifaoaaG1SetExact
import Derived.Sort.Grow
namespace Go.Proofs.Ytajlkaedkifaoaa
open Go.RowKit Go.Lib
set_option linter.unusedVariables false

/-- New blocks alone, and no draw is taken back. -/
structure Lay (w w' : World) : Prop where
  below : Below w.heap.size w w'
  drawn : w.drawn ≤ w'.drawn

theorem Lay.refl (w : World) : Lay w w := ⟨Below.refl _ _, Nat.le_refl _⟩

theorem Lay.trans {a b c : World} (h : Lay a b) (k : Lay b c) : Lay a c := ⟨chain h.below k.below, Nat.le_trans h.drawn k.drawn⟩

theorem lay_alloc (w : World) (o : Obj) : Lay w (w.alloc o) := ⟨alloc_below w o, Nat.le_refl _⟩

theorem lay_two (w : World) (o p : Obj) : Lay w ((w.alloc o).alloc p) := (lay_alloc w o).trans (lay_alloc _ p)

theorem lay_drew (w : World) : Lay w w.drew := ⟨(Below.refl _ _).drew, Nat.le_succ _⟩

theorem Lay.grow {w w' : World} (h : Lay w w') : ∃ q os, w' = Go.Sort.grow (w.drewN q) os := by
  refine ⟨w'.drawn - w.drawn, w'.heap.extract w.heap.size w'.heap.size, ?_⟩
  obtain ⟨⟨h1, h2, h3, h4, h5⟩, h6⟩ := h
  have hh : w'.heap = w.heap ++ w'.heap.extract w.heap.size w'.heap.size := by
    apply Array.ext_getElem?
    intro i
    rw [Array.getElem?_append]
    by_cases hi : i < w.heap.size
    · rw [if_pos hi, h5 i hi]
    · rw [if_neg hi, Array.getElem?_extract]
      by_cases hi2 : i < w'.heap.size
      · rw [if_pos (by omega)]
        congr 1
        omega
      · rw [if_neg (by omega), Array.getElem?_eq_none (by omega)]
  have hd : w'.drawn = (w.drewN (w'.drawn - w.drawn)).drawn := by
    show _ = w.drawn + (w'.drawn - w.drawn)
    omega
  have e : Go.Sort.grow (w.drewN (w'.drawn - w.drawn)) (w'.heap.extract w.heap.size w'.heap.size) = ⟨w.heap ++ w'.heap.extract w.heap.size w'.heap.size, w.tape, (w.drewN (w'.drawn - w.drawn)).drawn, w.os, w.output⟩ := rfl
  rw [e, ← hh, ← hd, ← h1, ← h2, ← h3]

set_option maxHeartbeats 400000 in
theorem valueCompareL (k i : Int) (s : ByteArray) (k' i' : Int) (s' : ByteArray) (w : World) :
    Calls Try.prog 59 #[.agg #[.int .i64 k, .int .i64 i, .string s], .agg #[.int .i64 k', .int .i64 i', .string s']] w fun e w' => e = .returned (.int .i64 (cmpV ⟨k, i, s⟩ ⟨k', i', s'⟩)) ∧ Lay w w' := by
  by_cases h1 : k = k'
  · by_cases h2 : i = i'
    · subst h1 h2
      rw [cmpV_texts]
      have e1 : cmpI k k = 0 := by simp [cmpI]
      have e2 : cmpI i i = 0 := by simp [cmpI]
      go_enter Try.func59, Try.ntmps59
      go_wp2_with fail
      refine (cmpInt_any _ _ _).mono ?_
      rintro e w1 ⟨rfl, rfl⟩
      rw [e1]
      go_wp2_with fail
      refine (cmpInt_any _ _ _).mono ?_
      rintro e w1 ⟨rfl, rfl⟩
      rw [e2]
      go_wp2_with fail
      refine (stringsCompare_any _ _ _).mono ?_
      rintro e w1 ⟨rfl, rfl⟩
      go_wp2
      go_ret
      exact ⟨rfl, lay_two _ _ _⟩
    · subst h1
      have e1 : cmpI k k = 0 := by simp [cmpI]
      have e2 : cmpV ⟨k, i, s⟩ ⟨k, i', s'⟩ = cmpI i i' := by simp [cmpV, cmpI, h2]
      have e3 : (cmpI i i' != 0) = true := by unfold cmpI; rw [if_neg h2]; simp [sgnB_ne]
      obtain ⟨c, hc⟩ : ∃ c, cmpI i i' = c := ⟨_, rfl⟩
      rw [e2, hc]
      rw [hc] at e3
      clear e2
      go_enter Try.func59, Try.ntmps59
      go_wp2_with fail
      refine (cmpInt_any _ _ _).mono ?_
      rintro e w1 ⟨rfl, rfl⟩
      rw [e1]
      go_wp2_with fail
      refine (cmpInt_any _ _ _).mono ?_
      rintro e w1 ⟨rfl, rfl⟩
      rw [hc]
      clear hc
      go_wp2
      go_ret
      exact ⟨rfl, lay_two _ _ _⟩
  · have e2 : cmpV ⟨k, i, s⟩ ⟨k', i', s'⟩ = cmpI k k' := by simp [cmpV, cmpI, h1]
    have e3 : (cmpI k k' != 0) = true := by unfold cmpI; rw [if_neg h1]; simp [sgnB_ne]
    obtain ⟨c, hc⟩ : ∃ c, cmpI k k' = c := ⟨_, rfl⟩
    rw [e2, hc]
    rw [hc] at e3
    clear e2
    go_enter Try.func59, Try.ntmps59
    go_wp2_with fail
    refine (cmpInt_any _ _ _).mono ?_
    rintro e w1 ⟨rfl, rfl⟩
    rw [hc]
    clear hc
    go_wp2
    go_ret
    exact ⟨rfl, lay_two _ _ _⟩

theorem valueCompareL_of {c : Int} (k i : Int) (s : ByteArray) (k' i' : Int) (s' : ByteArray) (w : World) (h : cmpV ⟨k, i, s⟩ ⟨k', i', s'⟩ = c) :
    Calls Try.prog 59 #[.agg #[.int .i64 k, .int .i64 i, .string s], .agg #[.int .i64 k', .int .i64 i', .string s']] w fun e w' => e = .returned (.int .i64 c) ∧ Lay w w' := by
  subst h
  exact valueCompareL k i s k' i' s' w

set_option maxHeartbeats 1000000 in
theorem compareFuncL (a b : Option Addr) (n m cap dap : Nat) (l r : List PV) (w : World) (hn : l.length = n) (hm : r.length = m) (hl : n ≤ 65536) (hr : m ≤ 65536) (ha : RdV w a l) (hb : RdV w b r) :
    Calls Try.prog 58 #[.slice a n cap, .slice b m dap, .func (.func 59) #[] #[]] w fun e w' => e = .returned (.int .i64 (cmpR l r)) ∧ Lay w w' := by
  have HN : Hid (l.length = n) := hn
  have HM : Hid (r.length = m) := hm
  clear hn hm
  go_enter Try.func58, Try.ntmps58
  go_wp2
  go_loopw [13] (fun i wr => ∃ k : Nat, k ≤ n ∧ k ≤ m ∧ i = .int .i64 k ∧ Hid (cmpR l r = cmpR (l.drop k) (r.drop k)) ∧ Hid (Lay w wr)) (fun i _ => n - (RowKit.intOf i).toNat)
  case atStart => exact ⟨0, Nat.zero_le _, Nat.zero_le _, rfl, rfl, Lay.refl _⟩
  case round =>
    obtain ⟨k, hk, hk', rfl, hT, hB⟩ := hrel
    by_cases hlt : k < n
    · have hkl : k < l.length := by rw [HN.out]; exact hlt
      obtain ⟨b1, o1, rfl, hc1⟩ := ha (by omega)
      obtain ⟨x0, x1, x2⟩ := hc1 k hkl
      replace x0 := cell_later hB.out.below x0
      replace x1 := cell_later hB.out.below x1
      replace x2 := cell_later hB.out.below x2
      by_cases hlt2 : k < m
      · have hkr : k < r.length := by rw [HM.out]; exact hlt2
        obtain ⟨b2, o2, rfl, hc2⟩ := hb (by omega)
        obtain ⟨y0, y1, y2⟩ := hc2 k hkr
        have HQ : Hid (cmpR l r = if cmpV l[k] r[k] ≠ 0 then cmpV l[k] r[k] else cmpR (l.drop (k + 1)) (r.drop (k + 1))) := by
          rw [← cmpR_step hkl hkr]; exact hT
        replace y0 := cell_later hB.out.below y0
        replace y1 := cell_later hB.out.below y1
        replace y2 := cell_later hB.out.below y2
        clear hc1 hc2 ha hb
        generalize l[k] = x at *
        generalize r[k] = y at *
        clear hkl hkr
        obtain ⟨k0, i0, s0⟩ := x
        obtain ⟨k1, i1, s1⟩ := y
        simp only at x0 x1 x2 y0 y1 y2
        obtain ⟨X, hX⟩ : ∃ X, cmpV ⟨k0, i0, s0⟩ ⟨k1, i1, s1⟩ = X := ⟨_, rfl⟩
        rw [hX] at HQ
        have HX : Hid (cmpV ⟨k0, i0, s0⟩ ⟨k1, i1, s1⟩ = X) := hX
        clear hX
        have z0 := cell_later (alloc_below wr (.cells #[.int .i64 k0, .int .i64 i0, .string s0] 65)) y0
        have z1 := cell_later (alloc_below wr (.cells #[.int .i64 k0, .int .i64 i0, .string s0] 65)) y1
        have z2 := cell_later (alloc_below wr (.cells #[.int .i64 k0, .int .i64 i0, .string s0] 65)) y2
        by_cases hX0 : X = 0
        · subst hX0
          have HT' : Hid (cmpR l r = cmpR (l.drop (k + 1)) (r.drop (k + 1))) := by have := HQ.out; rwa [if_neg (by simp)] at this
          clear HQ hT
          go_wp2_with fail
          refine (valueCompareL_of _ _ _ _ _ _ _ HX.out).mono ?_
          rintro e w1 ⟨rfl, hb⟩
          go_wp2
          go_roundw
          case rel => exact ⟨k + 1, by omega, by omega, by go_num, HT', Lay.trans hB.out (Lay.trans (lay_two _ _ _) hb)⟩
          case measure => simp [RowKit.intOf]; omega
        · have HT' : Hid (cmpR l r = X) := by have := HQ.out; rwa [if_pos hX0] at this
          have hXn : (X != 0) = true := by simp [hX0]
          clear HQ hT hX0
          go_wp2_with fail
          refine (valueCompareL_of _ _ _ _ _ _ _ HX.out).mono ?_
          rintro e w1 ⟨rfl, hb⟩
          go_wp2
          go_ret
          exact ⟨by rw [HT'.out]; rfl, Lay.trans hB.out (Lay.trans (lay_two _ _ _) hb)⟩
      · have HE : Hid (cmpR l r = 1) := by
          have h1 := cmpR_end (l := l) (r := r) (k := k) (by rw [HN.out]; exact hk) (by rw [HM.out]; exact hk') (by rw [HN.out, HM.out]; omega)
          rw [HN.out, HM.out, if_neg (by omega), decide_eq_false (by omega)] at h1
          exact hT.out.trans h1
        clear hc1 ha hb hT
        generalize l[k] = x at *
        clear hkl
        obtain ⟨k0, i0, s0⟩ := x
        simp only at x0 x1 x2
        go_wp2
        go_ret
        exact ⟨by rw [HE.out]; rfl, Lay.trans hB.out (lay_alloc _ _)⟩
    · have h1 := cmpR_end (l := l) (r := r) (k := k) (by rw [HN.out]; exact hk) (by rw [HM.out]; exact hk') (by rw [HN.out, HM.out]; omega)
      rw [HN.out, HM.out] at h1
      by_cases hnm : n < m
      · rw [if_neg (by omega), decide_eq_true hnm] at h1
        have HE : Hid (cmpR l r = -1) := hT.out.trans h1
        clear h1 hT
        go_wp2
        go_ret
        exact ⟨by rw [HE.out]; rfl, hB.out⟩
      · rw [if_pos (by omega)] at h1
        have HE : Hid (cmpR l r = 0) := hT.out.trans h1
        clear h1 hT
        go_wp2
        go_ret
        exact ⟨by rw [HE.out]; rfl, hB.out⟩

set_option maxHeartbeats 400000 in
theorem rowCompareL (a b : Option Addr) (n m cap dap : Nat) (l r : List PV) (w : World) (hn : l.length = n) (hm : r.length = m) (hl : n ≤ 65536) (hr : m ≤ 65536) (ha : RdV w a l) (hb : RdV w b r) :
    Calls Try.prog 42 #[.slice a n cap, .slice b m dap] w fun e w' => e = .returned (.int .i64 (cmpR l r)) ∧ Lay w w' := by
  have C := compareFuncL a b n m cap dap l r w hn hm hl hr ha hb
  generalize cmpR l r = X at *
  clear hn hm
  go_enter Try.func42, Try.ntmps42
  go_wp2_with fail
  refine C.mono ?_
  rintro e w1 ⟨rfl, hb1⟩
  go_wp2
  go_ret
  exact ⟨rfl, hb1⟩

/-- An Item: a row and its weight. -/
structure PI where
  row : List PV
  wt : Int

/-- The cells of an Item, and what lies behind them; its row lies in no block of E. -/
def LiesZ (E : Nat → Prop) (w : World) (c : List Value) (x : PI) : Prop :=
  ∃ a cap, c = [.slice a x.row.length cap, .int .i64 x.wt] ∧ RdV w a x.row ∧ x.row.length ≤ 65536 ∧ x.row.length ≤ cap ∧ (a = none → x.row = [] ∧ cap = 0) ∧ In64 x.wt ∧ (0 < x.row.length → ∀ b o s, a = some ⟨b, o, s⟩ → ¬ E b)

def cmpZ (x y : PI) : Int := cmpR x.row y.row

set_option maxHeartbeats 400000 in
theorem zCompare_cells (a b : Option Addr) (n m cap dap : Nat) (p q : Int) (l r : List PV) (w : World) (hn : l.length = n) (hm : r.length = m) (hl : n ≤ 65536) (hr : m ≤ 65536) (ha : RdV w a l) (hb : RdV w b r) :
    Calls Try.prog 36 #[.agg #[.slice a n cap, .int .i64 p], .agg #[.slice b m dap, .int .i64 q]] w fun e w' => e = .returned (.int .i64 (cmpR l r)) ∧ Lay w w' := by
  have B := below_two w (.cells #[.slice a n cap, .int .i64 p] 40) (.cells #[.slice b m dap, .int .i64 q] 40)
  have C := rowCompareL a b n m cap dap l r _ hn hm hl hr (ha.later B) (hb.later B)
  have L := lay_two w (.cells #[.slice a n cap, .int .i64 p] 40) (.cells #[.slice b m dap, .int .i64 q] 40)
  generalize cmpR l r = X at *
  clear hn hm ha hb B
  go_enter Try.func36, Try.ntmps36
  go_wp2_with fail
  refine C.mono ?_
  rintro e w1 ⟨rfl, hb1⟩
  go_wp2
  go_ret
  exact ⟨rfl, L.trans hb1⟩

theorem zCompare_any {E E' : Nat → Prop} (c d : List Value) (x y : PI) (w : World) (hc : LiesZ E w c x) (hd : LiesZ E' w d y) :
    Calls Try.prog 36 #[.agg c.toArray, .agg d.toArray] w fun e w' => e = .returned (.int .i64 (cmpZ x y)) ∧ Lay w w' := by
  obtain ⟨a, cap, rfl, h1, h2, -, -, -, -⟩ := hc
  obtain ⟨b, dap, rfl, k1, k2, -, -, -, -⟩ := hd
  exact zCompare_cells a b _ _ cap dap x.wt y.wt x.row y.row w rfl rfl h2 k2 h1 k1

end Go.Proofs.Ytajlkaedkifaoaa
