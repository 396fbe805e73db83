/-
  Texts of the proof of OpKinds, one behind the other.
-/
import Derived.Test.YtjpcljmlkgjbgaaRows
import Derived.Test.YtjpcljmlkgjbgaaG29OpKinds
import Derived.Test.YtjpcljmlkgjbgaaG25OpKinds
import Derived.WalkKit
import Derived.WalkSpells
import Derived.Deep.QuietTactic
import Derived.BigQuiet
namespace Go.Proofs.Ytjpcljmlkgjbgaa
open Go.RowKit Go.Lib
set_option linter.unusedVariables false

/-- An operation. -/
structure PO where
  dp : Int
  dn : Int
  deps : List Int
  sp : Int
  sl : Int
  sq : Int
  kind : Int
  table : Int
  key : ByteArray
  col : Int
  vals : List PV
  dots : List (Int × Int)

theorem cellO_lt {w : World} {b o : Nat} {v : Value} (h : w.cell? ⟨b, o, none⟩ = some v) : b < w.heap.size := by
  rcases Nat.lt_or_ge b w.heap.size with h1 | h1
  · exact h1
  · simp [World.cell?, Array.getElem?_eq_none h1] at h

/-- What a walk is told of an operation's lists. -/
structure LiesO (w : World) (x : PO) (da va oa : Option Addr) (dc vc oc : Nat) : Prop where
  deps : RdI .i64 w da x.deps
  vals : RdV w va x.vals
  dots : RdD w oa x.dots
  ld : x.deps.length ≤ 65536
  lv : x.vals.length ≤ 65536
  lo : x.dots.length ≤ 65536
  cd : x.deps.length ≤ dc
  cv : x.vals.length ≤ vc
  co : x.dots.length ≤ oc
  nd : da = none → x.deps = [] ∧ dc = 0
  nv : va = none → x.vals = [] ∧ vc = 0
  no : oa = none → x.dots = [] ∧ oc = 0
  key : x.key.size ≤ 9223372036854775807

theorem LiesO.hd {w : World} {x : PO} {da va oa : Option Addr} {dc vc oc : Nat} (h : LiesO w x da va oa dc vc oc) (h0 : 0 < x.deps.length) : ∀ b o, da = some ⟨b, o, none⟩ → b < w.heap.size := by
  intro b o e
  obtain ⟨b', o', e', hc⟩ := h.deps h0
  rw [e] at e'
  simp only [Option.some.injEq, Addr.mk.injEq, and_true] at e'
  obtain ⟨rfl, rfl⟩ := e'
  exact cellO_lt (hc 0 h0)

theorem LiesO.ho {w : World} {x : PO} {da va oa : Option Addr} {dc vc oc : Nat} (h : LiesO w x da va oa dc vc oc) (h0 : 0 < x.dots.length) : ∀ b o, oa = some ⟨b, o, none⟩ → b < w.heap.size := by
  intro b o e
  obtain ⟨b', o', e', hc⟩ := h.dots h0
  rw [e] at e'
  simp only [Option.some.injEq, Addr.mk.injEq, and_true] at e'
  obtain ⟨rfl, rfl⟩ := e'
  exact cellO_lt (hc 0 h0).1

/-- An operation's cells. -/
abbrev cellsO (x : PO) (da va oa : Option Addr) (dc vc oc : Nat) : Array Value :=
  #[.int .i64 x.dp, .int .i64 x.dn, .slice da x.deps.length dc, .int .i64 x.sp, .int .i64 x.sl, .int .i64 x.sq, .int .i64 x.kind, .int .i64 x.table, .string x.key, .int .i64 x.col, .slice va x.vals.length vc, .slice oa x.dots.length oc]

/-- A row's bytes, if it can be written. -/
def putRo (vs : List PV) : Option (List UInt8) := if chkR vs = 0 then some (bytesR vs) else none

/-- What is written of an operation, up to its dots. -/
def wO1 (x : PO) : List UInt8 × Bool := addW ([], false) (putN x.kind 1)
def wO2 (x : PO) : List UInt8 × Bool := addWs (wO1 x) (dotP x.dp x.dn)
def wO3 (x : PO) : List UInt8 × Bool := addWs (wO2 x) (vecP x.deps)
def wO4 (x : PO) : List UInt8 × Bool := addWs (wO3 x) (stampP x.sp x.sl x.sq)
def wO5 (x : PO) : List UInt8 × Bool := addW (wO4 x) (putN x.table 1)
def wO6 (x : PO) : List UInt8 × Bool := addW (wO5 x) (putT x.key)
def wO7 (x : PO) : List UInt8 × Bool := addW (wO6 x) (putN x.col 1)
def wO8 (x : PO) : List UInt8 × Bool := addW (wO7 x) (putRo x.vals)
def wO9 (x : PO) : List UInt8 × Bool := addWs (wO8 x) (dotsP 64 x.dots)

/-- op.Bytes' answer. -/
def putO (x : PO) : List UInt8 × Int := tellW (wO9 x)

theorem vecP_le (s : List UInt8 × Bool) (v : List Int) : (addWs s (vecP v)).1.length ≤ s.1.length + 24 := by
  by_cases hc : 5 < v.length
  · unfold vecP
    rw [addWs_cons, show putC v.length 1 5 = none from if_pos hc, addWs_bad rfl]
    simp only [addW]
    omega
  · have := addWs_length s (vecP v) 4 (vecP_small v)
    rw [vecP_length] at this
    omega

theorem dotP_le (s : List UInt8 × Bool) (p k : Int) : (addWs s (dotP p k)).1.length ≤ s.1.length + 5 := by
  rw [addWs_two]
  exact addW_le (by have := addW_le (s := s) (n := p) (size := 1) (m := s.1.length + 1) (by omega); omega)

theorem stampP_le (s : List UInt8 × Bool) (p l q : Int) : (addWs s (stampP p l q)).1.length ≤ s.1.length + 10 := by
  rw [addWs_three]
  have h1 := addW_le (s := s) (n := p) (size := 6) (m := s.1.length + 6) (by omega)
  have h2 := addW_le (s := addW s (putN p 6)) (n := l) (size := 3) (m := s.1.length + 9) (by omega)
  exact addW_le (by omega)

theorem putT_len (t : ByteArray) : lenO (putT t) ≤ 25 := by
  unfold putT
  split
  · simp [lenO]
  · rename_i h
    simp only [lenO, textBytes_length]
    rw [← size_eq]
    omega

theorem putRo_len (vs : List PV) : lenO (putRo vs) ≤ 1000 := by
  unfold putRo
  split
  · rename_i h
    obtain ⟨h1, h2⟩ := chkR_ok.1 h
    simp only [lenO]
    have hb : ∀ l : List PV, l.all okV = true → (bytesVs l).length ≤ l.length * 26 := by
      intro l
      induction l with
      | nil => intro _; simp [bytesVs]
      | cons v l ih =>
        intro h
        simp only [List.all_cons, Bool.and_eq_true] at h
        have := ih h.2
        have := bytesV_small h.1
        simp [bytesVs] at *
        omega
    have := hb vs h2
    simp only [bytesR, List.length_cons]
    omega
  · simp [lenO]

theorem wO_len (x : PO) : (wO1 x).1.length ≤ 1 ∧ (wO2 x).1.length ≤ 6 ∧ (wO3 x).1.length ≤ 30 ∧ (wO4 x).1.length ≤ 40 ∧ (wO5 x).1.length ≤ 41 ∧ (wO6 x).1.length ≤ 66 ∧ (wO7 x).1.length ≤ 67 ∧ (wO8 x).1.length ≤ 1067 := by
  have h1 : (wO1 x).1.length ≤ 1 := addW_le (by simp)
  have h2 : (wO2 x).1.length ≤ (wO1 x).1.length + 5 := dotP_le (wO1 x) x.dp x.dn
  have h3 : (wO3 x).1.length ≤ (wO2 x).1.length + 24 := vecP_le (wO2 x) x.deps
  have h4 : (wO4 x).1.length ≤ (wO3 x).1.length + 10 := stampP_le (wO3 x) x.sp x.sl x.sq
  have h5 : (wO5 x).1.length ≤ (wO4 x).1.length + lenO (putN x.table 1) := addW_length (wO4 x) (putN x.table 1)
  have h5' := putN_len x.table 1
  have h6 : (wO6 x).1.length ≤ (wO5 x).1.length + lenO (putT x.key) := addW_length (wO5 x) (putT x.key)
  have h6' := putT_len x.key
  have h7 : (wO7 x).1.length ≤ (wO6 x).1.length + lenO (putN x.col 1) := addW_length (wO6 x) (putN x.col 1)
  have h7' := putN_len x.col 1
  have h8 : (wO8 x).1.length ≤ (wO7 x).1.length + lenO (putRo x.vals) := addW_length (wO7 x) (putRo x.vals)
  have h8' := putRo_len x.vals
  omega

theorem wO9_le (x : PO) : (wO9 x).1.length ≤ 1048576 := by
  have h := (wO_len x).2.2.2.2.2.2.2
  have := dotsTo_le (wO8 x) 64 x.dots x.dots.length (by omega) (by omega)
  rw [dotsTo_all] at this
  exact Nat.le_trans this (by omega)

theorem putO_le (x : PO) : (tellW (wO9 x)).1.length ≤ 1048576 := by
  unfold tellW
  split
  · simp
  · exact wO9_le x

theorem putRo_some {vs : List PV} (h : chkR vs = 0) : putRo vs = some (bytesR vs) := if_pos h
theorem putRo_none {vs : List PV} (h : ¬ chkR vs = 0) : putRo vs = none := if_neg h

/-- row.Bytes, then Add. -/
theorem wAdd_row (K : Nat → Prop) (g : Nat) (a : Option Addr) (n cap : Nat) (vs : List PV) (s : List UInt8 × Bool) (w : World) (hK : ∀ b, K b → b < w.heap.size) (h : WAt K w g s) (hl : s.1.length ≤ 1048576) (hn : (putR vs).1.length = n) (hl' : n ≤ 1048576) (hr : Rd w a (putR vs).1) (hnil : a = none → (putR vs).1 = [] ∧ cap = 0) :
    Calls Try.prog 45 #[vW g, .slice a n cap, .int .i64 (putR vs).2] w fun e w' => e = .returned (.tuple #[]) ∧ WAt K w' g (addW s (putRo vs)) ∧ Stay K w w' := by
  by_cases hc : chkR vs = 0
  · rw [putR_ok hc] at hn hr hnil ⊢
    rw [putRo_some hc]
    exact wAdd_yes K g a n cap (bytesR vs) s w hK h hn hl hl' hr hnil
  · rw [putRo_none hc, putR_no hc]
    exact wAdd_no K g a n cap _ s w h hc

set_option maxRecDepth 100000 in
set_option maxHeartbeats 4000000 in
theorem opBytes_any (x : PO) (da va oa : Option Addr) (dc vc oc : Nat) (w : World) (h : LiesO w x da va oa dc vc oc) :
    Calls Try.prog 14 #[.agg (cellsO x da va oa dc vc oc)] w fun e w' => GivesB w w' e (putO x) := by
  obtain ⟨o, ho⟩ : ∃ o : Obj, o = .cells (cellsO x da va oa dc vc oc) 32 := ⟨_, rfl⟩
  obtain ⟨wb, hwb⟩ : ∃ wb : World, wb = (w.alloc o).alloc (.cells #[.slice none 0 0, .bool false] 79) := ⟨_, rfl⟩
  have hsz : (w.alloc o).heap.size = w.heap.size + 1 := by simp
  have hszb : wb.heap.size = w.heap.size + 2 := by rw [hwb]; simp
  have HP : Hid (WAt (fun b => b ≤ w.heap.size) wb (w.heap.size + 1) ([], false)) := by
    have := WAt.new (K := fun b => b ≤ w.heap.size) (w := w.alloc o) (by intro b hb; rw [hsz]; omega)
    rw [hsz] at this
    rw [hwb]
    exact this
  have HK : Hid (∀ b, b ≤ w.heap.size → b < wb.heap.size) := by intro b hb; rw [hszb]; omega
  have HC : Hid (∀ i, wb.cell? ⟨w.heap.size, i, none⟩ = (cellsO x da va oa dc vc oc)[i]?) := by
    intro i
    refine cell_of_row _ _ _ _ 32 (0, 0) ?_
    rw [hwb]
    rw [Below.heap_alloc (w.alloc o) _ _ (by rw [hsz]; omega)]
    rw [ho]
    show (w.heap.push _)[w.heap.size]? = _
    simp
  have HB : Hid (Below w.heap.size w wb) := by
    rw [hwb]
    exact ((Below.refl _ w).alloc (by first | exact Nat.le_refl _ | omega) _).alloc (by first | exact Nat.le_refl _ | omega) _
  have HX : Hid (LiesO w x da va oa dc vc oc) := h
  have HL : Hid _ := wO_len x
  rw [hwb, ho] at HP HK HC HB
  clear h hsz hszb hwb wb ho o
  go_enter Try.func14, Try.ntmps14
  go_wp2_with fail
  refine (wByte_any (fun b => b ≤ w.heap.size) (w.heap.size + 1) x.kind ([], false) _ HK.out HP.out (by simp)).mono ?_
  rintro e w1 ⟨rfl, hp1, hs1⟩
  have HP1 : Hid (WAt (fun b => b ≤ w.heap.size) w1 (w.heap.size + 1) (wO1 x)) := hp1
  have HS1 : Hid (Stay (fun b => b ≤ w.heap.size) _ w1) := hs1
  clear hp1 hs1 HP
  have y0 : w1.cell? ⟨w.heap.size, 0, none⟩ = some (.int .i64 x.dp) := (HS1.out.cell (Nat.le_refl _)).trans (HC.out 0)
  have y1 : w1.cell? ⟨w.heap.size, 1, none⟩ = some (.int .i64 x.dn) := (HS1.out.cell (Nat.le_refl _)).trans (HC.out 1)
  go_wp2_with fail
  refine (wDot_any (fun b => b ≤ w.heap.size) (w.heap.size + 1) x.dp x.dn (wO1 x) _ (fun b hb => Nat.lt_of_lt_of_le (HK.out b hb) HS1.out.size) HP1.out (Nat.le_trans HL.out.1 (by omega))).mono ?_
  rintro e w2 ⟨rfl, hp2, hs2⟩
  have HP2 : Hid (WAt (fun b => b ≤ w.heap.size) w2 (w.heap.size + 1) (wO2 x)) := hp2
  have HS2 : Hid (Stay (fun b => b ≤ w.heap.size) _ w2) := HS1.out.trans hs2
  clear hp2 hs2 HP1 HS1 y0 y1
  have y2 : w2.cell? ⟨w.heap.size, 2, none⟩ = some (.slice da x.deps.length dc) := (HS2.out.cell (Nat.le_refl _)).trans (HC.out 2)
  go_wp2_with fail
  refine (wVector_any (fun b => b ≤ w.heap.size) (w.heap.size + 1) da x.deps.length dc x.deps (wO2 x) _ (fun b hb => Nat.lt_of_lt_of_le (HK.out b hb) HS2.out.size) HP2.out rfl HX.out.ld (Nat.le_trans HL.out.2.1 (by omega)) (HX.out.deps.later (HB.out.trans (HS2.out.below (fun b hb => Nat.le_of_lt hb)))) (fun h0 b o e => Nat.le_of_lt (HX.out.hd h0 b o e))).mono ?_
  rintro e w3 ⟨rfl, hp3, hs3⟩
  have HP3 : Hid (WAt (fun b => b ≤ w.heap.size) w3 (w.heap.size + 1) (wO3 x)) := hp3
  have HS3 : Hid (Stay (fun b => b ≤ w.heap.size) _ w3) := HS2.out.trans hs3
  clear hp3 hs3 HP2 HS2 y2
  have y3 : w3.cell? ⟨w.heap.size, 3, none⟩ = some (.int .i64 x.sp) := (HS3.out.cell (Nat.le_refl _)).trans (HC.out 3)
  have y4 : w3.cell? ⟨w.heap.size, 4, none⟩ = some (.int .i64 x.sl) := (HS3.out.cell (Nat.le_refl _)).trans (HC.out 4)
  have y5 : w3.cell? ⟨w.heap.size, 5, none⟩ = some (.int .i64 x.sq) := (HS3.out.cell (Nat.le_refl _)).trans (HC.out 5)
  go_wp2_with fail
  refine (wStamp_any (fun b => b ≤ w.heap.size) (w.heap.size + 1) x.sp x.sl x.sq (wO3 x) _ (fun b hb => Nat.lt_of_lt_of_le (HK.out b hb) HS3.out.size) HP3.out (Nat.le_trans HL.out.2.2.1 (by omega))).mono ?_
  rintro e w4 ⟨rfl, hp4, hs4⟩
  have HP4 : Hid (WAt (fun b => b ≤ w.heap.size) w4 (w.heap.size + 1) (wO4 x)) := hp4
  have HS4 : Hid (Stay (fun b => b ≤ w.heap.size) _ w4) := HS3.out.trans hs4
  clear hp4 hs4 HP3 HS3 y3 y4 y5
  have y7 : w4.cell? ⟨w.heap.size, 7, none⟩ = some (.int .i64 x.table) := (HS4.out.cell (Nat.le_refl _)).trans (HC.out 7)
  go_wp2_with fail
  refine (wByte_any (fun b => b ≤ w.heap.size) (w.heap.size + 1) x.table (wO4 x) _ (fun b hb => Nat.lt_of_lt_of_le (HK.out b hb) HS4.out.size) HP4.out (Nat.le_trans HL.out.2.2.2.1 (by omega))).mono ?_
  rintro e w5 ⟨rfl, hp5, hs5⟩
  have HP5 : Hid (WAt (fun b => b ≤ w.heap.size) w5 (w.heap.size + 1) (wO5 x)) := hp5
  have HS5 : Hid (Stay (fun b => b ≤ w.heap.size) _ w5) := HS4.out.trans hs5
  clear hp5 hs5 HP4 HS4 y7
  have y8 : w5.cell? ⟨w.heap.size, 8, none⟩ = some (.string x.key) := (HS5.out.cell (Nat.le_refl _)).trans (HC.out 8)
  go_wp2_with fail
  refine (wText_any (fun b => b ≤ w.heap.size) (w.heap.size + 1) x.key (wO5 x) _ HX.out.key (fun b hb => Nat.lt_of_lt_of_le (HK.out b hb) HS5.out.size) HP5.out (Nat.le_trans HL.out.2.2.2.2.1 (by omega))).mono ?_
  rintro e w6 ⟨rfl, hp6, hs6⟩
  have HP6 : Hid (WAt (fun b => b ≤ w.heap.size) w6 (w.heap.size + 1) (wO6 x)) := hp6
  have HS6 : Hid (Stay (fun b => b ≤ w.heap.size) _ w6) := HS5.out.trans hs6
  clear hp6 hs6 HP5 HS5 y8
  have y9 : w6.cell? ⟨w.heap.size, 9, none⟩ = some (.int .i64 x.col) := (HS6.out.cell (Nat.le_refl _)).trans (HC.out 9)
  go_wp2_with fail
  refine (wByte_any (fun b => b ≤ w.heap.size) (w.heap.size + 1) x.col (wO6 x) _ (fun b hb => Nat.lt_of_lt_of_le (HK.out b hb) HS6.out.size) HP6.out (Nat.le_trans HL.out.2.2.2.2.2.1 (by omega))).mono ?_
  rintro e w7 ⟨rfl, hp7, hs7⟩
  have HP7 : Hid (WAt (fun b => b ≤ w.heap.size) w7 (w.heap.size + 1) (wO7 x)) := hp7
  have HS7 : Hid (Stay (fun b => b ≤ w.heap.size) _ w7) := HS6.out.trans hs7
  clear hp7 hs7 HP6 HS6 y9
  have y10 : w7.cell? ⟨w.heap.size, 10, none⟩ = some (.slice va x.vals.length vc) := (HS7.out.cell (Nat.le_refl _)).trans (HC.out 10)
  go_wp2_with fail
  refine (rowBytesC va x.vals.length vc x.vals _ rfl HX.out.lv (HX.out.vals.later (HB.out.trans (HS7.out.below (fun b hb => Nat.le_of_lt hb))))).mono ?_
  rintro e wr ⟨ra, rn, rc, rfl, hrn, hrl, hrc, hrr, hrz, hrb⟩
  have HPr : Hid (WAt (fun b => b ≤ w.heap.size) wr (w.heap.size + 1) (wO7 x)) := HP7.out.later hrb
  have HSr : Hid (Stay (fun b => b ≤ w.heap.size) _ wr) := stay_later HS7.out HK.out hrb
  have HRN : Hid _ := hrn
  have HRR : Hid _ := hrr
  have HRZ : Hid _ := hrz
  clear HP7 HS7 hrb y10 hrn hrr hrz
  go_wp2_with fail
  refine (wAdd_row (fun b => b ≤ w.heap.size) (w.heap.size + 1) ra rn rc x.vals (wO7 x) _ (fun b hb => Nat.lt_of_lt_of_le (HK.out b hb) HSr.out.size) HPr.out (Nat.le_trans HL.out.2.2.2.2.2.2.1 (by omega)) HRN.out hrl HRR.out HRZ.out).mono ?_
  rintro e w8 ⟨rfl, hp8, hs8⟩
  have HP8 : Hid (WAt (fun b => b ≤ w.heap.size) w8 (w.heap.size + 1) (wO8 x)) := hp8
  have HS8 : Hid (Stay (fun b => b ≤ w.heap.size) _ w8) := HSr.out.trans hs8
  clear hp8 hs8 HPr HSr HRN HRR HRZ hrl hrc
  have y11 : w8.cell? ⟨w.heap.size, 11, none⟩ = some (.slice oa x.dots.length oc) := (HS8.out.cell (Nat.le_refl _)).trans (HC.out 11)
  go_wp2_with fail
  refine (wDots_any (fun b => b ≤ w.heap.size) (w.heap.size + 1) oa x.dots.length oc 64 x.dots (wO8 x) _ (fun b hb => Nat.lt_of_lt_of_le (HK.out b hb) HS8.out.size) HP8.out rfl (Nat.le_trans HX.out.lo (by omega)) (by omega) (Nat.le_trans HL.out.2.2.2.2.2.2.2 (by omega)) (HX.out.dots.later (HB.out.trans (HS8.out.below (fun b hb => Nat.le_of_lt hb)))) (fun h0 b o e => Nat.le_of_lt (HX.out.ho h0 b o e))).mono ?_
  rintro e w9 ⟨rfl, hp9, hs9⟩
  have HP9 : Hid (WAt (fun b => b ≤ w.heap.size) w9 (w.heap.size + 1) (wO9 x)) := hp9
  have HS9 : Hid (Stay (fun b => b ≤ w.heap.size) _ w9) := HS8.out.trans hs9
  clear hp9 hs9 HP8 HS8 y11
  go_wp2_with fail
  refine (wBytes_any (fun b => b ≤ w.heap.size) (w.heap.size + 1) (wO9 x) _ HP9.out (wO9_le x)).mono ?_
  rintro e wz ⟨hwz, a, cap, rfl, hc, hown, hrd, hz, -⟩
  subst hwz
  have HG : Hid (GivesB w wz (.returned (.tuple #[.slice a (tellW (wO9 x)).1.length cap, .int .i64 (tellW (wO9 x)).2])) (putO x)) :=
    ⟨a, _, cap, rfl, rfl, putO_le x, hc, hrd, hz, HB.out.trans (HS9.out.below (fun b hb => Nat.le_of_lt hb))⟩
  clear hc hown hrd hz HP9 HS9 HC HK HB HX HL
  go_wp2
  go_ret2
  exact HG.out

end Go.Proofs.Ytjpcljmlkgjbgaa

namespace Go.Proofs.Ytjpcljmlkgjbgaa
open Go.RowKit Go.Lib
set_option linter.unusedVariables false

/-- Where a Reader ends. -/
def endR (s : Int × Int) : Int × Int := if s.2 = 0 then (s.1, 0) else (0, s.2)

set_option maxHeartbeats 1000000 in
theorem rEnd_any (g : Nat) (a : Option Addr) (len cap : Nat) (l : List UInt8) (s : Int × Int) (w : World) (h : RAt w g a len cap l s) :
    Calls Try.prog 31 #[vR g] w fun e w' => e = .returned (.tuple #[.int .i64 (endR s).1, .int .i64 (endR s).2]) ∧ Below w.heap.size w w' := by
  obtain ⟨c0, c1, c2⟩ := h.box.cells
  clear h
  unfold endR
  by_cases h0 : s.2 = 0
  · rw [if_pos h0]
    rw [h0] at c2
    clear h0
    go_enter Try.func31, Try.ntmps31
    go_wp2
    go_ret2
    exact ⟨rfl, Below.refl _ _⟩
  · rw [if_neg h0]
    have d0 : (s.2 != 0) = true := by simpa using h0
    clear h0
    go_enter Try.func31, Try.ntmps31
    go_wp2_with fail
    go_quiet (fail)
    go_wp2
    go_ret2
    exact ⟨rfl, by first | exact below_of_stay ((Stay.refl _ _).drewN _) | exact below_of_stay (Stay.refl _ _).drew⟩

theorem newReader_any (a : Option Addr) (len cap : Nat) (l : List UInt8) (p : Int) (w : World) (hr : Rd w a l) (hs : ∀ b o, a = some ⟨b, o, none⟩ → b < w.heap.size) (hlen : l.length = len) (hl : len ≤ 1048576) (hcap : len ≤ cap) :
    Calls Try.prog 22 #[.slice a len cap, .int .i64 p] w fun e w' => e = .returned (vR w.heap.size) ∧ RAt w' w.heap.size a len cap l (p, 0) ∧ Below w.heap.size w w' := by
  have hb : Below w.heap.size w (w.alloc (.cells #[.slice a len cap, .int .i64 p, .int .i64 0] 105)) := (Below.refl _ w).alloc (Nat.le_refl _) _
  have HP : Hid (RAt (w.alloc (.cells #[.slice a len cap, .int .i64 p, .int .i64 0] 105)) w.heap.size a len cap l (p, 0)) :=
    ⟨RBox.made (s := (p, 0)) rfl, hr.later hb, fun b o e => ⟨Nat.ne_of_lt (hs b o e), Nat.lt_of_lt_of_le (hs b o e) hb.size⟩, hlen, hl, hcap⟩
  have HB : Hid _ := hb
  clear hb hr hs hlen
  go_enter Try.func22, Try.ntmps22
  go_wp2
  go_ret
  exact ⟨rfl, HP.out, HB.out⟩

/-- A row that is taken. -/
def takeR (l : List UInt8) (s : Int × Int) : List PV × (Int × Int) := if s.2 = 0 then ((readR l s.1).1, ((readR l s.1).2.1, (readR l s.1).2.2)) else ([], s)

theorem RdV.kept {w w' : World} {a : Option Addr} {vs : List PV} (h : RdV w a vs) (hb : ∀ b o, a = some ⟨b, o, none⟩ → w'.heap[b]? = w.heap[b]?) : RdV w' a vs := by
  intro h0
  obtain ⟨b, off, rfl, hc⟩ := h h0
  exact ⟨b, off, rfl, fun i hi => by
    have hx := hb b off rfl
    obtain ⟨h1, h2, h3⟩ := hc i hi
    refine ⟨?_, ?_, ?_⟩
    · rw [World.cell?_of_block (w := w) (a := ⟨b, _, none⟩) hx]; exact h1
    · rw [World.cell?_of_block (w := w) (a := ⟨b, _, none⟩) hx]; exact h2
    · rw [World.cell?_of_block (w := w) (a := ⟨b, _, none⟩) hx]; exact h3⟩

/-- New values are handed back. -/
def NewV (w w' : World) (e : Ending) (vs : List PV) : Prop :=
  ∃ va n vc, e = .returned (.slice va n vc) ∧ vs.length = n ∧ n ≤ 65536 ∧ n ≤ vc ∧ RdV w' va vs ∧ (va = none → vs = [] ∧ vc = 0) ∧ ∀ b o, va = some ⟨b, o, none⟩ → w.heap.size ≤ b ∧ b < w'.heap.size

set_option maxHeartbeats 2000000 in
theorem takeRow_any (g : Nat) (a : Option Addr) (len cap : Nat) (l : List UInt8) (s : Int × Int) (w : World) (h : RAt w g a len cap l s) :
    Calls Try.prog 28 #[vR g, .func (.func 29) #[] #[]] w fun e w' => NewV w w' e (takeR l s).1 ∧ RAt w' g a len cap l (takeR l s).2 ∧ Aside g w w' := by
  obtain ⟨c0, c1, c2⟩ := h.box.cells
  by_cases h0 : s.2 = 0
  · have e : takeR l s = ((readR l s.1).1, ((readR l s.1).2.1, (readR l s.1).2.2)) := if_pos h0
    rw [e]
    rw [h0] at c2
    have C := fun (n : Nat) => rowRead a len cap s.1 l (w.drewN n) h.hlen h.hl h.hcap h.rd
    generalize readR l s.1 = r at C ⊢
    have HC : Hid _ := C
    have HP : Hid (∀ n, RAt (w.drewN n) g a len cap l s) := h.drewN
    have HG : Hid (g < w.heap.size) := h.box.lt
    clear C e h h0
    go_enter Try.func28, Try.ntmps28
    go_wp2_with fail
    go_region_with (first | (go_at_call 29; refine (HC.out _).mono ?_; rintro e w1 ⟨va, n, vc, rfl, hn, hn6, hvc, hov, hrv, hnil, hw1⟩; have HP1 : Hid (RAt w1 g a len cap l s) := (HP.out _).later hw1; have x1 := HP1.out.box.cells.2.1; have x2 := HP1.out.box.cells.2.2; have f1 := HP1.out.box.free 1; have f2 := HP1.out.box.free 2; have HS1 : Hid (Aside g w w1) := (Aside.drewN _).trans (Aside.of_below hw1); have HO : Hid _ := World.ownsRow.lt hov; have HN : Hid (r.1.length = n) := hn; have HRV : Hid (RdV w1 va r.1) := hrv; have HNIL : Hid (va = none → r.1 = [] ∧ vc = 0) := hnil; clear hw1 hov hn hrv hnil))
    all_goals
      go_wp2
      go_ret
      refine ⟨⟨va, n, vc, rfl, HN.out, hn6, hvc, HRV.out.kept fun b o e => ?_, HNIL.out, fun b o e => ?_⟩, (HP1.out.both _ _).1, HS1.out.trans (HP1.out.both _ _).2⟩
      · have := (HO.out b (by rw [e]; rfl)).1
        have hne : b ≠ g := by
          have := HG.out
          simp at *
          omega
        rw [same_set b hne, same_set b hne]
      · have := HO.out b (by rw [e]; rfl)
        simpa using this
  · have e : takeR l s = ([], s) := if_neg h0
    rw [e]
    have d0 : (s.2 == 0) = false := by simpa using h0
    have HP : Hid (RAt w g a len cap l s) := h
    clear h0 h e
    go_enter Try.func28, Try.ntmps28
    go_wp2
    go_ret
    exact ⟨⟨none, 0, 0, rfl, rfl, by omega, Nat.le_refl _, RdV.nil _ _, fun _ => ⟨rfl, rfl⟩, fun b o e => by cases e⟩, HP.out, Aside.refl g w⟩

end Go.Proofs.Ytjpcljmlkgjbgaa
