/-
  Texts of the proof of BufAll, one behind the other.
-/
import Derived.Test.YtjddkodcbpnilaaRows
import Derived.Test.YtjddkodcbpnilaaG29BufAll
import Derived.Test.YtjddkodcbpnilaaG25BufAll
import Derived.WalkKit
import Derived.WalkSpells
import Derived.Deep.QuietTactic
import Derived.BigQuiet
namespace Go.Proofs.Ytjddkodcbpnilaa
open Go.RowKit Go.Lib
set_option linter.unusedVariables false

/-- An operation. -/
structure PO where
  dp : Int
  dn : Int
  deps : List Int
  sp : Int
  sl : Int
  sq : Int
  kind : Int
  table : Int
  key : ByteArray
  col : Int
  vals : List PV
  dots : List (Int × Int)

theorem cellO_lt {w : World} {b o : Nat} {v : Value} (h : w.cell? ⟨b, o, none⟩ = some v) : b < w.heap.size := by
  rcases Nat.lt_or_ge b w.heap.size with h1 | h1
  · exact h1
  · simp [World.cell?, Array.getElem?_eq_none h1] at h

/-- What a walk is told of an operation's lists. -/
structure LiesO (w : World) (x : PO) (da va oa : Option Addr) (dc vc oc : Nat) : Prop where
  deps : RdI .i64 w da x.deps
  vals : RdV w va x.vals
  dots : RdD w oa x.dots
  ld : x.deps.length ≤ 65536
  lv : x.vals.length ≤ 65536
  lo : x.dots.length ≤ 65536
  cd : x.deps.length ≤ dc
  cv : x.vals.length ≤ vc
  co : x.dots.length ≤ oc
  nd : da = none → x.deps = [] ∧ dc = 0
  nv : va = none → x.vals = [] ∧ vc = 0
  no : oa = none → x.dots = [] ∧ oc = 0
  key : x.key.size ≤ 9223372036854775807

theorem LiesO.hd {w : World} {x : PO} {da va oa : Option Addr} {dc vc oc : Nat} (h : LiesO w x da va oa dc vc oc) (h0 : 0 < x.deps.length) : ∀ b o, da = some ⟨b, o, none⟩ → b < w.heap.size := by
  intro b o e
  obtain ⟨b', o', e', hc⟩ := h.deps h0
  rw [e] at e'
  simp only [Option.some.injEq, Addr.mk.injEq, and_true] at e'
  obtain ⟨rfl, rfl⟩ := e'
  exact cellO_lt (hc 0 h0)

theorem LiesO.ho {w : World} {x : PO} {da va oa : Option Addr} {dc vc oc : Nat} (h : LiesO w x da va oa dc vc oc) (h0 : 0 < x.dots.length) : ∀ b o, oa = some ⟨b, o, none⟩ → b < w.heap.size := by
  intro b o e
  obtain ⟨b', o', e', hc⟩ := h.dots h0
  rw [e] at e'
  simp only [Option.some.injEq, Addr.mk.injEq, and_true] at e'
  obtain ⟨rfl, rfl⟩ := e'
  exact cellO_lt (hc 0 h0).1

/-- An operation's cells. -/
abbrev cellsO (x : PO) (da va oa : Option Addr) (dc vc oc : Nat) : Array Value :=
  #[.int .i64 x.dp, .int .i64 x.dn, .slice da x.deps.length dc, .int .i64 x.sp, .int .i64 x.sl, .int .i64 x.sq, .int .i64 x.kind, .int .i64 x.table, .string x.key, .int .i64 x.col, .slice va x.vals.length vc, .slice oa x.dots.length oc]

/-- A row's bytes, if it can be written. -/
def putRo (vs : List PV) : Option (List UInt8) := if chkR vs = 0 then some (bytesR vs) else none

/-- What is written of an operation, up to its dots. -/
def wO1 (x : PO) : List UInt8 × Bool := addW ([], false) (putN x.kind 1)
def wO2 (x : PO) : List UInt8 × Bool := addWs (wO1 x) (dotP x.dp x.dn)
def wO3 (x : PO) : List UInt8 × Bool := addWs (wO2 x) (vecP x.deps)
def wO4 (x : PO) : List UInt8 × Bool := addWs (wO3 x) (stampP x.sp x.sl x.sq)
def wO5 (x : PO) : List UInt8 × Bool := addW (wO4 x) (putN x.table 1)
def wO6 (x : PO) : List UInt8 × Bool := addW (wO5 x) (putT x.key)
def wO7 (x : PO) : List UInt8 × Bool := addW (wO6 x) (putN x.col 1)
def wO8 (x : PO) : List UInt8 × Bool := addW (wO7 x) (putRo x.vals)
def wO9 (x : PO) : List UInt8 × Bool := addWs (wO8 x) (dotsP 64 x.dots)

/-- op.Bytes' answer. -/
def putO (x : PO) : List UInt8 × Int := tellW (wO9 x)

theorem vecP_le (s : List UInt8 × Bool) (v : List Int) : (addWs s (vecP v)).1.length ≤ s.1.length + 24 := by
  by_cases hc : 5 < v.length
  · unfold vecP
    rw [addWs_cons, show putC v.length 1 5 = none from if_pos hc, addWs_bad rfl]
    simp only [addW]
    omega
  · have := addWs_length s (vecP v) 4 (vecP_small v)
    rw [vecP_length] at this
    omega

theorem dotP_le (s : List UInt8 × Bool) (p k : Int) : (addWs s (dotP p k)).1.length ≤ s.1.length + 5 := by
  rw [addWs_two]
  exact addW_le (by have := addW_le (s := s) (n := p) (size := 1) (m := s.1.length + 1) (by omega); omega)

theorem stampP_le (s : List UInt8 × Bool) (p l q : Int) : (addWs s (stampP p l q)).1.length ≤ s.1.length + 10 := by
  rw [addWs_three]
  have h1 := addW_le (s := s) (n := p) (size := 6) (m := s.1.length + 6) (by omega)
  have h2 := addW_le (s := addW s (putN p 6)) (n := l) (size := 3) (m := s.1.length + 9) (by omega)
  exact addW_le (by omega)

theorem putT_len (t : ByteArray) : lenO (putT t) ≤ 25 := by
  unfold putT
  split
  · simp [lenO]
  · rename_i h
    simp only [lenO, textBytes_length]
    rw [← size_eq]
    omega

theorem putRo_len (vs : List PV) : lenO (putRo vs) ≤ 1000 := by
  unfold putRo
  split
  · rename_i h
    obtain ⟨h1, h2⟩ := chkR_ok.1 h
    simp only [lenO]
    have hb : ∀ l : List PV, l.all okV = true → (bytesVs l).length ≤ l.length * 26 := by
      intro l
      induction l with
      | nil => intro _; simp [bytesVs]
      | cons v l ih =>
        intro h
        simp only [List.all_cons, Bool.and_eq_true] at h
        have := ih h.2
        have := bytesV_small h.1
        simp [bytesVs] at *
        omega
    have := hb vs h2
    simp only [bytesR, List.length_cons]
    omega
  · simp [lenO]

theorem wO_len (x : PO) : (wO1 x).1.length ≤ 1 ∧ (wO2 x).1.length ≤ 6 ∧ (wO3 x).1.length ≤ 30 ∧ (wO4 x).1.length ≤ 40 ∧ (wO5 x).1.length ≤ 41 ∧ (wO6 x).1.length ≤ 66 ∧ (wO7 x).1.length ≤ 67 ∧ (wO8 x).1.length ≤ 1067 := by
  have h1 : (wO1 x).1.length ≤ 1 := addW_le (by simp)
  have h2 : (wO2 x).1.length ≤ (wO1 x).1.length + 5 := dotP_le (wO1 x) x.dp x.dn
  have h3 : (wO3 x).1.length ≤ (wO2 x).1.length + 24 := vecP_le (wO2 x) x.deps
  have h4 : (wO4 x).1.length ≤ (wO3 x).1.length + 10 := stampP_le (wO3 x) x.sp x.sl x.sq
  have h5 : (wO5 x).1.length ≤ (wO4 x).1.length + lenO (putN x.table 1) := addW_length (wO4 x) (putN x.table 1)
  have h5' := putN_len x.table 1
  have h6 : (wO6 x).1.length ≤ (wO5 x).1.length + lenO (putT x.key) := addW_length (wO5 x) (putT x.key)
  have h6' := putT_len x.key
  have h7 : (wO7 x).1.length ≤ (wO6 x).1.length + lenO (putN x.col 1) := addW_length (wO6 x) (putN x.col 1)
  have h7' := putN_len x.col 1
  have h8 : (wO8 x).1.length ≤ (wO7 x).1.length + lenO (putRo x.vals) := addW_length (wO7 x) (putRo x.vals)
  have h8' := putRo_len x.vals
  omega

theorem wO9_le (x : PO) : (wO9 x).1.length ≤ 1048576 := by
  have h := (wO_len x).2.2.2.2.2.2.2
  have := dotsTo_le (wO8 x) 64 x.dots x.dots.length (by omega) (by omega)
  rw [dotsTo_all] at this
  exact Nat.le_trans this (by omega)

theorem putO_le (x : PO) : (tellW (wO9 x)).1.length ≤ 1048576 := by
  unfold tellW
  split
  · simp
  · exact wO9_le x

theorem putRo_some {vs : List PV} (h : chkR vs = 0) : putRo vs = some (bytesR vs) := if_pos h
theorem putRo_none {vs : List PV} (h : ¬ chkR vs = 0) : putRo vs = none := if_neg h

end Go.Proofs.Ytjddkodcbpnilaa

namespace Go.Proofs.Ytjddkodcbpnilaa
open Go.RowKit Go.Lib
set_option linter.unusedVariables false

/-- Where a Reader ends. -/
def endR (s : Int × Int) : Int × Int := if s.2 = 0 then (s.1, 0) else (0, s.2)

/-- A row that is taken. -/
def takeR (l : List UInt8) (s : Int × Int) : List PV × (Int × Int) := if s.2 = 0 then ((readR l s.1).1, ((readR l s.1).2.1, (readR l s.1).2.2)) else ([], s)

theorem RdV.kept {w w' : World} {a : Option Addr} {vs : List PV} (h : RdV w a vs) (hb : ∀ b o, a = some ⟨b, o, none⟩ → w'.heap[b]? = w.heap[b]?) : RdV w' a vs := by
  intro h0
  obtain ⟨b, off, rfl, hc⟩ := h h0
  exact ⟨b, off, rfl, fun i hi => by
    have hx := hb b off rfl
    obtain ⟨h1, h2, h3⟩ := hc i hi
    refine ⟨?_, ?_, ?_⟩
    · rw [World.cell?_of_block (w := w) (a := ⟨b, _, none⟩) hx]; exact h1
    · rw [World.cell?_of_block (w := w) (a := ⟨b, _, none⟩) hx]; exact h2
    · rw [World.cell?_of_block (w := w) (a := ⟨b, _, none⟩) hx]; exact h3⟩

/-- New values are handed back. -/
def NewV (w w' : World) (e : Ending) (vs : List PV) : Prop :=
  ∃ va n vc, e = .returned (.slice va n vc) ∧ vs.length = n ∧ n ≤ 65536 ∧ n ≤ vc ∧ RdV w' va vs ∧ (va = none → vs = [] ∧ vc = 0) ∧ ∀ b o, va = some ⟨b, o, none⟩ → w.heap.size ≤ b ∧ b < w'.heap.size

end Go.Proofs.Ytjddkodcbpnilaa
