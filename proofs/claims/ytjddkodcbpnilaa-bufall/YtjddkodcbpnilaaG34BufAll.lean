/-
  Texts of the proof of BufAll, one behind the other.
-/
import Derived.Test.YtjddkodcbpnilaaRows
import Derived.Test.YtjddkodcbpnilaaG30BufAll
import Derived.Test.YtjddkodcbpnilaaG33BufAll
import Derived.WalkKit
import Derived.WalkSpells
import Derived.Deep.QuietTactic
import Derived.BigQuiet
import Derived.Test.YtjddkodcbpnilaaG26BufAll
import Derived.Test.YtjddkodcbpnilaaG32BufAll
import Derived.Test.YtjddkodcbpnilaaG17BufAll
import Derived.Test.YtjddkodcbpnilaaG9BufAll
import Derived.Test.YtjddkodcbpnilaaG19BufAll
import Derived.Test.YtjddkodcbpnilaaG29BufAll
import Derived.Test.YtjddkodcbpnilaaG21BufAll
import Derived.Test.YtjddkodcbpnilaaG22BufAll
import Derived.Test.YtjddkodcbpnilaaG14BufAll
namespace Go.Proofs.Ytjddkodcbpnilaa
open Go.RowKit Go.Lib
set_option linter.unusedVariables false

/-- All blocks but N and the next stay. -/
def Past (N : Nat) (w w' : World) : Prop := Stay (fun b => b ≠ N ∧ b ≠ N + 1 ∧ b < w.heap.size) w w'

theorem Past.refl (N : Nat) (w : World) : Past N w w := Stay.refl _ w

theorem Past.trans {N : Nat} {a b c : World} (h : Past N a b) (k : Past N b c) : Past N a c :=
  Stay.trans h (Stay.mono k fun x hx => ⟨hx.1, hx.2.1, Nat.lt_of_lt_of_le hx.2.2 h.size⟩)

theorem Past.aside {N : Nat} {w w' : World} (h : Aside (N + 1) w w') : Past N w w' := Stay.mono h fun b hb => ⟨hb.2.1, hb.2.2⟩

theorem Past.of_below {N : Nat} {w w' : World} (h : Below w.heap.size w w') : Past N w w' := Stay.of_below h fun b hb => hb.2.2

theorem Past.set {N i : Nat} {w w1 : World} {v : Value} (h : Past N w w1) : Past N w (w1.setCell ⟨N, i, none⟩ v) :=
  Stay.setCell (p := ⟨N, i, none⟩) h (fun k => k.1 rfl) _

theorem Past.below {w0 w w' : World} (h : Past w0.heap.size w w') (h0 : Below w0.heap.size w0 w) : Below w0.heap.size w0 w' :=
  h0.trans (Stay.below h fun b hb => ⟨by omega, by omega, Nat.lt_of_lt_of_le hb h0.size⟩)

theorem OwnI.past {w w' : World} {N B : Nat} {v : Value} {L : List Int} (h : OwnI w B v L) (hs : Past N w w') (hg : N + 1 < B) : OwnI w' B v L := by
  obtain ⟨h1, h2⟩ := h
  refine ⟨h1, ?_⟩
  rcases h2 with h2 | ⟨x, cap, cur, hv, hx, hh, hc⟩
  · exact .inl h2
  · exact .inr ⟨x, cap, cur, hv, hx, (hs.block x ⟨by omega, by omega, heap_lt hh⟩).trans hh, hc⟩

theorem OwnD.past {w w' : World} {N B : Nat} {v : Value} {L : List (Int × Int)} (h : OwnD w B v L) (hs : Past N w w') (hg : N + 1 < B) : OwnD w' B v L := by
  obtain ⟨h1, h2⟩ := h
  refine ⟨h1, ?_⟩
  rcases h2 with h2 | ⟨x, cap, cur, hv, hx, hh, hc⟩
  · exact .inl h2
  · exact .inr ⟨x, cap, cur, hv, hx, (hs.block x ⟨by omega, by omega, heap_lt hh⟩).trans hh, hc⟩

theorem takeT_size (l : List UInt8) (s : Int × Int) : (takeT l s).1.size ≤ 24 := by
  unfold takeT
  split
  · show (rGetText l s.1).1.toArray.size ≤ 24
    rw [List.size_toArray]
    unfold rGetText
    split
    · simp
    · split
      · simp
      · split
        · simp
        · rename_i h
          simp only [List.length_take]
          omega
  · show (0 : Nat) ≤ 24
    omega

/-- What op.Read answers. -/
def readO (l : List UInt8) (p : Int) : PO × Int × Int :=
  let q1 := takeN l (p, 0) 1
  let q2 := takeD l q1.2
  let q3 := takeV l q2.2
  let q4 := takeS l q3.2
  let q5 := takeN l q4.2 1
  let q6 := takeT l q5.2
  let q7 := takeN l q6.2 1
  let q8 := takeR l q7.2
  let q9 := takeDots l q8.2 64
  if (endR q9.2).2 = 0 then (⟨q2.1.1, q2.1.2, q3.1, q4.1.1, q4.1.2.1, q4.1.2.2, q1.1, q5.1, q6.1, q7.1, q8.1, q9.1⟩, (endR q9.2).1, 0)
  else (⟨0, 0, [], 0, 0, 0, 0, 0, ByteArray.empty, 0, [], []⟩, 0, (endR q9.2).2)

/-- An operation is handed back. -/
def GivesO (w w' : World) (e : Ending) (r : PO × Int × Int) : Prop :=
  ∃ da va oa dc vc oc, e = .returned (.tuple #[.agg (cellsO r.1 da va oa dc vc oc), .int .i64 r.2.1, .int .i64 r.2.2]) ∧ LiesO w' r.1 da va oa dc vc oc ∧ Below w.heap.size w w'

theorem liesO_end {w3 w8 w9 wf : World} {N B3 B8 B9 b3 n3 n8 b9 n9 vc : Nat} {va : Option Addr} {x : PO} (p3 : Past N w3 wf) (p8 : Past N w8 wf) (p9 : Past N w9 wf)
    (o3 : OwnI w3 B3 (.slice (some ⟨b3, 0, none⟩) n3 n3) x.deps) (g3 : N + 1 < B3) (l3 : x.deps.length = n3) (m3 : n3 ≤ 5)
    (rv : RdV w8 va x.vals) (vb : ∀ b o, va = some ⟨b, o, none⟩ → B8 ≤ b ∧ b < w8.heap.size) (g8 : N + 1 < B8) (l8 : x.vals.length = n8) (m8 : n8 ≤ 65536) (hvc : n8 ≤ vc) (vn : va = none → x.vals = [] ∧ vc = 0)
    (o9 : OwnD w9 B9 (.slice (some ⟨b9, 0, none⟩) n9 n9) x.dots) (g9 : N + 1 < B9) (l9 : x.dots.length = n9) (m9 : n9 ≤ 64) (hk : x.key.size ≤ 24) :
    LiesO wf x (some ⟨b3, 0, none⟩) va (some ⟨b9, 0, none⟩) n3 vc n9 := by
  have q3 := o3.past p3 g3
  have q9 := o9.past p9 g9
  have t3 := World.ownsRow.lt q3 b3 rfl
  have t9 := World.ownsRow.lt q9 b9 rfl
  obtain ⟨a3, c3, e3, _, r3, _⟩ := q3.form
  obtain ⟨a9, c9, e9, _, r9, _⟩ := q9.form
  simp only [Value.slice.injEq] at e3 e9
  rw [← e3.1] at r3
  rw [← e9.1] at r9
  refine ⟨r3, rv.kept fun b o e => p8.block b ⟨by have := (vb b o e).1; omega, by have := (vb b o e).1; omega, (vb b o e).2⟩, r9, by omega, by omega, by omega, by omega, by omega, by omega, fun e => (by cases e), vn, fun e => (by cases e), by omega⟩

end Go.Proofs.Ytjddkodcbpnilaa

namespace Go.Proofs.Ytjddkodcbpnilaa
open Go.RowKit Go.Lib
set_option linter.unusedVariables false

theorem k4V {W w w' : World} {b0 b1 b2 b3 o0 o1 o2 o3 : Nat} {x0 x1 x2 x3 : Value} (hb : Below w.heap.size w w')
    (h : w.cell? ⟨b0, o0, none⟩ = some x0 ∧ w.cell? ⟨b1, o1, none⟩ = some x1 ∧ w.cell? ⟨b2, o2, none⟩ = some x2 ∧ w.cell? ⟨b3, o3, none⟩ = some x3 ∧ Hid (Below W.heap.size W w)) :
    w'.cell? ⟨b0, o0, none⟩ = some x0 ∧ w'.cell? ⟨b1, o1, none⟩ = some x1 ∧ w'.cell? ⟨b2, o2, none⟩ = some x2 ∧ w'.cell? ⟨b3, o3, none⟩ = some x3 ∧ Hid (Below W.heap.size W w') :=
  ⟨cell_later hb h.1, cell_later hb h.2.1, cell_later hb h.2.2.1, cell_later hb h.2.2.2.1, chain h.2.2.2.2.out hb⟩

theorem o4V {W w : World} {P Q R S : Prop} (h : P ∧ Q ∧ R ∧ S ∧ Hid (Below w.heap.size w W)) : Below w.heap.size w W := h.2.2.2.2.out

theorem k2V {W w w' : World} {b0 b1 o0 o1 : Nat} {x0 x1 : Value} (hb : Below w.heap.size w w')
    (h : w.cell? ⟨b0, o0, none⟩ = some x0 ∧ w.cell? ⟨b1, o1, none⟩ = some x1 ∧ Hid (Below W.heap.size W w)) :
    w'.cell? ⟨b0, o0, none⟩ = some x0 ∧ w'.cell? ⟨b1, o1, none⟩ = some x1 ∧ Hid (Below W.heap.size W w') :=
  ⟨cell_later hb h.1, cell_later hb h.2.1, chain h.2.2.out hb⟩

theorem o2V {W w : World} {P Q : Prop} (h : P ∧ Q ∧ Hid (Below w.heap.size w W)) : Below w.heap.size w W := h.2.2.out

/-- A place of so many. -/
def placeF (count at_ : Int) : Bool := decide (0 ≤ at_ ∧ at_ < count)

/-- May these be put into columns of these types? -/
def putF (vs : List PV) (ts : List Int) : Bool := fitsR vs ts && vs.all smallV

/-- May these be removed by one that had these? -/
def stepF (deps : List Int) (ds : List (Int × Int)) (i : Nat) : Bool :=
  hasD deps (ds[i]?.getD (0, 0)).1 (ds[i]?.getD (0, 0)).2 && (i == 0 || lessD (ds[i - 1]?.getD (0, 0)).1 (ds[i - 1]?.getD (0, 0)).2 (ds[i]?.getD (0, 0)).1 (ds[i]?.getD (0, 0)).2)

def remF (deps : List Int) (ds : List (Int × Int)) : Bool := decide (1 ≤ ds.length ∧ ds.length ≤ 64) && (List.range ds.length).all (stepF deps ds)

theorem range_step {P : Nat → Bool} {k : Nat} (h : (List.range k).all P = true) : (List.range (k + 1)).all P = P k := by
  rw [List.range_succ, List.all_append, h]
  simp

theorem range_no {P : Nat → Bool} {k n : Nat} (hk : k < n) (h : P k = false) : (List.range n).all P = false := by
  rw [List.all_eq_false]
  exact ⟨k, by simpa using hk, by simpa using h⟩

end Go.Proofs.Ytjddkodcbpnilaa

namespace Go.Proofs.Ytjddkodcbpnilaa
open Go.RowKit Go.Lib
set_option linter.unusedVariables false

/-- The numbers of an operation are ints. -/
structure I64O (x : PO) : Prop where
  deps : All64 x.deps
  dp : In64 x.dp
  dn : In64 x.dn
  st : S64 ⟨x.sp, x.sl, x.sq⟩
  dots : ∀ d ∈ x.dots, In64 d.1 ∧ In64 d.2
  col : In64 x.col
  table : In64 x.table

/-- May it be its peer's next one? -/
def issuedF (n : Int) (x : PO) : Bool :=
  decide ((x.deps.length : Int) = n) && decide (chkD x.deps = 0) && nextD x.deps x.dp x.dn && decide (x.dn ≤ 1073741824) && decide (chkS ⟨x.sp, x.sl, x.sq⟩ = 0) && decide (x.sq = x.dp)

end Go.Proofs.Ytjddkodcbpnilaa

namespace Go.Proofs.Ytjddkodcbpnilaa
open Go.RowKit Go.Lib
set_option linter.unusedVariables false

/-- Can a number be written in so many bytes? -/
def fitsF (n : Int) (s : Nat) : Bool := decide (0 ≤ n ∧ n < ((256 ^ s : Nat) : Int))

theorem putN_isSome (n : Int) (s : Nat) : (putN n s).isSome = fitsF n s := by
  unfold putN fitsF
  by_cases h : 0 ≤ n ∧ n < ((256 ^ s : Nat) : Int)
  · rw [if_pos h, decide_eq_true h]; rfl
  · rw [if_neg h, decide_eq_false h]; rfl

/-- Can a dot? -/
def fitsD (d : Int × Int) : Bool := fitsF d.1 1 && fitsF d.2 4

/-- Can a time? -/
def fitsS (p l q : Int) : Bool := fitsF p 6 && fitsF l 3 && fitsF q 1

/-- Can a vector? -/
def fitsVec (v : List Int) : Bool := v.all (fun n => fitsF n 4) && decide (v.length ≤ 5)

end Go.Proofs.Ytjddkodcbpnilaa

namespace Go.Proofs.Ytjddkodcbpnilaa
open Go.RowKit Go.Lib
set_option linter.unusedVariables false

/-- These bytes stand there. -/
def Stands (l : List UInt8) (q : Nat) (B : List UInt8) : Prop := ∃ r, l.drop q = B ++ r

theorem Stands.app {l B C : List UInt8} {q : Nat} : Stands l q (B ++ C) ↔ Stands l q B ∧ Stands l (q + B.length) C := by
  have e : l.drop (q + B.length) = (l.drop q).drop B.length := by rw [List.drop_drop]
  constructor
  · rintro ⟨r, h⟩
    refine ⟨⟨C ++ r, by rw [h, List.append_assoc]⟩, ⟨r, ?_⟩⟩
    rw [e, h, List.append_assoc, List.drop_left]
  · rintro ⟨⟨r, h⟩, ⟨r', h'⟩⟩
    refine ⟨r', ?_⟩
    rw [e, h, List.drop_left] at h'
    rw [h, h', List.append_assoc]

theorem Stands.le {l B : List UInt8} {q : Nat} (h : Stands l q B) (h0 : 0 < B.length) : q + B.length ≤ l.length := by
  obtain ⟨r, h⟩ := h
  have := congrArg List.length h
  simp at this
  omega

theorem Stands.whole (B : List UInt8) : Stands B 0 B := ⟨[], by simp⟩

/-- A reader's place is one of the bytes, or they are none. -/
def Fine (l : List UInt8) (s : Int × Int) : Prop := (s.2 = 0 ∧ 0 ≤ s.1 ∧ s.1 ≤ (l.length : Int)) ∨ s.2 = 3

/-- What is read of things that are written so. -/
structure Lawful {α : Type} (T : List UInt8 → Int × Int → α × (Int × Int)) (enc : α → List UInt8) (ok : α → Prop) : Prop where
  fwd : ∀ l (q : Nat) v, ok v → Stands l q (enc v) → T l ((q : Int), 0) = (v, ((q : Int) + ((enc v).length : Int), 0))
  inv : ∀ l s, (T l s).2.2 = 0 → s.2 = 0 ∧ ∃ q : Nat, s.1 = q ∧ ok (T l s).1 ∧ Stands l q (enc (T l s).1) ∧ (T l s).2.1 = (q : Int) + ((enc (T l s).1).length : Int)
  fine : ∀ l s, Fine l s → Fine l (T l s).2

def seqT {α β : Type} (T : List UInt8 → Int × Int → α × (Int × Int)) (U : List UInt8 → Int × Int → β × (Int × Int)) (l : List UInt8) (s : Int × Int) : (α × β) × (Int × Int) :=
  (((T l s).1, (U l (T l s).2).1), (U l (T l s).2).2)

theorem Lawful.seq {α β : Type} {T : List UInt8 → Int × Int → α × (Int × Int)} {U : List UInt8 → Int × Int → β × (Int × Int)} {e : α → List UInt8} {f : β → List UInt8} {p : α → Prop} {q : β → Prop} (hT : Lawful T e p) (hU : Lawful U f q) :
    Lawful (seqT T U) (fun v => e v.1 ++ f v.2) (fun v => p v.1 ∧ q v.2) where
  fwd := fun l k v hv hs => by
    obtain ⟨h1, h2⟩ := Stands.app.1 hs
    have a := hT.fwd l k v.1 hv.1 h1
    have b := hU.fwd l (k + (e v.1).length) v.2 hv.2 h2
    rw [show ((k + (e v.1).length : Nat) : Int) = (k : Int) + ((e v.1).length : Int) from by omega] at b
    unfold seqT
    rw [a]
    simp only []
    rw [b, List.length_append]
    simp only [Prod.mk.injEq, true_and, and_true]
    omega
  inv := fun l s h => by
    have h2 : (U l (T l s).2).2.2 = 0 := h
    obtain ⟨z, k2, e2, ok2, st2, p2⟩ := hU.inv l _ h2
    obtain ⟨z1, k1, e1, ok1, st1, p1⟩ := hT.inv l s z
    have hk : k2 = k1 + (e (T l s).1).length := by omega
    subst hk
    refine ⟨z1, k1, e1, ⟨ok1, ok2⟩, Stands.app.2 ⟨st1, st2⟩, ?_⟩
    show (U l (T l s).2).2.1 = _
    rw [p2, List.length_append]
    simp only [seqT]
    omega
  fine := fun l s h => hU.fine l _ (hT.fine l s h)

/-- A number of so many bytes. -/
theorem lawN (size : Nat) (h1 : 1 ≤ size) (h7 : size ≤ 7) : Lawful (fun l s => takeN l s (size : Int)) (fun n => be n.toNat size) (fun n => fitsF n size = true) where
  fwd := fun l q n hv hs => by
    have hv' : 0 ≤ n ∧ n < ((256 ^ size : Nat) : Int) := by simpa [fitsF] using hv
    have hle := hs.le (by rw [be_length]; omega)
    obtain ⟨r, hr⟩ := hs
    rw [be_length] at hle
    unfold takeN rGet
    simp only [if_true]
    rw [if_neg (by omega), if_neg (by omega)]
    simp only [Int.toNat_natCast, hr]
    rw [List.take_left' (be_length _ _), num_be_of_lt (by omega), be_length]
    simp only [Prod.mk.injEq, and_true]
    omega
  inv := fun l s h => by
    unfold takeN at h ⊢
    by_cases h0 : s.2 = 0
    · rw [if_pos h0] at h ⊢
      unfold rGet at h ⊢
      by_cases c1 : (size : Int) < 1 ∨ 7 < (size : Int) ∨ s.1 < 0 ∨ (l.length : Int) < s.1
      · rw [if_pos c1] at h
        exact absurd h (by decide)
      rw [if_neg c1] at h ⊢
      by_cases c2 : (l.length : Int) - s.1 < (size : Int)
      · rw [if_pos c2] at h
        exact absurd h (by decide)
      rw [if_neg c2] at h ⊢
      simp only [Int.toNat_natCast]
      have hlen : ((l.drop s.1.toNat).take size).length = size := by rw [List.length_take, List.length_drop]; omega
      have hb : be (num ((l.drop s.1.toNat).take size)) size = (l.drop s.1.toNat).take size := by
        have := be_num ((l.drop s.1.toNat).take size)
        rw [hlen] at this
        exact this
      have hlt := num_lt ((l.drop s.1.toNat).take size)
      rw [hlen] at hlt
      refine ⟨h0, s.1.toNat, by omega, ?_, ⟨(l.drop s.1.toNat).drop size, ?_⟩, ?_⟩
      · unfold fitsF
        exact decide_eq_true ⟨by omega, by omega⟩
      · rw [hb, List.take_append_drop]
      · rw [be_length]
        omega
    · rw [if_neg h0] at h
      exact absurd h h0
  fine := fun l s h => by
    rcases h with ⟨h0, h2, h3⟩ | h0
    · unfold takeN
      rw [if_pos h0]
      unfold rGet
      rw [if_neg (by omega)]
      by_cases c2 : (l.length : Int) - s.1 < (size : Int)
      · rw [if_pos c2]
        exact .inr rfl
      · rw [if_neg c2]
        exact .inl ⟨rfl, by simp only; omega, by simp only; omega⟩
    · unfold takeN
      rw [if_neg (by omega)]
      exact .inr h0

/-- A count. -/
theorem lawC (most : Nat) (hm : most ≤ 255) : Lawful (fun l s => takeC l s 1 (most : Int)) (fun n => be n.toNat 1) (fun n => 0 ≤ n ∧ n ≤ (most : Int)) where
  fwd := fun l q n hv hs => by
    have a := (lawN 1 (by omega) (by omega)).fwd l q n (by unfold fitsF; exact decide_eq_true ⟨by omega, by omega⟩) hs
    have a' : takeN l ((q : Int), 0) 1 = (n, ((q : Int) + ((be n.toNat 1).length : Int), 0)) := a
    simp only [takeC]
    rw [a', if_neg (by simp only; omega)]
  inv := fun l s h => by
    simp only [takeC] at h ⊢
    by_cases c : (most : Int) < (takeN l s 1).1
    · rw [if_pos c] at h
      exact absurd h (show ¬ ((3 : Int) = 0) by decide)
    · rw [if_neg c] at h ⊢
      obtain ⟨z, q, e, ok, st, p⟩ := (lawN 1 (by omega) (by omega)).inv l s h
      have ok' : 0 ≤ (takeN l s 1).1 ∧ (takeN l s 1).1 < ((256 ^ 1 : Nat) : Int) := by simpa [fitsF] using ok
      exact ⟨z, q, e, ⟨ok'.1, by omega⟩, st, p⟩
  fine := fun l s h => by
    simp only [takeC]
    by_cases c : (most : Int) < (takeN l s 1).1
    · rw [if_pos c]
      exact .inr rfl
    · rw [if_neg c]
      exact (lawN 1 (by omega) (by omega)).fine l s h

/-- So many of them. -/
def manyT {α : Type} (T : List UInt8 → Int × Int → α × (Int × Int)) (l : List UInt8) : Nat → Int × Int → List α × (Int × Int)
  | 0, s => ([], s)
  | n + 1, s => ((T l s).1 :: (manyT T l n (T l s).2).1, (manyT T l n (T l s).2).2)

theorem manyT_len {α : Type} (T : List UInt8 → Int × Int → α × (Int × Int)) (l : List UInt8) : ∀ n s, (manyT T l n s).1.length = n
  | 0, _ => rfl
  | n + 1, s => by simp [manyT, manyT_len T l n]

theorem many_fwd {α : Type} {T : List UInt8 → Int × Int → α × (Int × Int)} {e : α → List UInt8} {p : α → Prop} (hT : Lawful T e p) : ∀ (vs : List α) l (q : Nat), (∀ v ∈ vs, p v) → Stands l q (vs.flatMap e) → manyT T l vs.length ((q : Int), 0) = (vs, ((q : Int) + ((vs.flatMap e).length : Int), 0))
  | [], l, q, _, _ => by simp [manyT]
  | v :: vs, l, q, hp, hs => by
    rw [List.flatMap_cons] at hs
    obtain ⟨h1, h2⟩ := Stands.app.1 hs
    have a := hT.fwd l q v (hp v (List.mem_cons_self ..)) h1
    have b := many_fwd hT vs l (q + (e v).length) (fun u hu => hp u (List.mem_cons_of_mem _ hu)) h2
    rw [show ((q + (e v).length : Nat) : Int) = (q : Int) + ((e v).length : Int) from by omega] at b
    show ((T l ((q : Int), 0)).1 :: (manyT T l vs.length (T l ((q : Int), 0)).2).1, (manyT T l vs.length (T l ((q : Int), 0)).2).2) = _
    rw [a]
    simp only []
    rw [b, List.flatMap_cons, List.length_append]
    simp only [Prod.mk.injEq, true_and, and_true]
    omega

theorem many_inv {α : Type} {T : List UInt8 → Int × Int → α × (Int × Int)} {e : α → List UInt8} {p : α → Prop} (hT : Lawful T e p) : ∀ (n : Nat) l (s : Int × Int), (manyT T l n s).2.2 = 0 → (n ≠ 0 ∨ ∃ q : Nat, s.1 = q) → s.2 = 0 ∧ ∃ q : Nat, s.1 = q ∧ (∀ v ∈ (manyT T l n s).1, p v) ∧ Stands l q ((manyT T l n s).1.flatMap e) ∧ (manyT T l n s).2.1 = (q : Int) + (((manyT T l n s).1.flatMap e).length : Int)
  | 0, l, s, h, hq => by
    obtain ⟨q, hq⟩ : ∃ q : Nat, s.1 = q := by rcases hq with h | h; exact absurd rfl h; exact h
    exact ⟨h, q, hq, (fun v hv => by cases hv), ⟨l.drop q, rfl⟩, by simp [manyT, hq]⟩
  | n + 1, l, s, h, _ => by
    have h2 : (manyT T l n (T l s).2).2.2 = 0 := h
    have hz : (T l s).2.2 = 0 := by
      cases n with
      | zero => exact h2
      | succ n => exact (many_inv hT (n + 1) l _ h2 (.inl (by omega))).1
    obtain ⟨z1, k1, e1, ok1, st1, p1⟩ := hT.inv l s hz
    obtain ⟨z, k2, e2, ok2, st2, p2⟩ := many_inv hT n l _ h2 (.inr ⟨k1 + (e (T l s).1).length, by rw [p1]; omega⟩)
    have hk : k2 = k1 + (e (T l s).1).length := by omega
    subst hk
    refine ⟨z1, k1, e1, ?_, ?_, ?_⟩
    · intro v hv
      simp only [manyT, List.mem_cons] at hv
      rcases hv with rfl | hv
      · exact ok1
      · exact ok2 v hv
    · simp only [manyT, List.flatMap_cons]
      exact Stands.app.2 ⟨st1, st2⟩
    · simp only [manyT, List.flatMap_cons, List.length_append]
      rw [p2]
      omega

theorem many_fine {α : Type} {T : List UInt8 → Int × Int → α × (Int × Int)} {e : α → List UInt8} {p : α → Prop} (hT : Lawful T e p) (l : List UInt8) : ∀ (n : Nat) s, Fine l s → Fine l (manyT T l n s).2
  | 0, s, h => h
  | n + 1, s, h => many_fine hT l n _ (hT.fine l s h)

/-- A list with its count ahead of it. -/
theorem lawL {α : Type} {T : List UInt8 → Int × Int → α × (Int × Int)} {e : α → List UInt8} {p : α → Prop} (hT : Lawful T e p) (most : Nat) (hm : most ≤ 255) :
    Lawful (fun l s => manyT T l (takeC l s 1 (most : Int)).1.toNat (takeC l s 1 (most : Int)).2) (fun vs => be vs.length 1 ++ vs.flatMap e) (fun vs => vs.length ≤ most ∧ ∀ v ∈ vs, p v) where
  fwd := fun l q vs hv hs => by
    obtain ⟨h1, h2⟩ := Stands.app.1 hs
    have a := (lawC most hm).fwd l q (vs.length : Int) ⟨by omega, by have := hv.1; omega⟩ (by rw [Int.toNat_natCast]; exact h1)
    simp only [Int.toNat_natCast] at a
    have b := many_fwd hT vs l (q + (be vs.length 1).length) hv.2 h2
    rw [show ((q + (be vs.length 1).length : Nat) : Int) = (q : Int) + ((be vs.length 1).length : Int) from by omega] at b
    rw [a]
    simp only [Int.toNat_natCast]
    rw [b, List.length_append]
    simp only [Prod.mk.injEq, true_and, and_true]
    omega
  inv := fun l s h => by
    have hz : (takeC l s 1 (most : Int)).2.2 = 0 := by
      generalize (takeC l s 1 (most : Int)).1.toNat = n at h
      cases n with
      | zero => exact h
      | succ n => exact (many_inv hT (n + 1) l _ h (.inl (by omega))).1
    obtain ⟨z1, k1, e1, ok1, st1, p1⟩ := (lawC most hm).inv l s hz
    obtain ⟨z, k2, e2, ok2, st2, p2⟩ := many_inv hT _ l _ h (.inr ⟨k1 + (be (takeC l s 1 (most : Int)).1.toNat 1).length, by rw [p1]; omega⟩)
    have hn := manyT_len T l (takeC l s 1 (most : Int)).1.toNat (takeC l s 1 (most : Int)).2
    have hk : k2 = k1 + (be (takeC l s 1 (most : Int)).1.toNat 1).length := by omega
    subst hk
    refine ⟨z1, k1, e1, ⟨by rw [hn]; omega, ok2⟩, ?_, ?_⟩
    · rw [hn]
      exact Stands.app.2 ⟨st1, st2⟩
    · rw [p2, hn, List.length_append]
      omega
  fine := fun l s h => many_fine hT l _ _ ((lawC most hm).fine l s h)

theorem takeNs_many (l : List UInt8) : ∀ n s, takeNs l n s = manyT (fun l s => takeN l s 4) l n s
  | 0, _ => rfl
  | n + 1, s => by simp only [takeNs, manyT, takeNs_many l n]

theorem takeDs_many (l : List UInt8) : ∀ n s, takeDs l n s = manyT takeD l n s
  | 0, _ => rfl
  | n + 1, s => by simp only [takeDs, manyT, takeDs_many l n]

/-- A dot's bytes; a time's; a text's. -/
def encD (d : Int × Int) : List UInt8 := be d.1.toNat 1 ++ be d.2.toNat 4
def encS (s : Int × Int × Int) : List UInt8 := be s.1.toNat 6 ++ (be s.2.1.toNat 3 ++ be s.2.2.toNat 1)
def encV (v : List Int) : List UInt8 := be v.length 1 ++ v.flatMap fun n => be n.toNat 4
def encDs (ds : List (Int × Int)) : List UInt8 := be ds.length 1 ++ ds.flatMap encD

theorem lawD : Lawful takeD encD (fun d => fitsD d = true) := by
  have h := (lawN 1 (by omega) (by omega)).seq (lawN 4 (by omega) (by omega))
  refine ⟨fun l q v hv hs => h.fwd l q v (by simpa [fitsD] using hv) hs, fun l s hz => ?_, fun l s hf => h.fine l s hf⟩
  obtain ⟨z, q, e, ok, st, p⟩ := h.inv l s hz
  refine ⟨z, q, e, ?_, st, p⟩
  have ok' : fitsF (takeD l s).1.1 1 = true ∧ fitsF (takeD l s).1.2 4 = true := ok
  simp only [fitsD, ok'.1, ok'.2, Bool.and_self]

theorem lawS : Lawful takeS encS (fun s => fitsS s.1 s.2.1 s.2.2 = true) := by
  have h := (lawN 6 (by omega) (by omega)).seq ((lawN 3 (by omega) (by omega)).seq (lawN 1 (by omega) (by omega)))
  have hS : ∀ v : Int × Int × Int, fitsS v.1 v.2.1 v.2.2 = true → fitsF v.1 6 = true ∧ fitsF v.2.1 3 = true ∧ fitsF v.2.2 1 = true := fun v hv => by
    have t : (fitsF v.1 6 = true ∧ fitsF v.2.1 3 = true) ∧ fitsF v.2.2 1 = true := by simpa [fitsS] using hv
    exact ⟨t.1.1, t.1.2, t.2⟩
  refine ⟨fun l q v hv hs => h.fwd l q v (hS v hv) hs, fun l s hz => ?_, fun l s hf => h.fine l s hf⟩
  obtain ⟨z, q, e, ok, st, p⟩ := h.inv l s hz
  refine ⟨z, q, e, ?_, st, p⟩
  have ok' : fitsF (takeS l s).1.1 6 = true ∧ fitsF (takeS l s).1.2.1 3 = true ∧ fitsF (takeS l s).1.2.2 1 = true := ok
  simp only [fitsS, ok'.1, ok'.2.1, ok'.2.2, Bool.and_self]

theorem lawV : Lawful takeV encV (fun v => v.length ≤ 5 ∧ ∀ n ∈ v, fitsF n 4 = true) := by
  have h := lawL (lawN 4 (by omega) (by omega)) 5 (by omega)
  have e : takeV = fun l s => manyT (fun l s => takeN l s ((4 : Nat) : Int)) l (takeC l s 1 ((5 : Nat) : Int)).1.toNat (takeC l s 1 ((5 : Nat) : Int)).2 := by
    funext l s
    exact takeNs_many l _ _
  rw [e]
  exact h

theorem lawDs : Lawful (fun l s => takeDots l s 64) encDs (fun ds => ds.length ≤ 64 ∧ ∀ d ∈ ds, fitsD d = true) := by
  have h := lawL lawD 64 (by omega)
  have e : (fun l s => takeDots l s 64) = fun l s => manyT takeD l (takeC l s 1 ((64 : Nat) : Int)).1.toNat (takeC l s 1 ((64 : Nat) : Int)).2 := by
    funext l s
    exact takeDs_many l _ _
  rw [e]
  exact h

theorem lawT : Lawful takeT (fun t => textBytes t.data.toList) (fun t => t.size ≤ 24) where
  fwd := fun l q t hv hs => by
    obtain ⟨r, hr⟩ := hs
    have ht : t.data.toList.length = t.size := rfl
    have := rGetText_of hr (by rw [ht]; exact hv)
    unfold takeT
    simp only [if_true]
    rw [this, textBytes_length, ht]
    simp only [Prod.mk.injEq, and_true]
    refine ⟨by first | trivial | rfl, by omega⟩
  inv := fun l s h => by
    unfold takeT at h ⊢
    by_cases h0 : s.2 = 0
    · rw [if_pos h0] at h ⊢
      simp only [] at h ⊢
      have hp : 0 ≤ s.1 := by
        rcases Int.lt_or_le s.1 0 with h1 | h1
        · exfalso
          unfold rGetText at h
          rw [if_pos (.inl h1)] at h
          exact absurd h (by decide)
        · exact h1
      obtain ⟨q, hq⟩ : ∃ q : Nat, s.1 = q := ⟨s.1.toNat, by omega⟩
      rw [hq] at h ⊢
      generalize hr : rGetText l (q : Int) = r at *
      obtain ⟨t, n, e⟩ := r
      simp only at h
      subst h
      obtain ⟨hs, hl, hn⟩ := rGetText_inv hr
      refine ⟨h0, q, rfl, hl, hs, ?_⟩
      rw [textBytes_length]
      show n = (q : Int) + ((1 + t.length : Nat) : Int)
      omega
    · rw [if_neg h0] at h
      exact absurd h h0
  fine := fun l s h => by
    rcases h with ⟨h0, h2, h3⟩ | h0
    · unfold takeT
      rw [if_pos h0]
      unfold rGetText
      rw [if_neg (by omega)]
      by_cases c2 : s.1 = (l.length : Int)
      · rw [if_pos c2]
        exact .inr rfl
      rw [if_neg c2]
      by_cases c3 : 24 < (l[s.1.toNat]?.getD 0).toNat ∨ l.length - (s.1.toNat + 1) < (l[s.1.toNat]?.getD 0).toNat
      · rw [if_pos c3]
        exact .inr rfl
      · rw [if_neg c3]
        exact .inl ⟨rfl, by simp only; omega, by simp only; omega⟩
    · unfold takeT
      rw [if_neg (by omega)]
      exact .inr h0

theorem readR_err (l : List UInt8) (p : Int) (h1 : 0 ≤ p) (h2 : p ≤ (l.length : Int)) : (readR l p).2.2 = 0 ∨ (readR l p).2.2 = 3 := by
  unfold readR
  rw [if_neg (by omega)]
  split
  · exact .inr rfl
  · split
    · exact .inr rfl
    · split
      · exact .inr rfl
      · exact .inl rfl

theorem lawR : Lawful takeR bytesR (fun vs => chkR vs = 0) where
  fwd := fun l q vs hv hs => by
    obtain ⟨r, hr⟩ := hs
    have := readR_bytes hv hr
    unfold takeR
    simp only [if_true]
    rw [this]
  inv := fun l s h => by
    unfold takeR at h ⊢
    by_cases h0 : s.2 = 0
    · rw [if_pos h0] at h ⊢
      simp only [] at h ⊢
      generalize hr : readR l s.1 = r at *
      obtain ⟨vs, n, e⟩ := r
      simp only at h
      subst h
      obtain ⟨q, hq, hc, hs, hn⟩ := readR_inv hr
      exact ⟨h0, q, hq, hc, hs, hn⟩
    · rw [if_neg h0] at h
      exact absurd h h0
  fine := fun l s h => by
    rcases h with ⟨h0, h2, h3⟩ | h0
    · unfold takeR
      rw [if_pos h0]
      simp only []
      rcases readR_err l s.1 h2 h3 with hz | hz
      · refine .inl ⟨hz, ?_⟩
        generalize hr : readR l s.1 = r at *
        obtain ⟨vs, n, e⟩ := r
        simp only at hz
        subst hz
        obtain ⟨q, hq, hc, hs, hn⟩ := readR_inv hr
        have := Stands.le hs (by simp [bytesR])
        simp only
        omega
      · exact .inr hz
    · unfold takeR
      rw [if_neg (by omega)]
      exact .inr h0

/-- An operation, piece by piece. -/
abbrev TO := Int × (Int × Int) × List Int × (Int × Int × Int) × Int × ByteArray × Int × List PV × List (Int × Int)

def toTO (x : PO) : TO := (x.kind, (x.dp, x.dn), x.deps, (x.sp, x.sl, x.sq), x.table, x.key, x.col, x.vals, x.dots)

def ofTO (t : TO) : PO := ⟨t.2.1.1, t.2.1.2, t.2.2.1, t.2.2.2.1.1, t.2.2.2.1.2.1, t.2.2.2.1.2.2, t.1, t.2.2.2.2.1, t.2.2.2.2.2.1, t.2.2.2.2.2.2.1, t.2.2.2.2.2.2.2.1, t.2.2.2.2.2.2.2.2⟩

theorem of_to (x : PO) : ofTO (toTO x) = x := rfl
theorem to_of (t : TO) : toTO (ofTO t) = t := rfl

def takeO : List UInt8 → Int × Int → TO × (Int × Int) :=
  seqT (fun l s => takeN l s ((1 : Nat) : Int)) (seqT takeD (seqT takeV (seqT takeS (seqT (fun l s => takeN l s ((1 : Nat) : Int)) (seqT takeT (seqT (fun l s => takeN l s ((1 : Nat) : Int)) (seqT takeR (fun l s => takeDots l s 64))))))))

/-- An operation's bytes, whether they can be. -/
def encTO (t : TO) : List UInt8 := be t.1.toNat 1 ++ (encD t.2.1 ++ (encV t.2.2.1 ++ (encS t.2.2.2.1 ++ (be t.2.2.2.2.1.toNat 1 ++ (textBytes t.2.2.2.2.2.1.data.toList ++ (be t.2.2.2.2.2.2.1.toNat 1 ++ (bytesR t.2.2.2.2.2.2.2.1 ++ encDs t.2.2.2.2.2.2.2.2)))))))

def okTO (t : TO) : Prop := fitsF t.1 1 = true ∧ fitsD t.2.1 = true ∧ (t.2.2.1.length ≤ 5 ∧ ∀ n ∈ t.2.2.1, fitsF n 4 = true) ∧ fitsS t.2.2.2.1.1 t.2.2.2.1.2.1 t.2.2.2.1.2.2 = true ∧ fitsF t.2.2.2.2.1 1 = true ∧ t.2.2.2.2.2.1.size ≤ 24 ∧ fitsF t.2.2.2.2.2.2.1 1 = true ∧ chkR t.2.2.2.2.2.2.2.1 = 0 ∧ (t.2.2.2.2.2.2.2.2.length ≤ 64 ∧ ∀ d ∈ t.2.2.2.2.2.2.2.2, fitsD d = true)

theorem lawO : Lawful takeO encTO okTO :=
  (lawN 1 (by omega) (by omega)).seq (lawD.seq (lawV.seq (lawS.seq ((lawN 1 (by omega) (by omega)).seq (lawT.seq ((lawN 1 (by omega) (by omega)).seq (lawR.seq lawDs)))))))

/-- Nothing. -/
def noO : PO := ⟨0, 0, [], 0, 0, 0, 0, 0, ByteArray.empty, 0, [], []⟩

theorem readO_take (l : List UInt8) (p : Int) : readO l p = if (takeO l (p, 0)).2.2 = 0 then (ofTO (takeO l (p, 0)).1, (takeO l (p, 0)).2.1, 0) else (noO, 0, (takeO l (p, 0)).2.2) := by
  have e : readO l p = if (endR (takeO l (p, 0)).2).2 = 0 then (ofTO (takeO l (p, 0)).1, (endR (takeO l (p, 0)).2).1, 0) else (noO, 0, (endR (takeO l (p, 0)).2).2) := rfl
  rw [e]
  unfold endR
  by_cases h : (takeO l (p, 0)).2.2 = 0
  · simp only [if_pos h, if_true]
  · simp only [if_neg h]

def okO (x : PO) : Prop := okTO (toTO x)
def bytesO (x : PO) : List UInt8 := encTO (toTO x)

theorem bytesO_pos (x : PO) : 0 < (bytesO x).length := by
  unfold bytesO encTO
  rw [List.length_append, be_length]
  omega

/-- What is written is read. -/
theorem readO_fwd {l : List UInt8} {q : Nat} {x : PO} (h : okO x) (hs : Stands l q (bytesO x)) : readO l (q : Int) = (x, (q : Int) + ((bytesO x).length : Int), 0) := by
  rw [readO_take, lawO.fwd l q (toTO x) h hs]
  rfl

/-- What is read was written so. -/
theorem readO_inv {l : List UInt8} {p : Int} (h : (readO l p).2.2 = 0) : ∃ q : Nat, p = q ∧ okO (readO l p).1 ∧ Stands l q (bytesO (readO l p).1) ∧ (readO l p).2.1 = (q : Int) + ((bytesO (readO l p).1).length : Int) := by
  rw [readO_take] at h ⊢
  by_cases hz : (takeO l (p, 0)).2.2 = 0
  · rw [if_pos hz]
    obtain ⟨_, q, e, ok, st, pl⟩ := lawO.inv l (p, 0) hz
    exact ⟨q, e, ok, st, pl⟩
  · rw [if_neg hz] at h
    exact absurd h hz

theorem readO_err {l : List UInt8} {p : Int} (h1 : 0 ≤ p) (h2 : p ≤ (l.length : Int)) (h : (readO l p).2.2 ≠ 0) : readO l p = (noO, 0, 3) := by
  have hf := lawO.fine l (p, 0) (.inl ⟨rfl, h1, h2⟩)
  rw [readO_take] at h ⊢
  by_cases hz : (takeO l (p, 0)).2.2 = 0
  · rw [if_pos hz] at h
    exact absurd rfl h
  · rw [if_neg hz]
    rcases hf with ⟨h0, _⟩ | h3
    · exact absurd h0 hz
    · rw [h3]

/-- Cut short it is nothing. -/
theorem readO_cut {x : PO} {k : Nat} (h : okO x) (hk : k < (bytesO x).length) : readO ((bytesO x).take k) 0 = (noO, 0, 3) := by
  by_cases hz : (readO ((bytesO x).take k) 0).2.2 = 0
  · exfalso
    obtain ⟨q, e, ok, st, pl⟩ := readO_inv hz
    obtain rfl : q = 0 := by omega
    have hle := st.le (bytesO_pos _)
    rw [List.length_take] at hle
    have st2 : Stands (bytesO x) 0 (bytesO (readO ((bytesO x).take k) 0).1) := by
      obtain ⟨r, hr⟩ := st
      refine ⟨r ++ (bytesO x).drop k, ?_⟩
      rw [List.drop_zero] at hr ⊢
      rw [← List.append_assoc, ← hr, List.take_append_drop]
    have a := readO_fwd ok st2
    have b := readO_fwd h (Stands.whole (bytesO x))
    rw [a] at b
    simp only [Prod.mk.injEq] at b
    omega
  · exact readO_err (by omega) (by omega) hz

theorem bytesO_inj {x y : PO} (hx : okO x) (hy : okO y) (h : bytesO x = bytesO y) : x = y := by
  have a := readO_fwd hx (Stands.whole (bytesO x))
  have b := readO_fwd hy (Stands.whole (bytesO y))
  rw [h, b] at a
  simp only [Prod.mk.injEq] at a
  exact a.1.symm

end Go.Proofs.Ytjddkodcbpnilaa

namespace Go.Proofs.Ytjddkodcbpnilaa
open Go.RowKit Go.Lib
set_option linter.unusedVariables false

theorem rdI_atC (w : World) (g : Nat) (hg : w.heap.size = g) (x : Int) : RdI .i64 (w.alloc (.cells #[.int .i64 x] 3)) (some ⟨g, 0, none⟩) [x] := by
  subst hg
  refine fun _ => ⟨w.heap.size, 0, rfl, fun j hj => ?_⟩
  obtain rfl : j = 0 := by simp at hj; omega
  rw [cell_of_row (w.alloc (.cells #[.int .i64 x] 3)) w.heap.size _ #[.int .i64 x] 3 (0, 0) (by show (w.heap.push _)[w.heap.size]? = _; simp)]
  rfl

/-- append(l, x), x a number. -/
theorem run_append_intC {w : World} {B n : Nat} {v : Value} {xs : List Int} (g : Nat) (hg : w.heap.size = g) (x : Int) (hown : OwnI w B v xs) (hn : xs.length = n) (h1 : n ≤ 65536) (hB : B ≤ w.heap.size) :
    ∃ a' cap' w', (Builtin.append_ #[26, 26] 26 #[v, .slice (some ⟨g, 0, none⟩) 1 1]).run Try.prog (w.alloc (.cells #[.int .i64 x] 3)) = .ok (.slice a' (n + 1) cap') w' ∧ n + 1 ≤ cap' ∧ OwnI w' B (.slice a' (n + 1) cap') (xs ++ [x]) ∧ Below B w w' := by
  obtain ⟨a', cap', w', hrun, hc, ho, hrd, hnl, _, hb⟩ := run_append_ints (ty := 26) (cap := 1) (hown.later (alloc_below w (.cells #[.int .i64 x] 3))) hn (m := 1) rfl (rdI_atC w g hg x) (fun h => by cases h) h1 (by omega) (Nat.le_trans hB (by simp))
  exact ⟨a', cap', w', hrun, hc, ho, ((alloc_below w _).mono hB).trans hb⟩

theorem takeN_bad {l : List UInt8} {t : Int × Int} {size : Int} (h : t.2 ≠ 0) : takeN l t size = (0, t) := if_neg h

theorem takeN_short {l : List UInt8} {p : Nat} {size : Nat} (h1 : 1 ≤ size) (h7 : size ≤ 7) (hp : p ≤ l.length) (hs : l.length < p + size) : takeN l ((p : Int), 0) (size : Int) = (0, (0, 3)) := by
  unfold takeN
  rw [if_pos rfl]
  unfold rGet
  rw [if_neg (by omega), if_pos (by omega)]

theorem takeN_ok {l : List UInt8} {p : Nat} {size : Nat} (h1 : 1 ≤ size) (h7 : size ≤ 7) (hs : p + size ≤ l.length) : takeN l ((p : Int), 0) (size : Int) = (((num ((l.drop p).take size) : Nat) : Int), (((p + size : Nat) : Int), 0)) := by
  unfold takeN
  rw [if_pos rfl]
  unfold rGet
  rw [if_neg (by omega), if_neg (by omega)]
  simp

theorem takeD_eq (l : List UInt8) (t : Int × Int) : takeD l t = (((takeN l t ((1 : Nat) : Int)).1, (takeN l (takeN l t ((1 : Nat) : Int)).2 ((4 : Nat) : Int)).1), (takeN l (takeN l t ((1 : Nat) : Int)).2 ((4 : Nat) : Int)).2) := rfl

theorem takeS_eq (l : List UInt8) (t : Int × Int) : takeS l t = (((takeN l t ((6 : Nat) : Int)).1, (takeN l (takeN l t ((6 : Nat) : Int)).2 ((3 : Nat) : Int)).1, (takeN l (takeN l (takeN l t ((6 : Nat) : Int)).2 ((3 : Nat) : Int)).2 ((1 : Nat) : Int)).1), (takeN l (takeN l (takeN l t ((6 : Nat) : Int)).2 ((3 : Nat) : Int)).2 ((1 : Nat) : Int)).2) := rfl

end Go.Proofs.Ytjddkodcbpnilaa

namespace Go.Proofs.Ytjddkodcbpnilaa
open Go.RowKit Go.Lib
set_option linter.unusedVariables false

theorem pairs_take {l r : List (Int × Int)} {k : Nat} (h : l.take k = r.take k) (hl : k < l.length) (hr : k < r.length) (hx : l[k] = r[k]) : l.take (k + 1) = r.take (k + 1) := by
  rw [List.take_succ_eq_append_getElem hl, List.take_succ_eq_append_getElem hr, h, hx]

theorem sameVs_self (l : List PV) : sameVs l l = true := (sameVs_iff l l).2 rfl

end Go.Proofs.Ytjddkodcbpnilaa

namespace Go.Proofs.Ytjddkodcbpnilaa
open Go.RowKit Go.Lib
set_option linter.unusedVariables false

end Go.Proofs.Ytjddkodcbpnilaa

namespace Go.Proofs.Ytjddkodcbpnilaa
open Go.RowKit Go.Lib
set_option linter.unusedVariables false

/-- The operation that wakes has. -/
def xW : PO := ⟨0, 2, [1], 0, 0, 0, 3, 0, ⟨#[107]⟩, 0, [], [(0, 1)]⟩

def lW : List UInt8 := [3, 0, 0, 0, 0, 2, 1, 0, 0, 0, 1, 0, 0, 0, 0, 0, 0, 0, 0, 0, 0, 0, 1, 107, 0, 0, 1, 0, 0, 0, 0, 1]

theorem putW : putO xW = (lW, 0) := by kernel_rfl

theorem readW : readO lW 0 = (xW, 32, 0) := by kernel_rfl

theorem cell_lt {w : World} {b o : Nat} {v : Value} (h : w.cell? ⟨b, o, none⟩ = some v) : b < w.heap.size := by
  rcases Nat.lt_or_ge b w.heap.size with h1 | h1
  · exact h1
  · simp [World.cell?, Array.getElem?_eq_none h1] at h

theorem Rd.lt {w : World} {a : Option Addr} {l : List UInt8} (h : Rd w a l) (h0 : 0 < l.length) : ∀ b o, a = some ⟨b, o, none⟩ → b < w.heap.size := by
  intro b o e
  obtain ⟨b', o', e', hc⟩ := h h0
  rw [e] at e'
  simp only [Option.some.injEq, Addr.mk.injEq, and_true] at e'
  obtain ⟨rfl, rfl⟩ := e'
  exact cell_lt (hc 0 h0)

/-- The world in which wakes' operation lies, and its lists. -/
abbrev w0W (w : World) : World := (w.alloc (.cells #[.int .i64 1] 3)).alloc (.cells #[.int .i64 0, .int .i64 1] 25)

theorem liesW (w : World) : LiesO (w0W w) xW (some ⟨w.heap.size, 0, none⟩) none (some ⟨w.heap.size + 1, 0, none⟩) 1 0 1 := by
  have c0 : (w0W w).cell? ⟨w.heap.size, 0, none⟩ = some (.int .i64 1) := cell_later (alloc_below _ _) (cell_new w _ rfl _ _)
  have c1 := box2 (w.alloc (.cells #[.int .i64 1] 3)) (w.heap.size + 1) (by simp) (.int .i64 0) (.int .i64 1) 25
  refine ⟨rdI_of c0, (fun h => absurd h (by decide)), fun _ => ⟨_, 0, rfl, fun i hi => ?_⟩, by decide, by decide, by decide, by decide, by decide, by decide, (fun h => by cases h), (fun _ => ⟨rfl, rfl⟩), (fun h => by cases h), by decide⟩
  · obtain rfl : i = 0 := by have : i < 1 := hi; omega
    exact c1

theorem LiesO.later {w w' : World} {x : PO} {da va oa : Option Addr} {dc vc oc : Nat} (h : LiesO w x da va oa dc vc oc) (hb : Below w.heap.size w w') : LiesO w' x da va oa dc vc oc :=
  ⟨h.deps.later hb, h.vals.later hb, h.dots.later hb, h.ld, h.lv, h.lo, h.cd, h.cv, h.co, h.nd, h.nv, h.no, h.key⟩

theorem i64W : I64O xW := by
  have two : ∀ x y : Int, (-4294967296 ≤ x ∧ x ≤ 4294967296) → (-4294967296 ≤ y ∧ y ≤ 4294967296) → In64 x ∧ In64 y := fun x y hx hy => ⟨in64 hx, in64 hy⟩
  refine ⟨fun v hv => ?_, in64 (by decide), in64 (by decide), ⟨in64 (by decide), in64 (by decide), in64 (by decide)⟩, fun d hd => ?_, in64 (by decide), in64 (by decide)⟩
  · have : v = 1 := by simpa [xW] using hv
    rw [this]
    exact in64 (by decide)
  · have : d = (0, 1) := by simpa [xW] using hd
    rw [this]
    exact two 0 1 (by decide) (by decide)

end Go.Proofs.Ytjddkodcbpnilaa

namespace Go.Proofs.Ytjddkodcbpnilaa
open Go.RowKit Go.Lib
set_option linter.unusedVariables false

theorem rGetText_none {l : List UInt8} {p : Int} (h : (rGetText l p).2.2 ≠ 0) : (rGetText l p).1 = [] := by
  unfold rGetText at h ⊢
  split
  · rfl
  · split
    · rfl
    · split
      · rfl
      · rename_i h1 h2 h3
        rw [if_neg h1, if_neg h2, if_neg h3] at h
        exact absurd rfl h

theorem readR_none {l : List UInt8} {p : Int} (h : (readR l p).2.2 ≠ 0) : (readR l p).1 = [] := by
  unfold readR at h ⊢
  split
  · rfl
  · split
    · rfl
    · split
      · rfl
      · rename_i h1 h2 h3
        rw [if_neg h1, if_neg h2, if_neg h3] at h
        split
        · rfl
        · rename_i r hr
          rw [hr] at h
          exact absurd rfl h

/-- All but the box, then all below. -/
theorem aside_below {g : Nat} {w w1 w2 : World} (h : Aside g w w1) (hb : Below w.heap.size w1 w2) : Aside g w w2 := Stay.trans h (Stay.of_below hb fun b hb' => hb'.2)

theorem OwnV.base {w : World} {B C : Nat} {v : Value} {vs : List PV} (h : OwnV w B v vs) (hb : C ≤ B) : OwnV w C v vs := by
  refine ⟨h.1, ?_⟩
  rcases h.2 with h2 | ⟨x, cap, cur, hv, hx, hh, hc⟩
  · exact .inl h2
  · exact .inr ⟨x, cap, cur, hv, Nat.le_trans hb hx, hh, hc⟩

theorem OwnV.aside {w w' : World} {g B : Nat} {v : Value} {vs : List PV} (h : OwnV w B v vs) (hs : Aside g w w') (hg : g < B) : OwnV w' B v vs := by
  refine ⟨h.1, ?_⟩
  rcases h.2 with h2 | ⟨x, cap, cur, hv, hx, hh, hc⟩
  · exact .inl h2
  · exact .inr ⟨x, cap, cur, hv, hx, (hs.block x ⟨by omega, heap_lt hh⟩).trans hh, hc⟩

/-- The box' cells stay. -/
theorem keepC {W w w' : World} {g : Nat} {v : Value} {p : Int} {bad : Bool} (hb : Below w.heap.size w w')
    (h : w.cell? ⟨g, 0, none⟩ = some v ∧ w.cell? ⟨g, 1, none⟩ = some (.int .i64 p) ∧ w.cell? ⟨g, 2, none⟩ = some (.bool bad) ∧ Hid (Below W.heap.size W w)) :
    w'.cell? ⟨g, 0, none⟩ = some v ∧ w'.cell? ⟨g, 1, none⟩ = some (.int .i64 p) ∧ w'.cell? ⟨g, 2, none⟩ = some (.bool bad) ∧ Hid (Below W.heap.size W w') := by
  obtain ⟨h0, h1, h2, h9⟩ := h
  exact ⟨cell_later hb h0, cell_later hb h1, cell_later hb h2, chain h9.out hb⟩

theorem takeN_stuck {l : List UInt8} {t : Int × Int} {s : Int} (h : (takeN l t s).2.2 = 0) : t.2 = 0 := by
  by_cases h0 : t.2 = 0
  · exact h0
  · rw [takeN_bad h0] at h
    exact absurd h h0

theorem takeNs_stuck {l : List UInt8} : ∀ {n : Nat} {t : Int × Int}, (takeNs l n t).2.2 = 0 → t.2 = 0
  | 0, _, h => h
  | n + 1, t, h => takeN_stuck (takeNs_stuck (n := n) h)

end Go.Proofs.Ytjddkodcbpnilaa

namespace Go.Proofs.Ytjddkodcbpnilaa
open Go.RowKit Go.Lib
set_option linter.unusedVariables false

theorem Try.infoDt : (Try.prog.info? 25).map (fun i => (i.zero, i.size, i.bytes)) = some (some (.agg #[.int .i64 0, .int .i64 0]), 2, 16) := by kernel_rfl

theorem OwnD.nought (w : World) (B : Nat) : OwnD w B (.slice none 0 0) [] := World.ownsRow_nil w B 25 2

theorem OwnD.later {w w' : World} {B : Nat} {v : Value} {ds : List (Int × Int)} (h : OwnD w B v ds) (hb : Below w.heap.size w w') : OwnD w' B v ds := by
  obtain ⟨h1, h2⟩ := h
  refine ⟨h1, ?_⟩
  rcases h2 with h2 | ⟨g, cap, cur, hv, hg, hh, hc⟩
  · exact .inl h2
  · exact .inr ⟨g, cap, cur, hv, hg, (hb.block g (heap_lt hh)).trans hh, hc⟩

/-- append(v, d). -/
theorem run_append_dot {w : World} {B ty n s : Nat} {v : Value} {xs : List (Int × Int)} {p q : Int} (hown : OwnD w B v xs) (hn : xs.length = n) (h1 : n ≤ 65536) (hB : B ≤ w.heap.size) (c0 : w.cell? ⟨s, 0, none⟩ = some (.int .i64 p)) (c1 : w.cell? ⟨s, 1, none⟩ = some (.int .i64 q)) :
    ∃ a' cap' w', (Builtin.append_ #[30, 30] ty #[v, .slice (some ⟨s, 0, none⟩) 1 1]).run Try.prog w = .ok (.slice a' (n + 1) cap') w' ∧ n + 1 ≤ cap' ∧ OwnD w' B (.slice a' (n + 1) cap') (xs ++ [(p, q)]) ∧ w.heap.size ≤ w'.heap.size ∧ Below B w w' := by
  subst hn
  obtain ⟨i0, hi, hz0, hz1, hz2⟩ := info_parts Try.infoDt
  obtain ⟨v', w', hrun, ho, hg, _⟩ := run_append_own (P := Try.prog) (w := w) B 30 ty 25 i0 (.agg #[.int .i64 0, .int .i64 0]) 2 16 Try.underlying30 hi hz0 hz1 hz2 rfl (by decide) v xs.length (cellsDs xs) hown ⟨s, 0, none⟩ 1 1 [.int .i64 p, .int .i64 q] rfl (fun j u hj => by
    rw [add_plain3]
    rcases j with _ | _ | j
    · simp at hj; subst hj; exact c0
    · simp at hj; subst hj; exact c1
    · simp at hj) (by intro u hu; simp at hu; rcases hu with rfl | rfl <;> rfl) (by unfold maxLen; omega) (by omega) hB
  have ho' : OwnD w' B v' (xs ++ [(p, q)]) := by
    unfold OwnD
    rw [List.length_append, cellsDs_append]
    exact ho
  obtain ⟨a', cap', rfl, hc, _, _⟩ := ho'.form
  rw [List.length_append] at hrun ho' hc
  exact ⟨a', cap', w', hrun, hc, ho', hg.size, (Below.refl _ _).grown hg hB (fun k hk => (World.ownsRow.lt hown k hk).1)⟩

/-- The first n dots of the first peer. -/
def dsN (n : Nat) : List (Int × Int) := (List.range n).map fun i : Nat => ((0 : Int), (i : Int) + 1)

theorem dsN_len (n : Nat) : (dsN n).length = n := by simp [dsN]

theorem dsN_succ (n : Nat) : dsN (n + 1) = dsN n ++ [((0 : Int), (n : Int) + 1)] := by simp [dsN, List.range_succ]

theorem dsN_at {n i : Nat} (h : i < n) : (dsN n)[i]? = some ((0 : Int), (i : Int) + 1) := by simp [dsN, h]

theorem has69 {k : Int} : hasD [69, 0] 0 k = decide (1 ≤ k ∧ k ≤ 69) := by simp [hasD, placeD, atD]

theorem rem_bad {deps : List Int} {ds : List (Int × Int)} {i : Nat} (hi : i < ds.length) (h : stepF deps ds i = false) : remF deps ds = false := by
  unfold remF
  rw [range_no hi h, Bool.and_false]

theorem rem_dsN {n : Nat} (h64 : n ≤ 65) : remF [69, 0] (dsN n) = decide (1 ≤ n ∧ n ≤ 64) := by
  unfold remF
  rw [dsN_len]
  by_cases h : 1 ≤ n ∧ n ≤ 64
  · have : (List.range n).all (stepF [69, 0] (dsN n)) = true := by
      rw [List.all_eq_true]
      intro i hi
      have hi' : i < n := by simpa using hi
      unfold stepF
      rw [dsN_at hi']
      simp only [Option.getD_some, has69]
      rcases Nat.eq_zero_or_pos i with h0 | h0
      · subst h0; simp
      · obtain ⟨j, rfl⟩ : ∃ j, i = j + 1 := ⟨i - 1, by omega⟩
        rw [Nat.add_sub_cancel, dsN_at (by omega)]
        simp [lessD]
        omega
    rw [this, Bool.and_true]
  · rw [decide_eq_false h, Bool.false_and]

theorem rem_no70 {n : Nat} (h1 : 1 ≤ n) : remF [69, 0] ((dsN n).set (n - 1) (0, 70)) = false := by
  have hl : n - 1 < (dsN n).length := by rw [dsN_len]; omega
  refine rem_bad (i := n - 1) (by rw [List.length_set]; exact hl) ?_
  unfold stepF
  rw [List.getElem?_set_self hl]
  simp [has69]

theorem rem_twice {n : Nat} (h1 : 1 ≤ n) : remF [69, 0] (dsN n ++ [((0 : Int), (n : Int))]) = false := by
  refine rem_bad (i := n) (by simp [dsN_len]) ?_
  obtain ⟨m, rfl⟩ : ∃ m, n = m + 1 := ⟨n - 1, by omega⟩
  unfold stepF
  have e1 : (dsN (m + 1) ++ [((0 : Int), ((m + 1 : Nat) : Int))])[m + 1]? = some ((0 : Int), ((m + 1 : Nat) : Int)) := by
    rw [List.getElem?_append_right (by rw [dsN_len]; exact Nat.le_refl _), dsN_len]
    simp
  have e2 : (dsN (m + 1) ++ [((0 : Int), ((m + 1 : Nat) : Int))])[m + 1 - 1]? = some ((0 : Int), (m : Int) + 1) := by
    rw [Nat.add_sub_cancel, List.getElem?_append_left (by rw [dsN_len]; omega), dsN_at (by omega)]
  rw [e1, e2]
  simp [lessD]

theorem rem_two {n : Nat} {q : Int} (h1 : 1 ≤ n) : remF [69, 0] ((dsN n).set 0 (2, q)) = false := by
  have hl : 0 < (dsN n).length := by rw [dsN_len]; omega
  refine rem_bad (i := 0) (by rw [List.length_set]; exact hl) ?_
  unfold stepF
  rw [List.getElem?_set_self hl]
  simp [hasD, placeD]

/-- OpDots' operation, with these dots. -/
def xD (ds : List (Int × Int)) : PO := ⟨1, 1, [69, 0], 0, 0, 1, 3, 0, ⟨#[107]⟩, 0, [], ds⟩

theorem i64D {ds : List (Int × Int)} (h : ∀ d ∈ ds, In64 d.1 ∧ In64 d.2) : I64O (xD ds) :=
  ⟨fun v hv => by
    have : v = 69 ∨ v = 0 := by simpa [xD] using hv
    rcases this with rfl | rfl
    · exact in64 (by decide)
    · exact in64 (by decide), (show In64 1 from in64 (by decide)), (show In64 1 from in64 (by decide)), ⟨(show In64 0 from in64 (by decide)), (show In64 0 from in64 (by decide)), (show In64 1 from in64 (by decide))⟩, h, (show In64 0 from in64 (by decide)), (show In64 0 from in64 (by decide))⟩

end Go.Proofs.Ytjddkodcbpnilaa

namespace Go.Proofs.Ytjddkodcbpnilaa
open Go.RowKit Go.Lib
set_option linter.unusedVariables false

theorem cellsDs_one (N : List (Int × Int)) : ∀ u ∈ cellsDs N, u.oneCell' = true := by
  intro u hu
  simp [cellsDs] at hu
  obtain ⟨a, b, _, rfl | rfl⟩ := hu <;> rfl

theorem RdD.src {w : World} {a : Option Addr} {N : List (Int × Int)} (h : RdD w a N) (h0 : 0 < N.length) : ∃ ad, a = some ad ∧ ∀ j u, (cellsDs N)[j]? = some u → w.cell? (ad.add j) = some u := by
  obtain ⟨b, off, e, hc⟩ := h h0
  refine ⟨_, e, fun j u hu => ?_⟩
  rw [add_plain3]
  have hj : j < N.length * 2 := by have := (List.getElem?_eq_some_iff.1 hu).1; rwa [cellsDs_length] at this
  have hi : j / 2 < N.length := by omega
  obtain ⟨c1, c2⟩ := cellsDs_at N (j / 2) hi
  obtain ⟨d1, d2⟩ := hc (j / 2) hi
  rcases Nat.mod_two_eq_zero_or_one j with e0 | e0
  · rw [show j / 2 * 2 = j from by omega] at c1 d1
    rw [c1] at hu
    cases hu
    exact d1
  · rw [show j / 2 * 2 + 1 = j from by omega] at c2
    rw [show off + j / 2 * 2 + 1 = off + j from by omega] at d2
    rw [c2] at hu
    cases hu
    exact d2

/-- append(v, src...): v the call's own, src any dots that can be read. -/
theorem run_append_dots {w : World} {B ty n m cap : Nat} {v : Value} {a : Option Addr} {xs N : List (Int × Int)}
    (hown : OwnD w B v xs) (hn : xs.length = n) (hm : N.length = m) (hr : RdD w a N) (hnil : a = none → N = [] ∧ cap = 0) (h1 : n ≤ 65536) (h2 : m ≤ 65536) (hB : B ≤ w.heap.size) :
    ∃ a' cap' w', (Builtin.append_ #[30, 30] ty #[v, .slice a m cap]).run Try.prog w = .ok (.slice a' (n + m) cap') w' ∧ n + m ≤ cap' ∧ OwnD w' B (.slice a' (n + m) cap') (xs ++ N) ∧ RdD w' a' (xs ++ N) ∧ (a' = none → xs ++ N = [] ∧ cap' = 0) ∧ w.heap.size ≤ w'.heap.size ∧ Below B w w' := by
  subst hn hm
  obtain ⟨i0, hi, hz0, hz1, hz2⟩ := info_parts Try.infoDt
  have main : ∃ v' w', (Builtin.append_ #[30, 30] ty #[v, .slice a N.length cap]).run Try.prog w = .ok v' w' ∧ OwnD w' B v' (xs ++ N) ∧ w.grownBy w' v.ownBlock := by
    cases a with
    | none =>
      obtain ⟨rfl, rfl⟩ := hnil rfl
      exact ⟨v, w, run_append_owned_none (P := Try.prog) (w := w) B 30 ty 25 i0 2 Try.underlying30 hi v xs.length (cellsDs xs) hown, by simpa [OwnD] using hown, World.grownBy.refl _ _⟩
    | some ad =>
      have hsrc : ∀ j u, (cellsDs N)[j]? = some u → w.cell? (ad.add j) = some u := by
        rcases Nat.eq_zero_or_pos N.length with h0 | h0
        · obtain rfl := List.eq_nil_of_length_eq_zero h0
          intro j u hj
          simp [cellsDs] at hj
        · obtain ⟨ad', e, h⟩ := hr.src h0
          cases e
          exact h
      obtain ⟨v', w', hrun, ho, hg, _⟩ := run_append_own (P := Try.prog) (w := w) B 30 ty 25 i0 (.agg #[.int .i64 0, .int .i64 0]) 2 16 Try.underlying30 hi hz0 hz1 hz2 rfl (by decide) v xs.length (cellsDs xs) hown ad N.length cap (cellsDs N) (by rw [cellsDs_length]) hsrc (cellsDs_one _) (by unfold maxLen; omega) (by omega) hB
      refine ⟨v', w', hrun, ?_, hg⟩
      unfold OwnD
      rw [List.length_append, cellsDs_append]
      exact ho
  obtain ⟨v', w', hrun, ho, hg⟩ := main
  obtain ⟨a', cap', rfl, hc, hrd, hnl⟩ := ho.form
  rw [List.length_append] at hrun ho hc
  exact ⟨a', cap', w', hrun, hc, ho, hrd, hnl, hg.size, (Below.refl _ _).grown hg hB (fun k hk => (World.ownsRow.lt hown k hk).1)⟩

end Go.Proofs.Ytjddkodcbpnilaa

namespace Go.Proofs.Ytjddkodcbpnilaa
open Go.RowKit Go.Lib
set_option linter.unusedVariables false

/-- Pieces one behind the other, if each can be written. -/
def joinP : List (Option (List UInt8)) → Option (List UInt8)
  | [] => some []
  | none :: _ => none
  | some b :: l => (joinP l).map (b ++ ·)

theorem joinP_app : ∀ a b : List (Option (List UInt8)), joinP (a ++ b) = (joinP a).bind fun c => (joinP b).map (c ++ ·)
  | [], b => by cases h : joinP b <;> simp [joinP, h]
  | none :: a, b => rfl
  | some x :: a, b => by
    show (joinP (a ++ b)).map (x ++ ·) = _
    rw [joinP_app a b]
    cases h : joinP a <;> simp [joinP, h]
    cases h' : joinP b <;> simp

theorem addWs_yes : ∀ {l : List (Option (List UInt8))} {s c : List UInt8}, joinP l = some c → addWs (s, false) l = (s ++ c, false)
  | [], s, c, h => by
    cases h
    simp [addWs]
  | none :: l, s, c, h => by cases h
  | some b :: l, s, c, h => by
    simp only [joinP, Option.map_eq_some_iff] at h
    obtain ⟨d, hd, rfl⟩ := h
    rw [addWs_cons, show addW (s, false) (some b) = (s ++ b, false) from rfl, addWs_yes hd, List.append_assoc]

theorem addWs_no : ∀ {l : List (Option (List UInt8))} {s : List UInt8 × Bool}, joinP l = none → (addWs s l).2 = true
  | [], s, h => by cases h
  | none :: l, s, h => by
    rw [addWs_cons, addWs_bad rfl]
    rfl
  | some b :: l, s, h => by
    simp only [joinP, Option.map_eq_none_iff] at h
    rw [addWs_cons]
    exact addWs_no h

/-- What is written of an operation, piece by piece. -/
def piecesO (x : PO) : List (Option (List UInt8)) :=
  [putN x.kind 1] ++ (dotP x.dp x.dn ++ (vecP x.deps ++ (stampP x.sp x.sl x.sq ++ ([putN x.table 1] ++ ([putT x.key] ++ ([putN x.col 1] ++ ([putRo x.vals] ++ dotsP 64 x.dots)))))))

theorem wO9_pieces (x : PO) : wO9 x = addWs ([], false) (piecesO x) := by
  unfold piecesO
  simp only [addWs_append]
  rfl

theorem putN_fits (n : Int) (s : Nat) : putN n s = if fitsF n s = true then some (be n.toNat s) else none := by
  unfold putN fitsF
  by_cases h : 0 ≤ n ∧ n < ((256 ^ s : Nat) : Int)
  · rw [if_pos h, if_pos (decide_eq_true h)]
  · rw [if_neg h, if_neg (by simpa using h)]

theorem join_one (o : Option (List UInt8)) : joinP [o] = o := by
  cases o <;> simp [joinP]

theorem join_dot (d : Int × Int) : joinP (dotP d.1 d.2) = if fitsD d = true then some (encD d) else none := by
  unfold dotP fitsD encD
  rw [putN_fits, putN_fits]
  cases fitsF d.1 1 <;> cases fitsF d.2 4 <;> simp [joinP]

theorem join_stamp (p l q : Int) : joinP (stampP p l q) = if fitsS p l q = true then some (encS (p, l, q)) else none := by
  unfold stampP fitsS encS
  rw [putN_fits, putN_fits, putN_fits]
  cases fitsF p 6 <;> cases fitsF l 3 <;> cases fitsF q 1 <;> simp [joinP]

theorem join_nums : ∀ v : List Int, joinP (v.map fun n => putN n 4) = if v.all (fun n => fitsF n 4) = true then some (v.flatMap fun n => be n.toNat 4) else none
  | [] => rfl
  | n :: v => by
    rw [List.map_cons, putN_fits, List.all_cons, List.flatMap_cons]
    cases h : fitsF n 4
    · rfl
    · simp only [if_true, Bool.true_and, joinP, join_nums v]
      cases v.all (fun n => fitsF n 4) <;> simp

theorem join_dots : ∀ v : List (Int × Int), joinP (v.flatMap fun d => dotP d.1 d.2) = if v.all fitsD = true then some (v.flatMap encD) else none
  | [] => rfl
  | d :: v => by
    rw [List.flatMap_cons, joinP_app, join_dot, join_dots v, List.all_cons, List.flatMap_cons]
    cases fitsD d <;> cases v.all fitsD <;> simp

theorem join_count (n most : Nat) (hm : most ≤ 255) (r : Option (List UInt8)) (l : List (Option (List UInt8))) (h : joinP l = r) : joinP (putC n 1 most :: l) = if n ≤ most then r.map (be n 1 ++ ·) else none := by
  unfold putC
  by_cases hn : most < n
  · rw [if_pos hn, if_neg (by omega)]
    rfl
  · rw [if_neg hn, if_pos (by omega), putN_fits, show fitsF (n : Int) 1 = true from decide_eq_true ⟨by omega, by omega⟩]
    simp [joinP, h]

theorem join_vec (v : List Int) : joinP (vecP v) = if fitsVec v = true then some (encV v) else none := by
  unfold vecP fitsVec encV
  rw [join_count v.length 5 (by omega) _ _ (join_nums v)]
  by_cases h : v.length ≤ 5
  · cases v.all (fun n => fitsF n 4) <;> simp [h]
  · simp [h]

theorem join_dl (ds : List (Int × Int)) : joinP (dotsP 64 ds) = if (decide (ds.length ≤ 64) && ds.all fitsD) = true then some (encDs ds) else none := by
  unfold dotsP encDs
  rw [join_count ds.length 64 (by omega) _ _ (join_dots ds)]
  by_cases h : ds.length ≤ 64
  · cases ds.all fitsD <;> simp [h]
  · simp [h]

theorem putT_fits (t : ByteArray) : putT t = if decide (t.size ≤ 24) = true then some (textBytes t.data.toList) else none := by
  unfold putT
  by_cases h : 24 < t.size
  · rw [if_pos h, if_neg (by simp; omega)]
  · rw [if_neg h, if_pos (by simp; omega)]

theorem putRo_fits (vs : List PV) : putRo vs = if decide (chkR vs = 0) = true then some (bytesR vs) else none := by
  unfold putRo
  by_cases h : chkR vs = 0
  · rw [if_pos h, if_pos (by simpa using h)]
  · rw [if_neg h, if_neg (by simpa using h)]

/-- Can it be written? -/
def fitsO (x : PO) : Bool :=
  fitsF x.kind 1 && (fitsD (x.dp, x.dn) && (fitsVec x.deps && (fitsS x.sp x.sl x.sq && (fitsF x.table 1 && (decide (x.key.size ≤ 24) && (fitsF x.col 1 && (decide (chkR x.vals = 0) && (decide (x.dots.length ≤ 64) && x.dots.all fitsD))))))))

theorem join_ite {b c : Bool} {u v : List UInt8} : ((if b = true then some u else none).bind fun x => (if c = true then some v else none).map (x ++ ·)) = if (b && c) = true then some (u ++ v) else none := by
  cases b <;> cases c <;> rfl

theorem join_op (x : PO) : joinP (piecesO x) = if fitsO x = true then some (bytesO x) else none := by
  unfold piecesO fitsO
  rw [joinP_app, joinP_app, joinP_app, joinP_app, joinP_app, joinP_app, joinP_app, joinP_app, join_one, join_dot (x.dp, x.dn), join_vec, join_stamp, join_one, join_one, join_one, join_one, join_dl, putN_fits, putN_fits, putN_fits, putT_fits, putRo_fits]
  simp only [join_ite]
  rfl

theorem putO_yes {x : PO} (h : fitsO x = true) : putO x = (bytesO x, 0) := by
  unfold putO
  rw [wO9_pieces, addWs_yes (c := bytesO x) (by rw [join_op, if_pos h])]
  rfl

theorem putO_no {x : PO} (h : fitsO x = false) : putO x = ([], 1) := by
  unfold putO tellW
  rw [wO9_pieces, if_pos (addWs_no (by rw [join_op, h]; rfl))]

theorem okO_iff (x : PO) : okO x ↔ fitsO x = true := by
  unfold okO okTO toTO fitsO fitsVec
  simp only [Bool.and_eq_true, decide_eq_true_eq, List.all_eq_true]
  constructor
  · rintro ⟨a, b, ⟨c, d⟩, e, f, g, h, i, j, k⟩
    exact ⟨a, b, ⟨d, c⟩, e, f, g, h, i, j, k⟩
  · rintro ⟨a, b, ⟨d, c⟩, e, f, g, h, i, j, k⟩
    exact ⟨a, b, ⟨c, d⟩, e, f, g, h, i, j, k⟩

theorem flat4 (v : List Int) : (v.flatMap fun n => be n.toNat 4).length = 4 * v.length := by
  induction v with
  | nil => rfl
  | cons n v ih =>
    rw [List.flatMap_cons, List.length_append, be_length, ih, List.length_cons]
    omega

theorem flat5 (v : List (Int × Int)) : (v.flatMap encD).length = 5 * v.length := by
  induction v with
  | nil => rfl
  | cons n v ih =>
    rw [List.flatMap_cons, List.length_append, ih, List.length_cons]
    unfold encD
    rw [List.length_append, be_length, be_length]
    omega

/-- How many bytes they are. -/
theorem bytesO_len (x : PO) : (bytesO x).length = 1 + 5 + 1 + 4 * x.deps.length + 10 + 1 + 1 + x.key.size + 1 + (bytesR x.vals).length + 1 + 5 * x.dots.length := by
  unfold bytesO encTO toTO encD encV encS encDs
  simp only [List.length_append, be_length, flat4, flat5, textBytes_length]
  rw [show x.key.data.toList.length = x.key.size from rfl]
  omega

end Go.Proofs.Ytjddkodcbpnilaa

namespace Go.Proofs.Ytjddkodcbpnilaa
open Go.RowKit Go.Lib
set_option linter.unusedVariables false

/-- What a walk reads of an operation's box. -/
theorem cellsO_at {w : World} {b : Nat} {dp dn sp sl sq kind table col : Int} {key : ByteArray} {v2 v10 v11 : Value} {t : TypeId} (h : CellsAt w b #[.int .i64 dp, .int .i64 dn, v2, .int .i64 sp, .int .i64 sl, .int .i64 sq, .int .i64 kind, .int .i64 table, .string key, .int .i64 col, v10, v11] t) :
    w.cell? ⟨b, 0, none⟩ = some (.int .i64 dp) ∧ w.cell? ⟨b, 1, none⟩ = some (.int .i64 dn) ∧ w.cell? ⟨b, 2, none⟩ = some v2 ∧ w.cell? ⟨b, 3, none⟩ = some (.int .i64 sp) ∧ w.cell? ⟨b, 4, none⟩ = some (.int .i64 sl) ∧ w.cell? ⟨b, 5, none⟩ = some (.int .i64 sq) ∧ w.cell? ⟨b, 6, none⟩ = some (.int .i64 kind) ∧ w.cell? ⟨b, 7, none⟩ = some (.int .i64 table) ∧ w.cell? ⟨b, 8, none⟩ = some (.string key) ∧ w.cell? ⟨b, 9, none⟩ = some (.int .i64 col) ∧ w.cell? ⟨b, 10, none⟩ = some v10 ∧ w.cell? ⟨b, 11, none⟩ = some v11 :=
  ⟨h.cell 0, h.cell 1, h.cell 2, h.cell 3, h.cell 4, h.cell 5, h.cell 6, h.cell 7, h.cell 8, h.cell 9, h.cell 10, h.cell 11⟩

end Go.Proofs.Ytjddkodcbpnilaa

namespace Go.Proofs.Ytjddkodcbpnilaa
open Go.RowKit Go.Lib
set_option linter.unusedVariables false

/-- Are they alike? -/
def sameO (x y : PO) : Bool :=
  (decide (x.dp = y.dp) && decide (x.dn = y.dn)) && (decide (x.deps = y.deps) && (decide ((⟨x.sp, x.sl, x.sq⟩ : PS) = ⟨y.sp, y.sl, y.sq⟩) && (decide (x.kind = y.kind) && (decide (x.table = y.table) && ((x.key.toList == y.key.toList) && (decide (x.col = y.col) && (sameVs x.vals y.vals && decide (x.dots = y.dots))))))))

theorem sameO_iff (x y : PO) : sameO x y = true ↔ x = y := by
  obtain ⟨dp, dn, deps, sp, sl, sq, kind, table, key, col, vals, dots⟩ := x
  obtain ⟨dp', dn', deps', sp', sl', sq', kind', table', key', col', vals', dots'⟩ := y
  unfold sameO
  simp only [Bool.and_eq_true, decide_eq_true_eq, sameVs_iff, PO.mk.injEq, PS.mk.injEq, beq_iff_eq]
  constructor
  · rintro ⟨⟨a, b⟩, c, ⟨d, e, f⟩, g, h, i, j, k, l⟩
    exact ⟨a, b, c, d, e, f, g, h, toList_inj i, j, k, l⟩
  · rintro ⟨a, b, c, d, e, f, g, h, i, j, k, l⟩
    exact ⟨⟨a, b⟩, c, ⟨d, e, f⟩, g, h, by rw [i], j, k, l⟩

end Go.Proofs.Ytjddkodcbpnilaa
