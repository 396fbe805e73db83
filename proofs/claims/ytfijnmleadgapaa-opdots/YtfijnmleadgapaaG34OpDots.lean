/-
  Texts of the proof of OpDots, one behind the other.
-/
import Derived.Test.YtfijnmleadgapaaRows
import Derived.Test.YtfijnmleadgapaaG30OpDots
import Derived.Test.YtfijnmleadgapaaG33OpDots
import Derived.WalkKit
import Derived.WalkSpells
import Derived.Deep.QuietTactic
import Derived.BigQuiet
import Derived.Test.YtfijnmleadgapaaG26OpDots
import Derived.Test.YtfijnmleadgapaaG32OpDots
import Derived.Test.YtfijnmleadgapaaG17OpDots
namespace Go.Proofs.Ytfijnmleadgapaa
open Go.RowKit Go.Lib
set_option linter.unusedVariables false

/-- All blocks but N and the next stay. -/
def Past (N : Nat) (w w' : World) : Prop := Stay (fun b => b ≠ N ∧ b ≠ N + 1 ∧ b < w.heap.size) w w'

theorem Past.refl (N : Nat) (w : World) : Past N w w := Stay.refl _ w

theorem Past.trans {N : Nat} {a b c : World} (h : Past N a b) (k : Past N b c) : Past N a c :=
  Stay.trans h (Stay.mono k fun x hx => ⟨hx.1, hx.2.1, Nat.lt_of_lt_of_le hx.2.2 h.size⟩)

theorem Past.aside {N : Nat} {w w' : World} (h : Aside (N + 1) w w') : Past N w w' := Stay.mono h fun b hb => ⟨hb.2.1, hb.2.2⟩

theorem Past.of_below {N : Nat} {w w' : World} (h : Below w.heap.size w w') : Past N w w' := Stay.of_below h fun b hb => hb.2.2

theorem Past.set {N i : Nat} {w w1 : World} {v : Value} (h : Past N w w1) : Past N w (w1.setCell ⟨N, i, none⟩ v) :=
  Stay.setCell (p := ⟨N, i, none⟩) h (fun k => k.1 rfl) _

theorem Past.below {w0 w w' : World} (h : Past w0.heap.size w w') (h0 : Below w0.heap.size w0 w) : Below w0.heap.size w0 w' :=
  h0.trans (Stay.below h fun b hb => ⟨by omega, by omega, Nat.lt_of_lt_of_le hb h0.size⟩)

theorem OwnI.past {w w' : World} {N B : Nat} {v : Value} {L : List Int} (h : OwnI w B v L) (hs : Past N w w') (hg : N + 1 < B) : OwnI w' B v L := by
  obtain ⟨h1, h2⟩ := h
  refine ⟨h1, ?_⟩
  rcases h2 with h2 | ⟨x, cap, cur, hv, hx, hh, hc⟩
  · exact .inl h2
  · exact .inr ⟨x, cap, cur, hv, hx, (hs.block x ⟨by omega, by omega, heap_lt hh⟩).trans hh, hc⟩

theorem OwnD.past {w w' : World} {N B : Nat} {v : Value} {L : List (Int × Int)} (h : OwnD w B v L) (hs : Past N w w') (hg : N + 1 < B) : OwnD w' B v L := by
  obtain ⟨h1, h2⟩ := h
  refine ⟨h1, ?_⟩
  rcases h2 with h2 | ⟨x, cap, cur, hv, hx, hh, hc⟩
  · exact .inl h2
  · exact .inr ⟨x, cap, cur, hv, hx, (hs.block x ⟨by omega, by omega, heap_lt hh⟩).trans hh, hc⟩

theorem takeT_size (l : List UInt8) (s : Int × Int) : (takeT l s).1.size ≤ 24 := by
  unfold takeT
  split
  · show (rGetText l s.1).1.toArray.size ≤ 24
    rw [List.size_toArray]
    unfold rGetText
    split
    · simp
    · split
      · simp
      · split
        · simp
        · rename_i h
          simp only [List.length_take]
          omega
  · show (0 : Nat) ≤ 24
    omega

/-- What op.Read answers. -/
def readO (l : List UInt8) (p : Int) : PO × Int × Int :=
  let q1 := takeN l (p, 0) 1
  let q2 := takeD l q1.2
  let q3 := takeV l q2.2
  let q4 := takeS l q3.2
  let q5 := takeN l q4.2 1
  let q6 := takeT l q5.2
  let q7 := takeN l q6.2 1
  let q8 := takeR l q7.2
  let q9 := takeDots l q8.2 64
  if (endR q9.2).2 = 0 then (⟨q2.1.1, q2.1.2, q3.1, q4.1.1, q4.1.2.1, q4.1.2.2, q1.1, q5.1, q6.1, q7.1, q8.1, q9.1⟩, (endR q9.2).1, 0)
  else (⟨0, 0, [], 0, 0, 0, 0, 0, ByteArray.empty, 0, [], []⟩, 0, (endR q9.2).2)

/-- An operation is handed back. -/
def GivesO (w w' : World) (e : Ending) (r : PO × Int × Int) : Prop :=
  ∃ da va oa dc vc oc, e = .returned (.tuple #[.agg (cellsO r.1 da va oa dc vc oc), .int .i64 r.2.1, .int .i64 r.2.2]) ∧ LiesO w' r.1 da va oa dc vc oc ∧ Below w.heap.size w w'

theorem liesO_end {w3 w8 w9 wf : World} {N B3 B8 B9 b3 n3 n8 b9 n9 vc : Nat} {va : Option Addr} {x : PO} (p3 : Past N w3 wf) (p8 : Past N w8 wf) (p9 : Past N w9 wf)
    (o3 : OwnI w3 B3 (.slice (some ⟨b3, 0, none⟩) n3 n3) x.deps) (g3 : N + 1 < B3) (l3 : x.deps.length = n3) (m3 : n3 ≤ 5)
    (rv : RdV w8 va x.vals) (vb : ∀ b o, va = some ⟨b, o, none⟩ → B8 ≤ b ∧ b < w8.heap.size) (g8 : N + 1 < B8) (l8 : x.vals.length = n8) (m8 : n8 ≤ 65536) (hvc : n8 ≤ vc) (vn : va = none → x.vals = [] ∧ vc = 0)
    (o9 : OwnD w9 B9 (.slice (some ⟨b9, 0, none⟩) n9 n9) x.dots) (g9 : N + 1 < B9) (l9 : x.dots.length = n9) (m9 : n9 ≤ 64) (hk : x.key.size ≤ 24) :
    LiesO wf x (some ⟨b3, 0, none⟩) va (some ⟨b9, 0, none⟩) n3 vc n9 := by
  have q3 := o3.past p3 g3
  have q9 := o9.past p9 g9
  have t3 := World.ownsRow.lt q3 b3 rfl
  have t9 := World.ownsRow.lt q9 b9 rfl
  obtain ⟨a3, c3, e3, _, r3, _⟩ := q3.form
  obtain ⟨a9, c9, e9, _, r9, _⟩ := q9.form
  simp only [Value.slice.injEq] at e3 e9
  rw [← e3.1] at r3
  rw [← e9.1] at r9
  refine ⟨r3, rv.kept fun b o e => p8.block b ⟨by have := (vb b o e).1; omega, by have := (vb b o e).1; omega, (vb b o e).2⟩, r9, by omega, by omega, by omega, by omega, by omega, by omega, fun e => (by cases e), vn, fun e => (by cases e), by omega, fun b o e => ?_, fun b o e => Nat.lt_of_lt_of_le (vb b o e).2 p8.size, fun b o e => ?_⟩
  · cases e
    exact t3.2
  · cases e
    exact t9.2

set_option maxRecDepth 100000 in
set_option maxHeartbeats 8000000 in
theorem opRead_any (a : Option Addr) (len cap : Nat) (l : List UInt8) (p : Int) (w : World) (hr : Rd w a l) (hs : ∀ b o, a = some ⟨b, o, none⟩ → b < w.heap.size) (hlen : l.length = len) (hl : len ≤ 1048576) (hcap : len ≤ cap) :
    Calls Try.prog 9 #[.slice a len cap, .int .i64 p] w fun e w' => GivesO w w' e (readO l p) := by
  obtain ⟨o, ho⟩ : ∃ o : Obj, o = .cells #[.int .i64 0, .int .i64 0, .slice none 0 0, .int .i64 0, .int .i64 0, .int .i64 0, .int .i64 0, .int .i64 0, .string ⟨#[]⟩, .int .i64 0, .slice none 0 0, .slice none 0 0] 32 := ⟨_, rfl⟩
  have hb1 : Below w.heap.size w (w.alloc o) := (Below.refl _ w).alloc (Nat.le_refl _) _
  have hsz : (w.alloc o).heap.size = w.heap.size + 1 := by simp
  have HK0 : Hid (CellsAt (w.alloc o) w.heap.size #[.int .i64 0, .int .i64 0, .slice none 0 0, .int .i64 0, .int .i64 0, .int .i64 0, .int .i64 0, .int .i64 0, .string ⟨#[]⟩, .int .i64 0, .slice none 0 0, .slice none 0 0] 32) := by
    rw [ho]
    exact CellsAt.made rfl
  have HB0 : Hid (Below w.heap.size w (w.alloc o)) := hb1
  have C := newReader_any a len cap l p (w.alloc o) (hr.later hb1) (fun b o e => Nat.lt_of_lt_of_le (hs b o e) hb1.size) hlen hl hcap
  rw [hsz] at C
  have HSRC : Hid (∀ x k, a = some ⟨x, k, none⟩ → x < w.heap.size) := hs
  unfold readO
  simp only []
  generalize hq1 : takeN l (p, 0) 1 = q1
  have HQ1 : Hid (takeN l (p, 0) 1 = q1) := hq1
  generalize hq2 : takeD l q1.2 = q2
  have HQ2 : Hid (takeD l q1.2 = q2) := hq2
  generalize hq3 : takeV l q2.2 = q3
  have HQ3 : Hid (takeV l q2.2 = q3) := hq3
  generalize hq4 : takeS l q3.2 = q4
  have HQ4 : Hid (takeS l q3.2 = q4) := hq4
  generalize hq5 : takeN l q4.2 1 = q5
  have HQ5 : Hid (takeN l q4.2 1 = q5) := hq5
  generalize hq6 : takeT l q5.2 = q6
  have HQ6 : Hid (takeT l q5.2 = q6) := hq6
  generalize hq7 : takeN l q6.2 1 = q7
  have HQ7 : Hid (takeN l q6.2 1 = q7) := hq7
  generalize hq8 : takeR l q7.2 = q8
  have HQ8 : Hid (takeR l q7.2 = q8) := hq8
  generalize hq9 : takeDots l q8.2 64 = q9
  have HQ9 : Hid (takeDots l q8.2 64 = q9) := hq9
  have HT : Hid (q6.1.size ≤ 24) := by
    rw [← hq6]
    exact takeT_size _ _
  generalize hqe : endR q9.2 = qe
  have HQE : Hid (endR q9.2 = qe) := hqe
  rw [ho] at HK0 HB0 C
  clear hr hs hlen hb1 hsz ho hq1 hq2 hq3 hq4 hq5 hq6 hq7 hq8 hq9 hqe
  go_enter Try.func9, Try.ntmps9
  go_wp2_with fail
  refine C.mono ?_
  rintro e w0 ⟨rfl, hp0, hb0⟩
  have HP0 : Hid (RAt w0 (w.heap.size + 1) a len cap l (p, 0)) := hp0
  have K0 : Hid (CellsAt w0 w.heap.size #[.int .i64 0, .int .i64 0, .slice none 0 0, .int .i64 0, .int .i64 0, .int .i64 0, .int .i64 0, .int .i64 0, .string ⟨#[]⟩, .int .i64 0, .slice none 0 0, .slice none 0 0] 32) := CellsAt.later HK0.out (by simpa using hb0)
  have HX0 : Hid (Below w.heap.size w w0) := HB0.out.trans (by refine Below.mono (by simpa using hb0) ?_; omega)
  clear hp0 hb0 HK0 HB0 C
  go_wp2_with fail
  have C := rByte_any (w.heap.size + 1) a len cap l (p, 0) _ HP0.out
  rw [HQ1.out] at C
  refine C.mono ?_
  rintro e w1 ⟨rfl, hp, hs⟩
  have k := CellsAt.aside K0.out hs (by omega)
  have x6 : w1.cell? ⟨w.heap.size, 6, none⟩ = some (.int .i64 0) := k.cell 6
  have f6 := k.free 6
  have HP1 : Hid (RAt (w1.setCell ⟨w.heap.size, 6, none⟩ (.int .i64 q1.1)) (w.heap.size + 1) a len cap l q1.2) := (hp.set (by omega) (fun x k e => by have := HSRC.out x k e; omega))
  have K1 : Hid (CellsAt (w1.setCell ⟨w.heap.size, 6, none⟩ (.int .i64 q1.1)) w.heap.size #[.int .i64 0, .int .i64 0, .slice none 0 0, .int .i64 0, .int .i64 0, .int .i64 0, .int .i64 q1.1, .int .i64 0, .string ⟨#[]⟩, .int .i64 0, .slice none 0 0, .slice none 0 0] 32) := (k.set 6 (.int .i64 q1.1))
  have HY1 : Hid (Past w.heap.size w0 (w1.setCell ⟨w.heap.size, 6, none⟩ (.int .i64 q1.1))) := (Past.set (Past.aside hs))
  have HX1 : Hid (Below w.heap.size w (w1.setCell ⟨w.heap.size, 6, none⟩ (.int .i64 q1.1))) := Past.below HY1.out HX0.out
  clear hp hs k C HY1 HX0 K0 HP0 HQ1
  go_wp2_with fail
  have C := rDot_any (w.heap.size + 1) a len cap l q1.2 _ HP1.out
  rw [HQ2.out] at C
  refine C.mono ?_
  rintro e w2 ⟨rfl, hp, hs⟩
  have k := CellsAt.aside K1.out hs (by omega)
  have x0 : w2.cell? ⟨w.heap.size, 0, none⟩ = some (.int .i64 0) := k.cell 0
  have f0 := k.free 0
  have x1 : w2.cell? ⟨w.heap.size, 1, none⟩ = some (.int .i64 0) := k.cell 1
  have f1 := k.free 1
  have HP2 : Hid (RAt ((w2.setCell ⟨w.heap.size, 0, none⟩ (.int .i64 q2.1.1)).setCell ⟨w.heap.size, 1, none⟩ (.int .i64 q2.1.2)) (w.heap.size + 1) a len cap l q2.2) := ((hp.set (by omega) (fun x k e => by have := HSRC.out x k e; omega)).set (by omega) (fun x k e => by have := HSRC.out x k e; omega))
  have K2 : Hid (CellsAt ((w2.setCell ⟨w.heap.size, 0, none⟩ (.int .i64 q2.1.1)).setCell ⟨w.heap.size, 1, none⟩ (.int .i64 q2.1.2)) w.heap.size #[.int .i64 q2.1.1, .int .i64 q2.1.2, .slice none 0 0, .int .i64 0, .int .i64 0, .int .i64 0, .int .i64 q1.1, .int .i64 0, .string ⟨#[]⟩, .int .i64 0, .slice none 0 0, .slice none 0 0] 32) := ((k.set 0 (.int .i64 q2.1.1)).set 1 (.int .i64 q2.1.2))
  have HY2 : Hid (Past w.heap.size (w1.setCell ⟨w.heap.size, 6, none⟩ (.int .i64 q1.1)) ((w2.setCell ⟨w.heap.size, 0, none⟩ (.int .i64 q2.1.1)).setCell ⟨w.heap.size, 1, none⟩ (.int .i64 q2.1.2))) := (Past.set ((Past.set (Past.aside hs))))
  have HX2 : Hid (Below w.heap.size w ((w2.setCell ⟨w.heap.size, 0, none⟩ (.int .i64 q2.1.1)).setCell ⟨w.heap.size, 1, none⟩ (.int .i64 q2.1.2))) := Past.below HY2.out HX1.out
  clear hp hs k C HY2 HX1 K1 HP1 HQ2 x6 f6
  go_wp2_with fail
  have C := rdVector_any (w.heap.size + 1) a len cap l q2.2 _ HP2.out
  rw [HQ3.out] at C
  refine C.mono ?_
  rintro e w3 ⟨b3, n3, rfl, hl3, hn3, ho3, hp, hs⟩
  have k := CellsAt.aside K2.out hs (by omega)
  have x2 : w3.cell? ⟨w.heap.size, 2, none⟩ = some (.slice none 0 0) := k.cell 2
  have f2 := k.free 2
  have HP3 : Hid (RAt (w3.setCell ⟨w.heap.size, 2, none⟩ (.slice (some ⟨b3, 0, none⟩) n3 n3)) (w.heap.size + 1) a len cap l q3.2) := (hp.set (by omega) (fun x k e => by have := HSRC.out x k e; omega))
  have K3 : Hid (CellsAt (w3.setCell ⟨w.heap.size, 2, none⟩ (.slice (some ⟨b3, 0, none⟩) n3 n3)) w.heap.size #[.int .i64 q2.1.1, .int .i64 q2.1.2, .slice (some ⟨b3, 0, none⟩) n3 n3, .int .i64 0, .int .i64 0, .int .i64 0, .int .i64 q1.1, .int .i64 0, .string ⟨#[]⟩, .int .i64 0, .slice none 0 0, .slice none 0 0] 32) := (k.set 2 (.slice (some ⟨b3, 0, none⟩) n3 n3))
  have HY3 : Hid (Past w.heap.size ((w2.setCell ⟨w.heap.size, 0, none⟩ (.int .i64 q2.1.1)).setCell ⟨w.heap.size, 1, none⟩ (.int .i64 q2.1.2)) (w3.setCell ⟨w.heap.size, 2, none⟩ (.slice (some ⟨b3, 0, none⟩) n3 n3))) := (Past.set (Past.aside hs))
  have HX3 : Hid (Below w.heap.size w (w3.setCell ⟨w.heap.size, 2, none⟩ (.slice (some ⟨b3, 0, none⟩) n3 n3))) := Past.below HY3.out HX2.out
  have HG3 : Hid (w.heap.size + 1 < ((w2.setCell ⟨w.heap.size, 0, none⟩ (.int .i64 q2.1.1)).setCell ⟨w.heap.size, 1, none⟩ (.int .i64 q2.1.2)).heap.size) := HP2.out.box.lt
  have HO3 : Hid (OwnI w3 ((w2.setCell ⟨w.heap.size, 0, none⟩ (.int .i64 q2.1.1)).setCell ⟨w.heap.size, 1, none⟩ (.int .i64 q2.1.2)).heap.size (.slice (some ⟨b3, 0, none⟩) n3 n3) q3.1) := ho3
  have HL3 : Hid (q3.1.length = n3) := hl3
  have Z3 : Hid (Past w.heap.size w3 (w3.setCell ⟨w.heap.size, 2, none⟩ (.slice (some ⟨b3, 0, none⟩) n3 n3))) := (Past.set (Past.refl _ _))
  clear hp hs k C HY3 ho3 hl3 HX2 K2 HP2 HQ3 x0 f0 x1 f1
  go_wp2_with fail
  have C := rdStamp_any (w.heap.size + 1) a len cap l q3.2 _ HP3.out
  rw [HQ4.out] at C
  refine C.mono ?_
  rintro e w4 ⟨rfl, hp, hs⟩
  have k := CellsAt.aside K3.out hs (by omega)
  have x3 : w4.cell? ⟨w.heap.size, 3, none⟩ = some (.int .i64 0) := k.cell 3
  have f3 := k.free 3
  have x4 : w4.cell? ⟨w.heap.size, 4, none⟩ = some (.int .i64 0) := k.cell 4
  have f4 := k.free 4
  have x5 : w4.cell? ⟨w.heap.size, 5, none⟩ = some (.int .i64 0) := k.cell 5
  have f5 := k.free 5
  have HP4 : Hid (RAt (((w4.setCell ⟨w.heap.size, 3, none⟩ (.int .i64 q4.1.1)).setCell ⟨w.heap.size, 4, none⟩ (.int .i64 q4.1.2.1)).setCell ⟨w.heap.size, 5, none⟩ (.int .i64 q4.1.2.2)) (w.heap.size + 1) a len cap l q4.2) := (((hp.set (by omega) (fun x k e => by have := HSRC.out x k e; omega)).set (by omega) (fun x k e => by have := HSRC.out x k e; omega)).set (by omega) (fun x k e => by have := HSRC.out x k e; omega))
  have K4 : Hid (CellsAt (((w4.setCell ⟨w.heap.size, 3, none⟩ (.int .i64 q4.1.1)).setCell ⟨w.heap.size, 4, none⟩ (.int .i64 q4.1.2.1)).setCell ⟨w.heap.size, 5, none⟩ (.int .i64 q4.1.2.2)) w.heap.size #[.int .i64 q2.1.1, .int .i64 q2.1.2, .slice (some ⟨b3, 0, none⟩) n3 n3, .int .i64 q4.1.1, .int .i64 q4.1.2.1, .int .i64 q4.1.2.2, .int .i64 q1.1, .int .i64 0, .string ⟨#[]⟩, .int .i64 0, .slice none 0 0, .slice none 0 0] 32) := (((k.set 3 (.int .i64 q4.1.1)).set 4 (.int .i64 q4.1.2.1)).set 5 (.int .i64 q4.1.2.2))
  have HY4 : Hid (Past w.heap.size (w3.setCell ⟨w.heap.size, 2, none⟩ (.slice (some ⟨b3, 0, none⟩) n3 n3)) (((w4.setCell ⟨w.heap.size, 3, none⟩ (.int .i64 q4.1.1)).setCell ⟨w.heap.size, 4, none⟩ (.int .i64 q4.1.2.1)).setCell ⟨w.heap.size, 5, none⟩ (.int .i64 q4.1.2.2))) := (Past.set ((Past.set ((Past.set (Past.aside hs))))))
  have HX4 : Hid (Below w.heap.size w (((w4.setCell ⟨w.heap.size, 3, none⟩ (.int .i64 q4.1.1)).setCell ⟨w.heap.size, 4, none⟩ (.int .i64 q4.1.2.1)).setCell ⟨w.heap.size, 5, none⟩ (.int .i64 q4.1.2.2))) := Past.below HY4.out HX3.out
  have Z3 : Hid (Past w.heap.size w3 (((w4.setCell ⟨w.heap.size, 3, none⟩ (.int .i64 q4.1.1)).setCell ⟨w.heap.size, 4, none⟩ (.int .i64 q4.1.2.1)).setCell ⟨w.heap.size, 5, none⟩ (.int .i64 q4.1.2.2))) := Z3.out.trans HY4.out
  clear hp hs k C HY4 HX3 K3 HP3 HQ4 x2 f2
  go_wp2_with fail
  have C := rByte_any (w.heap.size + 1) a len cap l q4.2 _ HP4.out
  rw [HQ5.out] at C
  refine C.mono ?_
  rintro e w5 ⟨rfl, hp, hs⟩
  have k := CellsAt.aside K4.out hs (by omega)
  have x7 : w5.cell? ⟨w.heap.size, 7, none⟩ = some (.int .i64 0) := k.cell 7
  have f7 := k.free 7
  have HP5 : Hid (RAt (w5.setCell ⟨w.heap.size, 7, none⟩ (.int .i64 q5.1)) (w.heap.size + 1) a len cap l q5.2) := (hp.set (by omega) (fun x k e => by have := HSRC.out x k e; omega))
  have K5 : Hid (CellsAt (w5.setCell ⟨w.heap.size, 7, none⟩ (.int .i64 q5.1)) w.heap.size #[.int .i64 q2.1.1, .int .i64 q2.1.2, .slice (some ⟨b3, 0, none⟩) n3 n3, .int .i64 q4.1.1, .int .i64 q4.1.2.1, .int .i64 q4.1.2.2, .int .i64 q1.1, .int .i64 q5.1, .string ⟨#[]⟩, .int .i64 0, .slice none 0 0, .slice none 0 0] 32) := (k.set 7 (.int .i64 q5.1))
  have HY5 : Hid (Past w.heap.size (((w4.setCell ⟨w.heap.size, 3, none⟩ (.int .i64 q4.1.1)).setCell ⟨w.heap.size, 4, none⟩ (.int .i64 q4.1.2.1)).setCell ⟨w.heap.size, 5, none⟩ (.int .i64 q4.1.2.2)) (w5.setCell ⟨w.heap.size, 7, none⟩ (.int .i64 q5.1))) := (Past.set (Past.aside hs))
  have HX5 : Hid (Below w.heap.size w (w5.setCell ⟨w.heap.size, 7, none⟩ (.int .i64 q5.1))) := Past.below HY5.out HX4.out
  have Z3 : Hid (Past w.heap.size w3 (w5.setCell ⟨w.heap.size, 7, none⟩ (.int .i64 q5.1))) := Z3.out.trans HY5.out
  clear hp hs k C HY5 HX4 K4 HP4 HQ5 x3 f3 x4 f4 x5 f5
  go_wp2_with fail
  have C := rText_any (w.heap.size + 1) a len cap l q5.2 _ HP5.out
  rw [HQ6.out] at C
  refine C.mono ?_
  rintro e w6 ⟨rfl, hp, hs⟩
  have k := CellsAt.aside K5.out hs (by omega)
  have x8 : w6.cell? ⟨w.heap.size, 8, none⟩ = some (.string ⟨#[]⟩) := k.cell 8
  have f8 := k.free 8
  have HP6 : Hid (RAt (w6.setCell ⟨w.heap.size, 8, none⟩ (.string q6.1)) (w.heap.size + 1) a len cap l q6.2) := (hp.set (by omega) (fun x k e => by have := HSRC.out x k e; omega))
  have K6 : Hid (CellsAt (w6.setCell ⟨w.heap.size, 8, none⟩ (.string q6.1)) w.heap.size #[.int .i64 q2.1.1, .int .i64 q2.1.2, .slice (some ⟨b3, 0, none⟩) n3 n3, .int .i64 q4.1.1, .int .i64 q4.1.2.1, .int .i64 q4.1.2.2, .int .i64 q1.1, .int .i64 q5.1, .string q6.1, .int .i64 0, .slice none 0 0, .slice none 0 0] 32) := (k.set 8 (.string q6.1))
  have HY6 : Hid (Past w.heap.size (w5.setCell ⟨w.heap.size, 7, none⟩ (.int .i64 q5.1)) (w6.setCell ⟨w.heap.size, 8, none⟩ (.string q6.1))) := (Past.set (Past.aside hs))
  have HX6 : Hid (Below w.heap.size w (w6.setCell ⟨w.heap.size, 8, none⟩ (.string q6.1))) := Past.below HY6.out HX5.out
  have Z3 : Hid (Past w.heap.size w3 (w6.setCell ⟨w.heap.size, 8, none⟩ (.string q6.1))) := Z3.out.trans HY6.out
  clear hp hs k C HY6 HX5 K5 HP5 HQ6 x7 f7
  go_wp2_with fail
  have C := rByte_any (w.heap.size + 1) a len cap l q6.2 _ HP6.out
  rw [HQ7.out] at C
  refine C.mono ?_
  rintro e w7 ⟨rfl, hp, hs⟩
  have k := CellsAt.aside K6.out hs (by omega)
  have x9 : w7.cell? ⟨w.heap.size, 9, none⟩ = some (.int .i64 0) := k.cell 9
  have f9 := k.free 9
  have HP7 : Hid (RAt (w7.setCell ⟨w.heap.size, 9, none⟩ (.int .i64 q7.1)) (w.heap.size + 1) a len cap l q7.2) := (hp.set (by omega) (fun x k e => by have := HSRC.out x k e; omega))
  have K7 : Hid (CellsAt (w7.setCell ⟨w.heap.size, 9, none⟩ (.int .i64 q7.1)) w.heap.size #[.int .i64 q2.1.1, .int .i64 q2.1.2, .slice (some ⟨b3, 0, none⟩) n3 n3, .int .i64 q4.1.1, .int .i64 q4.1.2.1, .int .i64 q4.1.2.2, .int .i64 q1.1, .int .i64 q5.1, .string q6.1, .int .i64 q7.1, .slice none 0 0, .slice none 0 0] 32) := (k.set 9 (.int .i64 q7.1))
  have HY7 : Hid (Past w.heap.size (w6.setCell ⟨w.heap.size, 8, none⟩ (.string q6.1)) (w7.setCell ⟨w.heap.size, 9, none⟩ (.int .i64 q7.1))) := (Past.set (Past.aside hs))
  have HX7 : Hid (Below w.heap.size w (w7.setCell ⟨w.heap.size, 9, none⟩ (.int .i64 q7.1))) := Past.below HY7.out HX6.out
  have Z3 : Hid (Past w.heap.size w3 (w7.setCell ⟨w.heap.size, 9, none⟩ (.int .i64 q7.1))) := Z3.out.trans HY7.out
  clear hp hs k C HY7 HX6 K6 HP6 HQ7 x8 f8
  go_wp2_with fail
  have C := takeRow_any (w.heap.size + 1) a len cap l q7.2 _ HP7.out
  rw [HQ8.out] at C
  refine C.mono ?_
  rintro e w8 ⟨⟨va, n8, vc, rfl, hl8, hn8, hvc, hrv, hvn, hvb⟩, hp, hs⟩
  have k := CellsAt.aside K7.out hs (by omega)
  have x10 : w8.cell? ⟨w.heap.size, 10, none⟩ = some (.slice none 0 0) := k.cell 10
  have f10 := k.free 10
  have HP8 : Hid (RAt (w8.setCell ⟨w.heap.size, 10, none⟩ (.slice va n8 vc)) (w.heap.size + 1) a len cap l q8.2) := (hp.set (by omega) (fun x k e => by have := HSRC.out x k e; omega))
  have K8 : Hid (CellsAt (w8.setCell ⟨w.heap.size, 10, none⟩ (.slice va n8 vc)) w.heap.size #[.int .i64 q2.1.1, .int .i64 q2.1.2, .slice (some ⟨b3, 0, none⟩) n3 n3, .int .i64 q4.1.1, .int .i64 q4.1.2.1, .int .i64 q4.1.2.2, .int .i64 q1.1, .int .i64 q5.1, .string q6.1, .int .i64 q7.1, .slice va n8 vc, .slice none 0 0] 32) := (k.set 10 (.slice va n8 vc))
  have HY8 : Hid (Past w.heap.size (w7.setCell ⟨w.heap.size, 9, none⟩ (.int .i64 q7.1)) (w8.setCell ⟨w.heap.size, 10, none⟩ (.slice va n8 vc))) := (Past.set (Past.aside hs))
  have HX8 : Hid (Below w.heap.size w (w8.setCell ⟨w.heap.size, 10, none⟩ (.slice va n8 vc))) := Past.below HY8.out HX7.out
  have HG8 : Hid (w.heap.size + 1 < (w7.setCell ⟨w.heap.size, 9, none⟩ (.int .i64 q7.1)).heap.size) := HP7.out.box.lt
  have HRV : Hid (RdV w8 va q8.1) := hrv
  have HL8 : Hid (q8.1.length = n8) := hl8
  have HVN : Hid (va = none → q8.1 = [] ∧ vc = 0) := hvn
  have HVB : Hid (∀ b o, va = some ⟨b, o, none⟩ → (w7.setCell ⟨w.heap.size, 9, none⟩ (.int .i64 q7.1)).heap.size ≤ b ∧ b < w8.heap.size) := hvb
  have Z8 : Hid (Past w.heap.size w8 (w8.setCell ⟨w.heap.size, 10, none⟩ (.slice va n8 vc))) := Past.set (Past.refl _ _)
  have Z3 : Hid (Past w.heap.size w3 (w8.setCell ⟨w.heap.size, 10, none⟩ (.slice va n8 vc))) := Z3.out.trans HY8.out
  clear hp hs k C HY8 hrv hl8 hvn hvb HX7 K7 HP7 HQ8 x9 f9
  go_wp2_with fail
  have C := rdDots_any (w.heap.size + 1) a len cap l q8.2 64 _ (by omega) HP8.out
  rw [HQ9.out] at C
  refine C.mono ?_
  rintro e w9 ⟨b9, n9, rfl, hl9, hn9, ho9, hp, hs⟩
  have k := CellsAt.aside K8.out hs (by omega)
  have x11 : w9.cell? ⟨w.heap.size, 11, none⟩ = some (.slice none 0 0) := k.cell 11
  have f11 := k.free 11
  have HP9 : Hid (RAt (w9.setCell ⟨w.heap.size, 11, none⟩ (.slice (some ⟨b9, 0, none⟩) n9 n9)) (w.heap.size + 1) a len cap l q9.2) := (hp.set (by omega) (fun x k e => by have := HSRC.out x k e; omega))
  have K9 : Hid (CellsAt (w9.setCell ⟨w.heap.size, 11, none⟩ (.slice (some ⟨b9, 0, none⟩) n9 n9)) w.heap.size #[.int .i64 q2.1.1, .int .i64 q2.1.2, .slice (some ⟨b3, 0, none⟩) n3 n3, .int .i64 q4.1.1, .int .i64 q4.1.2.1, .int .i64 q4.1.2.2, .int .i64 q1.1, .int .i64 q5.1, .string q6.1, .int .i64 q7.1, .slice va n8 vc, .slice (some ⟨b9, 0, none⟩) n9 n9] 32) := (k.set 11 (.slice (some ⟨b9, 0, none⟩) n9 n9))
  have HY9 : Hid (Past w.heap.size (w8.setCell ⟨w.heap.size, 10, none⟩ (.slice va n8 vc)) (w9.setCell ⟨w.heap.size, 11, none⟩ (.slice (some ⟨b9, 0, none⟩) n9 n9))) := (Past.set (Past.aside hs))
  have HX9 : Hid (Below w.heap.size w (w9.setCell ⟨w.heap.size, 11, none⟩ (.slice (some ⟨b9, 0, none⟩) n9 n9))) := Past.below HY9.out HX8.out
  have HG9 : Hid (w.heap.size + 1 < (w8.setCell ⟨w.heap.size, 10, none⟩ (.slice va n8 vc)).heap.size) := HP8.out.box.lt
  have HO9 : Hid (OwnD w9 (w8.setCell ⟨w.heap.size, 10, none⟩ (.slice va n8 vc)).heap.size (.slice (some ⟨b9, 0, none⟩) n9 n9) q9.1) := ho9
  have HL9 : Hid (q9.1.length = n9) := hl9
  have Z9 : Hid (Past w.heap.size w9 (w9.setCell ⟨w.heap.size, 11, none⟩ (.slice (some ⟨b9, 0, none⟩) n9 n9))) := Past.set (Past.refl _ _)
  have Z3 : Hid (Past w.heap.size w3 (w9.setCell ⟨w.heap.size, 11, none⟩ (.slice (some ⟨b9, 0, none⟩) n9 n9))) := Z3.out.trans HY9.out
  have Z8 : Hid (Past w.heap.size w8 (w9.setCell ⟨w.heap.size, 11, none⟩ (.slice (some ⟨b9, 0, none⟩) n9 n9))) := Z8.out.trans HY9.out
  clear hp hs k C HY9 ho9 hl9 HX8 K8 HP8 HQ9 x10 f10
  go_wp2_with fail
  have C := rEnd_any (w.heap.size + 1) a len cap l q9.2 _ HP9.out
  rw [HQE.out] at C
  refine C.mono ?_
  rintro e wz ⟨rfl, hbz⟩
  have k := CellsAt.later K9.out hbz
  have HX : Hid (Below w.heap.size w wz) := HX9.out.trans (Below.mono hbz HX9.out.size)
  have Y3 : Hid (Past w.heap.size w3 wz) := Z3.out.trans (Past.of_below hbz)
  have Y8 : Hid (Past w.heap.size w8 wz) := Z8.out.trans (Past.of_below hbz)
  have Y9 : Hid (Past w.heap.size w9 wz) := Z9.out.trans (Past.of_below hbz)
  have y0 : wz.cell? ⟨w.heap.size, 0, none⟩ = some (.int .i64 q2.1.1) := k.cell 0
  have g0 := k.free 0
  have y1 : wz.cell? ⟨w.heap.size, 1, none⟩ = some (.int .i64 q2.1.2) := k.cell 1
  have g1 := k.free 1
  have y2 : wz.cell? ⟨w.heap.size, 2, none⟩ = some (.slice (some ⟨b3, 0, none⟩) n3 n3) := k.cell 2
  have g2 := k.free 2
  have y3 : wz.cell? ⟨w.heap.size, 3, none⟩ = some (.int .i64 q4.1.1) := k.cell 3
  have g3 := k.free 3
  have y4 : wz.cell? ⟨w.heap.size, 4, none⟩ = some (.int .i64 q4.1.2.1) := k.cell 4
  have g4 := k.free 4
  have y5 : wz.cell? ⟨w.heap.size, 5, none⟩ = some (.int .i64 q4.1.2.2) := k.cell 5
  have g5 := k.free 5
  have y6 : wz.cell? ⟨w.heap.size, 6, none⟩ = some (.int .i64 q1.1) := k.cell 6
  have g6 := k.free 6
  have y7 : wz.cell? ⟨w.heap.size, 7, none⟩ = some (.int .i64 q5.1) := k.cell 7
  have g7 := k.free 7
  have y8 : wz.cell? ⟨w.heap.size, 8, none⟩ = some (.string q6.1) := k.cell 8
  have g8 := k.free 8
  have y9 : wz.cell? ⟨w.heap.size, 9, none⟩ = some (.int .i64 q7.1) := k.cell 9
  have g9 := k.free 9
  have y10 : wz.cell? ⟨w.heap.size, 10, none⟩ = some (.slice va n8 vc) := k.cell 10
  have g10 := k.free 10
  have y11 : wz.cell? ⟨w.heap.size, 11, none⟩ = some (.slice (some ⟨b9, 0, none⟩) n9 n9) := k.cell 11
  have g11 := k.free 11
  clear k hbz C HX9 Z3 Z8 Z9 K9 HP9 HQE x11 f11
  by_cases he : qe.2 = 0
  · have d0 : (qe.2 != 0) = false := by simp [he]
    go_wp2
    refine bodyPost_ret (by simp [results, Try.results9, go_sem, y0, y1, y2, y3, y4, y5, y6, y7, y8, y9, y10, y11]; rfl) rfl ?_
    try rw [if_pos he]
    have h3 := HL3.out
    have h8 := HL8.out
    have h9 := HL9.out
    refine ⟨some ⟨b3, 0, none⟩, va, some ⟨b9, 0, none⟩, n3, vc, n9, ?_, ?_, ?_⟩
    · subst h3 h8 h9
      rfl
    · exact liesO_end (Past.set (Past.set (Past.set (Past.set (Past.set (Past.set (Past.set (Past.set (Past.set (Past.set (Past.set (Past.set (Y3.out))))))))))))) (Past.set (Past.set (Past.set (Past.set (Past.set (Past.set (Past.set (Past.set (Past.set (Past.set (Past.set (Past.set (Y8.out))))))))))))) (Past.set (Past.set (Past.set (Past.set (Past.set (Past.set (Past.set (Past.set (Past.set (Past.set (Past.set (Past.set (Y9.out))))))))))))) HO3.out HG3.out h3 hn3 HRV.out HVB.out HG8.out h8 hn8 hvc HVN.out HO9.out HG9.out h9 hn9 HT.out
    · exact Past.below (Past.set (Past.set (Past.set (Past.set (Past.set (Past.set (Past.set (Past.set (Past.set (Past.set (Past.set (Past.set (Past.refl _ wz))))))))))))) HX.out
  · have d0 : (qe.2 != 0) = true := by simpa using he
    go_wp2
    refine bodyPost_ret (by simp [results, Try.results9, go_sem, y0, y1, y2, y3, y4, y5, y6, y7, y8, y9, y10, y11]; rfl) rfl ?_
    try rw [if_neg he]
    refine ⟨none, none, none, 0, 0, 0, rfl, ?_, ?_⟩
    · exact ⟨fun h => absurd h (by simp), RdV.nil _ _, RdD.nil _ _, by simp, by simp, by simp, by simp, by simp, by simp, fun _ => ⟨rfl, rfl⟩, fun _ => ⟨rfl, rfl⟩, fun _ => ⟨rfl, rfl⟩, (by show (0 : Nat) ≤ _; omega), fun b o e => (by cases e), fun b o e => (by cases e), fun b o e => (by cases e)⟩
    · exact Past.below (Past.set (Past.set (Past.set (Past.set (Past.set (Past.set (Past.set (Past.set (Past.set (Past.set (Past.set (Past.set (Past.refl _ wz))))))))))))) HX.out

end Go.Proofs.Ytfijnmleadgapaa

namespace Go.Proofs.Ytfijnmleadgapaa
open Go.RowKit Go.Lib
set_option linter.unusedVariables false

theorem k4V {W w w' : World} {b0 b1 b2 b3 o0 o1 o2 o3 : Nat} {x0 x1 x2 x3 : Value} (hb : Below w.heap.size w w')
    (h : w.cell? ⟨b0, o0, none⟩ = some x0 ∧ w.cell? ⟨b1, o1, none⟩ = some x1 ∧ w.cell? ⟨b2, o2, none⟩ = some x2 ∧ w.cell? ⟨b3, o3, none⟩ = some x3 ∧ Hid (Below W.heap.size W w)) :
    w'.cell? ⟨b0, o0, none⟩ = some x0 ∧ w'.cell? ⟨b1, o1, none⟩ = some x1 ∧ w'.cell? ⟨b2, o2, none⟩ = some x2 ∧ w'.cell? ⟨b3, o3, none⟩ = some x3 ∧ Hid (Below W.heap.size W w') :=
  ⟨cell_later hb h.1, cell_later hb h.2.1, cell_later hb h.2.2.1, cell_later hb h.2.2.2.1, chain h.2.2.2.2.out hb⟩

theorem o4V {W w : World} {P Q R S : Prop} (h : P ∧ Q ∧ R ∧ S ∧ Hid (Below w.heap.size w W)) : Below w.heap.size w W := h.2.2.2.2.out

theorem k2V {W w w' : World} {b0 b1 o0 o1 : Nat} {x0 x1 : Value} (hb : Below w.heap.size w w')
    (h : w.cell? ⟨b0, o0, none⟩ = some x0 ∧ w.cell? ⟨b1, o1, none⟩ = some x1 ∧ Hid (Below W.heap.size W w)) :
    w'.cell? ⟨b0, o0, none⟩ = some x0 ∧ w'.cell? ⟨b1, o1, none⟩ = some x1 ∧ Hid (Below W.heap.size W w') :=
  ⟨cell_later hb h.1, cell_later hb h.2.1, chain h.2.2.out hb⟩

theorem o2V {W w : World} {P Q : Prop} (h : P ∧ Q ∧ Hid (Below w.heap.size w W)) : Below w.heap.size w W := h.2.2.out

/-- A place of so many. -/
def placeF (count at_ : Int) : Bool := decide (0 ≤ at_ ∧ at_ < count)

theorem opPlace_any (count at_ : Int) (w : World) :
    Calls Try.prog 85 #[.int .i64 count, .int .i64 at_] w fun e w' => e = .returned (.bool (placeF count at_)) ∧ w' = w := by
  unfold placeF
  by_cases h1 : 0 ≤ at_
  · by_cases h2 : at_ < count
    · rw [decide_eq_true ⟨h1, h2⟩]
      go_enter Try.func85, Try.ntmps85
      go_wp2
      go_ret
      exact ⟨by first | (simp; done) | (simp; omega), rfl⟩
    · rw [decide_eq_false (by omega)]
      go_enter Try.func85, Try.ntmps85
      go_wp2
      go_ret
      exact ⟨by first | (simp; done) | (simp; omega), rfl⟩
  · rw [decide_eq_false (by omega)]
    go_enter Try.func85, Try.ntmps85
    go_wp2
    go_ret
    exact ⟨by first | (simp; done) | (simp; omega), rfl⟩

/-- May these be put into columns of these types? -/
def putF (vs : List PV) (ts : List Int) : Bool := fitsR vs ts && vs.all smallV

set_option maxRecDepth 100000 in
set_option maxHeartbeats 4000000 in
theorem opPut_any (a b : Option Addr) (n m cap dap : Nat) (vs : List PV) (ts : List Int) (w : World) (hn : vs.length = n) (hm : ts.length = m) (hl : n ≤ 65536) (hl' : m ≤ 65536) (ha : RdV w a vs) (hb : RdI .i64 w b ts) :
    Calls Try.prog 86 #[.slice a n cap, .slice b m dap] w fun e w' => e = .returned (.bool (putF vs ts)) ∧ Below w.heap.size w w' := by
  have HN : Hid (vs.length = n) := hn
  have HA : Hid (RdV w a vs) := ha
  have C := rowFitsC a b n m cap dap vs ts w hn hm hl hl' ha hb
  have HP : Hid (putF vs ts = (fitsR vs ts && vs.all smallV)) := rfl
  clear hn hm ha hb
  generalize fitsR vs ts = f at *
  cases f with
  | false =>
    go_enter Try.func86, Try.ntmps86
    go_wp2_with fail
    refine C.mono ?_
    rintro e w1 ⟨rfl, hb1⟩
    go_wp2
    go_ret
    exact ⟨by rw [HP.out]; rfl, hb1⟩
  | true =>
    go_enter Try.func86, Try.ntmps86
    go_wp2_with fail
    refine C.mono ?_
    rintro e w1 ⟨rfl, hb1⟩
    have HB1 : Hid (Below w.heap.size w w1) := hb1
    clear hb1 C
    go_wp2
    go_loopw [13] (fun i wr => ∃ k : Nat, k ≤ n ∧ i = .int .i64 k ∧ Hid ((vs.take k).all smallV = true) ∧ Hid (Below w.heap.size w wr)) (fun i _ => n - (RowKit.intOf i).toNat)
    case atStart => exact ⟨0, Nat.zero_le _, rfl, rfl, HB1⟩
    case round =>
    clear HB1
    obtain ⟨k, hk, rfl, hT, hB⟩ := hrel
    by_cases hlt : k < n
    · have hkl : k < vs.length := by rw [HN.out]; exact hlt
      obtain ⟨b1, o1, rfl, hc⟩ := (HA.out.later hB.out) (by omega)
      obtain ⟨x0, x1, x2⟩ := hc k hkl
      have HS : Hid ((vs.take (k + 1)).all smallV = smallV vs[k]) := allP_take hkl hT.out
      have HX : Hid (smallV vs[k] = false → vs.all smallV = false) := fun h => allP_no hkl h
      clear hc
      generalize vs[k] = v at *
      clear hkl
      obtain ⟨vk, vi, vs'⟩ := v
      simp only at x0 x1 x2
      have C2 := valueSmall vk vi vs' (wr.alloc (.cells #[.int .i64 vk, .int .i64 vi, .string vs'] 102))
      generalize smallV ⟨vk, vi, vs'⟩ = c at *
      cases c with
      | true =>
        go_wp2_with fail
        refine C2.mono ?_
        rintro e w5 ⟨rfl, hb5⟩
        have HB5 : Hid (Below w.heap.size w w5) := chain hB.out (chain (alloc_below _ _) hb5)
        clear hb5 C2
        go_wp2
        go_roundw
        case rel => exact ⟨k + 1, by omega, by go_num, HS, HB5⟩
        case measure => simp [RowKit.intOf]; omega
      | false =>
        have HXX : Hid (vs.all smallV = false) := HX.out rfl
        go_wp2_with fail
        refine C2.mono ?_
        rintro e w5 ⟨rfl, hb5⟩
        have HB5 : Hid (Below w.heap.size w w5) := chain hB.out (chain (alloc_below _ _) hb5)
        clear hb5 C2
        go_wp2
        go_ret
        exact ⟨by rw [HP.out, HXX.out]; rfl, HB5.out⟩
    have HQ : Hid (vs.all smallV = true) := by
      have h := hT.out
      rw [List.take_of_length_le (by rw [HN.out]; omega)] at h
      exact h
    go_wp2
    go_ret
    exact ⟨by rw [HP.out, HQ.out]; rfl, hB.out⟩

/-- May these be removed by one that had these? -/
def stepF (deps : List Int) (ds : List (Int × Int)) (i : Nat) : Bool :=
  hasD deps (ds[i]?.getD (0, 0)).1 (ds[i]?.getD (0, 0)).2 && (i == 0 || lessD (ds[i - 1]?.getD (0, 0)).1 (ds[i - 1]?.getD (0, 0)).2 (ds[i]?.getD (0, 0)).1 (ds[i]?.getD (0, 0)).2)

def remF (deps : List Int) (ds : List (Int × Int)) : Bool := decide (1 ≤ ds.length ∧ ds.length ≤ 64) && (List.range ds.length).all (stepF deps ds)

theorem range_step {P : Nat → Bool} {k : Nat} (h : (List.range k).all P = true) : (List.range (k + 1)).all P = P k := by
  rw [List.range_succ, List.all_append, h]
  simp

theorem range_no {P : Nat → Bool} {k n : Nat} (hk : k < n) (h : P k = false) : (List.range n).all P = false := by
  rw [List.all_eq_false]
  exact ⟨k, by simpa using hk, by simpa using h⟩

set_option maxHeartbeats 400000 in
theorem opRem_len (a b : Option Addr) (n m cap dap : Nat) (w : World) (h : n < 1 ∨ 64 < n) (hl : n ≤ 65536) :
    Calls Try.prog 87 #[.slice a n cap, .slice b m dap] w fun e w' => e = .returned (.bool false) ∧ Below w.heap.size w w' := by
  rcases h with h | h
  · obtain rfl : n = 0 := by omega
    go_enter Try.func87, Try.ntmps87
    go_wp2
    go_ret
    exact ⟨rfl, Below.refl _ _⟩
  · go_enter Try.func87, Try.ntmps87
    go_wp2
    go_ret
    exact ⟨rfl, Below.refl _ _⟩

set_option maxRecDepth 100000 in
set_option maxHeartbeats 20000000 in
theorem opRem_few (b1 o1 : Nat) (b : Option Addr) (n m cap dap : Nat) (ds : List (Int × Int)) (deps : List Int) (w : World) (hn : ds.length = n) (h1 : 1 ≤ n) (h64 : n ≤ 64) (hm : deps.length = m) (hl' : m ≤ 65536) (ha : RdD w (some ⟨b1, o1, none⟩) ds) (hb : RdI .i64 w b deps) (hdp : All64 deps) (hds : ∀ d ∈ ds, In64 d.1 ∧ In64 d.2) :
    Calls Try.prog 87 #[.slice (some ⟨b1, o1, none⟩) n cap, .slice b m dap] w fun e w' => e = .returned (.bool (remF deps ds)) ∧ Below w.heap.size w w' := by
  have HN : Hid (ds.length = n) := hn
  have HM : Hid (deps.length = m) := hm
  have HA : Hid (RdD w (some ⟨b1, o1, none⟩) ds) := ha
  have HB : Hid (RdI .i64 w b deps) := hb
  have HD : Hid (remF deps ds = (List.range n).all (stepF deps ds)) := by
    show _ = _
    unfold remF
    rw [hn, decide_eq_true ⟨h1, h64⟩, Bool.true_and]
  clear hn hm ha hb
  go_enter Try.func87, Try.ntmps87
  go_wp2
  go_loopw [17] (fun i wr => ∃ k : Nat, k ≤ n ∧ i = .int .i64 k ∧ Hid ((List.range k).all (stepF deps ds) = true) ∧ Hid (Below w.heap.size w wr)) (fun i _ => n - (RowKit.intOf i).toNat)
  case atStart => exact ⟨0, Nat.zero_le _, rfl, rfl, Below.refl _ _⟩
  case round =>
  obtain ⟨k, hk, rfl, hT, hB⟩ := hrel
  by_cases hlt : k < n
  · have hkl : k < ds.length := by rw [HN.out]; exact hlt
    obtain ⟨b', o', e', hc⟩ := (HA.out.later hB.out) (by omega)
    simp only [Option.some.injEq, Addr.mk.injEq, and_true] at e'
    obtain ⟨rfl, rfl⟩ := e'
    obtain ⟨x0, x1⟩ := hc k hkl
    have HS : Hid ((List.range (k + 1)).all (stepF deps ds) = stepF deps ds k) := range_step hT.out
    have HX : Hid (stepF deps ds k = false → remF deps ds = false) := fun h => by rw [HD.out]; exact range_no hlt h
    have hi := hds _ (List.getElem_mem hkl)
    have eK : ds[k]?.getD (0, 0) = ds[k] := by rw [List.getElem?_eq_getElem hkl]; rfl
    have HST : Hid (stepF deps ds k = (hasD deps ds[k].1 ds[k].2 && (k == 0 || lessD (ds[k - 1]?.getD (0, 0)).1 (ds[k - 1]?.getD (0, 0)).2 ds[k].1 ds[k].2))) := by
      show _ = _
      unfold stepF
      rw [eK]
    obtain ⟨i0, i1⟩ := hi
    have Hc : Hid (∀ i (hi : i < ds.length), wr.cell? ⟨b1, o1 + i * 2, none⟩ = some (.int .i64 ds[i].1) ∧ wr.cell? ⟨b1, o1 + i * 2 + 1, none⟩ = some (.int .i64 ds[i].2)) := hc
    clear hc eK
    generalize ds[k] = d at *
    clear hkl
    obtain ⟨p, q⟩ := d
    simp only at x0 x1 i0 i1 HST
    have bx := box2 wr wr.heap.size rfl (.int .i64 p) (.int .i64 q) 25
    have HB1 : Hid (Below w.heap.size w (wr.alloc (.cells #[.int .i64 p, .int .i64 q] 25))) := chain hB.out (alloc_below _ _)
    have k0 : (0 : Int) ≤ (k : Int) := by omega
    have k1 : (k : Int) < (n : Int) := by omega
    cases hh : hasD deps p q with
    | false =>
      have HF : Hid (remF deps ds = false) := HX.out (by rw [HST.out, hh]; rfl)
      go_wp2
      generalize hW : wr.alloc (.cells #[.int .i64 p, .int .i64 q] 25) = W at *
      obtain ⟨g0, g1⟩ := bx
      have HS3 := And.intro g0 (And.intro g1 (show Hid (Below W.heap.size W W.drew) from (Below.refl _ _).drew))
      have D1 := fun (V : World) (h : Below W.heap.size W V) => dotHas b m dap p q deps V HM.out hl' hdp i0 i1 (HB.out.later (chain HB1.out h))
      rw [hh] at D1
      refine wp_region_held_drew (S := (fun w' => w'.cell? ⟨wr.heap.size, 0, none⟩ = some (.int .i64 p) ∧ w'.cell? ⟨wr.heap.size, 1, none⟩ = some (.int .i64 q) ∧ Hid (Below W.heap.size W w'))) (by kernel_rfl) HS3 (fun hHeld => ?_)
      refine heldTake (v := ?_) 0 22 rfl rfl (by kernel_rfl) (by kernel_rfl) (by kernel_rfl) (fun _ _ _ h => h) (by rfl) (fun w hSw => ?_) (by assumption) ?_
      rotate_left
      · (try dsimp only at hSw); first | (go_simp; done) | (go_simp; with_reducible rfl)
      simp only [List.setIfInBounds_toArray, List.set_cons_zero, List.set_cons_succ]
      refine heldTake (v := ?_) 1 23 rfl rfl (by kernel_rfl) (by kernel_rfl) (by kernel_rfl) (fun _ _ _ h => h) (by rfl) (fun w hSw => ?_) (by assumption) ?_
      rotate_left
      · (try dsimp only at hSw); first | (go_simp; done) | (go_simp; with_reducible rfl)
      simp only [List.setIfInBounds_toArray, List.set_cons_zero, List.set_cons_succ]
      refine heldOne 2 rfl (by kernel_rfl) (by rfl) (fun K2 hK => ?_)
      go_simp
      refine (D1 _ (o2V (by assumption))).mono ?_
      rintro e wz ⟨rfl, hb⟩
      simp only []
      refine hK.out _ _ ?_ (fun hHeld => ?_)
      · exact k2V hb (by assumption)
      clear hK K2
      try simp only [List.setIfInBounds_toArray, List.set_cons_zero, List.set_cons_succ]
      refine heldTake (v := ?_) 3 25 rfl rfl (by kernel_rfl) (by kernel_rfl) (by kernel_rfl) (fun _ _ _ h => h) (by rfl) (fun w hSw => ?_) (by assumption) ?_
      rotate_left
      · (try dsimp only at hSw); first | (go_simp; done) | (go_simp; with_reducible rfl)
      simp only [List.setIfInBounds_toArray, List.set_cons_zero, List.set_cons_succ]
      refine heldTake (v := ?_) 4 26 rfl rfl (by kernel_rfl) (by kernel_rfl) (by kernel_rfl) (fun _ _ _ h => h) (by rfl) (fun w hSw => ?_) (by assumption) ?_
      rotate_left
      · (try dsimp only at hSw); first | (go_simp; done) | (go_simp; with_reducible rfl)
      simp only [List.setIfInBounds_toArray, List.set_cons_zero, List.set_cons_succ]
      refine heldSkip 5 27 rfl rfl (by kernel_rfl) (by kernel_rfl) (by kernel_rfl) (fun _ _ _ h => h) (by rfl) (by assumption) ?_
      simp only [List.setIfInBounds_toArray, List.set_cons_zero, List.set_cons_succ]
      refine heldSkip 6 28 rfl rfl (by kernel_rfl) (by kernel_rfl) (by kernel_rfl) (fun _ _ _ h => h) (by rfl) (by assumption) ?_
      simp only [List.setIfInBounds_toArray, List.set_cons_zero, List.set_cons_succ]
      refine heldSkip 7 29 rfl rfl (by kernel_rfl) (by kernel_rfl) (by kernel_rfl) (fun _ _ _ h => h) (by rfl) (by assumption) ?_
      simp only [List.setIfInBounds_toArray, List.set_cons_zero, List.set_cons_succ]
      refine heldSkip 8 30 rfl rfl (by kernel_rfl) (by kernel_rfl) (by kernel_rfl) (fun _ _ _ h => h) (by rfl) (by assumption) ?_
      simp only [List.setIfInBounds_toArray, List.set_cons_zero, List.set_cons_succ]
      refine heldSkip 9 31 rfl rfl (by kernel_rfl) (by kernel_rfl) (by kernel_rfl) (fun _ _ _ h => h) (by rfl) (by assumption) ?_
      simp only [List.setIfInBounds_toArray, List.set_cons_zero, List.set_cons_succ]
      refine heldSkip 10 32 rfl rfl (by kernel_rfl) (by kernel_rfl) (by kernel_rfl) (fun _ _ _ h => h) (by rfl) (by assumption) ?_
      simp only [List.setIfInBounds_toArray, List.set_cons_zero, List.set_cons_succ]
      refine heldSkip 11 33 rfl rfl (by kernel_rfl) (by kernel_rfl) (by kernel_rfl) (fun _ _ _ h => h) (by rfl) (by assumption) ?_
      simp only [List.setIfInBounds_toArray, List.set_cons_zero, List.set_cons_succ]
      refine heldSkip 12 34 rfl rfl (by kernel_rfl) (by kernel_rfl) (by kernel_rfl) (fun _ _ _ h => h) (by rfl) (by assumption) ?_
      simp only [List.setIfInBounds_toArray, List.set_cons_zero, List.set_cons_succ]
      refine heldSkip 13 35 rfl rfl (by kernel_rfl) (by kernel_rfl) (by kernel_rfl) (fun _ _ _ h => h) (by rfl) (by assumption) ?_
      simp only [List.setIfInBounds_toArray, List.set_cons_zero, List.set_cons_succ]
      refine heldSkip 14 36 rfl rfl (by kernel_rfl) (by kernel_rfl) (by kernel_rfl) (fun _ _ _ h => h) (by rfl) (by assumption) ?_
      simp only [List.setIfInBounds_toArray, List.set_cons_zero, List.set_cons_succ]
      refine heldSkip 15 37 rfl rfl (by kernel_rfl) (by kernel_rfl) (by kernel_rfl) (fun _ _ _ h => h) (by rfl) (by assumption) ?_
      simp only [List.setIfInBounds_toArray, List.set_cons_zero, List.set_cons_succ]
      refine heldSkip 16 38 rfl rfl (by kernel_rfl) (by kernel_rfl) (by kernel_rfl) (fun _ _ _ h => h) (by rfl) (by assumption) ?_
      simp only [List.setIfInBounds_toArray, List.set_cons_zero, List.set_cons_succ]
      refine heldTake (v := ?_) 17 39 rfl rfl (by kernel_rfl) (by kernel_rfl) (by kernel_rfl) (fun _ _ _ h => h) (by rfl) (fun w hSw => ?_) (by assumption) ?_
      rotate_left
      · (try dsimp only at hSw); first | (go_simp; done) | (go_simp; with_reducible rfl)
      simp only [List.setIfInBounds_toArray, List.set_cons_zero, List.set_cons_succ]
      refine wpAnyH_done (by kernel_rfl) ?_ _
      have HB9 : Hid (Below w.heap.size w _) := chain HB1.out hHeld.2.2.out
      clear hHeld
      go_wp2
      go_ret
      exact ⟨by rw [HF.out]; rfl, HB9.out⟩
    | true =>
      rcases Nat.eq_zero_or_pos k with hk0 | hk0
      · subst hk0
        simp only [Nat.zero_mul, Nat.add_zero] at x0 x1
        have HT' : Hid ((List.range (0 + 1)).all (stepF deps ds) = true) := by rw [HS.out, HST.out, hh]; rfl
        go_wp2
        generalize hW : wr.alloc (.cells #[.int .i64 p, .int .i64 q] 25) = W at *
        obtain ⟨g0, g1⟩ := bx
        have HS3 := And.intro g0 (And.intro g1 (show Hid (Below W.heap.size W W.drew) from (Below.refl _ _).drew))
        have D1 := fun (V : World) (h : Below W.heap.size W V) => dotHas b m dap p q deps V HM.out hl' hdp i0 i1 (HB.out.later (chain HB1.out h))
        rw [hh] at D1
        refine wp_region_held_drew (S := (fun w' => w'.cell? ⟨wr.heap.size, 0, none⟩ = some (.int .i64 p) ∧ w'.cell? ⟨wr.heap.size, 1, none⟩ = some (.int .i64 q) ∧ Hid (Below W.heap.size W w'))) (by kernel_rfl) HS3 (fun hHeld => ?_)
        refine heldTake (v := ?_) 0 22 rfl rfl (by kernel_rfl) (by kernel_rfl) (by kernel_rfl) (fun _ _ _ h => h) (by rfl) (fun w hSw => ?_) (by assumption) ?_
        rotate_left
        · (try dsimp only at hSw); first | (go_simp; done) | (go_simp; with_reducible rfl)
        simp only [List.setIfInBounds_toArray, List.set_cons_zero, List.set_cons_succ]
        refine heldTake (v := ?_) 1 23 rfl rfl (by kernel_rfl) (by kernel_rfl) (by kernel_rfl) (fun _ _ _ h => h) (by rfl) (fun w hSw => ?_) (by assumption) ?_
        rotate_left
        · (try dsimp only at hSw); first | (go_simp; done) | (go_simp; with_reducible rfl)
        simp only [List.setIfInBounds_toArray, List.set_cons_zero, List.set_cons_succ]
        refine heldOne 2 rfl (by kernel_rfl) (by rfl) (fun K2 hK => ?_)
        go_simp
        refine (D1 _ (o2V (by assumption))).mono ?_
        rintro e wz ⟨rfl, hb⟩
        simp only []
        refine hK.out _ _ ?_ (fun hHeld => ?_)
        · exact k2V hb (by assumption)
        clear hK K2
        try simp only [List.setIfInBounds_toArray, List.set_cons_zero, List.set_cons_succ]
        refine heldTake (v := ?_) 3 25 rfl rfl (by kernel_rfl) (by kernel_rfl) (by kernel_rfl) (fun _ _ _ h => h) (by rfl) (fun w hSw => ?_) (by assumption) ?_
        rotate_left
        · (try dsimp only at hSw); first | (go_simp; done) | (go_simp; with_reducible rfl)
        simp only [List.setIfInBounds_toArray, List.set_cons_zero, List.set_cons_succ]
        refine heldTake (v := ?_) 4 26 rfl rfl (by kernel_rfl) (by kernel_rfl) (by kernel_rfl) (fun _ _ _ h => h) (by rfl) (fun w hSw => ?_) (by assumption) ?_
        rotate_left
        · (try dsimp only at hSw); first | (go_simp; done) | (go_simp; with_reducible rfl)
        simp only [List.setIfInBounds_toArray, List.set_cons_zero, List.set_cons_succ]
        refine heldTake (v := ?_) 5 27 rfl rfl (by kernel_rfl) (by kernel_rfl) (by kernel_rfl) (fun _ _ _ h => h) (by rfl) (fun w hSw => ?_) (by assumption) ?_
        rotate_left
        · (try dsimp only at hSw); first | (go_simp; done) | (go_simp; with_reducible rfl)
        simp only [List.setIfInBounds_toArray, List.set_cons_zero, List.set_cons_succ]
        refine heldTake (v := ?_) 6 28 rfl rfl (by kernel_rfl) (by kernel_rfl) (by kernel_rfl) (fun _ _ _ h => h) (by rfl) (fun w hSw => ?_) (by assumption) ?_
        rotate_left
        · (try dsimp only at hSw); first | (go_simp; done) | (go_simp; with_reducible rfl)
        simp only [List.setIfInBounds_toArray, List.set_cons_zero, List.set_cons_succ]
        refine heldTake (v := ?_) 7 29 rfl rfl (by kernel_rfl) (by kernel_rfl) (by kernel_rfl) (fun _ _ _ h => h) (by rfl) (fun w hSw => ?_) (by assumption) ?_
        rotate_left
        · (try dsimp only at hSw); first | (go_simp; done) | (go_simp; with_reducible rfl)
        simp only [List.setIfInBounds_toArray, List.set_cons_zero, List.set_cons_succ]
        refine heldSkip 8 30 rfl rfl (by kernel_rfl) (by kernel_rfl) (by kernel_rfl) (fun _ _ _ h => h) (by rfl) (by assumption) ?_
        simp only [List.setIfInBounds_toArray, List.set_cons_zero, List.set_cons_succ]
        refine heldSkip 9 31 rfl rfl (by kernel_rfl) (by kernel_rfl) (by kernel_rfl) (fun _ _ _ h => h) (by rfl) (by assumption) ?_
        simp only [List.setIfInBounds_toArray, List.set_cons_zero, List.set_cons_succ]
        refine heldSkip 10 32 rfl rfl (by kernel_rfl) (by kernel_rfl) (by kernel_rfl) (fun _ _ _ h => h) (by rfl) (by assumption) ?_
        simp only [List.setIfInBounds_toArray, List.set_cons_zero, List.set_cons_succ]
        refine heldSkip 11 33 rfl rfl (by kernel_rfl) (by kernel_rfl) (by kernel_rfl) (fun _ _ _ h => h) (by rfl) (by assumption) ?_
        simp only [List.setIfInBounds_toArray, List.set_cons_zero, List.set_cons_succ]
        refine heldSkip 12 34 rfl rfl (by kernel_rfl) (by kernel_rfl) (by kernel_rfl) (fun _ _ _ h => h) (by rfl) (by assumption) ?_
        simp only [List.setIfInBounds_toArray, List.set_cons_zero, List.set_cons_succ]
        refine heldSkip 13 35 rfl rfl (by kernel_rfl) (by kernel_rfl) (by kernel_rfl) (fun _ _ _ h => h) (by rfl) (by assumption) ?_
        simp only [List.setIfInBounds_toArray, List.set_cons_zero, List.set_cons_succ]
        refine heldSkip 14 36 rfl rfl (by kernel_rfl) (by kernel_rfl) (by kernel_rfl) (fun _ _ _ h => h) (by rfl) (by assumption) ?_
        simp only [List.setIfInBounds_toArray, List.set_cons_zero, List.set_cons_succ]
        refine heldSkip 15 37 rfl rfl (by kernel_rfl) (by kernel_rfl) (by kernel_rfl) (fun _ _ _ h => h) (by rfl) (by assumption) ?_
        simp only [List.setIfInBounds_toArray, List.set_cons_zero, List.set_cons_succ]
        refine heldTake (v := ?_) 16 38 rfl rfl (by kernel_rfl) (by kernel_rfl) (by kernel_rfl) (fun _ _ _ h => h) (by rfl) (fun w hSw => ?_) (by assumption) ?_
        rotate_left
        · (try dsimp only at hSw); first | (go_simp; done) | (go_simp; with_reducible rfl)
        simp only [List.setIfInBounds_toArray, List.set_cons_zero, List.set_cons_succ]
        refine heldTake (v := ?_) 17 39 rfl rfl (by kernel_rfl) (by kernel_rfl) (by kernel_rfl) (fun _ _ _ h => h) (by rfl) (fun w hSw => ?_) (by assumption) ?_
        rotate_left
        · (try dsimp only at hSw); first | (go_simp; done) | (go_simp; with_reducible rfl)
        simp only [List.setIfInBounds_toArray, List.set_cons_zero, List.set_cons_succ]
        refine wpAnyH_done (by kernel_rfl) ?_ _
        have HB9 : Hid (Below w.heap.size w _) := chain HB1.out hHeld.2.2.out
        clear hHeld
        go_wp2
        go_roundw
        case rel => exact ⟨0 + 1, by omega, by go_num, HT', HB9⟩
        case measure => simp [RowKit.intOf]; omega
      · obtain ⟨j, rfl⟩ : ∃ j, k = j + 1 := ⟨k - 1, by omega⟩
        have hjl : j < ds.length := by rw [HN.out]; omega
        have hj := hds _ (List.getElem_mem hjl)
        have hcj := Hc.out j hjl
        have eJ : ds[j + 1 - 1]?.getD (0, 0) = ds[j] := by rw [Nat.add_sub_cancel, List.getElem?_eq_getElem hjl]; rfl
        have HST2 : Hid (stepF deps ds (j + 1) = lessD ds[j].1 ds[j].2 p q) := by
          show _ = _
          rw [HST.out, hh, eJ]
          simp
        clear HST Hc eJ
        generalize ds[j] = d' at *
        clear hjl
        obtain ⟨p', q'⟩ := d'
        simp only at hj hcj HST2
        obtain ⟨j0, j1⟩ := hj
        obtain ⟨y0, y1⟩ := hcj
        replace y0 := cell_later (alloc_below wr (.cells #[.int .i64 p, .int .i64 q] 25)) y0
        replace y1 := cell_later (alloc_below wr (.cells #[.int .i64 p, .int .i64 q] 25)) y1
        have jw : IntKind.i64.wrap (((j + 1 : Nat) : Int) - 1) = (j : Int) := by rw [IntKind.wrap_i64]; omega
        have jw' : IntKind.i64.wrap ((j : Int) + 1 - 1) = (j : Int) := by rw [IntKind.wrap_i64]; omega
        have jw2 : IntKind.i64.wrap (j : Int) = (j : Int) := by rw [IntKind.wrap_i64]; omega
        have jz : (0 : Int) ≤ (j : Int) := by omega
        have jn : (j : Int) < (n : Int) := by omega
        have jp : (0 : Int) < (j : Int) + 1 := by omega
        go_wp2
        generalize hW : wr.alloc (.cells #[.int .i64 p, .int .i64 q] 25) = W at *
        obtain ⟨g0, g1⟩ := bx
        have HS3 := And.intro g0 (And.intro g1 (And.intro y0 (And.intro y1 (show Hid (Below W.heap.size W W.drew) from (Below.refl _ _).drew))))
        have D1 := fun (V : World) (h : Below W.heap.size W V) => dotHas b m dap p q deps V HM.out hl' hdp i0 i1 (HB.out.later (chain HB1.out h))
        rw [hh] at D1
        have D2 := fun (V : World) => dotLess p' q' p q V j0 j1 i0 i1
        cases hls : lessD p' q' p q with
        | true =>
          rw [hls] at D2
          have HT' : Hid ((List.range (j + 1 + 1)).all (stepF deps ds) = true) := by rw [HS.out, HST2.out, hls]; rfl
          refine wp_region_held_drew (S := (fun w' => w'.cell? ⟨wr.heap.size, 0, none⟩ = some (.int .i64 p) ∧ w'.cell? ⟨wr.heap.size, 1, none⟩ = some (.int .i64 q) ∧ w'.cell? ⟨b1, o1 + j * 2, none⟩ = some (.int .i64 p') ∧ w'.cell? ⟨b1, o1 + j * 2 + 1, none⟩ = some (.int .i64 q') ∧ Hid (Below W.heap.size W w'))) (by kernel_rfl) HS3 (fun hHeld => ?_)
          refine heldTake (v := ?_) 0 22 rfl rfl (by kernel_rfl) (by kernel_rfl) (by kernel_rfl) (fun _ _ _ h => h) (by rfl) (fun w hSw => ?_) (by assumption) ?_
          rotate_left
          · (try dsimp only at hSw); first | (go_simp; done) | (go_simp; with_reducible rfl)
          simp only [List.setIfInBounds_toArray, List.set_cons_zero, List.set_cons_succ]
          refine heldTake (v := ?_) 1 23 rfl rfl (by kernel_rfl) (by kernel_rfl) (by kernel_rfl) (fun _ _ _ h => h) (by rfl) (fun w hSw => ?_) (by assumption) ?_
          rotate_left
          · (try dsimp only at hSw); first | (go_simp; done) | (go_simp; with_reducible rfl)
          simp only [List.setIfInBounds_toArray, List.set_cons_zero, List.set_cons_succ]
          refine heldOne 2 rfl (by kernel_rfl) (by rfl) (fun K2 hK => ?_)
          go_simp
          refine (D1 _ (o4V (by assumption))).mono ?_
          rintro e wz ⟨rfl, hb⟩
          simp only []
          refine hK.out _ _ ?_ (fun hHeld => ?_)
          · exact k4V hb (by assumption)
          clear hK K2
          try simp only [List.setIfInBounds_toArray, List.set_cons_zero, List.set_cons_succ]
          refine heldTake (v := ?_) 3 25 rfl rfl (by kernel_rfl) (by kernel_rfl) (by kernel_rfl) (fun _ _ _ h => h) (by rfl) (fun w hSw => ?_) (by assumption) ?_
          rotate_left
          · (try dsimp only at hSw); first | (go_simp; done) | (go_simp; with_reducible rfl)
          simp only [List.setIfInBounds_toArray, List.set_cons_zero, List.set_cons_succ]
          refine heldTake (v := ?_) 4 26 rfl rfl (by kernel_rfl) (by kernel_rfl) (by kernel_rfl) (fun _ _ _ h => h) (by rfl) (fun w hSw => ?_) (by assumption) ?_
          rotate_left
          · (try dsimp only at hSw); first | (go_simp; done) | (go_simp; with_reducible rfl)
          simp only [List.setIfInBounds_toArray, List.set_cons_zero, List.set_cons_succ]
          refine heldTake (v := ?_) 5 27 rfl rfl (by kernel_rfl) (by kernel_rfl) (by kernel_rfl) (fun _ _ _ h => h) (by rfl) (fun w hSw => ?_) (by assumption) ?_
          rotate_left
          · (try dsimp only at hSw); first | (go_simp; done) | (go_simp; with_reducible rfl)
          simp only [List.setIfInBounds_toArray, List.set_cons_zero, List.set_cons_succ]
          refine heldTake (v := ?_) 6 28 rfl rfl (by kernel_rfl) (by kernel_rfl) (by kernel_rfl) (fun _ _ _ h => h) (by rfl) (fun w hSw => ?_) (by assumption) ?_
          rotate_left
          · (try dsimp only at hSw); first | (go_simp; done) | (go_simp; with_reducible rfl)
          simp only [List.setIfInBounds_toArray, List.set_cons_zero, List.set_cons_succ]
          refine heldTake (v := ?_) 7 29 rfl rfl (by kernel_rfl) (by kernel_rfl) (by kernel_rfl) (fun _ _ _ h => h) (by rfl) (fun w hSw => ?_) (by assumption) ?_
          rotate_left
          · (try dsimp only at hSw); first | (go_simp; done) | (go_simp; with_reducible rfl)
          simp only [List.setIfInBounds_toArray, List.set_cons_zero, List.set_cons_succ]
          refine heldTake (v := ?_) 8 30 rfl rfl (by kernel_rfl) (by kernel_rfl) (by kernel_rfl) (fun _ _ _ h => h) (by rfl) (fun w hSw => ?_) (by assumption) ?_
          rotate_left
          · (try dsimp only at hSw); first | (go_simp; done) | (go_simp; with_reducible rfl)
          simp only [List.setIfInBounds_toArray, List.set_cons_zero, List.set_cons_succ]
          refine heldTake (v := ?_) 9 31 rfl rfl (by kernel_rfl) (by kernel_rfl) (by kernel_rfl) (fun _ _ _ h => h) (by rfl) (fun w hSw => ?_) (by assumption) ?_
          rotate_left
          · (try dsimp only at hSw); first | (go_simp; done) | (go_simp; with_reducible rfl)
          simp only [List.setIfInBounds_toArray, List.set_cons_zero, List.set_cons_succ]
          refine heldTake (v := ?_) 10 32 rfl rfl (by kernel_rfl) (by kernel_rfl) (by kernel_rfl) (fun _ _ _ h => h) (by rfl) (fun w hSw => ?_) (by assumption) ?_
          rotate_left
          · (try dsimp only at hSw); first | (go_simp; done) | (go_simp; with_reducible rfl)
          simp only [List.setIfInBounds_toArray, List.set_cons_zero, List.set_cons_succ]
          refine heldTake (v := ?_) 11 33 rfl rfl (by kernel_rfl) (by kernel_rfl) (by kernel_rfl) (fun _ _ _ h => h) (by rfl) (fun w hSw => ?_) (by assumption) ?_
          rotate_left
          · (try dsimp only at hSw); first | (go_simp; done) | (go_simp; with_reducible rfl)
          simp only [List.setIfInBounds_toArray, List.set_cons_zero, List.set_cons_succ]
          refine heldTake (v := ?_) 12 34 rfl rfl (by kernel_rfl) (by kernel_rfl) (by kernel_rfl) (fun _ _ _ h => h) (by rfl) (fun w hSw => ?_) (by assumption) ?_
          rotate_left
          · (try dsimp only at hSw); first | (go_simp; done) | (go_simp; with_reducible rfl)
          simp only [List.setIfInBounds_toArray, List.set_cons_zero, List.set_cons_succ]
          refine heldTake (v := ?_) 13 35 rfl rfl (by kernel_rfl) (by kernel_rfl) (by kernel_rfl) (fun _ _ _ h => h) (by rfl) (fun w hSw => ?_) (by assumption) ?_
          rotate_left
          · (try dsimp only at hSw); first | (go_simp; done) | (go_simp; with_reducible rfl)
          simp only [List.setIfInBounds_toArray, List.set_cons_zero, List.set_cons_succ]
          refine heldOne 14 rfl (by kernel_rfl) (by rfl) (fun K2 hK => ?_)
          go_simp
          refine (D2 _).mono ?_
          rintro e wz ⟨rfl, hb⟩
          simp only []
          refine hK.out _ _ ?_ (fun hHeld => ?_)
          · exact k4V hb (by assumption)
          clear hK K2
          try simp only [List.setIfInBounds_toArray, List.set_cons_zero, List.set_cons_succ]
          refine heldTake (v := ?_) 15 37 rfl rfl (by kernel_rfl) (by kernel_rfl) (by kernel_rfl) (fun _ _ _ h => h) (by rfl) (fun w hSw => ?_) (by assumption) ?_
          rotate_left
          · (try dsimp only at hSw); first | (go_simp; done) | (go_simp; with_reducible rfl)
          simp only [List.setIfInBounds_toArray, List.set_cons_zero, List.set_cons_succ]
          refine heldTake (v := ?_) 16 38 rfl rfl (by kernel_rfl) (by kernel_rfl) (by kernel_rfl) (fun _ _ _ h => h) (by rfl) (fun w hSw => ?_) (by assumption) ?_
          rotate_left
          · (try dsimp only at hSw); first | (go_simp; done) | (go_simp; with_reducible rfl)
          simp only [List.setIfInBounds_toArray, List.set_cons_zero, List.set_cons_succ]
          refine heldTake (v := ?_) 17 39 rfl rfl (by kernel_rfl) (by kernel_rfl) (by kernel_rfl) (fun _ _ _ h => h) (by rfl) (fun w hSw => ?_) (by assumption) ?_
          rotate_left
          · (try dsimp only at hSw); first | (go_simp; done) | (go_simp; with_reducible rfl)
          simp only [List.setIfInBounds_toArray, List.set_cons_zero, List.set_cons_succ]
          refine wpAnyH_done (by kernel_rfl) ?_ _
          have HB9 : Hid (Below w.heap.size w _) := chain HB1.out hHeld.2.2.2.2.out
          clear hHeld
          go_wp2
          go_roundw
          case rel => exact ⟨j + 1 + 1, by omega, by go_num, HT', HB9⟩
          case measure => simp [RowKit.intOf]; omega
        | false =>
          rw [hls] at D2
          have HF : Hid (remF deps ds = false) := HX.out (by rw [HST2.out, hls])
          refine wp_region_held_drew (S := (fun w' => w'.cell? ⟨wr.heap.size, 0, none⟩ = some (.int .i64 p) ∧ w'.cell? ⟨wr.heap.size, 1, none⟩ = some (.int .i64 q) ∧ w'.cell? ⟨b1, o1 + j * 2, none⟩ = some (.int .i64 p') ∧ w'.cell? ⟨b1, o1 + j * 2 + 1, none⟩ = some (.int .i64 q') ∧ Hid (Below W.heap.size W w'))) (by kernel_rfl) HS3 (fun hHeld => ?_)
          refine heldTake (v := ?_) 0 22 rfl rfl (by kernel_rfl) (by kernel_rfl) (by kernel_rfl) (fun _ _ _ h => h) (by rfl) (fun w hSw => ?_) (by assumption) ?_
          rotate_left
          · (try dsimp only at hSw); first | (go_simp; done) | (go_simp; with_reducible rfl)
          simp only [List.setIfInBounds_toArray, List.set_cons_zero, List.set_cons_succ]
          refine heldTake (v := ?_) 1 23 rfl rfl (by kernel_rfl) (by kernel_rfl) (by kernel_rfl) (fun _ _ _ h => h) (by rfl) (fun w hSw => ?_) (by assumption) ?_
          rotate_left
          · (try dsimp only at hSw); first | (go_simp; done) | (go_simp; with_reducible rfl)
          simp only [List.setIfInBounds_toArray, List.set_cons_zero, List.set_cons_succ]
          refine heldOne 2 rfl (by kernel_rfl) (by rfl) (fun K2 hK => ?_)
          go_simp
          refine (D1 _ (o4V (by assumption))).mono ?_
          rintro e wz ⟨rfl, hb⟩
          simp only []
          refine hK.out _ _ ?_ (fun hHeld => ?_)
          · exact k4V hb (by assumption)
          clear hK K2
          try simp only [List.setIfInBounds_toArray, List.set_cons_zero, List.set_cons_succ]
          refine heldTake (v := ?_) 3 25 rfl rfl (by kernel_rfl) (by kernel_rfl) (by kernel_rfl) (fun _ _ _ h => h) (by rfl) (fun w hSw => ?_) (by assumption) ?_
          rotate_left
          · (try dsimp only at hSw); first | (go_simp; done) | (go_simp; with_reducible rfl)
          simp only [List.setIfInBounds_toArray, List.set_cons_zero, List.set_cons_succ]
          refine heldTake (v := ?_) 4 26 rfl rfl (by kernel_rfl) (by kernel_rfl) (by kernel_rfl) (fun _ _ _ h => h) (by rfl) (fun w hSw => ?_) (by assumption) ?_
          rotate_left
          · (try dsimp only at hSw); first | (go_simp; done) | (go_simp; with_reducible rfl)
          simp only [List.setIfInBounds_toArray, List.set_cons_zero, List.set_cons_succ]
          refine heldTake (v := ?_) 5 27 rfl rfl (by kernel_rfl) (by kernel_rfl) (by kernel_rfl) (fun _ _ _ h => h) (by rfl) (fun w hSw => ?_) (by assumption) ?_
          rotate_left
          · (try dsimp only at hSw); first | (go_simp; done) | (go_simp; with_reducible rfl)
          simp only [List.setIfInBounds_toArray, List.set_cons_zero, List.set_cons_succ]
          refine heldTake (v := ?_) 6 28 rfl rfl (by kernel_rfl) (by kernel_rfl) (by kernel_rfl) (fun _ _ _ h => h) (by rfl) (fun w hSw => ?_) (by assumption) ?_
          rotate_left
          · (try dsimp only at hSw); first | (go_simp; done) | (go_simp; with_reducible rfl)
          simp only [List.setIfInBounds_toArray, List.set_cons_zero, List.set_cons_succ]
          refine heldTake (v := ?_) 7 29 rfl rfl (by kernel_rfl) (by kernel_rfl) (by kernel_rfl) (fun _ _ _ h => h) (by rfl) (fun w hSw => ?_) (by assumption) ?_
          rotate_left
          · (try dsimp only at hSw); first | (go_simp; done) | (go_simp; with_reducible rfl)
          simp only [List.setIfInBounds_toArray, List.set_cons_zero, List.set_cons_succ]
          refine heldTake (v := ?_) 8 30 rfl rfl (by kernel_rfl) (by kernel_rfl) (by kernel_rfl) (fun _ _ _ h => h) (by rfl) (fun w hSw => ?_) (by assumption) ?_
          rotate_left
          · (try dsimp only at hSw); first | (go_simp; done) | (go_simp; with_reducible rfl)
          simp only [List.setIfInBounds_toArray, List.set_cons_zero, List.set_cons_succ]
          refine heldTake (v := ?_) 9 31 rfl rfl (by kernel_rfl) (by kernel_rfl) (by kernel_rfl) (fun _ _ _ h => h) (by rfl) (fun w hSw => ?_) (by assumption) ?_
          rotate_left
          · (try dsimp only at hSw); first | (go_simp; done) | (go_simp; with_reducible rfl)
          simp only [List.setIfInBounds_toArray, List.set_cons_zero, List.set_cons_succ]
          refine heldTake (v := ?_) 10 32 rfl rfl (by kernel_rfl) (by kernel_rfl) (by kernel_rfl) (fun _ _ _ h => h) (by rfl) (fun w hSw => ?_) (by assumption) ?_
          rotate_left
          · (try dsimp only at hSw); first | (go_simp; done) | (go_simp; with_reducible rfl)
          simp only [List.setIfInBounds_toArray, List.set_cons_zero, List.set_cons_succ]
          refine heldTake (v := ?_) 11 33 rfl rfl (by kernel_rfl) (by kernel_rfl) (by kernel_rfl) (fun _ _ _ h => h) (by rfl) (fun w hSw => ?_) (by assumption) ?_
          rotate_left
          · (try dsimp only at hSw); first | (go_simp; done) | (go_simp; with_reducible rfl)
          simp only [List.setIfInBounds_toArray, List.set_cons_zero, List.set_cons_succ]
          refine heldTake (v := ?_) 12 34 rfl rfl (by kernel_rfl) (by kernel_rfl) (by kernel_rfl) (fun _ _ _ h => h) (by rfl) (fun w hSw => ?_) (by assumption) ?_
          rotate_left
          · (try dsimp only at hSw); first | (go_simp; done) | (go_simp; with_reducible rfl)
          simp only [List.setIfInBounds_toArray, List.set_cons_zero, List.set_cons_succ]
          refine heldTake (v := ?_) 13 35 rfl rfl (by kernel_rfl) (by kernel_rfl) (by kernel_rfl) (fun _ _ _ h => h) (by rfl) (fun w hSw => ?_) (by assumption) ?_
          rotate_left
          · (try dsimp only at hSw); first | (go_simp; done) | (go_simp; with_reducible rfl)
          simp only [List.setIfInBounds_toArray, List.set_cons_zero, List.set_cons_succ]
          refine heldOne 14 rfl (by kernel_rfl) (by rfl) (fun K2 hK => ?_)
          go_simp
          refine (D2 _).mono ?_
          rintro e wz ⟨rfl, hb⟩
          simp only []
          refine hK.out _ _ ?_ (fun hHeld => ?_)
          · exact k4V hb (by assumption)
          clear hK K2
          try simp only [List.setIfInBounds_toArray, List.set_cons_zero, List.set_cons_succ]
          refine heldTake (v := ?_) 15 37 rfl rfl (by kernel_rfl) (by kernel_rfl) (by kernel_rfl) (fun _ _ _ h => h) (by rfl) (fun w hSw => ?_) (by assumption) ?_
          rotate_left
          · (try dsimp only at hSw); first | (go_simp; done) | (go_simp; with_reducible rfl)
          simp only [List.setIfInBounds_toArray, List.set_cons_zero, List.set_cons_succ]
          refine heldTake (v := ?_) 16 38 rfl rfl (by kernel_rfl) (by kernel_rfl) (by kernel_rfl) (fun _ _ _ h => h) (by rfl) (fun w hSw => ?_) (by assumption) ?_
          rotate_left
          · (try dsimp only at hSw); first | (go_simp; done) | (go_simp; with_reducible rfl)
          simp only [List.setIfInBounds_toArray, List.set_cons_zero, List.set_cons_succ]
          refine heldTake (v := ?_) 17 39 rfl rfl (by kernel_rfl) (by kernel_rfl) (by kernel_rfl) (fun _ _ _ h => h) (by rfl) (fun w hSw => ?_) (by assumption) ?_
          rotate_left
          · (try dsimp only at hSw); first | (go_simp; done) | (go_simp; with_reducible rfl)
          simp only [List.setIfInBounds_toArray, List.set_cons_zero, List.set_cons_succ]
          refine wpAnyH_done (by kernel_rfl) ?_ _
          have HB9 : Hid (Below w.heap.size w _) := chain HB1.out hHeld.2.2.2.2.out
          clear hHeld
          go_wp2
          go_ret
          exact ⟨by rw [HF.out]; rfl, HB9.out⟩
  obtain rfl : k = n := by omega
  go_wp2
  go_ret
  exact ⟨by rw [HD.out, hT.out]; rfl, hB.out⟩

theorem opRem_any (a b : Option Addr) (n m cap dap : Nat) (ds : List (Int × Int)) (deps : List Int) (w : World) (hn : ds.length = n) (hl : n ≤ 65536) (hm : deps.length = m) (hl' : m ≤ 65536) (ha : RdD w a ds) (hb : RdI .i64 w b deps) (hdp : All64 deps) (hds : ∀ d ∈ ds, In64 d.1 ∧ In64 d.2) :
    Calls Try.prog 87 #[.slice a n cap, .slice b m dap] w fun e w' => e = .returned (.bool (remF deps ds)) ∧ Below w.heap.size w w' := by
  by_cases h : n < 1 ∨ 64 < n
  · have e : remF deps ds = false := by unfold remF; rw [hn, decide_eq_false (by omega)]; rfl
    rw [e]
    exact opRem_len a b n m cap dap w h hl
  · obtain ⟨b1, o1, rfl, _⟩ := ha (by omega)
    exact opRem_few b1 o1 b n m cap dap ds deps w hn (by omega) (by omega) hm hl' ha hb hdp hds

end Go.Proofs.Ytfijnmleadgapaa

namespace Go.Proofs.Ytfijnmleadgapaa
open Go.RowKit Go.Lib
set_option linter.unusedVariables false

theorem pairs_take {l r : List (Int × Int)} {k : Nat} (h : l.take k = r.take k) (hl : k < l.length) (hr : k < r.length) (hx : l[k] = r[k]) : l.take (k + 1) = r.take (k + 1) := by
  rw [List.take_succ_eq_append_getElem hl, List.take_succ_eq_append_getElem hr, h, hx]

set_option maxRecDepth 100000 in
set_option maxHeartbeats 4000000 in
theorem keepDots_any (a b : Option Addr) (n m cap dap : Nat) (l r : List (Int × Int)) (w : World) (hn : l.length = n) (hm : r.length = m) (hl : n ≤ 65536) (hr : m ≤ 65536) (ha : RdD w a l) (hb : RdD w b r) :
    Calls Try.prog 38 #[.slice a n cap, .slice b m dap] w fun e w' => e = .returned (.bool (decide (l = r))) ∧ Below w.heap.size w w' := by
  by_cases hnm : n = m
  case neg =>
    have HNE : Hid (l ≠ r) := fun e => hnm (by rw [← hn, ← hm, e])
    have hbq : ((n : Int) != (m : Int)) = true := by simp; omega
    clear hn hm hnm
    go_enter Try.func38, Try.ntmps38
    go_wp2
    go_ret
    exact ⟨by rw [decide_eq_false HNE.out]; rfl, Below.refl _ _⟩
  subst hnm
  have HN : Hid (l.length = n) := hn
  have HM : Hid (r.length = n) := hm
  have HA : Hid (RdD w a l) := ha
  have HB : Hid (RdD w b r) := hb
  clear hn hm ha hb
  go_enter Try.func38, Try.ntmps38
  go_wp2
  go_loopw [5] (fun i wr => ∃ k : Nat, k ≤ n ∧ i = .int .i64 k ∧ Hid (l.take k = r.take k) ∧ Hid (Below w.heap.size w wr)) (fun i _ => n - (RowKit.intOf i).toNat)
  case atStart => exact ⟨0, Nat.zero_le _, rfl, rfl, Below.refl _ _⟩
  case round =>
  obtain ⟨k, hk, rfl, hT, hB⟩ := hrel
  by_cases hlt : k < n
  · have hkl : k < l.length := by rw [HN.out]; exact hlt
    have hkr : k < r.length := by rw [HM.out]; exact hlt
    obtain ⟨b1, o1, rfl, hc1⟩ := (HA.out.later hB.out) (by omega)
    obtain ⟨b2, o2, rfl, hc2⟩ := (HB.out.later hB.out) (by omega)
    obtain ⟨x0, x1⟩ := hc1 k hkl
    obtain ⟨y0, y1⟩ := hc2 k hkr
    have HQ : Hid (l[k] = r[k] → l.take (k + 1) = r.take (k + 1)) := fun h => pairs_take hT.out hkl hkr h
    have HF : Hid (l[k] ≠ r[k] → l ≠ r) := fun h e => h (by subst e; rfl)
    clear hc1 hc2
    generalize l[k] = d at *
    generalize r[k] = d' at *
    clear hkl hkr
    obtain ⟨p, q⟩ := d
    obtain ⟨p', q'⟩ := d'
    simp only [Prod.mk.injEq, ne_eq] at x0 x1 y0 y1 HQ HF
    have k0 : (0 : Int) ≤ (k : Int) := by omega
    have k1 : (k : Int) < (n : Int) := by omega
    have HS3 := And.intro x0 (And.intro x1 (And.intro y0 (And.intro y1 (show Hid (Below wr.heap.size wr wr.drew) from (Below.refl _ _).drew))))
    have D1 := fun (V : World) => keepDot_any p q p' q' V
    by_cases he : p = p' ∧ q = q'
    · rw [show (decide (p = p') && decide (q = q')) = true from by simpa using he] at D1
      have HT' : Hid (l.take (k + 1) = r.take (k + 1)) := HQ.out he
      clear HQ HF he x0 x1 y0 y1
      go_wp2
      refine wp_region_held_drew (S := (fun w' => w'.cell? ⟨b1, o1 + k * 2, none⟩ = some (.int .i64 p) ∧ w'.cell? ⟨b1, o1 + k * 2 + 1, none⟩ = some (.int .i64 q) ∧ w'.cell? ⟨b2, o2 + k * 2, none⟩ = some (.int .i64 p') ∧ w'.cell? ⟨b2, o2 + k * 2 + 1, none⟩ = some (.int .i64 q') ∧ Hid (Below wr.heap.size wr w'))) (by kernel_rfl) HS3 (fun hHeld => ?_)
      refine heldTake (v := ?_) 0 17 rfl rfl (by kernel_rfl) (by kernel_rfl) (by kernel_rfl) (fun _ _ _ h => h) (by rfl) (fun w hSw => ?_) (by assumption) ?_
      rotate_left
      · (try dsimp only at hSw); first | (go_simp; done) | (go_simp; with_reducible rfl)
      simp only [List.setIfInBounds_toArray, List.set_cons_zero, List.set_cons_succ]
      refine heldTake (v := ?_) 1 18 rfl rfl (by kernel_rfl) (by kernel_rfl) (by kernel_rfl) (fun _ _ _ h => h) (by rfl) (fun w hSw => ?_) (by assumption) ?_
      rotate_left
      · (try dsimp only at hSw); first | (go_simp; done) | (go_simp; with_reducible rfl)
      simp only [List.setIfInBounds_toArray, List.set_cons_zero, List.set_cons_succ]
      refine heldTake (v := ?_) 2 19 rfl rfl (by kernel_rfl) (by kernel_rfl) (by kernel_rfl) (fun _ _ _ h => h) (by rfl) (fun w hSw => ?_) (by assumption) ?_
      rotate_left
      · (try dsimp only at hSw); first | (go_simp; done) | (go_simp; with_reducible rfl)
      simp only [List.setIfInBounds_toArray, List.set_cons_zero, List.set_cons_succ]
      refine heldTake (v := ?_) 3 20 rfl rfl (by kernel_rfl) (by kernel_rfl) (by kernel_rfl) (fun _ _ _ h => h) (by rfl) (fun w hSw => ?_) (by assumption) ?_
      rotate_left
      · (try dsimp only at hSw); first | (go_simp; done) | (go_simp; with_reducible rfl)
      simp only [List.setIfInBounds_toArray, List.set_cons_zero, List.set_cons_succ]
      refine heldTake (v := ?_) 4 21 rfl rfl (by kernel_rfl) (by kernel_rfl) (by kernel_rfl) (fun _ _ _ h => h) (by rfl) (fun w hSw => ?_) (by assumption) ?_
      rotate_left
      · (try dsimp only at hSw); first | (go_simp; done) | (go_simp; with_reducible rfl)
      simp only [List.setIfInBounds_toArray, List.set_cons_zero, List.set_cons_succ]
      refine heldTake (v := ?_) 5 22 rfl rfl (by kernel_rfl) (by kernel_rfl) (by kernel_rfl) (fun _ _ _ h => h) (by rfl) (fun w hSw => ?_) (by assumption) ?_
      rotate_left
      · (try dsimp only at hSw); first | (go_simp; done) | (go_simp; with_reducible rfl)
      simp only [List.setIfInBounds_toArray, List.set_cons_zero, List.set_cons_succ]
      refine heldTake (v := ?_) 6 23 rfl rfl (by kernel_rfl) (by kernel_rfl) (by kernel_rfl) (fun _ _ _ h => h) (by rfl) (fun w hSw => ?_) (by assumption) ?_
      rotate_left
      · (try dsimp only at hSw); first | (go_simp; done) | (go_simp; with_reducible rfl)
      simp only [List.setIfInBounds_toArray, List.set_cons_zero, List.set_cons_succ]
      refine heldTake (v := ?_) 7 24 rfl rfl (by kernel_rfl) (by kernel_rfl) (by kernel_rfl) (fun _ _ _ h => h) (by rfl) (fun w hSw => ?_) (by assumption) ?_
      rotate_left
      · (try dsimp only at hSw); first | (go_simp; done) | (go_simp; with_reducible rfl)
      simp only [List.setIfInBounds_toArray, List.set_cons_zero, List.set_cons_succ]
      refine heldOne 8 rfl (by kernel_rfl) (by rfl) (fun K2 hK => ?_)
      go_simp
      refine (D1 _).mono ?_
      rintro e wz ⟨rfl, hb⟩
      simp only []
      refine hK.out _ _ ?_ (fun hHeld => ?_)
      · exact k4V hb (by assumption)
      clear hK K2
      try simp only [List.setIfInBounds_toArray, List.set_cons_zero, List.set_cons_succ]
      refine heldTake (v := ?_) 9 26 rfl rfl (by kernel_rfl) (by kernel_rfl) (by kernel_rfl) (fun _ _ _ h => h) (by rfl) (fun w hSw => ?_) (by assumption) ?_
      rotate_left
      · (try dsimp only at hSw); first | (go_simp; done) | (go_simp; with_reducible rfl)
      simp only [List.setIfInBounds_toArray, List.set_cons_zero, List.set_cons_succ]
      refine wpAnyH_done (by kernel_rfl) ?_ _
      have HB9 : Hid (Below w.heap.size w _) := chain hB.out hHeld.2.2.2.2.out
      clear hHeld
      go_wp2
      go_roundw
      case rel => exact ⟨k + 1, by omega, by go_num, HT', HB9⟩
      case measure => simp [RowKit.intOf]; omega
    · rw [show (decide (p = p') && decide (q = q')) = false from by simpa using he] at D1
      have HNE : Hid (l ≠ r) := HF.out he
      clear HQ HF he x0 x1 y0 y1
      go_wp2
      refine wp_region_held_drew (S := (fun w' => w'.cell? ⟨b1, o1 + k * 2, none⟩ = some (.int .i64 p) ∧ w'.cell? ⟨b1, o1 + k * 2 + 1, none⟩ = some (.int .i64 q) ∧ w'.cell? ⟨b2, o2 + k * 2, none⟩ = some (.int .i64 p') ∧ w'.cell? ⟨b2, o2 + k * 2 + 1, none⟩ = some (.int .i64 q') ∧ Hid (Below wr.heap.size wr w'))) (by kernel_rfl) HS3 (fun hHeld => ?_)
      refine heldTake (v := ?_) 0 17 rfl rfl (by kernel_rfl) (by kernel_rfl) (by kernel_rfl) (fun _ _ _ h => h) (by rfl) (fun w hSw => ?_) (by assumption) ?_
      rotate_left
      · (try dsimp only at hSw); first | (go_simp; done) | (go_simp; with_reducible rfl)
      simp only [List.setIfInBounds_toArray, List.set_cons_zero, List.set_cons_succ]
      refine heldTake (v := ?_) 1 18 rfl rfl (by kernel_rfl) (by kernel_rfl) (by kernel_rfl) (fun _ _ _ h => h) (by rfl) (fun w hSw => ?_) (by assumption) ?_
      rotate_left
      · (try dsimp only at hSw); first | (go_simp; done) | (go_simp; with_reducible rfl)
      simp only [List.setIfInBounds_toArray, List.set_cons_zero, List.set_cons_succ]
      refine heldTake (v := ?_) 2 19 rfl rfl (by kernel_rfl) (by kernel_rfl) (by kernel_rfl) (fun _ _ _ h => h) (by rfl) (fun w hSw => ?_) (by assumption) ?_
      rotate_left
      · (try dsimp only at hSw); first | (go_simp; done) | (go_simp; with_reducible rfl)
      simp only [List.setIfInBounds_toArray, List.set_cons_zero, List.set_cons_succ]
      refine heldTake (v := ?_) 3 20 rfl rfl (by kernel_rfl) (by kernel_rfl) (by kernel_rfl) (fun _ _ _ h => h) (by rfl) (fun w hSw => ?_) (by assumption) ?_
      rotate_left
      · (try dsimp only at hSw); first | (go_simp; done) | (go_simp; with_reducible rfl)
      simp only [List.setIfInBounds_toArray, List.set_cons_zero, List.set_cons_succ]
      refine heldTake (v := ?_) 4 21 rfl rfl (by kernel_rfl) (by kernel_rfl) (by kernel_rfl) (fun _ _ _ h => h) (by rfl) (fun w hSw => ?_) (by assumption) ?_
      rotate_left
      · (try dsimp only at hSw); first | (go_simp; done) | (go_simp; with_reducible rfl)
      simp only [List.setIfInBounds_toArray, List.set_cons_zero, List.set_cons_succ]
      refine heldTake (v := ?_) 5 22 rfl rfl (by kernel_rfl) (by kernel_rfl) (by kernel_rfl) (fun _ _ _ h => h) (by rfl) (fun w hSw => ?_) (by assumption) ?_
      rotate_left
      · (try dsimp only at hSw); first | (go_simp; done) | (go_simp; with_reducible rfl)
      simp only [List.setIfInBounds_toArray, List.set_cons_zero, List.set_cons_succ]
      refine heldTake (v := ?_) 6 23 rfl rfl (by kernel_rfl) (by kernel_rfl) (by kernel_rfl) (fun _ _ _ h => h) (by rfl) (fun w hSw => ?_) (by assumption) ?_
      rotate_left
      · (try dsimp only at hSw); first | (go_simp; done) | (go_simp; with_reducible rfl)
      simp only [List.setIfInBounds_toArray, List.set_cons_zero, List.set_cons_succ]
      refine heldTake (v := ?_) 7 24 rfl rfl (by kernel_rfl) (by kernel_rfl) (by kernel_rfl) (fun _ _ _ h => h) (by rfl) (fun w hSw => ?_) (by assumption) ?_
      rotate_left
      · (try dsimp only at hSw); first | (go_simp; done) | (go_simp; with_reducible rfl)
      simp only [List.setIfInBounds_toArray, List.set_cons_zero, List.set_cons_succ]
      refine heldOne 8 rfl (by kernel_rfl) (by rfl) (fun K2 hK => ?_)
      go_simp
      refine (D1 _).mono ?_
      rintro e wz ⟨rfl, hb⟩
      simp only []
      refine hK.out _ _ ?_ (fun hHeld => ?_)
      · exact k4V hb (by assumption)
      clear hK K2
      try simp only [List.setIfInBounds_toArray, List.set_cons_zero, List.set_cons_succ]
      refine heldTake (v := ?_) 9 26 rfl rfl (by kernel_rfl) (by kernel_rfl) (by kernel_rfl) (fun _ _ _ h => h) (by rfl) (fun w hSw => ?_) (by assumption) ?_
      rotate_left
      · (try dsimp only at hSw); first | (go_simp; done) | (go_simp; with_reducible rfl)
      simp only [List.setIfInBounds_toArray, List.set_cons_zero, List.set_cons_succ]
      refine wpAnyH_done (by kernel_rfl) ?_ _
      have HB9 : Hid (Below w.heap.size w _) := chain hB.out hHeld.2.2.2.2.out
      clear hHeld
      go_wp2
      go_ret
      exact ⟨by rw [decide_eq_false HNE.out]; rfl, HB9.out⟩
  have HE : Hid (l = r) := by
    have h1 := hT.out
    rw [List.take_of_length_le (by rw [HN.out]; omega), List.take_of_length_le (by rw [HM.out]; omega)] at h1
    exact h1
  go_wp2
  go_ret
  exact ⟨by rw [decide_eq_true HE.out]; rfl, hB.out⟩

theorem sameVs_self (l : List PV) : sameVs l l = true := (sameVs_iff l l).2 rfl

set_option maxRecDepth 100000 in
set_option maxHeartbeats 4000000 in
theorem keepOp_same (x : PO) (da va oa da' va' oa' : Option Addr) (dc vc oc dc' vc' oc' : Nat) (w : World) (h : LiesO w x da va oa dc vc oc) (h' : LiesO w x da' va' oa' dc' vc' oc') :
    Calls Try.prog 11 #[.agg (cellsO x da va oa dc vc oc), .agg (cellsO x da' va' oa' dc' vc' oc')] w fun e w' => e = .returned (.bool true) ∧ Below w.heap.size w w' := by
  have HX : Hid (LiesO w x da va oa dc vc oc) := h
  have HY : Hid (LiesO w x da' va' oa' dc' vc' oc') := h'
  clear h h'
  obtain ⟨B, hBB⟩ : ∃ B : World, B = (w.alloc (.cells (cellsO x da va oa dc vc oc) 32)).alloc (.cells (cellsO x da' va' oa' dc' vc' oc') 32) := ⟨_, rfl⟩
  have HB0 : Hid (Below w.heap.size w B) := by rw [hBB]; exact below_two _ _ _
  have HK : Hid (CellsAt B w.heap.size (cellsO x da va oa dc vc oc) 32) := by rw [hBB]; exact (CellsAt.made rfl).later (alloc_below _ _)
  have HK' : Hid (CellsAt B (w.heap.size + 1) (cellsO x da' va' oa' dc' vc' oc') 32) := by rw [hBB]; exact CellsAt.made (by simp)
  have HC : Hid (∀ W, Below B.heap.size B W → W.cell? ⟨w.heap.size, 0, none⟩ = some (.int .i64 x.dp) ∧ W.cell? ⟨w.heap.size, 1, none⟩ = some (.int .i64 x.dn) ∧ W.cell? ⟨w.heap.size, 2, none⟩ = some (.slice da x.deps.length dc) ∧ W.cell? ⟨w.heap.size, 3, none⟩ = some (.int .i64 x.sp) ∧ W.cell? ⟨w.heap.size, 4, none⟩ = some (.int .i64 x.sl) ∧ W.cell? ⟨w.heap.size, 5, none⟩ = some (.int .i64 x.sq) ∧ W.cell? ⟨w.heap.size, 6, none⟩ = some (.int .i64 x.kind) ∧ W.cell? ⟨w.heap.size, 7, none⟩ = some (.int .i64 x.table) ∧ W.cell? ⟨w.heap.size, 8, none⟩ = some (.string x.key) ∧ W.cell? ⟨w.heap.size, 9, none⟩ = some (.int .i64 x.col) ∧ W.cell? ⟨w.heap.size, 10, none⟩ = some (.slice va x.vals.length vc) ∧ W.cell? ⟨w.heap.size, 11, none⟩ = some (.slice oa x.dots.length oc)) := fun W hb => by
    have k := HK.out.later hb
    exact ⟨k.cell 0, k.cell 1, k.cell 2, k.cell 3, k.cell 4, k.cell 5, k.cell 6, k.cell 7, k.cell 8, k.cell 9, k.cell 10, k.cell 11⟩
  have HD : Hid (∀ W, Below B.heap.size B W → W.cell? ⟨w.heap.size + 1, 0, none⟩ = some (.int .i64 x.dp) ∧ W.cell? ⟨w.heap.size + 1, 1, none⟩ = some (.int .i64 x.dn) ∧ W.cell? ⟨w.heap.size + 1, 2, none⟩ = some (.slice da' x.deps.length dc') ∧ W.cell? ⟨w.heap.size + 1, 3, none⟩ = some (.int .i64 x.sp) ∧ W.cell? ⟨w.heap.size + 1, 4, none⟩ = some (.int .i64 x.sl) ∧ W.cell? ⟨w.heap.size + 1, 5, none⟩ = some (.int .i64 x.sq) ∧ W.cell? ⟨w.heap.size + 1, 6, none⟩ = some (.int .i64 x.kind) ∧ W.cell? ⟨w.heap.size + 1, 7, none⟩ = some (.int .i64 x.table) ∧ W.cell? ⟨w.heap.size + 1, 8, none⟩ = some (.string x.key) ∧ W.cell? ⟨w.heap.size + 1, 9, none⟩ = some (.int .i64 x.col) ∧ W.cell? ⟨w.heap.size + 1, 10, none⟩ = some (.slice va' x.vals.length vc') ∧ W.cell? ⟨w.heap.size + 1, 11, none⟩ = some (.slice oa' x.dots.length oc')) := fun W hb => by
    have k := HK'.out.later hb
    exact ⟨k.cell 0, k.cell 1, k.cell 2, k.cell 3, k.cell 4, k.cell 5, k.cell 6, k.cell 7, k.cell 8, k.cell 9, k.cell 10, k.cell 11⟩
  have HBB : Hid (B = (w.alloc (.cells (cellsO x da va oa dc vc oc) 32)).alloc (.cells (cellsO x da' va' oa' dc' vc' oc') 32)) := hBB
  clear HK HK' hBB
  have C1 := fun W => keepDot_any x.dp x.dn x.dp x.dn W
  simp only [decide_true, Bool.and_self] at C1
  have C2 := fun (W : World) (hb : Below w.heap.size w W) => keepInts_any da da' x.deps.length x.deps.length dc dc' x.deps x.deps W rfl rfl HX.out.ld HX.out.ld (HX.out.deps.later hb) (HY.out.deps.later hb)
  simp only [decide_true] at C2
  have C3 := fun W => keepStamp_any x.sp x.sl x.sq x.sp x.sl x.sq W
  simp only [decide_true] at C3
  have C4 := fun (W : World) (hb : Below w.heap.size w W) => keepRow_any va va' x.vals.length x.vals.length vc vc' x.vals x.vals W rfl rfl HX.out.lv HX.out.lv (HX.out.vals.later hb) (HY.out.vals.later hb)
  simp only [sameVs_self] at C4
  have C5 := fun (W : World) (hb : Below w.heap.size w W) => keepDots_any oa oa' x.dots.length x.dots.length oc oc' x.dots x.dots W rfl rfl HX.out.lo HX.out.lo (HX.out.dots.later hb) (HY.out.dots.later hb)
  simp only [decide_true] at C5
  go_enter Try.func11, Try.ntmps11
  go_wp2_with fail
  rw [← HBB.out]
  refine (C1 _).mono ?_
  rintro e w1 ⟨rfl, hb1⟩
  have HB1 : Hid (Below B.heap.size B w1) := hb1
  obtain ⟨f0, f1, f2, f3, f4, f5, f6, f7, f8, f9, f10, f11⟩ := HC.out w1 HB1.out
  obtain ⟨g0, g1, g2, g3, g4, g5, g6, g7, g8, g9, g10, g11⟩ := HD.out w1 HB1.out
  clear hb1
  go_wp2_with fail
  refine (C2 _ (chain HB0.out HB1.out)).mono ?_
  rintro e w2 ⟨rfl, hb2⟩
  have HB2 : Hid (Below B.heap.size B w2) := chain HB1.out hb2
  clear hb2 f0 f1 f2 f3 f4 f5 f6 f7 f8 f9 f10 f11 g0 g1 g2 g3 g4 g5 g6 g7 g8 g9 g10 g11
  obtain ⟨f0, f1, f2, f3, f4, f5, f6, f7, f8, f9, f10, f11⟩ := HC.out w2 HB2.out
  obtain ⟨g0, g1, g2, g3, g4, g5, g6, g7, g8, g9, g10, g11⟩ := HD.out w2 HB2.out
  go_wp2_with fail
  refine (C3 _).mono ?_
  rintro e w3 ⟨rfl, hb3⟩
  have HB3 : Hid (Below B.heap.size B w3) := chain HB2.out hb3
  clear hb3 f0 f1 f2 f3 f4 f5 f6 f7 f8 f9 f10 f11 g0 g1 g2 g3 g4 g5 g6 g7 g8 g9 g10 g11
  obtain ⟨f0, f1, f2, f3, f4, f5, f6, f7, f8, f9, f10, f11⟩ := HC.out w3 HB3.out
  obtain ⟨g0, g1, g2, g3, g4, g5, g6, g7, g8, g9, g10, g11⟩ := HD.out w3 HB3.out
  go_wp2_with fail
  refine (C4 _ (chain HB0.out HB3.out)).mono ?_
  rintro e w4 ⟨rfl, hb4⟩
  have HB4 : Hid (Below B.heap.size B w4) := chain HB3.out hb4
  clear hb4 f0 f1 f2 f3 f4 f5 f6 f7 f8 f9 f10 f11 g0 g1 g2 g3 g4 g5 g6 g7 g8 g9 g10 g11
  obtain ⟨f0, f1, f2, f3, f4, f5, f6, f7, f8, f9, f10, f11⟩ := HC.out w4 HB4.out
  obtain ⟨g0, g1, g2, g3, g4, g5, g6, g7, g8, g9, g10, g11⟩ := HD.out w4 HB4.out
  go_wp2_with fail
  refine (C5 _ (chain HB0.out HB4.out)).mono ?_
  rintro e w5 ⟨rfl, hb5⟩
  have HB5 : Hid (Below w.heap.size w w5) := chain HB0.out (chain HB4.out hb5)
  clear hb5
  go_wp2
  go_ret
  exact ⟨rfl, HB5.out⟩

end Go.Proofs.Ytfijnmleadgapaa

namespace Go.Proofs.Ytfijnmleadgapaa
open Go.RowKit Go.Lib
set_option linter.unusedVariables false

/-- The numbers of an operation are ints. -/
structure I64O (x : PO) : Prop where
  deps : All64 x.deps
  dp : In64 x.dp
  dn : In64 x.dn
  st : S64 ⟨x.sp, x.sl, x.sq⟩
  dots : ∀ d ∈ x.dots, In64 d.1 ∧ In64 d.2
  col : In64 x.col
  table : In64 x.table

/-- May it be its peer's next one? -/
def issuedF (n : Int) (x : PO) : Bool :=
  decide ((x.deps.length : Int) = n) && decide (chkD x.deps = 0) && nextD x.deps x.dp x.dn && decide (x.dn ≤ 1073741824) && decide (chkS ⟨x.sp, x.sl, x.sq⟩ = 0) && decide (x.sq = x.dp)

set_option maxRecDepth 100000 in
set_option maxHeartbeats 4000000 in
theorem opIssued_any (n : Int) (x : PO) (da va oa : Option Addr) (dc vc oc : Nat) (w : World) (h : LiesO w x da va oa dc vc oc) (hx : I64O x) :
    Calls Try.prog 50 #[.int .i64 n, .agg (cellsO x da va oa dc vc oc)] w fun e w' => e = .returned (.bool (issuedF n x)) ∧ Below w.heap.size w w' := by
  obtain ⟨dp, dn, deps, sp, sl, sq, kind, table, key, col, vals, dots⟩ := x
  have HR : Hid (RdI .i64 w da deps) := h.deps
  have hld : deps.length ≤ 65536 := h.ld
  have C1 := fun (W : World) (hb : Below w.heap.size w W) => dCheck_any da deps.length dc deps W rfl hld (HR.out.later hb)
  have C2 := fun (W : World) (hb : Below w.heap.size w W) => dotNext da deps.length dc dp dn deps W rfl hld hx.deps hx.dp hx.dn (HR.out.later hb)
  have C3 := fun (W : World) => hlcCheck sp sl sq W hx.st
  have HI : Hid (issuedF n ⟨dp, dn, deps, sp, sl, sq, kind, table, key, col, vals, dots⟩ = (decide ((deps.length : Int) = n) && decide (chkD deps = 0) && nextD deps dp dn && decide (dn ≤ 1073741824) && decide (chkS ⟨sp, sl, sq⟩ = 0) && decide (sq = dp))) := rfl
  generalize issuedF n ⟨dp, dn, deps, sp, sl, sq, kind, table, key, col, vals, dots⟩ = res at *
  generalize chkD deps = cd at *
  generalize nextD deps dp dn = nx at *
  generalize chkS ⟨sp, sl, sq⟩ = cs at *
  clear h hx HR
  simp only [cellsO]
  generalize deps.length = m at *
  generalize vals.length = nv at *
  generalize dots.length = no at *
  have HK : Hid (CellsAt (w.alloc (.cells #[.int .i64 dp, .int .i64 dn, .slice da m dc, .int .i64 sp, .int .i64 sl, .int .i64 sq, .int .i64 kind, .int .i64 table, .string key, .int .i64 col, .slice va nv vc, .slice oa no oc] 32)) w.heap.size #[.int .i64 dp, .int .i64 dn, .slice da m dc, .int .i64 sp, .int .i64 sl, .int .i64 sq, .int .i64 kind, .int .i64 table, .string key, .int .i64 col, .slice va nv vc, .slice oa no oc] 32) := CellsAt.made rfl
  have HB0 : Hid (Below w.heap.size w (w.alloc (.cells #[.int .i64 dp, .int .i64 dn, .slice da m dc, .int .i64 sp, .int .i64 sl, .int .i64 sq, .int .i64 kind, .int .i64 table, .string key, .int .i64 col, .slice va nv vc, .slice oa no oc] 32))) := alloc_below _ _
  have HC : Hid (∀ W, Below (w.alloc (.cells #[.int .i64 dp, .int .i64 dn, .slice da m dc, .int .i64 sp, .int .i64 sl, .int .i64 sq, .int .i64 kind, .int .i64 table, .string key, .int .i64 col, .slice va nv vc, .slice oa no oc] 32)).heap.size (w.alloc (.cells #[.int .i64 dp, .int .i64 dn, .slice da m dc, .int .i64 sp, .int .i64 sl, .int .i64 sq, .int .i64 kind, .int .i64 table, .string key, .int .i64 col, .slice va nv vc, .slice oa no oc] 32)) W → W.cell? ⟨w.heap.size, 0, none⟩ = some (.int .i64 dp) ∧ W.cell? ⟨w.heap.size, 1, none⟩ = some (.int .i64 dn) ∧ W.cell? ⟨w.heap.size, 2, none⟩ = some (.slice da m dc) ∧ W.cell? ⟨w.heap.size, 3, none⟩ = some (.int .i64 sp) ∧ W.cell? ⟨w.heap.size, 4, none⟩ = some (.int .i64 sl) ∧ W.cell? ⟨w.heap.size, 5, none⟩ = some (.int .i64 sq)) := fun W hb => by
    have k := HK.out.later hb
    exact ⟨k.cell 0, k.cell 1, k.cell 2, k.cell 3, k.cell 4, k.cell 5⟩
  clear HK
  by_cases h1 : (m : Int) = n
  case neg =>
    have q1 : ((m : Int) != n) = true := by simp [h1]
    have HF : Hid (res = false) := by rw [HI.out, decide_eq_false h1]; rfl
    clear C1 C2 C3
    go_enter Try.func50, Try.ntmps50
    go_wp2
    go_ret
    exact ⟨by rw [HF.out]; rfl, HB0.out⟩
  have q1 : ((m : Int) != n) = false := by simp [h1]
  by_cases h2 : cd = 0
  case neg =>
    have q2 : (cd != 0) = true := by simp [h2]
    have HF : Hid (res = false) := by show _ = _; rw [HI.out]; simp [h2]
    go_enter Try.func50, Try.ntmps50
    go_wp2_with fail
    refine (C1 _ HB0.out).mono ?_
    rintro e w1 ⟨rfl, hw⟩
    subst w1
    go_wp2
    go_ret
    exact ⟨by rw [HF.out]; rfl, HB0.out⟩
  subst h2
  cases nx with
  | false =>
    have HF : Hid (res = false) := by show _ = _; rw [HI.out]; simp
    go_enter Try.func50, Try.ntmps50
    go_wp2_with fail
    refine (C1 _ HB0.out).mono ?_
    rintro e w1 ⟨rfl, hw⟩
    subst w1
    go_wp2_with fail
    refine (C2 _ HB0.out).mono ?_
    rintro e w1 ⟨rfl, hb1⟩
    have HB1 : Hid (Below w.heap.size w w1) := chain HB0.out hb1
    clear hb1
    go_wp2
    go_ret
    exact ⟨by rw [HF.out]; rfl, HB1.out⟩
  | true =>
    by_cases h3 : dn ≤ 1073741824
    case neg =>
      have q3 : 1073741824 < dn := by omega
      have HF : Hid (res = false) := by show _ = _; rw [HI.out]; simp [h3]
      go_enter Try.func50, Try.ntmps50
      go_wp2_with fail
      refine (C1 _ HB0.out).mono ?_
      rintro e w1 ⟨rfl, hw⟩
      subst w1
      go_wp2_with fail
      refine (C2 _ HB0.out).mono ?_
      rintro e w1 ⟨rfl, hb1⟩
      obtain ⟨f0, f1, f2, f3, f4, f5⟩ := HC.out w1 hb1
      have HB1 : Hid (Below w.heap.size w w1) := chain HB0.out hb1
      clear hb1
      go_wp2
      go_ret
      exact ⟨by rw [HF.out]; rfl, HB1.out⟩
    by_cases h4 : cs = 0
    case neg =>
      have q4 : (cs == 0) = false := by simp [h4]
      have HF : Hid (res = false) := by show _ = _; rw [HI.out]; simp [h4]
      go_enter Try.func50, Try.ntmps50
      go_wp2_with fail
      refine (C1 _ HB0.out).mono ?_
      rintro e w1 ⟨rfl, hw⟩
      subst w1
      go_wp2_with fail
      refine (C2 _ HB0.out).mono ?_
      rintro e w1 ⟨rfl, hb1⟩
      obtain ⟨f0, f1, f2, f3, f4, f5⟩ := HC.out w1 hb1
      have HB1 : Hid (Below w.heap.size w w1) := chain HB0.out hb1
      clear hb1
      go_wp2_with fail
      refine (C3 _).mono ?_
      rintro e w2 ⟨rfl, hb2⟩
      have HB2 : Hid (Below w.heap.size w w2) := chain HB1.out hb2
      go_wp2
      go_ret
      exact ⟨by rw [HF.out]; rfl, HB2.out⟩
    subst h4
    have HF : Hid (res = decide (sq = dp)) := by show _ = _; rw [HI.out]; simp [h1, h3]
    go_enter Try.func50, Try.ntmps50
    go_wp2_with fail
    refine (C1 _ HB0.out).mono ?_
    rintro e w1 ⟨rfl, hw⟩
    subst w1
    go_wp2_with fail
    refine (C2 _ HB0.out).mono ?_
    rintro e w1 ⟨rfl, hb1⟩
    obtain ⟨f0, f1, f2, f3, f4, f5⟩ := HC.out w1 hb1
    have HB1 : Hid (Below w.heap.size w w1) := chain HB0.out hb1
    have HBo : Hid (Below (w.alloc (.cells #[.int .i64 dp, .int .i64 dn, .slice da m dc, .int .i64 sp, .int .i64 sl, .int .i64 sq, .int .i64 kind, .int .i64 table, .string key, .int .i64 col, .slice va nv vc, .slice oa no oc] 32)).heap.size (w.alloc (.cells #[.int .i64 dp, .int .i64 dn, .slice da m dc, .int .i64 sp, .int .i64 sl, .int .i64 sq, .int .i64 kind, .int .i64 table, .string key, .int .i64 col, .slice va nv vc, .slice oa no oc] 32)) w1) := hb1
    clear hb1
    go_wp2_with fail
    refine (C3 _).mono ?_
    rintro e w2 ⟨rfl, hb2⟩
    obtain ⟨g0, g1, g2, g3, g4, g5⟩ := HC.out w2 (chain HBo.out hb2)
    have HB2 : Hid (Below w.heap.size w w2) := chain HB1.out hb2
    clear hb2
    by_cases h5 : sq = dp
    · subst h5
      go_wp2
      go_ret
      exact ⟨by rw [HF.out]; simp, HB2.out⟩
    · have q5 : (sq == dp) = false := by simp [h5]
      go_wp2
      go_ret
      exact ⟨by rw [HF.out, decide_eq_false h5]; rfl, HB2.out⟩

end Go.Proofs.Ytfijnmleadgapaa

namespace Go.Proofs.Ytfijnmleadgapaa
open Go.RowKit Go.Lib
set_option linter.unusedVariables false

set_option maxRecDepth 100000 in
set_option maxHeartbeats 4000000 in
theorem opWithin_out (dp dn sp sl sq kind table col : Int) (key : ByteArray) (da va oa : Option Addr) (m nv no dc vc oc : Nat) (af : Option Addr) (nf fcap : Nat) (w : World) (hk : key.size ≤ 9223372036854775807) (h : (placeF nf table && keyF key) = false) :
    Calls Try.prog 51 #[.slice af nf fcap, .agg #[.int .i64 dp, .int .i64 dn, .slice da m dc, .int .i64 sp, .int .i64 sl, .int .i64 sq, .int .i64 kind, .int .i64 table, .string key, .int .i64 col, .slice va nv vc, .slice oa no oc]] w fun e w' => e = .returned (.bool false) ∧ Below w.heap.size w w' := by
  have HK : Hid (CellsAt (w.alloc (.cells #[.int .i64 dp, .int .i64 dn, .slice da m dc, .int .i64 sp, .int .i64 sl, .int .i64 sq, .int .i64 kind, .int .i64 table, .string key, .int .i64 col, .slice va nv vc, .slice oa no oc] 32)) w.heap.size #[.int .i64 dp, .int .i64 dn, .slice da m dc, .int .i64 sp, .int .i64 sl, .int .i64 sq, .int .i64 kind, .int .i64 table, .string key, .int .i64 col, .slice va nv vc, .slice oa no oc] 32) := CellsAt.made rfl
  have HB0 : Hid (Below w.heap.size w (w.alloc (.cells #[.int .i64 dp, .int .i64 dn, .slice da m dc, .int .i64 sp, .int .i64 sl, .int .i64 sq, .int .i64 kind, .int .i64 table, .string key, .int .i64 col, .slice va nv vc, .slice oa no oc] 32))) := alloc_below _ _
  have HC : Hid (∀ W, Below (w.alloc (.cells #[.int .i64 dp, .int .i64 dn, .slice da m dc, .int .i64 sp, .int .i64 sl, .int .i64 sq, .int .i64 kind, .int .i64 table, .string key, .int .i64 col, .slice va nv vc, .slice oa no oc] 32)).heap.size (w.alloc (.cells #[.int .i64 dp, .int .i64 dn, .slice da m dc, .int .i64 sp, .int .i64 sl, .int .i64 sq, .int .i64 kind, .int .i64 table, .string key, .int .i64 col, .slice va nv vc, .slice oa no oc] 32)) W → W.cell? ⟨w.heap.size, 0, none⟩ = some (.int .i64 dp) ∧ W.cell? ⟨w.heap.size, 1, none⟩ = some (.int .i64 dn) ∧ W.cell? ⟨w.heap.size, 2, none⟩ = some (.slice da m dc) ∧ W.cell? ⟨w.heap.size, 3, none⟩ = some (.int .i64 sp) ∧ W.cell? ⟨w.heap.size, 4, none⟩ = some (.int .i64 sl) ∧ W.cell? ⟨w.heap.size, 5, none⟩ = some (.int .i64 sq) ∧ W.cell? ⟨w.heap.size, 6, none⟩ = some (.int .i64 kind) ∧ W.cell? ⟨w.heap.size, 7, none⟩ = some (.int .i64 table) ∧ W.cell? ⟨w.heap.size, 8, none⟩ = some (.string key) ∧ W.cell? ⟨w.heap.size, 9, none⟩ = some (.int .i64 col) ∧ W.cell? ⟨w.heap.size, 10, none⟩ = some (.slice va nv vc) ∧ W.cell? ⟨w.heap.size, 11, none⟩ = some (.slice oa no oc)) := fun W hb => by
    have k := HK.out.later hb
    exact ⟨k.cell 0, k.cell 1, k.cell 2, k.cell 3, k.cell 4, k.cell 5, k.cell 6, k.cell 7, k.cell 8, k.cell 9, k.cell 10, k.cell 11⟩
  clear HK
  have C1 := fun W => opPlace_any (nf : Int) table W
  have C2 := fun W => opKey_any key W hk
  generalize placeF nf table = p1 at *
  generalize keyF key = p2 at *
  cases p1 with
  | false =>
    clear h C2
    go_enter Try.func51, Try.ntmps51
    go_wp2_with fail
    refine (C1 _).mono ?_
    rintro e w1 ⟨rfl, hw⟩
    subst w1
    go_wp2
    go_ret
    exact ⟨rfl, HB0.out⟩
  | true =>
    obtain rfl : p2 = false := by simpa using h
    clear h
    go_enter Try.func51, Try.ntmps51
    go_wp2_with fail
    refine (C1 _).mono ?_
    rintro e w1 ⟨rfl, hw⟩
    subst w1
    go_wp2_with fail
    refine (C2 _).mono ?_
    rintro e w1 ⟨rfl, hw⟩
    subst w1
    go_wp2
    go_ret
    exact ⟨rfl, HB0.out⟩

set_option maxRecDepth 100000 in
set_option maxHeartbeats 4000000 in
theorem opWithin_del (dp dn sp sl sq kind table col : Int) (key : ByteArray) (da va oa : Option Addr) (m nv no dc vc oc : Nat) (bf of_ nf fcap z : Nat) (ac : Option Addr) (nc cc : Nat) (rem : Bool) (w : World) (hk : key.size ≤ 9223372036854775807) (hkey : keyF key = true) (htab : table = z) (hz : z < nf) (hnf : nf ≤ 65536) (hkind : kind = 3)
    (hcol : w.cell? ⟨bf, of_ + z, none⟩ = some (.slice ac nc cc))
    (C : ∀ W, Below w.heap.size w W → Calls Try.prog 87 #[.slice oa no oc, .slice da m dc] W fun e w' => e = .returned (.bool rem) ∧ Below W.heap.size W w') :
    Calls Try.prog 51 #[.slice (some ⟨bf, of_, none⟩) nf fcap, .agg #[.int .i64 dp, .int .i64 dn, .slice da m dc, .int .i64 sp, .int .i64 sl, .int .i64 sq, .int .i64 kind, .int .i64 table, .string key, .int .i64 col, .slice va nv vc, .slice oa no oc]] w fun e w' => e = .returned (.bool (rem && decide (col = 0) && decide (nv = 0))) ∧ Below w.heap.size w w' := by
  subst htab hkind
  have HK : Hid (CellsAt (w.alloc (.cells #[.int .i64 dp, .int .i64 dn, .slice da m dc, .int .i64 sp, .int .i64 sl, .int .i64 sq, .int .i64 3, .int .i64 (z : Int), .string key, .int .i64 col, .slice va nv vc, .slice oa no oc] 32)) w.heap.size #[.int .i64 dp, .int .i64 dn, .slice da m dc, .int .i64 sp, .int .i64 sl, .int .i64 sq, .int .i64 3, .int .i64 (z : Int), .string key, .int .i64 col, .slice va nv vc, .slice oa no oc] 32) := CellsAt.made rfl
  have HB0 : Hid (Below w.heap.size w (w.alloc (.cells #[.int .i64 dp, .int .i64 dn, .slice da m dc, .int .i64 sp, .int .i64 sl, .int .i64 sq, .int .i64 3, .int .i64 (z : Int), .string key, .int .i64 col, .slice va nv vc, .slice oa no oc] 32))) := alloc_below _ _
  have HC : Hid (∀ W, Below (w.alloc (.cells #[.int .i64 dp, .int .i64 dn, .slice da m dc, .int .i64 sp, .int .i64 sl, .int .i64 sq, .int .i64 3, .int .i64 (z : Int), .string key, .int .i64 col, .slice va nv vc, .slice oa no oc] 32)).heap.size (w.alloc (.cells #[.int .i64 dp, .int .i64 dn, .slice da m dc, .int .i64 sp, .int .i64 sl, .int .i64 sq, .int .i64 3, .int .i64 (z : Int), .string key, .int .i64 col, .slice va nv vc, .slice oa no oc] 32)) W → W.cell? ⟨w.heap.size, 0, none⟩ = some (.int .i64 dp) ∧ W.cell? ⟨w.heap.size, 1, none⟩ = some (.int .i64 dn) ∧ W.cell? ⟨w.heap.size, 2, none⟩ = some (.slice da m dc) ∧ W.cell? ⟨w.heap.size, 3, none⟩ = some (.int .i64 sp) ∧ W.cell? ⟨w.heap.size, 4, none⟩ = some (.int .i64 sl) ∧ W.cell? ⟨w.heap.size, 5, none⟩ = some (.int .i64 sq) ∧ W.cell? ⟨w.heap.size, 6, none⟩ = some (.int .i64 3) ∧ W.cell? ⟨w.heap.size, 7, none⟩ = some (.int .i64 (z : Int)) ∧ W.cell? ⟨w.heap.size, 8, none⟩ = some (.string key) ∧ W.cell? ⟨w.heap.size, 9, none⟩ = some (.int .i64 col) ∧ W.cell? ⟨w.heap.size, 10, none⟩ = some (.slice va nv vc) ∧ W.cell? ⟨w.heap.size, 11, none⟩ = some (.slice oa no oc)) := fun W hb => by
    have k := HK.out.later hb
    exact ⟨k.cell 0, k.cell 1, k.cell 2, k.cell 3, k.cell 4, k.cell 5, k.cell 6, k.cell 7, k.cell 8, k.cell 9, k.cell 10, k.cell 11⟩
  clear HK
  have C1 := fun W => opPlace_any (nf : Int) (z : Int) W
  rw [show placeF nf z = true from by simp [placeF]; omega] at C1
  have C2 := fun W => opKey_any key W hk
  rw [hkey] at C2
  have x0 := cell_later HB0.out hcol
  have z0 : (0 : Int) ≤ (z : Int) := by omega
  have z1 : (z : Int) < (nf : Int) := by omega
  clear hcol
  cases rem with
  | false =>
    go_enter Try.func51, Try.ntmps51
    go_wp2_with fail
    refine (C1 _).mono ?_
    rintro e w1 ⟨rfl, hw⟩
    subst w1
    go_wp2_with fail
    refine (C2 _).mono ?_
    rintro e w1 ⟨rfl, hw⟩
    subst w1
    go_wp2_with fail
    refine (C _ HB0.out).mono ?_
    rintro e w1 ⟨rfl, hb1⟩
    have HB1 : Hid (Below w.heap.size w w1) := chain HB0.out hb1
    clear hb1
    go_wp2
    go_ret
    exact ⟨rfl, HB1.out⟩
  | true =>
    go_enter Try.func51, Try.ntmps51
    go_wp2_with fail
    refine (C1 _).mono ?_
    rintro e w1 ⟨rfl, hw⟩
    subst w1
    go_wp2_with fail
    refine (C2 _).mono ?_
    rintro e w1 ⟨rfl, hw⟩
    subst w1
    go_wp2_with fail
    refine (C _ HB0.out).mono ?_
    rintro e w1 ⟨rfl, hb1⟩
    obtain ⟨f0, f1, f2, f3, f4, f5, f6, f7, f8, f9, f10, f11⟩ := HC.out w1 hb1
    have HB1 : Hid (Below w.heap.size w w1) := chain HB0.out hb1
    clear hb1
    by_cases h1 : col = 0
    · subst h1
      by_cases h2 : nv = 0
      · subst h2
        go_wp2
        go_ret
        exact ⟨by first | rfl | simp, HB1.out⟩
      · have q2 : ((nv : Int) == 0) = false := by simp; omega
        go_wp2
        go_ret
        exact ⟨by simp, HB1.out⟩
    · have q1 : (col == 0) = false := by simp [h1]
      go_wp2
      go_ret
      exact ⟨by simp [h1], HB1.out⟩

set_option maxRecDepth 100000 in
set_option maxHeartbeats 4000000 in
theorem opWithin_ins (dp dn sp sl sq kind table col : Int) (key : ByteArray) (da va oa : Option Addr) (m nv no dc vc oc : Nat) (bf of_ nf fcap z : Nat) (ac : Option Addr) (nc cc : Nat) (put : Bool) (w : World) (hk : key.size ≤ 9223372036854775807) (hkey : keyF key = true) (htab : table = z) (hz : z < nf) (hnf : nf ≤ 65536) (hkind : kind = 1)
    (hcol : w.cell? ⟨bf, of_ + z, none⟩ = some (.slice ac nc cc))
    (C : ∀ W, Below w.heap.size w W → Calls Try.prog 86 #[.slice va nv vc, .slice ac nc cc] W fun e w' => e = .returned (.bool put) ∧ Below W.heap.size W w') :
    Calls Try.prog 51 #[.slice (some ⟨bf, of_, none⟩) nf fcap, .agg #[.int .i64 dp, .int .i64 dn, .slice da m dc, .int .i64 sp, .int .i64 sl, .int .i64 sq, .int .i64 kind, .int .i64 table, .string key, .int .i64 col, .slice va nv vc, .slice oa no oc]] w fun e w' => e = .returned (.bool (put && decide (col = 0) && decide (no = 0))) ∧ Below w.heap.size w w' := by
  subst htab hkind
  have HK : Hid (CellsAt (w.alloc (.cells #[.int .i64 dp, .int .i64 dn, .slice da m dc, .int .i64 sp, .int .i64 sl, .int .i64 sq, .int .i64 1, .int .i64 (z : Int), .string key, .int .i64 col, .slice va nv vc, .slice oa no oc] 32)) w.heap.size #[.int .i64 dp, .int .i64 dn, .slice da m dc, .int .i64 sp, .int .i64 sl, .int .i64 sq, .int .i64 1, .int .i64 (z : Int), .string key, .int .i64 col, .slice va nv vc, .slice oa no oc] 32) := CellsAt.made rfl
  have HB0 : Hid (Below w.heap.size w (w.alloc (.cells #[.int .i64 dp, .int .i64 dn, .slice da m dc, .int .i64 sp, .int .i64 sl, .int .i64 sq, .int .i64 1, .int .i64 (z : Int), .string key, .int .i64 col, .slice va nv vc, .slice oa no oc] 32))) := alloc_below _ _
  have HC : Hid (∀ W, Below (w.alloc (.cells #[.int .i64 dp, .int .i64 dn, .slice da m dc, .int .i64 sp, .int .i64 sl, .int .i64 sq, .int .i64 1, .int .i64 (z : Int), .string key, .int .i64 col, .slice va nv vc, .slice oa no oc] 32)).heap.size (w.alloc (.cells #[.int .i64 dp, .int .i64 dn, .slice da m dc, .int .i64 sp, .int .i64 sl, .int .i64 sq, .int .i64 1, .int .i64 (z : Int), .string key, .int .i64 col, .slice va nv vc, .slice oa no oc] 32)) W → W.cell? ⟨w.heap.size, 0, none⟩ = some (.int .i64 dp) ∧ W.cell? ⟨w.heap.size, 1, none⟩ = some (.int .i64 dn) ∧ W.cell? ⟨w.heap.size, 2, none⟩ = some (.slice da m dc) ∧ W.cell? ⟨w.heap.size, 3, none⟩ = some (.int .i64 sp) ∧ W.cell? ⟨w.heap.size, 4, none⟩ = some (.int .i64 sl) ∧ W.cell? ⟨w.heap.size, 5, none⟩ = some (.int .i64 sq) ∧ W.cell? ⟨w.heap.size, 6, none⟩ = some (.int .i64 1) ∧ W.cell? ⟨w.heap.size, 7, none⟩ = some (.int .i64 (z : Int)) ∧ W.cell? ⟨w.heap.size, 8, none⟩ = some (.string key) ∧ W.cell? ⟨w.heap.size, 9, none⟩ = some (.int .i64 col) ∧ W.cell? ⟨w.heap.size, 10, none⟩ = some (.slice va nv vc) ∧ W.cell? ⟨w.heap.size, 11, none⟩ = some (.slice oa no oc)) := fun W hb => by
    have k := HK.out.later hb
    exact ⟨k.cell 0, k.cell 1, k.cell 2, k.cell 3, k.cell 4, k.cell 5, k.cell 6, k.cell 7, k.cell 8, k.cell 9, k.cell 10, k.cell 11⟩
  clear HK
  have C1 := fun W => opPlace_any (nf : Int) (z : Int) W
  rw [show placeF nf z = true from by simp [placeF]; omega] at C1
  have C2 := fun W => opKey_any key W hk
  rw [hkey] at C2
  have x0 := cell_later HB0.out hcol
  have z0 : (0 : Int) ≤ (z : Int) := by omega
  have z1 : (z : Int) < (nf : Int) := by omega
  clear hcol
  cases put with
  | false =>
    go_enter Try.func51, Try.ntmps51
    go_wp2_with fail
    refine (C1 _).mono ?_
    rintro e w1 ⟨rfl, hw⟩
    subst w1
    go_wp2_with fail
    refine (C2 _).mono ?_
    rintro e w1 ⟨rfl, hw⟩
    subst w1
    go_wp2_with fail
    refine (C _ HB0.out).mono ?_
    rintro e w1 ⟨rfl, hb1⟩
    have HB1 : Hid (Below w.heap.size w w1) := chain HB0.out hb1
    clear hb1
    go_wp2
    go_ret
    exact ⟨rfl, HB1.out⟩
  | true =>
    go_enter Try.func51, Try.ntmps51
    go_wp2_with fail
    refine (C1 _).mono ?_
    rintro e w1 ⟨rfl, hw⟩
    subst w1
    go_wp2_with fail
    refine (C2 _).mono ?_
    rintro e w1 ⟨rfl, hw⟩
    subst w1
    go_wp2_with fail
    refine (C _ HB0.out).mono ?_
    rintro e w1 ⟨rfl, hb1⟩
    obtain ⟨f0, f1, f2, f3, f4, f5, f6, f7, f8, f9, f10, f11⟩ := HC.out w1 hb1
    have HB1 : Hid (Below w.heap.size w w1) := chain HB0.out hb1
    clear hb1
    by_cases h1 : col = 0
    · subst h1
      by_cases h2 : no = 0
      · subst h2
        go_wp2
        go_ret
        exact ⟨by first | rfl | simp, HB1.out⟩
      · have q2 : ((no : Int) == 0) = false := by simp; omega
        go_wp2
        go_ret
        exact ⟨by simp, HB1.out⟩
    · have q1 : (col == 0) = false := by simp [h1]
      go_wp2
      go_ret
      exact ⟨by simp [h1], HB1.out⟩

set_option maxRecDepth 100000 in
set_option maxHeartbeats 4000000 in
theorem opWithin_none (dp dn sp sl sq kind table col : Int) (key : ByteArray) (da va oa : Option Addr) (m nv no dc vc oc : Nat) (bf of_ nf fcap z : Nat) (ac : Option Addr) (nc cc : Nat) (w : World) (hk : key.size ≤ 9223372036854775807) (hkey : keyF key = true) (htab : table = z) (hz : z < nf) (hnf : nf ≤ 65536) (hkind : kind ≠ 1 ∧ kind ≠ 2 ∧ kind ≠ 3)
    (hcol : w.cell? ⟨bf, of_ + z, none⟩ = some (.slice ac nc cc)) :
    Calls Try.prog 51 #[.slice (some ⟨bf, of_, none⟩) nf fcap, .agg #[.int .i64 dp, .int .i64 dn, .slice da m dc, .int .i64 sp, .int .i64 sl, .int .i64 sq, .int .i64 kind, .int .i64 table, .string key, .int .i64 col, .slice va nv vc, .slice oa no oc]] w fun e w' => e = .returned (.bool false) ∧ Below w.heap.size w w' := by
  subst htab
  have HK : Hid (CellsAt (w.alloc (.cells #[.int .i64 dp, .int .i64 dn, .slice da m dc, .int .i64 sp, .int .i64 sl, .int .i64 sq, .int .i64 kind, .int .i64 (z : Int), .string key, .int .i64 col, .slice va nv vc, .slice oa no oc] 32)) w.heap.size #[.int .i64 dp, .int .i64 dn, .slice da m dc, .int .i64 sp, .int .i64 sl, .int .i64 sq, .int .i64 kind, .int .i64 (z : Int), .string key, .int .i64 col, .slice va nv vc, .slice oa no oc] 32) := CellsAt.made rfl
  have HB0 : Hid (Below w.heap.size w (w.alloc (.cells #[.int .i64 dp, .int .i64 dn, .slice da m dc, .int .i64 sp, .int .i64 sl, .int .i64 sq, .int .i64 kind, .int .i64 (z : Int), .string key, .int .i64 col, .slice va nv vc, .slice oa no oc] 32))) := alloc_below _ _
  have HC : Hid (∀ W, Below (w.alloc (.cells #[.int .i64 dp, .int .i64 dn, .slice da m dc, .int .i64 sp, .int .i64 sl, .int .i64 sq, .int .i64 kind, .int .i64 (z : Int), .string key, .int .i64 col, .slice va nv vc, .slice oa no oc] 32)).heap.size (w.alloc (.cells #[.int .i64 dp, .int .i64 dn, .slice da m dc, .int .i64 sp, .int .i64 sl, .int .i64 sq, .int .i64 kind, .int .i64 (z : Int), .string key, .int .i64 col, .slice va nv vc, .slice oa no oc] 32)) W → W.cell? ⟨w.heap.size, 0, none⟩ = some (.int .i64 dp) ∧ W.cell? ⟨w.heap.size, 1, none⟩ = some (.int .i64 dn) ∧ W.cell? ⟨w.heap.size, 2, none⟩ = some (.slice da m dc) ∧ W.cell? ⟨w.heap.size, 3, none⟩ = some (.int .i64 sp) ∧ W.cell? ⟨w.heap.size, 4, none⟩ = some (.int .i64 sl) ∧ W.cell? ⟨w.heap.size, 5, none⟩ = some (.int .i64 sq) ∧ W.cell? ⟨w.heap.size, 6, none⟩ = some (.int .i64 kind) ∧ W.cell? ⟨w.heap.size, 7, none⟩ = some (.int .i64 (z : Int)) ∧ W.cell? ⟨w.heap.size, 8, none⟩ = some (.string key) ∧ W.cell? ⟨w.heap.size, 9, none⟩ = some (.int .i64 col) ∧ W.cell? ⟨w.heap.size, 10, none⟩ = some (.slice va nv vc) ∧ W.cell? ⟨w.heap.size, 11, none⟩ = some (.slice oa no oc)) := fun W hb => by
    have k := HK.out.later hb
    exact ⟨k.cell 0, k.cell 1, k.cell 2, k.cell 3, k.cell 4, k.cell 5, k.cell 6, k.cell 7, k.cell 8, k.cell 9, k.cell 10, k.cell 11⟩
  clear HK
  have C1 := fun W => opPlace_any (nf : Int) (z : Int) W
  rw [show placeF nf z = true from by simp [placeF]; omega] at C1
  have C2 := fun W => opKey_any key W hk
  rw [hkey] at C2
  have x0 := cell_later HB0.out hcol
  have z0 : (0 : Int) ≤ (z : Int) := by omega
  have z1 : (z : Int) < (nf : Int) := by omega
  obtain ⟨k1, k2, k3⟩ := hkind
  have k1' : (kind == 1) = false := by simp [k1]
  have k2' : (kind == 2) = false := by simp [k2]
  have k3' : (kind == 3) = false := by simp [k3]
  clear hcol
  go_enter Try.func51, Try.ntmps51
  go_wp2_with fail
  refine (C1 _).mono ?_
  rintro e w1 ⟨rfl, hw⟩
  subst w1
  go_wp2_with fail
  refine (C2 _).mono ?_
  rintro e w1 ⟨rfl, hw⟩
  subst w1
  go_wp2
  go_ret
  exact ⟨rfl, HB0.out⟩

set_option maxRecDepth 100000 in
set_option maxHeartbeats 4000000 in
/-- op.Check, whatever its parts answer. -/
theorem opCheck_of (dp dn sp sl sq kind table col : Int) (key : ByteArray) (da va oa : Option Addr) (m nv no dc vc oc : Nat) (n : Int) (af : Option Addr) (nf fcap : Nat) (cf : Int) (b1 b2 : Bool) (w : World)
    (C1 : ∀ W, Below w.heap.size w W → Calls Try.prog 49 #[.slice af nf fcap] W fun e w' => e = .returned (.int .i64 cf) ∧ Below W.heap.size W w')
    (C2 : ∀ W, Below w.heap.size w W → Calls Try.prog 50 #[.int .i64 n, .agg #[.int .i64 dp, .int .i64 dn, .slice da m dc, .int .i64 sp, .int .i64 sl, .int .i64 sq, .int .i64 kind, .int .i64 table, .string key, .int .i64 col, .slice va nv vc, .slice oa no oc]] W fun e w' => e = .returned (.bool b1) ∧ Below W.heap.size W w')
    (C3 : ∀ W, Below w.heap.size w W → Calls Try.prog 51 #[.slice af nf fcap, .agg #[.int .i64 dp, .int .i64 dn, .slice da m dc, .int .i64 sp, .int .i64 sl, .int .i64 sq, .int .i64 kind, .int .i64 table, .string key, .int .i64 col, .slice va nv vc, .slice oa no oc]] W fun e w' => e = .returned (.bool b2) ∧ Below W.heap.size W w') :
    Calls Try.prog 17 #[.int .i64 n, .slice af nf fcap, .agg #[.int .i64 dp, .int .i64 dn, .slice da m dc, .int .i64 sp, .int .i64 sl, .int .i64 sq, .int .i64 kind, .int .i64 table, .string key, .int .i64 col, .slice va nv vc, .slice oa no oc]] w fun e w' => e = .returned (.int .i64 (if cf ≠ 0 then cf else if (decide (1 ≤ n ∧ n ≤ 5) && b1 && b2) = true then 0 else 1)) ∧ Below w.heap.size w w' := by
  have HK : Hid (CellsAt (w.alloc (.cells #[.int .i64 dp, .int .i64 dn, .slice da m dc, .int .i64 sp, .int .i64 sl, .int .i64 sq, .int .i64 kind, .int .i64 table, .string key, .int .i64 col, .slice va nv vc, .slice oa no oc] 32)) w.heap.size #[.int .i64 dp, .int .i64 dn, .slice da m dc, .int .i64 sp, .int .i64 sl, .int .i64 sq, .int .i64 kind, .int .i64 table, .string key, .int .i64 col, .slice va nv vc, .slice oa no oc] 32) := CellsAt.made rfl
  have HB0 : Hid (Below w.heap.size w (w.alloc (.cells #[.int .i64 dp, .int .i64 dn, .slice da m dc, .int .i64 sp, .int .i64 sl, .int .i64 sq, .int .i64 kind, .int .i64 table, .string key, .int .i64 col, .slice va nv vc, .slice oa no oc] 32))) := alloc_below _ _
  have HC : Hid (∀ W, Below (w.alloc (.cells #[.int .i64 dp, .int .i64 dn, .slice da m dc, .int .i64 sp, .int .i64 sl, .int .i64 sq, .int .i64 kind, .int .i64 table, .string key, .int .i64 col, .slice va nv vc, .slice oa no oc] 32)).heap.size (w.alloc (.cells #[.int .i64 dp, .int .i64 dn, .slice da m dc, .int .i64 sp, .int .i64 sl, .int .i64 sq, .int .i64 kind, .int .i64 table, .string key, .int .i64 col, .slice va nv vc, .slice oa no oc] 32)) W → W.cell? ⟨w.heap.size, 0, none⟩ = some (.int .i64 dp) ∧ W.cell? ⟨w.heap.size, 1, none⟩ = some (.int .i64 dn) ∧ W.cell? ⟨w.heap.size, 2, none⟩ = some (.slice da m dc) ∧ W.cell? ⟨w.heap.size, 3, none⟩ = some (.int .i64 sp) ∧ W.cell? ⟨w.heap.size, 4, none⟩ = some (.int .i64 sl) ∧ W.cell? ⟨w.heap.size, 5, none⟩ = some (.int .i64 sq) ∧ W.cell? ⟨w.heap.size, 6, none⟩ = some (.int .i64 kind) ∧ W.cell? ⟨w.heap.size, 7, none⟩ = some (.int .i64 table) ∧ W.cell? ⟨w.heap.size, 8, none⟩ = some (.string key) ∧ W.cell? ⟨w.heap.size, 9, none⟩ = some (.int .i64 col) ∧ W.cell? ⟨w.heap.size, 10, none⟩ = some (.slice va nv vc) ∧ W.cell? ⟨w.heap.size, 11, none⟩ = some (.slice oa no oc)) := fun W hb => by
    have k := HK.out.later hb
    exact ⟨k.cell 0, k.cell 1, k.cell 2, k.cell 3, k.cell 4, k.cell 5, k.cell 6, k.cell 7, k.cell 8, k.cell 9, k.cell 10, k.cell 11⟩
  clear HK
  by_cases hc : cf = 0
  case neg =>
    rw [if_pos hc]
    have q0 : (cf != 0) = true := by simp [hc]
    go_enter Try.func17, Try.ntmps17
    go_wp2_with fail
    refine (C1 _ HB0.out).mono ?_
    rintro e w1 ⟨rfl, hb1⟩
    have HB1 : Hid (Below w.heap.size w w1) := chain HB0.out hb1
    clear hb1
    go_wp2
    go_ret
    exact ⟨rfl, HB1.out⟩
  subst hc
  rw [if_neg (by simp)]
  by_cases h1 : n < 1
  case pos =>
    rw [show decide (1 ≤ n ∧ n ≤ 5) = false from by simp; omega]
    go_enter Try.func17, Try.ntmps17
    go_wp2_with fail
    refine (C1 _ HB0.out).mono ?_
    rintro e w1 ⟨rfl, hb1⟩
    have HB1 : Hid (Below w.heap.size w w1) := chain HB0.out hb1
    clear hb1
    go_wp2
    go_ret
    exact ⟨rfl, HB1.out⟩
  by_cases h5 : 5 < n
  case pos =>
    rw [show decide (1 ≤ n ∧ n ≤ 5) = false from by simp; omega]
    go_enter Try.func17, Try.ntmps17
    go_wp2_with fail
    refine (C1 _ HB0.out).mono ?_
    rintro e w1 ⟨rfl, hb1⟩
    have HB1 : Hid (Below w.heap.size w w1) := chain HB0.out hb1
    clear hb1
    go_wp2
    go_ret
    exact ⟨rfl, HB1.out⟩
  rw [show decide (1 ≤ n ∧ n ≤ 5) = true from by simp; omega]
  cases b1 with
  | false =>
    go_enter Try.func17, Try.ntmps17
    go_wp2_with fail
    refine (C1 _ HB0.out).mono ?_
    rintro e w1 ⟨rfl, hb1⟩
    obtain ⟨f0, f1, f2, f3, f4, f5, f6, f7, f8, f9, f10, f11⟩ := HC.out w1 hb1
    have HB1 : Hid (Below w.heap.size w w1) := chain HB0.out hb1
    clear hb1
    go_wp2_with fail
    refine (C2 _ HB1.out).mono ?_
    rintro e w2 ⟨rfl, hb2⟩
    have HB2 : Hid (Below w.heap.size w w2) := chain HB1.out hb2
    clear hb2
    go_wp2
    go_ret
    exact ⟨by cases b2 <;> rfl, HB2.out⟩
  | true =>
    go_enter Try.func17, Try.ntmps17
    go_wp2_with fail
    refine (C1 _ HB0.out).mono ?_
    rintro e w1 ⟨rfl, hb1⟩
    have HBo : Hid (Below (w.alloc (.cells #[.int .i64 dp, .int .i64 dn, .slice da m dc, .int .i64 sp, .int .i64 sl, .int .i64 sq, .int .i64 kind, .int .i64 table, .string key, .int .i64 col, .slice va nv vc, .slice oa no oc] 32)).heap.size (w.alloc (.cells #[.int .i64 dp, .int .i64 dn, .slice da m dc, .int .i64 sp, .int .i64 sl, .int .i64 sq, .int .i64 kind, .int .i64 table, .string key, .int .i64 col, .slice va nv vc, .slice oa no oc] 32)) w1) := hb1
    obtain ⟨f0, f1, f2, f3, f4, f5, f6, f7, f8, f9, f10, f11⟩ := HC.out w1 hb1
    have HB1 : Hid (Below w.heap.size w w1) := chain HB0.out hb1
    clear hb1
    go_wp2_with fail
    refine (C2 _ HB1.out).mono ?_
    rintro e w2 ⟨rfl, hb2⟩
    obtain ⟨g0, g1, g2, g3, g4, g5, g6, g7, g8, g9, g10, g11⟩ := HC.out w2 (chain HBo.out hb2)
    have HB2 : Hid (Below w.heap.size w w2) := chain HB1.out hb2
    clear hb2
    go_wp2_with fail
    refine (C3 _ HB2.out).mono ?_
    rintro e w3 ⟨rfl, hb3⟩
    have HB3 : Hid (Below w.heap.size w w3) := chain HB2.out hb3
    clear hb3
    cases b2 with
    | true =>
      go_wp2
      go_ret
      exact ⟨rfl, HB3.out⟩
    | false =>
      go_wp2
      go_ret
      exact ⟨rfl, HB3.out⟩

end Go.Proofs.Ytfijnmleadgapaa

namespace Go.Proofs.Ytfijnmleadgapaa
open Go.RowKit Go.Lib
set_option linter.unusedVariables false

/-- The operation that wakes has. -/
def xW : PO := ⟨0, 2, [1], 0, 0, 0, 3, 0, ⟨#[107]⟩, 0, [], [(0, 1)]⟩

def lW : List UInt8 := [3, 0, 0, 0, 0, 2, 1, 0, 0, 0, 1, 0, 0, 0, 0, 0, 0, 0, 0, 0, 0, 0, 1, 107, 0, 0, 1, 0, 0, 0, 0, 1]

theorem putW : putO xW = (lW, 0) := by kernel_rfl

theorem readW : readO lW 0 = (xW, 32, 0) := by kernel_rfl

theorem cell_lt {w : World} {b o : Nat} {v : Value} (h : w.cell? ⟨b, o, none⟩ = some v) : b < w.heap.size := by
  rcases Nat.lt_or_ge b w.heap.size with h1 | h1
  · exact h1
  · simp [World.cell?, Array.getElem?_eq_none h1] at h

theorem Rd.lt {w : World} {a : Option Addr} {l : List UInt8} (h : Rd w a l) (h0 : 0 < l.length) : ∀ b o, a = some ⟨b, o, none⟩ → b < w.heap.size := by
  intro b o e
  obtain ⟨b', o', e', hc⟩ := h h0
  rw [e] at e'
  simp only [Option.some.injEq, Addr.mk.injEq, and_true] at e'
  obtain ⟨rfl, rfl⟩ := e'
  exact cell_lt (hc 0 h0)

/-- The world in which wakes' operation lies, and its lists. -/
abbrev w0W (w : World) : World := (w.alloc (.cells #[.int .i64 1] 3)).alloc (.cells #[.int .i64 0, .int .i64 1] 25)

theorem liesW (w : World) : LiesO (w0W w) xW (some ⟨w.heap.size, 0, none⟩) none (some ⟨w.heap.size + 1, 0, none⟩) 1 0 1 := by
  have c0 : (w0W w).cell? ⟨w.heap.size, 0, none⟩ = some (.int .i64 1) := cell_later (alloc_below _ _) (cell_new w _ rfl _ _)
  have c1 := box2 (w.alloc (.cells #[.int .i64 1] 3)) (w.heap.size + 1) (by simp) (.int .i64 0) (.int .i64 1) 25
  refine ⟨rdI_of c0, (fun h => absurd h (by decide)), fun _ => ⟨_, 0, rfl, fun i hi => ?_⟩, by decide, by decide, by decide, by decide, by decide, by decide, (fun h => by cases h), (fun _ => ⟨rfl, rfl⟩), (fun h => by cases h), by decide, fun b o e => ?_, (fun b o e => by cases e), fun b o e => ?_⟩
  · obtain rfl : i = 0 := by have : i < 1 := hi; omega
    exact c1
  · simp only [Option.some.injEq, Addr.mk.injEq, and_true] at e
    rw [← e.1]
    simp
    omega
  · simp only [Option.some.injEq, Addr.mk.injEq, and_true] at e
    rw [← e.1]
    simp

theorem LiesO.later {w w' : World} {x : PO} {da va oa : Option Addr} {dc vc oc : Nat} (h : LiesO w x da va oa dc vc oc) (hb : Below w.heap.size w w') : LiesO w' x da va oa dc vc oc :=
  ⟨h.deps.later hb, h.vals.later hb, h.dots.later hb, h.ld, h.lv, h.lo, h.cd, h.cv, h.co, h.nd, h.nv, h.no, h.key, fun b o e => Nat.lt_of_lt_of_le (h.hd b o e) hb.size, fun b o e => Nat.lt_of_lt_of_le (h.hv b o e) hb.size, fun b o e => Nat.lt_of_lt_of_le (h.ho b o e) hb.size⟩

theorem i64W : I64O xW := by
  have two : ∀ x y : Int, (-4294967296 ≤ x ∧ x ≤ 4294967296) → (-4294967296 ≤ y ∧ y ≤ 4294967296) → In64 x ∧ In64 y := fun x y hx hy => ⟨in64 hx, in64 hy⟩
  refine ⟨fun v hv => ?_, in64 (by decide), in64 (by decide), ⟨in64 (by decide), in64 (by decide), in64 (by decide)⟩, fun d hd => ?_, in64 (by decide), in64 (by decide)⟩
  · have : v = 1 := by simpa [xW] using hv
    rw [this]
    exact in64 (by decide)
  · have : d = (0, 1) := by simpa [xW] using hd
    rw [this]
    exact two 0 1 (by decide) (by decide)

/-- Forms of one table with one column. -/
theorem rowsW (w : World) : RdII ((w.alloc (.cells #[.int .i64 3] 3)).alloc (.cells #[.slice (some ⟨w.heap.size, 0, none⟩) 1 1] 51)) (some ⟨w.heap.size + 1, 0, none⟩) [[3]] := by
  refine fun _ => ⟨_, 0, rfl, fun i hi => ?_⟩
  obtain rfl : i = 0 := by have : i < 1 := hi; omega
  refine ⟨_, cell_new _ _ (by simp) _ _, some ⟨w.heap.size, 0, none⟩, 1, rfl, Nat.le_refl _, ?_, fun h => by cases h⟩
  exact rdI_of (cell_later (alloc_below _ _) (cell_new w _ rfl _ _))

set_option maxRecDepth 100000 in
set_option maxHeartbeats 4000000 in
theorem owakes_any (w : World) :
    Calls Try.prog 13 #[] w fun e w' => e = .returned (.bool true) ∧ Below w.heap.size w w' := by
  obtain ⟨B, hBB⟩ : ∃ B : World, B = (w0W w).alloc (.cells #[.int .i64 0, .int .i64 2, .slice (some ⟨w.heap.size, 0, none⟩) 1 1, .int .i64 0, .int .i64 0, .int .i64 0, .int .i64 3, .int .i64 0, .string ⟨#[107]⟩, .int .i64 0, .slice none 0 0, .slice (some ⟨w.heap.size + 1, 0, none⟩) 1 1] 32) := ⟨_, rfl⟩
  have HBB : Hid (B = (w0W w).alloc (.cells #[.int .i64 0, .int .i64 2, .slice (some ⟨w.heap.size, 0, none⟩) 1 1, .int .i64 0, .int .i64 0, .int .i64 0, .int .i64 3, .int .i64 0, .string ⟨#[107]⟩, .int .i64 0, .slice none 0 0, .slice (some ⟨w.heap.size + 1, 0, none⟩) 1 1] 32)) := hBB
  have HB0 : Hid (Below w.heap.size w B) := by rw [hBB]; exact chain (below_two _ _ _) (alloc_below _ _)
  have HX : Hid (LiesO B xW (some ⟨w.heap.size, 0, none⟩) none (some ⟨w.heap.size + 1, 0, none⟩) 1 0 1) := by rw [hBB]; exact (liesW w).later (alloc_below _ _)
  have HK : Hid (CellsAt B (w.heap.size + 1 + 1) #[.int .i64 0, .int .i64 2, .slice (some ⟨w.heap.size, 0, none⟩) 1 1, .int .i64 0, .int .i64 0, .int .i64 0, .int .i64 3, .int .i64 0, .string ⟨#[107]⟩, .int .i64 0, .slice none 0 0, .slice (some ⟨w.heap.size + 1, 0, none⟩) 1 1] 32) := by rw [hBB]; exact CellsAt.made (by simp [w0W])
  have HC : Hid (∀ W, Below B.heap.size B W → W.cell? ⟨w.heap.size + 1 + 1, 0, none⟩ = some (.int .i64 0) ∧ W.cell? ⟨w.heap.size + 1 + 1, 1, none⟩ = some (.int .i64 2) ∧ W.cell? ⟨w.heap.size + 1 + 1, 2, none⟩ = some (.slice (some ⟨w.heap.size, 0, none⟩) 1 1) ∧ W.cell? ⟨w.heap.size + 1 + 1, 3, none⟩ = some (.int .i64 0) ∧ W.cell? ⟨w.heap.size + 1 + 1, 4, none⟩ = some (.int .i64 0) ∧ W.cell? ⟨w.heap.size + 1 + 1, 5, none⟩ = some (.int .i64 0) ∧ W.cell? ⟨w.heap.size + 1 + 1, 6, none⟩ = some (.int .i64 3) ∧ W.cell? ⟨w.heap.size + 1 + 1, 7, none⟩ = some (.int .i64 0) ∧ W.cell? ⟨w.heap.size + 1 + 1, 8, none⟩ = some (.string ⟨#[107]⟩) ∧ W.cell? ⟨w.heap.size + 1 + 1, 9, none⟩ = some (.int .i64 0) ∧ W.cell? ⟨w.heap.size + 1 + 1, 10, none⟩ = some (.slice none 0 0) ∧ W.cell? ⟨w.heap.size + 1 + 1, 11, none⟩ = some (.slice (some ⟨w.heap.size + 1, 0, none⟩) 1 1)) := fun W hb => by
    have k := HK.out.later hb
    exact ⟨k.cell 0, k.cell 1, k.cell 2, k.cell 3, k.cell 4, k.cell 5, k.cell 6, k.cell 7, k.cell 8, k.cell 9, k.cell 10, k.cell 11⟩
  clear hBB HK
  have C1 := opBytes_any xW _ _ _ _ _ _ B HX.out
  rw [putW] at C1
  go_enter Try.func13, Try.ntmps13
  go_wp2_with fail
  have hBB := HBB.out
  simp only [w0W] at hBB
  rw [← hBB]
  clear hBB HBB
  refine C1.mono ?_
  rintro e w1 ⟨a1, n1, c1, rfl, hn1, hl1, hc1, hr1, hnl1, hb1⟩
  simp only at hn1 hr1 hnl1 ⊢
  obtain rfl : n1 = 32 := by rw [← hn1]; rfl
  have HR1 : Hid (Rd w1 a1 lW) := hr1
  have HB1 : Hid (Below B.heap.size B w1) := hb1
  clear hn1 hr1 hnl1 hb1 C1
  have C2 := opRead_any a1 32 c1 lW 0 w1 HR1.out (HR1.out.lt (by decide)) rfl (by omega) hc1
  rw [readW] at C2
  go_wp2_with fail
  refine C2.mono ?_
  rintro e w2 ⟨da2, va2, oa2, dc2, vc2, oc2, rfl, hL2, hb2⟩
  simp only [cellsO, xW, List.length_cons, List.length_nil, Nat.zero_add]
  have HY2 : Hid (LiesO w2 xW da2 va2 oa2 dc2 vc2 oc2) := hL2
  have HB2 : Hid (Below B.heap.size B w2) := chain HB1.out hb2
  clear hL2 hb2 C2 HR1 HB1
  have HB3 : Hid (Below B.heap.size B (w2.alloc (.cells #[.int .i64 0, .int .i64 2, .slice da2 1 dc2, .int .i64 0, .int .i64 0, .int .i64 0, .int .i64 3, .int .i64 0, .string ⟨#[107]⟩, .int .i64 0, .slice va2 0 vc2, .slice oa2 1 oc2] 32))) := chain HB2.out (alloc_below _ _)
  have HY3 : Hid (LiesO (w2.alloc (.cells #[.int .i64 0, .int .i64 2, .slice da2 1 dc2, .int .i64 0, .int .i64 0, .int .i64 0, .int .i64 3, .int .i64 0, .string ⟨#[107]⟩, .int .i64 0, .slice va2 0 vc2, .slice oa2 1 oc2] 32)) xW da2 va2 oa2 dc2 vc2 oc2) := HY2.out.later (alloc_below _ _)
  obtain ⟨f0, f1, f2, f3, f4, f5, f6, f7, f8, f9, f10, f11⟩ := HC.out _ HB3.out
  have C3 := keepOp_same xW _ _ _ _ _ _ _ _ _ _ _ _ (w2.alloc (.cells #[.int .i64 0, .int .i64 2, .slice da2 1 dc2, .int .i64 0, .int .i64 0, .int .i64 0, .int .i64 3, .int .i64 0, .string ⟨#[107]⟩, .int .i64 0, .slice va2 0 vc2, .slice oa2 1 oc2] 32)) (HX.out.later HB3.out) HY3.out
  simp only [cellsO, xW, List.length_cons, List.length_nil, Nat.zero_add] at C3
  go_wp2_with fail
  refine C3.mono ?_
  rintro e w4 ⟨rfl, hb4⟩
  have HB4 : Hid (Below B.heap.size B w4) := chain HB3.out hb4
  clear hb4 C3 HY2 HY3 HB2 HB3 f0 f1 f2 f3 f4 f5 f6 f7 f8 f9 f10 f11
  have HB5 : Hid (Below B.heap.size B ((w4.alloc (.cells #[.int .i64 3] 3)).alloc (.cells #[.slice (some ⟨w4.heap.size, 0, none⟩) 1 1] 51))) := chain HB4.out (below_two _ _ _)
  have HF5 : Hid (RdII ((w4.alloc (.cells #[.int .i64 3] 3)).alloc (.cells #[.slice (some ⟨w4.heap.size, 0, none⟩) 1 1] 51)) (some ⟨w4.heap.size + 1, 0, none⟩) [[3]]) := rowsW w4
  obtain ⟨f0, f1, f2, f3, f4, f5, f6, f7, f8, f9, f10, f11⟩ := HC.out _ HB5.out
  have D1 := fun (W : World) (hb : Below ((w4.alloc (.cells #[.int .i64 3] 3)).alloc (.cells #[.slice (some ⟨w4.heap.size, 0, none⟩) 1 1] 51)).heap.size ((w4.alloc (.cells #[.int .i64 3] 3)).alloc (.cells #[.slice (some ⟨w4.heap.size, 0, none⟩) 1 1] 51)) W) => opForms_any (some ⟨w4.heap.size + 1, 0, none⟩) 1 1 [[3]] W rfl (by omega) (fun v hv => by simp at hv; subst hv; decide) (HF5.out.later hb)
  rw [show formsF [[3]] = 0 from by decide] at D1
  have D2 := fun (W : World) (hb : Below ((w4.alloc (.cells #[.int .i64 3] 3)).alloc (.cells #[.slice (some ⟨w4.heap.size, 0, none⟩) 1 1] 51)).heap.size ((w4.alloc (.cells #[.int .i64 3] 3)).alloc (.cells #[.slice (some ⟨w4.heap.size, 0, none⟩) 1 1] 51)) W) => opIssued_any 1 xW _ _ _ _ _ _ W (HX.out.later (chain HB5.out hb)) i64W
  rw [show issuedF 1 xW = true from by decide] at D2
  simp only [cellsO, xW, List.length_cons, List.length_nil, Nat.zero_add] at D2
  have D3 := fun (W : World) (hb : Below ((w4.alloc (.cells #[.int .i64 3] 3)).alloc (.cells #[.slice (some ⟨w4.heap.size, 0, none⟩) 1 1] 51)).heap.size ((w4.alloc (.cells #[.int .i64 3] 3)).alloc (.cells #[.slice (some ⟨w4.heap.size, 0, none⟩) 1 1] 51)) W) => opWithin_del 0 2 0 0 0 3 0 0 ⟨#[107]⟩ (some ⟨w.heap.size, 0, none⟩) none (some ⟨w.heap.size + 1, 0, none⟩) 1 0 1 1 0 1 (w4.heap.size + 1) 0 1 1 0 (some ⟨w4.heap.size, 0, none⟩) 1 1 true W (by decide) (by decide) rfl (by omega) (by omega) rfl (cell_later hb (cell_new _ _ (by simp) _ _)) (fun V hV => by
    have := opRem_any (some ⟨w.heap.size + 1, 0, none⟩) (some ⟨w.heap.size, 0, none⟩) 1 1 1 1 [(0, 1)] [1] V rfl (by omega) rfl (by omega) (HX.out.later (chain HB5.out (chain hb hV))).dots (HX.out.later (chain HB5.out (chain hb hV))).deps i64W.deps i64W.dots
    rwa [show remF [1] [(0, 1)] = true from by decide] at this)
  have D4 := opCheck_of 0 2 0 0 0 3 0 0 ⟨#[107]⟩ (some ⟨w.heap.size, 0, none⟩) none (some ⟨w.heap.size + 1, 0, none⟩) 1 0 1 1 0 1 1 (some ⟨w4.heap.size + 1, 0, none⟩) 1 1 0 true true _ D1 D2 D3
  rw [if_neg (by decide), if_pos (by decide)] at D4
  clear D1 D2 D3
  go_wp2_with fail
  refine D4.mono ?_
  rintro e w6 ⟨rfl, hb6⟩
  have HB6 : Hid (Below w.heap.size w w6) := chain HB0.out (chain HB5.out hb6)
  clear hb6 D4
  have D5 := opKey_any ⟨#[107]⟩ w6 (by decide)
  rw [show keyF ⟨#[107]⟩ = true from by decide] at D5
  go_wp2_with fail
  refine D5.mono ?_
  rintro e w7 ⟨rfl, hw⟩
  subst w7
  go_wp2
  go_ret
  exact ⟨rfl, HB6.out⟩

end Go.Proofs.Ytfijnmleadgapaa

namespace Go.Proofs.Ytfijnmleadgapaa
open Go.RowKit Go.Lib
set_option linter.unusedVariables false

theorem Try.infoDt : (Try.prog.info? 25).map (fun i => (i.zero, i.size, i.bytes)) = some (some (.agg #[.int .i64 0, .int .i64 0]), 2, 16) := by kernel_rfl

theorem OwnD.nought (w : World) (B : Nat) : OwnD w B (.slice none 0 0) [] := World.ownsRow_nil w B 25 2

theorem OwnD.later {w w' : World} {B : Nat} {v : Value} {ds : List (Int × Int)} (h : OwnD w B v ds) (hb : Below w.heap.size w w') : OwnD w' B v ds := by
  obtain ⟨h1, h2⟩ := h
  refine ⟨h1, ?_⟩
  rcases h2 with h2 | ⟨g, cap, cur, hv, hg, hh, hc⟩
  · exact .inl h2
  · exact .inr ⟨g, cap, cur, hv, hg, (hb.block g (heap_lt hh)).trans hh, hc⟩

/-- append(v, d). -/
theorem run_append_dot {w : World} {B ty n s : Nat} {v : Value} {xs : List (Int × Int)} {p q : Int} (hown : OwnD w B v xs) (hn : xs.length = n) (h1 : n ≤ 65536) (hB : B ≤ w.heap.size) (c0 : w.cell? ⟨s, 0, none⟩ = some (.int .i64 p)) (c1 : w.cell? ⟨s, 1, none⟩ = some (.int .i64 q)) :
    ∃ a' cap' w', (Builtin.append_ #[30, 30] ty #[v, .slice (some ⟨s, 0, none⟩) 1 1]).run Try.prog w = .ok (.slice a' (n + 1) cap') w' ∧ n + 1 ≤ cap' ∧ OwnD w' B (.slice a' (n + 1) cap') (xs ++ [(p, q)]) ∧ w.heap.size ≤ w'.heap.size ∧ Below B w w' := by
  subst hn
  obtain ⟨i0, hi, hz0, hz1, hz2⟩ := info_parts Try.infoDt
  obtain ⟨v', w', hrun, ho, hg, _⟩ := run_append_own (P := Try.prog) (w := w) B 30 ty 25 i0 (.agg #[.int .i64 0, .int .i64 0]) 2 16 Try.underlying30 hi hz0 hz1 hz2 rfl (by decide) v xs.length (cellsDs xs) hown ⟨s, 0, none⟩ 1 1 [.int .i64 p, .int .i64 q] rfl (fun j u hj => by
    rw [add_plain3]
    rcases j with _ | _ | j
    · simp at hj; subst hj; exact c0
    · simp at hj; subst hj; exact c1
    · simp at hj) (by intro u hu; simp at hu; rcases hu with rfl | rfl <;> rfl) (by unfold maxLen; omega) (by omega) hB
  have ho' : OwnD w' B v' (xs ++ [(p, q)]) := by
    unfold OwnD
    rw [List.length_append, cellsDs_append]
    exact ho
  obtain ⟨a', cap', rfl, hc, _, _⟩ := ho'.form
  rw [List.length_append] at hrun ho' hc
  exact ⟨a', cap', w', hrun, hc, ho', hg.size, (Below.refl _ _).grown hg hB (fun k hk => (World.ownsRow.lt hown k hk).1)⟩

/-- The first n dots of the first peer. -/
def dsN (n : Nat) : List (Int × Int) := (List.range n).map fun i : Nat => ((0 : Int), (i : Int) + 1)

theorem dsN_len (n : Nat) : (dsN n).length = n := by simp [dsN]

theorem dsN_succ (n : Nat) : dsN (n + 1) = dsN n ++ [((0 : Int), (n : Int) + 1)] := by simp [dsN, List.range_succ]

theorem dsN_at {n i : Nat} (h : i < n) : (dsN n)[i]? = some ((0 : Int), (i : Int) + 1) := by simp [dsN, h]

theorem has69 {k : Int} : hasD [69, 0] 0 k = decide (1 ≤ k ∧ k ≤ 69) := by simp [hasD, placeD, atD]

theorem rem_bad {deps : List Int} {ds : List (Int × Int)} {i : Nat} (hi : i < ds.length) (h : stepF deps ds i = false) : remF deps ds = false := by
  unfold remF
  rw [range_no hi h, Bool.and_false]

theorem rem_dsN {n : Nat} (h64 : n ≤ 65) : remF [69, 0] (dsN n) = decide (1 ≤ n ∧ n ≤ 64) := by
  unfold remF
  rw [dsN_len]
  by_cases h : 1 ≤ n ∧ n ≤ 64
  · have : (List.range n).all (stepF [69, 0] (dsN n)) = true := by
      rw [List.all_eq_true]
      intro i hi
      have hi' : i < n := by simpa using hi
      unfold stepF
      rw [dsN_at hi']
      simp only [Option.getD_some, has69]
      rcases Nat.eq_zero_or_pos i with h0 | h0
      · subst h0; simp
      · obtain ⟨j, rfl⟩ : ∃ j, i = j + 1 := ⟨i - 1, by omega⟩
        rw [Nat.add_sub_cancel, dsN_at (by omega)]
        simp [lessD]
        omega
    rw [this, Bool.and_true]
  · rw [decide_eq_false h, Bool.false_and]

theorem rem_no70 {n : Nat} (h1 : 1 ≤ n) : remF [69, 0] ((dsN n).set (n - 1) (0, 70)) = false := by
  have hl : n - 1 < (dsN n).length := by rw [dsN_len]; omega
  refine rem_bad (i := n - 1) (by rw [List.length_set]; exact hl) ?_
  unfold stepF
  rw [List.getElem?_set_self hl]
  simp [has69]

theorem rem_twice {n : Nat} (h1 : 1 ≤ n) : remF [69, 0] (dsN n ++ [((0 : Int), (n : Int))]) = false := by
  refine rem_bad (i := n) (by simp [dsN_len]) ?_
  obtain ⟨m, rfl⟩ : ∃ m, n = m + 1 := ⟨n - 1, by omega⟩
  unfold stepF
  have e1 : (dsN (m + 1) ++ [((0 : Int), ((m + 1 : Nat) : Int))])[m + 1]? = some ((0 : Int), ((m + 1 : Nat) : Int)) := by
    rw [List.getElem?_append_right (by rw [dsN_len]; exact Nat.le_refl _), dsN_len]
    simp
  have e2 : (dsN (m + 1) ++ [((0 : Int), ((m + 1 : Nat) : Int))])[m + 1 - 1]? = some ((0 : Int), (m : Int) + 1) := by
    rw [Nat.add_sub_cancel, List.getElem?_append_left (by rw [dsN_len]; omega), dsN_at (by omega)]
  rw [e1, e2]
  simp [lessD]

theorem rem_two {n : Nat} {q : Int} (h1 : 1 ≤ n) : remF [69, 0] ((dsN n).set 0 (2, q)) = false := by
  have hl : 0 < (dsN n).length := by rw [dsN_len]; omega
  refine rem_bad (i := 0) (by rw [List.length_set]; exact hl) ?_
  unfold stepF
  rw [List.getElem?_set_self hl]
  simp [hasD, placeD]

/-- OpDots' operation, with these dots. -/
def xD (ds : List (Int × Int)) : PO := ⟨1, 1, [69, 0], 0, 0, 1, 3, 0, ⟨#[107]⟩, 0, [], ds⟩

theorem i64D {ds : List (Int × Int)} (h : ∀ d ∈ ds, In64 d.1 ∧ In64 d.2) : I64O (xD ds) :=
  ⟨fun v hv => by
    have : v = 69 ∨ v = 0 := by simpa [xD] using hv
    rcases this with rfl | rfl
    · exact in64 (by decide)
    · exact in64 (by decide), (show In64 1 from in64 (by decide)), (show In64 1 from in64 (by decide)), ⟨(show In64 0 from in64 (by decide)), (show In64 0 from in64 (by decide)), (show In64 1 from in64 (by decide))⟩, h, (show In64 0 from in64 (by decide)), (show In64 0 from in64 (by decide))⟩

set_option maxRecDepth 100000 in
set_option maxHeartbeats 2000000 in
theorem ocheckD (W : World) (bf bc bd : Nat) (oa : Option Addr) (oc no : Nat) (ds : List (Int × Int)) (hcol : W.cell? ⟨bf, 0, none⟩ = some (.slice (some ⟨bc, 0, none⟩) 1 1)) (hF : RdII W (some ⟨bf, 0, none⟩) [[3]]) (hD : RdI .i64 W (some ⟨bd, 0, none⟩) [69, 0])
    (hO : RdD W oa ds) (hn : ds.length = no) (hno : no ≤ 65536) (hoc : no ≤ oc) (hnil : oa = none → ds = [] ∧ oc = 0) (hbd : bd < W.heap.size) (hbo : ∀ b o, oa = some ⟨b, o, none⟩ → b < W.heap.size) (h64 : ∀ d ∈ ds, In64 d.1 ∧ In64 d.2) :
    Calls Try.prog 17 #[.int .i64 2, .slice (some ⟨bf, 0, none⟩) 1 1, .agg #[.int .i64 1, .int .i64 1, .slice (some ⟨bd, 0, none⟩) 2 2, .int .i64 0, .int .i64 0, .int .i64 1, .int .i64 3, .int .i64 0, .string ⟨#[107]⟩, .int .i64 0, .slice none 0 0, .slice oa no oc]] W fun e w' => e = .returned (.int .i64 (if remF [69, 0] ds = true then 0 else 1)) ∧ Below W.heap.size W w' := by
  subst hn
  have hL : LiesO W (xD ds) (some ⟨bd, 0, none⟩) none oa 2 0 oc :=
    ⟨hD, (fun h => absurd h (by simp [xD])), hO, by simp [xD], by simp [xD], hno, by simp [xD], by simp [xD], hoc, (fun h => by cases h), (fun _ => ⟨rfl, rfl⟩), hnil, (show (⟨#[107]⟩ : ByteArray).size ≤ 9223372036854775807 by decide), (fun b o e => by simp only [Option.some.injEq, Addr.mk.injEq, and_true] at e; rw [← e.1]; exact hbd), (fun b o e => by cases e), hbo⟩
  have D1 := fun (V : World) (hb : Below W.heap.size W V) => opForms_any (some ⟨bf, 0, none⟩) 1 1 [[3]] V rfl (by omega) (fun v hv => by simp at hv; subst hv; decide) (hF.later hb)
  rw [show formsF [[3]] = 0 from by decide] at D1
  have D2 := fun (V : World) (hb : Below W.heap.size W V) => opIssued_any 2 (xD ds) _ _ _ _ _ _ V (hL.later hb) (i64D h64)
  rw [show issuedF 2 (xD ds) = true from (show issuedF 2 (xD []) = true by decide)] at D2
  simp only [cellsO, xD, List.length_cons, List.length_nil, Nat.zero_add] at D2
  have D3 := fun (V : World) (hb : Below W.heap.size W V) => opWithin_del 1 1 0 0 1 3 0 0 ⟨#[107]⟩ (some ⟨bd, 0, none⟩) none oa 2 0 ds.length 2 0 oc bf 0 1 1 0 (some ⟨bc, 0, none⟩) 1 1 (remF [69, 0] ds) V (by decide) (by decide) rfl (by omega) (by omega) rfl (cell_later hb hcol) (fun U hU => opRem_any oa (some ⟨bd, 0, none⟩) ds.length 2 oc 2 ds [69, 0] U rfl hno rfl (by omega) (hO.later (chain hb hU)) (hD.later (chain hb hU)) (i64D h64).deps h64)
  have D4 := opCheck_of 1 1 0 0 1 3 0 0 ⟨#[107]⟩ (some ⟨bd, 0, none⟩) none oa 2 0 ds.length 2 0 oc 2 (some ⟨bf, 0, none⟩) 1 1 0 true _ W D1 D2 D3
  refine D4.mono fun e w' ⟨he, hb⟩ => ⟨he.trans ?_, hb⟩
  cases remF [69, 0] ds <;> rfl

end Go.Proofs.Ytfijnmleadgapaa
