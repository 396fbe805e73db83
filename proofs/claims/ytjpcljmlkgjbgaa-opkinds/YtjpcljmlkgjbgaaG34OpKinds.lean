/-
  Texts of the proof of OpKinds, one behind the other.
-/
import Derived.Test.YtjpcljmlkgjbgaaRows
import Derived.Test.YtjpcljmlkgjbgaaG30OpKinds
import Derived.Test.YtjpcljmlkgjbgaaG33OpKinds
import Derived.WalkKit
import Derived.WalkSpells
import Derived.Deep.QuietTactic
import Derived.BigQuiet
import Derived.Test.YtjpcljmlkgjbgaaG26OpKinds
import Derived.Test.YtjpcljmlkgjbgaaG32OpKinds
import Derived.Test.YtjpcljmlkgjbgaaG17OpKinds
import Derived.Test.YtjpcljmlkgjbgaaG9OpKinds
import Derived.Test.YtjpcljmlkgjbgaaG19OpKinds
import Derived.Test.YtjpcljmlkgjbgaaG29OpKinds
import Derived.Test.YtjpcljmlkgjbgaaG21OpKinds
import Derived.Test.YtjpcljmlkgjbgaaG22OpKinds
import Derived.Test.YtjpcljmlkgjbgaaG14OpKinds
namespace Go.Proofs.Ytjpcljmlkgjbgaa
open Go.RowKit Go.Lib
set_option linter.unusedVariables false

/-- All blocks but N and the next stay. -/
def Past (N : Nat) (w w' : World) : Prop := Stay (fun b => b ≠ N ∧ b ≠ N + 1 ∧ b < w.heap.size) w w'

theorem Past.refl (N : Nat) (w : World) : Past N w w := Stay.refl _ w

theorem Past.trans {N : Nat} {a b c : World} (h : Past N a b) (k : Past N b c) : Past N a c :=
  Stay.trans h (Stay.mono k fun x hx => ⟨hx.1, hx.2.1, Nat.lt_of_lt_of_le hx.2.2 h.size⟩)

theorem Past.aside {N : Nat} {w w' : World} (h : Aside (N + 1) w w') : Past N w w' := Stay.mono h fun b hb => ⟨hb.2.1, hb.2.2⟩

theorem Past.of_below {N : Nat} {w w' : World} (h : Below w.heap.size w w') : Past N w w' := Stay.of_below h fun b hb => hb.2.2

theorem Past.set {N i : Nat} {w w1 : World} {v : Value} (h : Past N w w1) : Past N w (w1.setCell ⟨N, i, none⟩ v) :=
  Stay.setCell (p := ⟨N, i, none⟩) h (fun k => k.1 rfl) _

theorem Past.below {w0 w w' : World} (h : Past w0.heap.size w w') (h0 : Below w0.heap.size w0 w) : Below w0.heap.size w0 w' :=
  h0.trans (Stay.below h fun b hb => ⟨by omega, by omega, Nat.lt_of_lt_of_le hb h0.size⟩)

theorem OwnI.past {w w' : World} {N B : Nat} {v : Value} {L : List Int} (h : OwnI w B v L) (hs : Past N w w') (hg : N + 1 < B) : OwnI w' B v L := by
  obtain ⟨h1, h2⟩ := h
  refine ⟨h1, ?_⟩
  rcases h2 with h2 | ⟨x, cap, cur, hv, hx, hh, hc⟩
  · exact .inl h2
  · exact .inr ⟨x, cap, cur, hv, hx, (hs.block x ⟨by omega, by omega, heap_lt hh⟩).trans hh, hc⟩

theorem OwnD.past {w w' : World} {N B : Nat} {v : Value} {L : List (Int × Int)} (h : OwnD w B v L) (hs : Past N w w') (hg : N + 1 < B) : OwnD w' B v L := by
  obtain ⟨h1, h2⟩ := h
  refine ⟨h1, ?_⟩
  rcases h2 with h2 | ⟨x, cap, cur, hv, hx, hh, hc⟩
  · exact .inl h2
  · exact .inr ⟨x, cap, cur, hv, hx, (hs.block x ⟨by omega, by omega, heap_lt hh⟩).trans hh, hc⟩

theorem takeT_size (l : List UInt8) (s : Int × Int) : (takeT l s).1.size ≤ 24 := by
  unfold takeT
  split
  · show (rGetText l s.1).1.toArray.size ≤ 24
    rw [List.size_toArray]
    unfold rGetText
    split
    · simp
    · split
      · simp
      · split
        · simp
        · rename_i h
          simp only [List.length_take]
          omega
  · show (0 : Nat) ≤ 24
    omega

/-- What op.Read answers. -/
def readO (l : List UInt8) (p : Int) : PO × Int × Int :=
  let q1 := takeN l (p, 0) 1
  let q2 := takeD l q1.2
  let q3 := takeV l q2.2
  let q4 := takeS l q3.2
  let q5 := takeN l q4.2 1
  let q6 := takeT l q5.2
  let q7 := takeN l q6.2 1
  let q8 := takeR l q7.2
  let q9 := takeDots l q8.2 64
  if (endR q9.2).2 = 0 then (⟨q2.1.1, q2.1.2, q3.1, q4.1.1, q4.1.2.1, q4.1.2.2, q1.1, q5.1, q6.1, q7.1, q8.1, q9.1⟩, (endR q9.2).1, 0)
  else (⟨0, 0, [], 0, 0, 0, 0, 0, ByteArray.empty, 0, [], []⟩, 0, (endR q9.2).2)

/-- An operation is handed back. -/
def GivesO (w w' : World) (e : Ending) (r : PO × Int × Int) : Prop :=
  ∃ da va oa dc vc oc, e = .returned (.tuple #[.agg (cellsO r.1 da va oa dc vc oc), .int .i64 r.2.1, .int .i64 r.2.2]) ∧ LiesO w' r.1 da va oa dc vc oc ∧ Below w.heap.size w w'

theorem liesO_end {w3 w8 w9 wf : World} {N B3 B8 B9 b3 n3 n8 b9 n9 vc : Nat} {va : Option Addr} {x : PO} (p3 : Past N w3 wf) (p8 : Past N w8 wf) (p9 : Past N w9 wf)
    (o3 : OwnI w3 B3 (.slice (some ⟨b3, 0, none⟩) n3 n3) x.deps) (g3 : N + 1 < B3) (l3 : x.deps.length = n3) (m3 : n3 ≤ 5)
    (rv : RdV w8 va x.vals) (vb : ∀ b o, va = some ⟨b, o, none⟩ → B8 ≤ b ∧ b < w8.heap.size) (g8 : N + 1 < B8) (l8 : x.vals.length = n8) (m8 : n8 ≤ 65536) (hvc : n8 ≤ vc) (vn : va = none → x.vals = [] ∧ vc = 0)
    (o9 : OwnD w9 B9 (.slice (some ⟨b9, 0, none⟩) n9 n9) x.dots) (g9 : N + 1 < B9) (l9 : x.dots.length = n9) (m9 : n9 ≤ 64) (hk : x.key.size ≤ 24) :
    LiesO wf x (some ⟨b3, 0, none⟩) va (some ⟨b9, 0, none⟩) n3 vc n9 := by
  have q3 := o3.past p3 g3
  have q9 := o9.past p9 g9
  have t3 := World.ownsRow.lt q3 b3 rfl
  have t9 := World.ownsRow.lt q9 b9 rfl
  obtain ⟨a3, c3, e3, _, r3, _⟩ := q3.form
  obtain ⟨a9, c9, e9, _, r9, _⟩ := q9.form
  simp only [Value.slice.injEq] at e3 e9
  rw [← e3.1] at r3
  rw [← e9.1] at r9
  refine ⟨r3, rv.kept fun b o e => p8.block b ⟨by have := (vb b o e).1; omega, by have := (vb b o e).1; omega, (vb b o e).2⟩, r9, by omega, by omega, by omega, by omega, by omega, by omega, fun e => (by cases e), vn, fun e => (by cases e), by omega⟩

set_option maxRecDepth 100000 in
set_option maxHeartbeats 8000000 in
theorem opRead_any (a : Option Addr) (len cap : Nat) (l : List UInt8) (p : Int) (w : World) (hr : Rd w a l) (hs : ∀ b o, a = some ⟨b, o, none⟩ → b < w.heap.size) (hlen : l.length = len) (hl : len ≤ 1048576) (hcap : len ≤ cap) :
    Calls Try.prog 9 #[.slice a len cap, .int .i64 p] w fun e w' => GivesO w w' e (readO l p) := by
  obtain ⟨o, ho⟩ : ∃ o : Obj, o = .cells #[.int .i64 0, .int .i64 0, .slice none 0 0, .int .i64 0, .int .i64 0, .int .i64 0, .int .i64 0, .int .i64 0, .string ⟨#[]⟩, .int .i64 0, .slice none 0 0, .slice none 0 0] 32 := ⟨_, rfl⟩
  have hb1 : Below w.heap.size w (w.alloc o) := (Below.refl _ w).alloc (Nat.le_refl _) _
  have hsz : (w.alloc o).heap.size = w.heap.size + 1 := by simp
  have HK0 : Hid (CellsAt (w.alloc o) w.heap.size #[.int .i64 0, .int .i64 0, .slice none 0 0, .int .i64 0, .int .i64 0, .int .i64 0, .int .i64 0, .int .i64 0, .string ⟨#[]⟩, .int .i64 0, .slice none 0 0, .slice none 0 0] 32) := by
    rw [ho]
    exact CellsAt.made rfl
  have HB0 : Hid (Below w.heap.size w (w.alloc o)) := hb1
  have C := newReader_any a len cap l p (w.alloc o) (hr.later hb1) (fun b o e => Nat.lt_of_lt_of_le (hs b o e) hb1.size) hlen hl hcap
  rw [hsz] at C
  have HSRC : Hid (∀ x k, a = some ⟨x, k, none⟩ → x < w.heap.size) := hs
  unfold readO
  simp only []
  generalize hq1 : takeN l (p, 0) 1 = q1
  have HQ1 : Hid (takeN l (p, 0) 1 = q1) := hq1
  generalize hq2 : takeD l q1.2 = q2
  have HQ2 : Hid (takeD l q1.2 = q2) := hq2
  generalize hq3 : takeV l q2.2 = q3
  have HQ3 : Hid (takeV l q2.2 = q3) := hq3
  generalize hq4 : takeS l q3.2 = q4
  have HQ4 : Hid (takeS l q3.2 = q4) := hq4
  generalize hq5 : takeN l q4.2 1 = q5
  have HQ5 : Hid (takeN l q4.2 1 = q5) := hq5
  generalize hq6 : takeT l q5.2 = q6
  have HQ6 : Hid (takeT l q5.2 = q6) := hq6
  generalize hq7 : takeN l q6.2 1 = q7
  have HQ7 : Hid (takeN l q6.2 1 = q7) := hq7
  generalize hq8 : takeR l q7.2 = q8
  have HQ8 : Hid (takeR l q7.2 = q8) := hq8
  generalize hq9 : takeDots l q8.2 64 = q9
  have HQ9 : Hid (takeDots l q8.2 64 = q9) := hq9
  have HT : Hid (q6.1.size ≤ 24) := by
    rw [← hq6]
    exact takeT_size _ _
  generalize hqe : endR q9.2 = qe
  have HQE : Hid (endR q9.2 = qe) := hqe
  rw [ho] at HK0 HB0 C
  clear hr hs hlen hb1 hsz ho hq1 hq2 hq3 hq4 hq5 hq6 hq7 hq8 hq9 hqe
  go_enter Try.func9, Try.ntmps9
  go_wp2_with fail
  refine C.mono ?_
  rintro e w0 ⟨rfl, hp0, hb0⟩
  have HP0 : Hid (RAt w0 (w.heap.size + 1) a len cap l (p, 0)) := hp0
  have K0 : Hid (CellsAt w0 w.heap.size #[.int .i64 0, .int .i64 0, .slice none 0 0, .int .i64 0, .int .i64 0, .int .i64 0, .int .i64 0, .int .i64 0, .string ⟨#[]⟩, .int .i64 0, .slice none 0 0, .slice none 0 0] 32) := CellsAt.later HK0.out (by simpa using hb0)
  have HX0 : Hid (Below w.heap.size w w0) := HB0.out.trans (by refine Below.mono (by simpa using hb0) ?_; omega)
  clear hp0 hb0 HK0 HB0 C
  go_wp2_with fail
  have C := rByte_any (w.heap.size + 1) a len cap l (p, 0) _ HP0.out
  rw [HQ1.out] at C
  refine C.mono ?_
  rintro e w1 ⟨rfl, hp, hs⟩
  have k := CellsAt.aside K0.out hs (by omega)
  have x6 : w1.cell? ⟨w.heap.size, 6, none⟩ = some (.int .i64 0) := k.cell 6
  have f6 := k.free 6
  have HP1 : Hid (RAt (w1.setCell ⟨w.heap.size, 6, none⟩ (.int .i64 q1.1)) (w.heap.size + 1) a len cap l q1.2) := (hp.set (by omega) (fun x k e => by have := HSRC.out x k e; omega))
  have K1 : Hid (CellsAt (w1.setCell ⟨w.heap.size, 6, none⟩ (.int .i64 q1.1)) w.heap.size #[.int .i64 0, .int .i64 0, .slice none 0 0, .int .i64 0, .int .i64 0, .int .i64 0, .int .i64 q1.1, .int .i64 0, .string ⟨#[]⟩, .int .i64 0, .slice none 0 0, .slice none 0 0] 32) := (k.set 6 (.int .i64 q1.1))
  have HY1 : Hid (Past w.heap.size w0 (w1.setCell ⟨w.heap.size, 6, none⟩ (.int .i64 q1.1))) := (Past.set (Past.aside hs))
  have HX1 : Hid (Below w.heap.size w (w1.setCell ⟨w.heap.size, 6, none⟩ (.int .i64 q1.1))) := Past.below HY1.out HX0.out
  clear hp hs k C HY1 HX0 K0 HP0 HQ1
  go_wp2_with fail
  have C := rDot_any (w.heap.size + 1) a len cap l q1.2 _ HP1.out
  rw [HQ2.out] at C
  refine C.mono ?_
  rintro e w2 ⟨rfl, hp, hs⟩
  have k := CellsAt.aside K1.out hs (by omega)
  have x0 : w2.cell? ⟨w.heap.size, 0, none⟩ = some (.int .i64 0) := k.cell 0
  have f0 := k.free 0
  have x1 : w2.cell? ⟨w.heap.size, 1, none⟩ = some (.int .i64 0) := k.cell 1
  have f1 := k.free 1
  have HP2 : Hid (RAt ((w2.setCell ⟨w.heap.size, 0, none⟩ (.int .i64 q2.1.1)).setCell ⟨w.heap.size, 1, none⟩ (.int .i64 q2.1.2)) (w.heap.size + 1) a len cap l q2.2) := ((hp.set (by omega) (fun x k e => by have := HSRC.out x k e; omega)).set (by omega) (fun x k e => by have := HSRC.out x k e; omega))
  have K2 : Hid (CellsAt ((w2.setCell ⟨w.heap.size, 0, none⟩ (.int .i64 q2.1.1)).setCell ⟨w.heap.size, 1, none⟩ (.int .i64 q2.1.2)) w.heap.size #[.int .i64 q2.1.1, .int .i64 q2.1.2, .slice none 0 0, .int .i64 0, .int .i64 0, .int .i64 0, .int .i64 q1.1, .int .i64 0, .string ⟨#[]⟩, .int .i64 0, .slice none 0 0, .slice none 0 0] 32) := ((k.set 0 (.int .i64 q2.1.1)).set 1 (.int .i64 q2.1.2))
  have HY2 : Hid (Past w.heap.size (w1.setCell ⟨w.heap.size, 6, none⟩ (.int .i64 q1.1)) ((w2.setCell ⟨w.heap.size, 0, none⟩ (.int .i64 q2.1.1)).setCell ⟨w.heap.size, 1, none⟩ (.int .i64 q2.1.2))) := (Past.set ((Past.set (Past.aside hs))))
  have HX2 : Hid (Below w.heap.size w ((w2.setCell ⟨w.heap.size, 0, none⟩ (.int .i64 q2.1.1)).setCell ⟨w.heap.size, 1, none⟩ (.int .i64 q2.1.2))) := Past.below HY2.out HX1.out
  clear hp hs k C HY2 HX1 K1 HP1 HQ2 x6 f6
  go_wp2_with fail
  have C := rdVector_any (w.heap.size + 1) a len cap l q2.2 _ HP2.out
  rw [HQ3.out] at C
  refine C.mono ?_
  rintro e w3 ⟨b3, n3, rfl, hl3, hn3, ho3, hp, hs⟩
  have k := CellsAt.aside K2.out hs (by omega)
  have x2 : w3.cell? ⟨w.heap.size, 2, none⟩ = some (.slice none 0 0) := k.cell 2
  have f2 := k.free 2
  have HP3 : Hid (RAt (w3.setCell ⟨w.heap.size, 2, none⟩ (.slice (some ⟨b3, 0, none⟩) n3 n3)) (w.heap.size + 1) a len cap l q3.2) := (hp.set (by omega) (fun x k e => by have := HSRC.out x k e; omega))
  have K3 : Hid (CellsAt (w3.setCell ⟨w.heap.size, 2, none⟩ (.slice (some ⟨b3, 0, none⟩) n3 n3)) w.heap.size #[.int .i64 q2.1.1, .int .i64 q2.1.2, .slice (some ⟨b3, 0, none⟩) n3 n3, .int .i64 0, .int .i64 0, .int .i64 0, .int .i64 q1.1, .int .i64 0, .string ⟨#[]⟩, .int .i64 0, .slice none 0 0, .slice none 0 0] 32) := (k.set 2 (.slice (some ⟨b3, 0, none⟩) n3 n3))
  have HY3 : Hid (Past w.heap.size ((w2.setCell ⟨w.heap.size, 0, none⟩ (.int .i64 q2.1.1)).setCell ⟨w.heap.size, 1, none⟩ (.int .i64 q2.1.2)) (w3.setCell ⟨w.heap.size, 2, none⟩ (.slice (some ⟨b3, 0, none⟩) n3 n3))) := (Past.set (Past.aside hs))
  have HX3 : Hid (Below w.heap.size w (w3.setCell ⟨w.heap.size, 2, none⟩ (.slice (some ⟨b3, 0, none⟩) n3 n3))) := Past.below HY3.out HX2.out
  have HG3 : Hid (w.heap.size + 1 < ((w2.setCell ⟨w.heap.size, 0, none⟩ (.int .i64 q2.1.1)).setCell ⟨w.heap.size, 1, none⟩ (.int .i64 q2.1.2)).heap.size) := HP2.out.box.lt
  have HO3 : Hid (OwnI w3 ((w2.setCell ⟨w.heap.size, 0, none⟩ (.int .i64 q2.1.1)).setCell ⟨w.heap.size, 1, none⟩ (.int .i64 q2.1.2)).heap.size (.slice (some ⟨b3, 0, none⟩) n3 n3) q3.1) := ho3
  have HL3 : Hid (q3.1.length = n3) := hl3
  have Z3 : Hid (Past w.heap.size w3 (w3.setCell ⟨w.heap.size, 2, none⟩ (.slice (some ⟨b3, 0, none⟩) n3 n3))) := (Past.set (Past.refl _ _))
  clear hp hs k C HY3 ho3 hl3 HX2 K2 HP2 HQ3 x0 f0 x1 f1
  go_wp2_with fail
  have C := rdStamp_any (w.heap.size + 1) a len cap l q3.2 _ HP3.out
  rw [HQ4.out] at C
  refine C.mono ?_
  rintro e w4 ⟨rfl, hp, hs⟩
  have k := CellsAt.aside K3.out hs (by omega)
  have x3 : w4.cell? ⟨w.heap.size, 3, none⟩ = some (.int .i64 0) := k.cell 3
  have f3 := k.free 3
  have x4 : w4.cell? ⟨w.heap.size, 4, none⟩ = some (.int .i64 0) := k.cell 4
  have f4 := k.free 4
  have x5 : w4.cell? ⟨w.heap.size, 5, none⟩ = some (.int .i64 0) := k.cell 5
  have f5 := k.free 5
  have HP4 : Hid (RAt (((w4.setCell ⟨w.heap.size, 3, none⟩ (.int .i64 q4.1.1)).setCell ⟨w.heap.size, 4, none⟩ (.int .i64 q4.1.2.1)).setCell ⟨w.heap.size, 5, none⟩ (.int .i64 q4.1.2.2)) (w.heap.size + 1) a len cap l q4.2) := (((hp.set (by omega) (fun x k e => by have := HSRC.out x k e; omega)).set (by omega) (fun x k e => by have := HSRC.out x k e; omega)).set (by omega) (fun x k e => by have := HSRC.out x k e; omega))
  have K4 : Hid (CellsAt (((w4.setCell ⟨w.heap.size, 3, none⟩ (.int .i64 q4.1.1)).setCell ⟨w.heap.size, 4, none⟩ (.int .i64 q4.1.2.1)).setCell ⟨w.heap.size, 5, none⟩ (.int .i64 q4.1.2.2)) w.heap.size #[.int .i64 q2.1.1, .int .i64 q2.1.2, .slice (some ⟨b3, 0, none⟩) n3 n3, .int .i64 q4.1.1, .int .i64 q4.1.2.1, .int .i64 q4.1.2.2, .int .i64 q1.1, .int .i64 0, .string ⟨#[]⟩, .int .i64 0, .slice none 0 0, .slice none 0 0] 32) := (((k.set 3 (.int .i64 q4.1.1)).set 4 (.int .i64 q4.1.2.1)).set 5 (.int .i64 q4.1.2.2))
  have HY4 : Hid (Past w.heap.size (w3.setCell ⟨w.heap.size, 2, none⟩ (.slice (some ⟨b3, 0, none⟩) n3 n3)) (((w4.setCell ⟨w.heap.size, 3, none⟩ (.int .i64 q4.1.1)).setCell ⟨w.heap.size, 4, none⟩ (.int .i64 q4.1.2.1)).setCell ⟨w.heap.size, 5, none⟩ (.int .i64 q4.1.2.2))) := (Past.set ((Past.set ((Past.set (Past.aside hs))))))
  have HX4 : Hid (Below w.heap.size w (((w4.setCell ⟨w.heap.size, 3, none⟩ (.int .i64 q4.1.1)).setCell ⟨w.heap.size, 4, none⟩ (.int .i64 q4.1.2.1)).setCell ⟨w.heap.size, 5, none⟩ (.int .i64 q4.1.2.2))) := Past.below HY4.out HX3.out
  have Z3 : Hid (Past w.heap.size w3 (((w4.setCell ⟨w.heap.size, 3, none⟩ (.int .i64 q4.1.1)).setCell ⟨w.heap.size, 4, none⟩ (.int .i64 q4.1.2.1)).setCell ⟨w.heap.size, 5, none⟩ (.int .i64 q4.1.2.2))) := Z3.out.trans HY4.out
  clear hp hs k C HY4 HX3 K3 HP3 HQ4 x2 f2
  go_wp2_with fail
  have C := rByte_any (w.heap.size + 1) a len cap l q4.2 _ HP4.out
  rw [HQ5.out] at C
  refine C.mono ?_
  rintro e w5 ⟨rfl, hp, hs⟩
  have k := CellsAt.aside K4.out hs (by omega)
  have x7 : w5.cell? ⟨w.heap.size, 7, none⟩ = some (.int .i64 0) := k.cell 7
  have f7 := k.free 7
  have HP5 : Hid (RAt (w5.setCell ⟨w.heap.size, 7, none⟩ (.int .i64 q5.1)) (w.heap.size + 1) a len cap l q5.2) := (hp.set (by omega) (fun x k e => by have := HSRC.out x k e; omega))
  have K5 : Hid (CellsAt (w5.setCell ⟨w.heap.size, 7, none⟩ (.int .i64 q5.1)) w.heap.size #[.int .i64 q2.1.1, .int .i64 q2.1.2, .slice (some ⟨b3, 0, none⟩) n3 n3, .int .i64 q4.1.1, .int .i64 q4.1.2.1, .int .i64 q4.1.2.2, .int .i64 q1.1, .int .i64 q5.1, .string ⟨#[]⟩, .int .i64 0, .slice none 0 0, .slice none 0 0] 32) := (k.set 7 (.int .i64 q5.1))
  have HY5 : Hid (Past w.heap.size (((w4.setCell ⟨w.heap.size, 3, none⟩ (.int .i64 q4.1.1)).setCell ⟨w.heap.size, 4, none⟩ (.int .i64 q4.1.2.1)).setCell ⟨w.heap.size, 5, none⟩ (.int .i64 q4.1.2.2)) (w5.setCell ⟨w.heap.size, 7, none⟩ (.int .i64 q5.1))) := (Past.set (Past.aside hs))
  have HX5 : Hid (Below w.heap.size w (w5.setCell ⟨w.heap.size, 7, none⟩ (.int .i64 q5.1))) := Past.below HY5.out HX4.out
  have Z3 : Hid (Past w.heap.size w3 (w5.setCell ⟨w.heap.size, 7, none⟩ (.int .i64 q5.1))) := Z3.out.trans HY5.out
  clear hp hs k C HY5 HX4 K4 HP4 HQ5 x3 f3 x4 f4 x5 f5
  go_wp2_with fail
  have C := rText_any (w.heap.size + 1) a len cap l q5.2 _ HP5.out
  rw [HQ6.out] at C
  refine C.mono ?_
  rintro e w6 ⟨rfl, hp, hs⟩
  have k := CellsAt.aside K5.out hs (by omega)
  have x8 : w6.cell? ⟨w.heap.size, 8, none⟩ = some (.string ⟨#[]⟩) := k.cell 8
  have f8 := k.free 8
  have HP6 : Hid (RAt (w6.setCell ⟨w.heap.size, 8, none⟩ (.string q6.1)) (w.heap.size + 1) a len cap l q6.2) := (hp.set (by omega) (fun x k e => by have := HSRC.out x k e; omega))
  have K6 : Hid (CellsAt (w6.setCell ⟨w.heap.size, 8, none⟩ (.string q6.1)) w.heap.size #[.int .i64 q2.1.1, .int .i64 q2.1.2, .slice (some ⟨b3, 0, none⟩) n3 n3, .int .i64 q4.1.1, .int .i64 q4.1.2.1, .int .i64 q4.1.2.2, .int .i64 q1.1, .int .i64 q5.1, .string q6.1, .int .i64 0, .slice none 0 0, .slice none 0 0] 32) := (k.set 8 (.string q6.1))
  have HY6 : Hid (Past w.heap.size (w5.setCell ⟨w.heap.size, 7, none⟩ (.int .i64 q5.1)) (w6.setCell ⟨w.heap.size, 8, none⟩ (.string q6.1))) := (Past.set (Past.aside hs))
  have HX6 : Hid (Below w.heap.size w (w6.setCell ⟨w.heap.size, 8, none⟩ (.string q6.1))) := Past.below HY6.out HX5.out
  have Z3 : Hid (Past w.heap.size w3 (w6.setCell ⟨w.heap.size, 8, none⟩ (.string q6.1))) := Z3.out.trans HY6.out
  clear hp hs k C HY6 HX5 K5 HP5 HQ6 x7 f7
  go_wp2_with fail
  have C := rByte_any (w.heap.size + 1) a len cap l q6.2 _ HP6.out
  rw [HQ7.out] at C
  refine C.mono ?_
  rintro e w7 ⟨rfl, hp, hs⟩
  have k := CellsAt.aside K6.out hs (by omega)
  have x9 : w7.cell? ⟨w.heap.size, 9, none⟩ = some (.int .i64 0) := k.cell 9
  have f9 := k.free 9
  have HP7 : Hid (RAt (w7.setCell ⟨w.heap.size, 9, none⟩ (.int .i64 q7.1)) (w.heap.size + 1) a len cap l q7.2) := (hp.set (by omega) (fun x k e => by have := HSRC.out x k e; omega))
  have K7 : Hid (CellsAt (w7.setCell ⟨w.heap.size, 9, none⟩ (.int .i64 q7.1)) w.heap.size #[.int .i64 q2.1.1, .int .i64 q2.1.2, .slice (some ⟨b3, 0, none⟩) n3 n3, .int .i64 q4.1.1, .int .i64 q4.1.2.1, .int .i64 q4.1.2.2, .int .i64 q1.1, .int .i64 q5.1, .string q6.1, .int .i64 q7.1, .slice none 0 0, .slice none 0 0] 32) := (k.set 9 (.int .i64 q7.1))
  have HY7 : Hid (Past w.heap.size (w6.setCell ⟨w.heap.size, 8, none⟩ (.string q6.1)) (w7.setCell ⟨w.heap.size, 9, none⟩ (.int .i64 q7.1))) := (Past.set (Past.aside hs))
  have HX7 : Hid (Below w.heap.size w (w7.setCell ⟨w.heap.size, 9, none⟩ (.int .i64 q7.1))) := Past.below HY7.out HX6.out
  have Z3 : Hid (Past w.heap.size w3 (w7.setCell ⟨w.heap.size, 9, none⟩ (.int .i64 q7.1))) := Z3.out.trans HY7.out
  clear hp hs k C HY7 HX6 K6 HP6 HQ7 x8 f8
  go_wp2_with fail
  have C := takeRow_any (w.heap.size + 1) a len cap l q7.2 _ HP7.out
  rw [HQ8.out] at C
  refine C.mono ?_
  rintro e w8 ⟨⟨va, n8, vc, rfl, hl8, hn8, hvc, hrv, hvn, hvb⟩, hp, hs⟩
  have k := CellsAt.aside K7.out hs (by omega)
  have x10 : w8.cell? ⟨w.heap.size, 10, none⟩ = some (.slice none 0 0) := k.cell 10
  have f10 := k.free 10
  have HP8 : Hid (RAt (w8.setCell ⟨w.heap.size, 10, none⟩ (.slice va n8 vc)) (w.heap.size + 1) a len cap l q8.2) := (hp.set (by omega) (fun x k e => by have := HSRC.out x k e; omega))
  have K8 : Hid (CellsAt (w8.setCell ⟨w.heap.size, 10, none⟩ (.slice va n8 vc)) w.heap.size #[.int .i64 q2.1.1, .int .i64 q2.1.2, .slice (some ⟨b3, 0, none⟩) n3 n3, .int .i64 q4.1.1, .int .i64 q4.1.2.1, .int .i64 q4.1.2.2, .int .i64 q1.1, .int .i64 q5.1, .string q6.1, .int .i64 q7.1, .slice va n8 vc, .slice none 0 0] 32) := (k.set 10 (.slice va n8 vc))
  have HY8 : Hid (Past w.heap.size (w7.setCell ⟨w.heap.size, 9, none⟩ (.int .i64 q7.1)) (w8.setCell ⟨w.heap.size, 10, none⟩ (.slice va n8 vc))) := (Past.set (Past.aside hs))
  have HX8 : Hid (Below w.heap.size w (w8.setCell ⟨w.heap.size, 10, none⟩ (.slice va n8 vc))) := Past.below HY8.out HX7.out
  have HG8 : Hid (w.heap.size + 1 < (w7.setCell ⟨w.heap.size, 9, none⟩ (.int .i64 q7.1)).heap.size) := HP7.out.box.lt
  have HRV : Hid (RdV w8 va q8.1) := hrv
  have HL8 : Hid (q8.1.length = n8) := hl8
  have HVN : Hid (va = none → q8.1 = [] ∧ vc = 0) := hvn
  have HVB : Hid (∀ b o, va = some ⟨b, o, none⟩ → (w7.setCell ⟨w.heap.size, 9, none⟩ (.int .i64 q7.1)).heap.size ≤ b ∧ b < w8.heap.size) := hvb
  have Z8 : Hid (Past w.heap.size w8 (w8.setCell ⟨w.heap.size, 10, none⟩ (.slice va n8 vc))) := Past.set (Past.refl _ _)
  have Z3 : Hid (Past w.heap.size w3 (w8.setCell ⟨w.heap.size, 10, none⟩ (.slice va n8 vc))) := Z3.out.trans HY8.out
  clear hp hs k C HY8 hrv hl8 hvn hvb HX7 K7 HP7 HQ8 x9 f9
  go_wp2_with fail
  have C := rdDots_any (w.heap.size + 1) a len cap l q8.2 64 _ (by omega) HP8.out
  rw [HQ9.out] at C
  refine C.mono ?_
  rintro e w9 ⟨b9, n9, rfl, hl9, hn9, ho9, hp, hs⟩
  have k := CellsAt.aside K8.out hs (by omega)
  have x11 : w9.cell? ⟨w.heap.size, 11, none⟩ = some (.slice none 0 0) := k.cell 11
  have f11 := k.free 11
  have HP9 : Hid (RAt (w9.setCell ⟨w.heap.size, 11, none⟩ (.slice (some ⟨b9, 0, none⟩) n9 n9)) (w.heap.size + 1) a len cap l q9.2) := (hp.set (by omega) (fun x k e => by have := HSRC.out x k e; omega))
  have K9 : Hid (CellsAt (w9.setCell ⟨w.heap.size, 11, none⟩ (.slice (some ⟨b9, 0, none⟩) n9 n9)) w.heap.size #[.int .i64 q2.1.1, .int .i64 q2.1.2, .slice (some ⟨b3, 0, none⟩) n3 n3, .int .i64 q4.1.1, .int .i64 q4.1.2.1, .int .i64 q4.1.2.2, .int .i64 q1.1, .int .i64 q5.1, .string q6.1, .int .i64 q7.1, .slice va n8 vc, .slice (some ⟨b9, 0, none⟩) n9 n9] 32) := (k.set 11 (.slice (some ⟨b9, 0, none⟩) n9 n9))
  have HY9 : Hid (Past w.heap.size (w8.setCell ⟨w.heap.size, 10, none⟩ (.slice va n8 vc)) (w9.setCell ⟨w.heap.size, 11, none⟩ (.slice (some ⟨b9, 0, none⟩) n9 n9))) := (Past.set (Past.aside hs))
  have HX9 : Hid (Below w.heap.size w (w9.setCell ⟨w.heap.size, 11, none⟩ (.slice (some ⟨b9, 0, none⟩) n9 n9))) := Past.below HY9.out HX8.out
  have HG9 : Hid (w.heap.size + 1 < (w8.setCell ⟨w.heap.size, 10, none⟩ (.slice va n8 vc)).heap.size) := HP8.out.box.lt
  have HO9 : Hid (OwnD w9 (w8.setCell ⟨w.heap.size, 10, none⟩ (.slice va n8 vc)).heap.size (.slice (some ⟨b9, 0, none⟩) n9 n9) q9.1) := ho9
  have HL9 : Hid (q9.1.length = n9) := hl9
  have Z9 : Hid (Past w.heap.size w9 (w9.setCell ⟨w.heap.size, 11, none⟩ (.slice (some ⟨b9, 0, none⟩) n9 n9))) := Past.set (Past.refl _ _)
  have Z3 : Hid (Past w.heap.size w3 (w9.setCell ⟨w.heap.size, 11, none⟩ (.slice (some ⟨b9, 0, none⟩) n9 n9))) := Z3.out.trans HY9.out
  have Z8 : Hid (Past w.heap.size w8 (w9.setCell ⟨w.heap.size, 11, none⟩ (.slice (some ⟨b9, 0, none⟩) n9 n9))) := Z8.out.trans HY9.out
  clear hp hs k C HY9 ho9 hl9 HX8 K8 HP8 HQ9 x10 f10
  go_wp2_with fail
  have C := rEnd_any (w.heap.size + 1) a len cap l q9.2 _ HP9.out
  rw [HQE.out] at C
  refine C.mono ?_
  rintro e wz ⟨rfl, hbz⟩
  have k := CellsAt.later K9.out hbz
  have HX : Hid (Below w.heap.size w wz) := HX9.out.trans (Below.mono hbz HX9.out.size)
  have Y3 : Hid (Past w.heap.size w3 wz) := Z3.out.trans (Past.of_below hbz)
  have Y8 : Hid (Past w.heap.size w8 wz) := Z8.out.trans (Past.of_below hbz)
  have Y9 : Hid (Past w.heap.size w9 wz) := Z9.out.trans (Past.of_below hbz)
  have y0 : wz.cell? ⟨w.heap.size, 0, none⟩ = some (.int .i64 q2.1.1) := k.cell 0
  have g0 := k.free 0
  have y1 : wz.cell? ⟨w.heap.size, 1, none⟩ = some (.int .i64 q2.1.2) := k.cell 1
  have g1 := k.free 1
  have y2 : wz.cell? ⟨w.heap.size, 2, none⟩ = some (.slice (some ⟨b3, 0, none⟩) n3 n3) := k.cell 2
  have g2 := k.free 2
  have y3 : wz.cell? ⟨w.heap.size, 3, none⟩ = some (.int .i64 q4.1.1) := k.cell 3
  have g3 := k.free 3
  have y4 : wz.cell? ⟨w.heap.size, 4, none⟩ = some (.int .i64 q4.1.2.1) := k.cell 4
  have g4 := k.free 4
  have y5 : wz.cell? ⟨w.heap.size, 5, none⟩ = some (.int .i64 q4.1.2.2) := k.cell 5
  have g5 := k.free 5
  have y6 : wz.cell? ⟨w.heap.size, 6, none⟩ = some (.int .i64 q1.1) := k.cell 6
  have g6 := k.free 6
  have y7 : wz.cell? ⟨w.heap.size, 7, none⟩ = some (.int .i64 q5.1) := k.cell 7
  have g7 := k.free 7
  have y8 : wz.cell? ⟨w.heap.size, 8, none⟩ = some (.string q6.1) := k.cell 8
  have g8 := k.free 8
  have y9 : wz.cell? ⟨w.heap.size, 9, none⟩ = some (.int .i64 q7.1) := k.cell 9
  have g9 := k.free 9
  have y10 : wz.cell? ⟨w.heap.size, 10, none⟩ = some (.slice va n8 vc) := k.cell 10
  have g10 := k.free 10
  have y11 : wz.cell? ⟨w.heap.size, 11, none⟩ = some (.slice (some ⟨b9, 0, none⟩) n9 n9) := k.cell 11
  have g11 := k.free 11
  clear k hbz C HX9 Z3 Z8 Z9 K9 HP9 HQE x11 f11
  by_cases he : qe.2 = 0
  · have d0 : (qe.2 != 0) = false := by simp [he]
    go_wp2
    refine bodyPost_ret (by simp [results, Try.results9, go_sem, y0, y1, y2, y3, y4, y5, y6, y7, y8, y9, y10, y11]; rfl) rfl ?_
    try rw [if_pos he]
    have h3 := HL3.out
    have h8 := HL8.out
    have h9 := HL9.out
    refine ⟨some ⟨b3, 0, none⟩, va, some ⟨b9, 0, none⟩, n3, vc, n9, ?_, ?_, ?_⟩
    · subst h3 h8 h9
      rfl
    · exact liesO_end (Past.set (Past.set (Past.set (Past.set (Past.set (Past.set (Past.set (Past.set (Past.set (Past.set (Past.set (Past.set (Y3.out))))))))))))) (Past.set (Past.set (Past.set (Past.set (Past.set (Past.set (Past.set (Past.set (Past.set (Past.set (Past.set (Past.set (Y8.out))))))))))))) (Past.set (Past.set (Past.set (Past.set (Past.set (Past.set (Past.set (Past.set (Past.set (Past.set (Past.set (Past.set (Y9.out))))))))))))) HO3.out HG3.out h3 hn3 HRV.out HVB.out HG8.out h8 hn8 hvc HVN.out HO9.out HG9.out h9 hn9 HT.out
    · exact Past.below (Past.set (Past.set (Past.set (Past.set (Past.set (Past.set (Past.set (Past.set (Past.set (Past.set (Past.set (Past.set (Past.refl _ wz))))))))))))) HX.out
  · have d0 : (qe.2 != 0) = true := by simpa using he
    go_wp2
    refine bodyPost_ret (by simp [results, Try.results9, go_sem, y0, y1, y2, y3, y4, y5, y6, y7, y8, y9, y10, y11]; rfl) rfl ?_
    try rw [if_neg he]
    refine ⟨none, none, none, 0, 0, 0, rfl, ?_, ?_⟩
    · exact ⟨fun h => absurd h (by simp), RdV.nil _ _, RdD.nil _ _, by simp, by simp, by simp, by simp, by simp, by simp, fun _ => ⟨rfl, rfl⟩, fun _ => ⟨rfl, rfl⟩, fun _ => ⟨rfl, rfl⟩, (by show (0 : Nat) ≤ _; omega)⟩
    · exact Past.below (Past.set (Past.set (Past.set (Past.set (Past.set (Past.set (Past.set (Past.set (Past.set (Past.set (Past.set (Past.set (Past.refl _ wz))))))))))))) HX.out

end Go.Proofs.Ytjpcljmlkgjbgaa

namespace Go.Proofs.Ytjpcljmlkgjbgaa
open Go.RowKit Go.Lib
set_option linter.unusedVariables false

theorem k4V {W w w' : World} {b0 b1 b2 b3 o0 o1 o2 o3 : Nat} {x0 x1 x2 x3 : Value} (hb : Below w.heap.size w w')
    (h : w.cell? ⟨b0, o0, none⟩ = some x0 ∧ w.cell? ⟨b1, o1, none⟩ = some x1 ∧ w.cell? ⟨b2, o2, none⟩ = some x2 ∧ w.cell? ⟨b3, o3, none⟩ = some x3 ∧ Hid (Below W.heap.size W w)) :
    w'.cell? ⟨b0, o0, none⟩ = some x0 ∧ w'.cell? ⟨b1, o1, none⟩ = some x1 ∧ w'.cell? ⟨b2, o2, none⟩ = some x2 ∧ w'.cell? ⟨b3, o3, none⟩ = some x3 ∧ Hid (Below W.heap.size W w') :=
  ⟨cell_later hb h.1, cell_later hb h.2.1, cell_later hb h.2.2.1, cell_later hb h.2.2.2.1, chain h.2.2.2.2.out hb⟩

theorem o4V {W w : World} {P Q R S : Prop} (h : P ∧ Q ∧ R ∧ S ∧ Hid (Below w.heap.size w W)) : Below w.heap.size w W := h.2.2.2.2.out

theorem k2V {W w w' : World} {b0 b1 o0 o1 : Nat} {x0 x1 : Value} (hb : Below w.heap.size w w')
    (h : w.cell? ⟨b0, o0, none⟩ = some x0 ∧ w.cell? ⟨b1, o1, none⟩ = some x1 ∧ Hid (Below W.heap.size W w)) :
    w'.cell? ⟨b0, o0, none⟩ = some x0 ∧ w'.cell? ⟨b1, o1, none⟩ = some x1 ∧ Hid (Below W.heap.size W w') :=
  ⟨cell_later hb h.1, cell_later hb h.2.1, chain h.2.2.out hb⟩

theorem o2V {W w : World} {P Q : Prop} (h : P ∧ Q ∧ Hid (Below w.heap.size w W)) : Below w.heap.size w W := h.2.2.out

/-- A place of so many. -/
def placeF (count at_ : Int) : Bool := decide (0 ≤ at_ ∧ at_ < count)

theorem opPlace_any (count at_ : Int) (w : World) :
    Calls Try.prog 85 #[.int .i64 count, .int .i64 at_] w fun e w' => e = .returned (.bool (placeF count at_)) ∧ w' = w := by
  unfold placeF
  by_cases h1 : 0 ≤ at_
  · by_cases h2 : at_ < count
    · rw [decide_eq_true ⟨h1, h2⟩]
      go_enter Try.func85, Try.ntmps85
      go_wp2
      go_ret
      exact ⟨by first | (simp; done) | (simp; omega), rfl⟩
    · rw [decide_eq_false (by omega)]
      go_enter Try.func85, Try.ntmps85
      go_wp2
      go_ret
      exact ⟨by first | (simp; done) | (simp; omega), rfl⟩
  · rw [decide_eq_false (by omega)]
    go_enter Try.func85, Try.ntmps85
    go_wp2
    go_ret
    exact ⟨by first | (simp; done) | (simp; omega), rfl⟩

/-- May these be put into columns of these types? -/
def putF (vs : List PV) (ts : List Int) : Bool := fitsR vs ts && vs.all smallV

set_option maxRecDepth 100000 in
set_option maxHeartbeats 4000000 in
theorem opPut_any (a b : Option Addr) (n m cap dap : Nat) (vs : List PV) (ts : List Int) (w : World) (hn : vs.length = n) (hm : ts.length = m) (hl : n ≤ 65536) (hl' : m ≤ 65536) (ha : RdV w a vs) (hb : RdI .i64 w b ts) :
    Calls Try.prog 86 #[.slice a n cap, .slice b m dap] w fun e w' => e = .returned (.bool (putF vs ts)) ∧ Below w.heap.size w w' := by
  have HN : Hid (vs.length = n) := hn
  have HA : Hid (RdV w a vs) := ha
  have C := rowFitsC a b n m cap dap vs ts w hn hm hl hl' ha hb
  have HP : Hid (putF vs ts = (fitsR vs ts && vs.all smallV)) := rfl
  clear hn hm ha hb
  generalize fitsR vs ts = f at *
  cases f with
  | false =>
    go_enter Try.func86, Try.ntmps86
    go_wp2_with fail
    refine C.mono ?_
    rintro e w1 ⟨rfl, hb1⟩
    go_wp2
    go_ret
    exact ⟨by rw [HP.out]; rfl, hb1⟩
  | true =>
    go_enter Try.func86, Try.ntmps86
    go_wp2_with fail
    refine C.mono ?_
    rintro e w1 ⟨rfl, hb1⟩
    have HB1 : Hid (Below w.heap.size w w1) := hb1
    clear hb1 C
    go_wp2
    go_loopw [13] (fun i wr => ∃ k : Nat, k ≤ n ∧ i = .int .i64 k ∧ Hid ((vs.take k).all smallV = true) ∧ Hid (Below w.heap.size w wr)) (fun i _ => n - (RowKit.intOf i).toNat)
    case atStart => exact ⟨0, Nat.zero_le _, rfl, rfl, HB1⟩
    case round =>
    clear HB1
    obtain ⟨k, hk, rfl, hT, hB⟩ := hrel
    by_cases hlt : k < n
    · have hkl : k < vs.length := by rw [HN.out]; exact hlt
      obtain ⟨b1, o1, rfl, hc⟩ := (HA.out.later hB.out) (by omega)
      obtain ⟨x0, x1, x2⟩ := hc k hkl
      have HS : Hid ((vs.take (k + 1)).all smallV = smallV vs[k]) := allP_take hkl hT.out
      have HX : Hid (smallV vs[k] = false → vs.all smallV = false) := fun h => allP_no hkl h
      clear hc
      generalize vs[k] = v at *
      clear hkl
      obtain ⟨vk, vi, vs'⟩ := v
      simp only at x0 x1 x2
      have C2 := valueSmall vk vi vs' (wr.alloc (.cells #[.int .i64 vk, .int .i64 vi, .string vs'] 102))
      generalize smallV ⟨vk, vi, vs'⟩ = c at *
      cases c with
      | true =>
        go_wp2_with fail
        refine C2.mono ?_
        rintro e w5 ⟨rfl, hb5⟩
        have HB5 : Hid (Below w.heap.size w w5) := chain hB.out (chain (alloc_below _ _) hb5)
        clear hb5 C2
        go_wp2
        go_roundw
        case rel => exact ⟨k + 1, by omega, by go_num, HS, HB5⟩
        case measure => simp [RowKit.intOf]; omega
      | false =>
        have HXX : Hid (vs.all smallV = false) := HX.out rfl
        go_wp2_with fail
        refine C2.mono ?_
        rintro e w5 ⟨rfl, hb5⟩
        have HB5 : Hid (Below w.heap.size w w5) := chain hB.out (chain (alloc_below _ _) hb5)
        clear hb5 C2
        go_wp2
        go_ret
        exact ⟨by rw [HP.out, HXX.out]; rfl, HB5.out⟩
    have HQ : Hid (vs.all smallV = true) := by
      have h := hT.out
      rw [List.take_of_length_le (by rw [HN.out]; omega)] at h
      exact h
    go_wp2
    go_ret
    exact ⟨by rw [HP.out, HQ.out]; rfl, hB.out⟩

/-- May these be removed by one that had these? -/
def stepF (deps : List Int) (ds : List (Int × Int)) (i : Nat) : Bool :=
  hasD deps (ds[i]?.getD (0, 0)).1 (ds[i]?.getD (0, 0)).2 && (i == 0 || lessD (ds[i - 1]?.getD (0, 0)).1 (ds[i - 1]?.getD (0, 0)).2 (ds[i]?.getD (0, 0)).1 (ds[i]?.getD (0, 0)).2)

def remF (deps : List Int) (ds : List (Int × Int)) : Bool := decide (1 ≤ ds.length ∧ ds.length ≤ 64) && (List.range ds.length).all (stepF deps ds)

theorem range_step {P : Nat → Bool} {k : Nat} (h : (List.range k).all P = true) : (List.range (k + 1)).all P = P k := by
  rw [List.range_succ, List.all_append, h]
  simp

theorem range_no {P : Nat → Bool} {k n : Nat} (hk : k < n) (h : P k = false) : (List.range n).all P = false := by
  rw [List.all_eq_false]
  exact ⟨k, by simpa using hk, by simpa using h⟩

set_option maxHeartbeats 400000 in
theorem opRem_len (a b : Option Addr) (n m cap dap : Nat) (w : World) (h : n < 1 ∨ 64 < n) (hl : n ≤ 65536) :
    Calls Try.prog 87 #[.slice a n cap, .slice b m dap] w fun e w' => e = .returned (.bool false) ∧ Below w.heap.size w w' := by
  rcases h with h | h
  · obtain rfl : n = 0 := by omega
    go_enter Try.func87, Try.ntmps87
    go_wp2
    go_ret
    exact ⟨rfl, Below.refl _ _⟩
  · go_enter Try.func87, Try.ntmps87
    go_wp2
    go_ret
    exact ⟨rfl, Below.refl _ _⟩

set_option maxRecDepth 100000 in
set_option maxHeartbeats 20000000 in
theorem opRem_few (b1 o1 : Nat) (b : Option Addr) (n m cap dap : Nat) (ds : List (Int × Int)) (deps : List Int) (w : World) (hn : ds.length = n) (h1 : 1 ≤ n) (h64 : n ≤ 64) (hm : deps.length = m) (hl' : m ≤ 65536) (ha : RdD w (some ⟨b1, o1, none⟩) ds) (hb : RdI .i64 w b deps) (hdp : All64 deps) (hds : ∀ d ∈ ds, In64 d.1 ∧ In64 d.2) :
    Calls Try.prog 87 #[.slice (some ⟨b1, o1, none⟩) n cap, .slice b m dap] w fun e w' => e = .returned (.bool (remF deps ds)) ∧ Below w.heap.size w w' := by
  have HN : Hid (ds.length = n) := hn
  have HM : Hid (deps.length = m) := hm
  have HA : Hid (RdD w (some ⟨b1, o1, none⟩) ds) := ha
  have HB : Hid (RdI .i64 w b deps) := hb
  have HD : Hid (remF deps ds = (List.range n).all (stepF deps ds)) := by
    show _ = _
    unfold remF
    rw [hn, decide_eq_true ⟨h1, h64⟩, Bool.true_and]
  clear hn hm ha hb
  go_enter Try.func87, Try.ntmps87
  go_wp2
  go_loopw [17] (fun i wr => ∃ k : Nat, k ≤ n ∧ i = .int .i64 k ∧ Hid ((List.range k).all (stepF deps ds) = true) ∧ Hid (Below w.heap.size w wr)) (fun i _ => n - (RowKit.intOf i).toNat)
  case atStart => exact ⟨0, Nat.zero_le _, rfl, rfl, Below.refl _ _⟩
  case round =>
  obtain ⟨k, hk, rfl, hT, hB⟩ := hrel
  by_cases hlt : k < n
  · have hkl : k < ds.length := by rw [HN.out]; exact hlt
    obtain ⟨b', o', e', hc⟩ := (HA.out.later hB.out) (by omega)
    simp only [Option.some.injEq, Addr.mk.injEq, and_true] at e'
    obtain ⟨rfl, rfl⟩ := e'
    obtain ⟨x0, x1⟩ := hc k hkl
    have HS : Hid ((List.range (k + 1)).all (stepF deps ds) = stepF deps ds k) := range_step hT.out
    have HX : Hid (stepF deps ds k = false → remF deps ds = false) := fun h => by rw [HD.out]; exact range_no hlt h
    have hi := hds _ (List.getElem_mem hkl)
    have eK : ds[k]?.getD (0, 0) = ds[k] := by rw [List.getElem?_eq_getElem hkl]; rfl
    have HST : Hid (stepF deps ds k = (hasD deps ds[k].1 ds[k].2 && (k == 0 || lessD (ds[k - 1]?.getD (0, 0)).1 (ds[k - 1]?.getD (0, 0)).2 ds[k].1 ds[k].2))) := by
      show _ = _
      unfold stepF
      rw [eK]
    obtain ⟨i0, i1⟩ := hi
    have Hc : Hid (∀ i (hi : i < ds.length), wr.cell? ⟨b1, o1 + i * 2, none⟩ = some (.int .i64 ds[i].1) ∧ wr.cell? ⟨b1, o1 + i * 2 + 1, none⟩ = some (.int .i64 ds[i].2)) := hc
    clear hc eK
    generalize ds[k] = d at *
    clear hkl
    obtain ⟨p, q⟩ := d
    simp only at x0 x1 i0 i1 HST
    have bx := box2 wr wr.heap.size rfl (.int .i64 p) (.int .i64 q) 25
    have HB1 : Hid (Below w.heap.size w (wr.alloc (.cells #[.int .i64 p, .int .i64 q] 25))) := chain hB.out (alloc_below _ _)
    have k0 : (0 : Int) ≤ (k : Int) := by omega
    have k1 : (k : Int) < (n : Int) := by omega
    cases hh : hasD deps p q with
    | false =>
      have HF : Hid (remF deps ds = false) := HX.out (by rw [HST.out, hh]; rfl)
      go_wp2
      generalize hW : wr.alloc (.cells #[.int .i64 p, .int .i64 q] 25) = W at *
      obtain ⟨g0, g1⟩ := bx
      have HS3 := And.intro g0 (And.intro g1 (show Hid (Below W.heap.size W W.drew) from (Below.refl _ _).drew))
      have D1 := fun (V : World) (h : Below W.heap.size W V) => dotHas b m dap p q deps V HM.out hl' hdp i0 i1 (HB.out.later (chain HB1.out h))
      rw [hh] at D1
      refine wp_region_held_drew (S := (fun w' => w'.cell? ⟨wr.heap.size, 0, none⟩ = some (.int .i64 p) ∧ w'.cell? ⟨wr.heap.size, 1, none⟩ = some (.int .i64 q) ∧ Hid (Below W.heap.size W w'))) (by kernel_rfl) HS3 (fun hHeld => ?_)
      refine heldTake (v := ?_) 0 22 rfl rfl (by kernel_rfl) (by kernel_rfl) (by kernel_rfl) (fun _ _ _ h => h) (by rfl) (fun w hSw => ?_) (by assumption) ?_
      rotate_left
      · (try dsimp only at hSw); first | (go_simp; done) | (go_simp; with_reducible rfl)
      simp only [List.setIfInBounds_toArray, List.set_cons_zero, List.set_cons_succ]
      refine heldTake (v := ?_) 1 23 rfl rfl (by kernel_rfl) (by kernel_rfl) (by kernel_rfl) (fun _ _ _ h => h) (by rfl) (fun w hSw => ?_) (by assumption) ?_
      rotate_left
      · (try dsimp only at hSw); first | (go_simp; done) | (go_simp; with_reducible rfl)
      simp only [List.setIfInBounds_toArray, List.set_cons_zero, List.set_cons_succ]
      refine heldOne 2 rfl (by kernel_rfl) (by rfl) (fun K2 hK => ?_)
      go_simp
      refine (D1 _ (o2V (by assumption))).mono ?_
      rintro e wz ⟨rfl, hb⟩
      simp only []
      refine hK.out _ _ ?_ (fun hHeld => ?_)
      · exact k2V hb (by assumption)
      clear hK K2
      try simp only [List.setIfInBounds_toArray, List.set_cons_zero, List.set_cons_succ]
      refine heldTake (v := ?_) 3 25 rfl rfl (by kernel_rfl) (by kernel_rfl) (by kernel_rfl) (fun _ _ _ h => h) (by rfl) (fun w hSw => ?_) (by assumption) ?_
      rotate_left
      · (try dsimp only at hSw); first | (go_simp; done) | (go_simp; with_reducible rfl)
      simp only [List.setIfInBounds_toArray, List.set_cons_zero, List.set_cons_succ]
      refine heldTake (v := ?_) 4 26 rfl rfl (by kernel_rfl) (by kernel_rfl) (by kernel_rfl) (fun _ _ _ h => h) (by rfl) (fun w hSw => ?_) (by assumption) ?_
      rotate_left
      · (try dsimp only at hSw); first | (go_simp; done) | (go_simp; with_reducible rfl)
      simp only [List.setIfInBounds_toArray, List.set_cons_zero, List.set_cons_succ]
      refine heldSkip 5 27 rfl rfl (by kernel_rfl) (by kernel_rfl) (by kernel_rfl) (fun _ _ _ h => h) (by rfl) (by assumption) ?_
      simp only [List.setIfInBounds_toArray, List.set_cons_zero, List.set_cons_succ]
      refine heldSkip 6 28 rfl rfl (by kernel_rfl) (by kernel_rfl) (by kernel_rfl) (fun _ _ _ h => h) (by rfl) (by assumption) ?_
      simp only [List.setIfInBounds_toArray, List.set_cons_zero, List.set_cons_succ]
      refine heldSkip 7 29 rfl rfl (by kernel_rfl) (by kernel_rfl) (by kernel_rfl) (fun _ _ _ h => h) (by rfl) (by assumption) ?_
      simp only [List.setIfInBounds_toArray, List.set_cons_zero, List.set_cons_succ]
      refine heldSkip 8 30 rfl rfl (by kernel_rfl) (by kernel_rfl) (by kernel_rfl) (fun _ _ _ h => h) (by rfl) (by assumption) ?_
      simp only [List.setIfInBounds_toArray, List.set_cons_zero, List.set_cons_succ]
      refine heldSkip 9 31 rfl rfl (by kernel_rfl) (by kernel_rfl) (by kernel_rfl) (fun _ _ _ h => h) (by rfl) (by assumption) ?_
      simp only [List.setIfInBounds_toArray, List.set_cons_zero, List.set_cons_succ]
      refine heldSkip 10 32 rfl rfl (by kernel_rfl) (by kernel_rfl) (by kernel_rfl) (fun _ _ _ h => h) (by rfl) (by assumption) ?_
      simp only [List.setIfInBounds_toArray, List.set_cons_zero, List.set_cons_succ]
      refine heldSkip 11 33 rfl rfl (by kernel_rfl) (by kernel_rfl) (by kernel_rfl) (fun _ _ _ h => h) (by rfl) (by assumption) ?_
      simp only [List.setIfInBounds_toArray, List.set_cons_zero, List.set_cons_succ]
      refine heldSkip 12 34 rfl rfl (by kernel_rfl) (by kernel_rfl) (by kernel_rfl) (fun _ _ _ h => h) (by rfl) (by assumption) ?_
      simp only [List.setIfInBounds_toArray, List.set_cons_zero, List.set_cons_succ]
      refine heldSkip 13 35 rfl rfl (by kernel_rfl) (by kernel_rfl) (by kernel_rfl) (fun _ _ _ h => h) (by rfl) (by assumption) ?_
      simp only [List.setIfInBounds_toArray, List.set_cons_zero, List.set_cons_succ]
      refine heldSkip 14 36 rfl rfl (by kernel_rfl) (by kernel_rfl) (by kernel_rfl) (fun _ _ _ h => h) (by rfl) (by assumption) ?_
      simp only [List.setIfInBounds_toArray, List.set_cons_zero, List.set_cons_succ]
      refine heldSkip 15 37 rfl rfl (by kernel_rfl) (by kernel_rfl) (by kernel_rfl) (fun _ _ _ h => h) (by rfl) (by assumption) ?_
      simp only [List.setIfInBounds_toArray, List.set_cons_zero, List.set_cons_succ]
      refine heldSkip 16 38 rfl rfl (by kernel_rfl) (by kernel_rfl) (by kernel_rfl) (fun _ _ _ h => h) (by rfl) (by assumption) ?_
      simp only [List.setIfInBounds_toArray, List.set_cons_zero, List.set_cons_succ]
      refine heldTake (v := ?_) 17 39 rfl rfl (by kernel_rfl) (by kernel_rfl) (by kernel_rfl) (fun _ _ _ h => h) (by rfl) (fun w hSw => ?_) (by assumption) ?_
      rotate_left
      · (try dsimp only at hSw); first | (go_simp; done) | (go_simp; with_reducible rfl)
      simp only [List.setIfInBounds_toArray, List.set_cons_zero, List.set_cons_succ]
      refine wpAnyH_done (by kernel_rfl) ?_ _
      have HB9 : Hid (Below w.heap.size w _) := chain HB1.out hHeld.2.2.out
      clear hHeld
      go_wp2
      go_ret
      exact ⟨by rw [HF.out]; rfl, HB9.out⟩
    | true =>
      rcases Nat.eq_zero_or_pos k with hk0 | hk0
      · subst hk0
        simp only [Nat.zero_mul, Nat.add_zero] at x0 x1
        have HT' : Hid ((List.range (0 + 1)).all (stepF deps ds) = true) := by rw [HS.out, HST.out, hh]; rfl
        go_wp2
        generalize hW : wr.alloc (.cells #[.int .i64 p, .int .i64 q] 25) = W at *
        obtain ⟨g0, g1⟩ := bx
        have HS3 := And.intro g0 (And.intro g1 (show Hid (Below W.heap.size W W.drew) from (Below.refl _ _).drew))
        have D1 := fun (V : World) (h : Below W.heap.size W V) => dotHas b m dap p q deps V HM.out hl' hdp i0 i1 (HB.out.later (chain HB1.out h))
        rw [hh] at D1
        refine wp_region_held_drew (S := (fun w' => w'.cell? ⟨wr.heap.size, 0, none⟩ = some (.int .i64 p) ∧ w'.cell? ⟨wr.heap.size, 1, none⟩ = some (.int .i64 q) ∧ Hid (Below W.heap.size W w'))) (by kernel_rfl) HS3 (fun hHeld => ?_)
        refine heldTake (v := ?_) 0 22 rfl rfl (by kernel_rfl) (by kernel_rfl) (by kernel_rfl) (fun _ _ _ h => h) (by rfl) (fun w hSw => ?_) (by assumption) ?_
        rotate_left
        · (try dsimp only at hSw); first | (go_simp; done) | (go_simp; with_reducible rfl)
        simp only [List.setIfInBounds_toArray, List.set_cons_zero, List.set_cons_succ]
        refine heldTake (v := ?_) 1 23 rfl rfl (by kernel_rfl) (by kernel_rfl) (by kernel_rfl) (fun _ _ _ h => h) (by rfl) (fun w hSw => ?_) (by assumption) ?_
        rotate_left
        · (try dsimp only at hSw); first | (go_simp; done) | (go_simp; with_reducible rfl)
        simp only [List.setIfInBounds_toArray, List.set_cons_zero, List.set_cons_succ]
        refine heldOne 2 rfl (by kernel_rfl) (by rfl) (fun K2 hK => ?_)
        go_simp
        refine (D1 _ (o2V (by assumption))).mono ?_
        rintro e wz ⟨rfl, hb⟩
        simp only []
        refine hK.out _ _ ?_ (fun hHeld => ?_)
        · exact k2V hb (by assumption)
        clear hK K2
        try simp only [List.setIfInBounds_toArray, List.set_cons_zero, List.set_cons_succ]
        refine heldTake (v := ?_) 3 25 rfl rfl (by kernel_rfl) (by kernel_rfl) (by kernel_rfl) (fun _ _ _ h => h) (by rfl) (fun w hSw => ?_) (by assumption) ?_
        rotate_left
        · (try dsimp only at hSw); first | (go_simp; done) | (go_simp; with_reducible rfl)
        simp only [List.setIfInBounds_toArray, List.set_cons_zero, List.set_cons_succ]
        refine heldTake (v := ?_) 4 26 rfl rfl (by kernel_rfl) (by kernel_rfl) (by kernel_rfl) (fun _ _ _ h => h) (by rfl) (fun w hSw => ?_) (by assumption) ?_
        rotate_left
        · (try dsimp only at hSw); first | (go_simp; done) | (go_simp; with_reducible rfl)
        simp only [List.setIfInBounds_toArray, List.set_cons_zero, List.set_cons_succ]
        refine heldTake (v := ?_) 5 27 rfl rfl (by kernel_rfl) (by kernel_rfl) (by kernel_rfl) (fun _ _ _ h => h) (by rfl) (fun w hSw => ?_) (by assumption) ?_
        rotate_left
        · (try dsimp only at hSw); first | (go_simp; done) | (go_simp; with_reducible rfl)
        simp only [List.setIfInBounds_toArray, List.set_cons_zero, List.set_cons_succ]
        refine heldTake (v := ?_) 6 28 rfl rfl (by kernel_rfl) (by kernel_rfl) (by kernel_rfl) (fun _ _ _ h => h) (by rfl) (fun w hSw => ?_) (by assumption) ?_
        rotate_left
        · (try dsimp only at hSw); first | (go_simp; done) | (go_simp; with_reducible rfl)
        simp only [List.setIfInBounds_toArray, List.set_cons_zero, List.set_cons_succ]
        refine heldTake (v := ?_) 7 29 rfl rfl (by kernel_rfl) (by kernel_rfl) (by kernel_rfl) (fun _ _ _ h => h) (by rfl) (fun w hSw => ?_) (by assumption) ?_
        rotate_left
        · (try dsimp only at hSw); first | (go_simp; done) | (go_simp; with_reducible rfl)
        simp only [List.setIfInBounds_toArray, List.set_cons_zero, List.set_cons_succ]
        refine heldSkip 8 30 rfl rfl (by kernel_rfl) (by kernel_rfl) (by kernel_rfl) (fun _ _ _ h => h) (by rfl) (by assumption) ?_
        simp only [List.setIfInBounds_toArray, List.set_cons_zero, List.set_cons_succ]
        refine heldSkip 9 31 rfl rfl (by kernel_rfl) (by kernel_rfl) (by kernel_rfl) (fun _ _ _ h => h) (by rfl) (by assumption) ?_
        simp only [List.setIfInBounds_toArray, List.set_cons_zero, List.set_cons_succ]
        refine heldSkip 10 32 rfl rfl (by kernel_rfl) (by kernel_rfl) (by kernel_rfl) (fun _ _ _ h => h) (by rfl) (by assumption) ?_
        simp only [List.setIfInBounds_toArray, List.set_cons_zero, List.set_cons_succ]
        refine heldSkip 11 33 rfl rfl (by kernel_rfl) (by kernel_rfl) (by kernel_rfl) (fun _ _ _ h => h) (by rfl) (by assumption) ?_
        simp only [List.setIfInBounds_toArray, List.set_cons_zero, List.set_cons_succ]
        refine heldSkip 12 34 rfl rfl (by kernel_rfl) (by kernel_rfl) (by kernel_rfl) (fun _ _ _ h => h) (by rfl) (by assumption) ?_
        simp only [List.setIfInBounds_toArray, List.set_cons_zero, List.set_cons_succ]
        refine heldSkip 13 35 rfl rfl (by kernel_rfl) (by kernel_rfl) (by kernel_rfl) (fun _ _ _ h => h) (by rfl) (by assumption) ?_
        simp only [List.setIfInBounds_toArray, List.set_cons_zero, List.set_cons_succ]
        refine heldSkip 14 36 rfl rfl (by kernel_rfl) (by kernel_rfl) (by kernel_rfl) (fun _ _ _ h => h) (by rfl) (by assumption) ?_
        simp only [List.setIfInBounds_toArray, List.set_cons_zero, List.set_cons_succ]
        refine heldSkip 15 37 rfl rfl (by kernel_rfl) (by kernel_rfl) (by kernel_rfl) (fun _ _ _ h => h) (by rfl) (by assumption) ?_
        simp only [List.setIfInBounds_toArray, List.set_cons_zero, List.set_cons_succ]
        refine heldTake (v := ?_) 16 38 rfl rfl (by kernel_rfl) (by kernel_rfl) (by kernel_rfl) (fun _ _ _ h => h) (by rfl) (fun w hSw => ?_) (by assumption) ?_
        rotate_left
        · (try dsimp only at hSw); first | (go_simp; done) | (go_simp; with_reducible rfl)
        simp only [List.setIfInBounds_toArray, List.set_cons_zero, List.set_cons_succ]
        refine heldTake (v := ?_) 17 39 rfl rfl (by kernel_rfl) (by kernel_rfl) (by kernel_rfl) (fun _ _ _ h => h) (by rfl) (fun w hSw => ?_) (by assumption) ?_
        rotate_left
        · (try dsimp only at hSw); first | (go_simp; done) | (go_simp; with_reducible rfl)
        simp only [List.setIfInBounds_toArray, List.set_cons_zero, List.set_cons_succ]
        refine wpAnyH_done (by kernel_rfl) ?_ _
        have HB9 : Hid (Below w.heap.size w _) := chain HB1.out hHeld.2.2.out
        clear hHeld
        go_wp2
        go_roundw
        case rel => exact ⟨0 + 1, by omega, by go_num, HT', HB9⟩
        case measure => simp [RowKit.intOf]; omega
      · obtain ⟨j, rfl⟩ : ∃ j, k = j + 1 := ⟨k - 1, by omega⟩
        have hjl : j < ds.length := by rw [HN.out]; omega
        have hj := hds _ (List.getElem_mem hjl)
        have hcj := Hc.out j hjl
        have eJ : ds[j + 1 - 1]?.getD (0, 0) = ds[j] := by rw [Nat.add_sub_cancel, List.getElem?_eq_getElem hjl]; rfl
        have HST2 : Hid (stepF deps ds (j + 1) = lessD ds[j].1 ds[j].2 p q) := by
          show _ = _
          rw [HST.out, hh, eJ]
          simp
        clear HST Hc eJ
        generalize ds[j] = d' at *
        clear hjl
        obtain ⟨p', q'⟩ := d'
        simp only at hj hcj HST2
        obtain ⟨j0, j1⟩ := hj
        obtain ⟨y0, y1⟩ := hcj
        replace y0 := cell_later (alloc_below wr (.cells #[.int .i64 p, .int .i64 q] 25)) y0
        replace y1 := cell_later (alloc_below wr (.cells #[.int .i64 p, .int .i64 q] 25)) y1
        have jw : IntKind.i64.wrap (((j + 1 : Nat) : Int) - 1) = (j : Int) := by rw [IntKind.wrap_i64]; omega
        have jw' : IntKind.i64.wrap ((j : Int) + 1 - 1) = (j : Int) := by rw [IntKind.wrap_i64]; omega
        have jw2 : IntKind.i64.wrap (j : Int) = (j : Int) := by rw [IntKind.wrap_i64]; omega
        have jz : (0 : Int) ≤ (j : Int) := by omega
        have jn : (j : Int) < (n : Int) := by omega
        have jp : (0 : Int) < (j : Int) + 1 := by omega
        go_wp2
        generalize hW : wr.alloc (.cells #[.int .i64 p, .int .i64 q] 25) = W at *
        obtain ⟨g0, g1⟩ := bx
        have HS3 := And.intro g0 (And.intro g1 (And.intro y0 (And.intro y1 (show Hid (Below W.heap.size W W.drew) from (Below.refl _ _).drew))))
        have D1 := fun (V : World) (h : Below W.heap.size W V) => dotHas b m dap p q deps V HM.out hl' hdp i0 i1 (HB.out.later (chain HB1.out h))
        rw [hh] at D1
        have D2 := fun (V : World) => dotLess p' q' p q V j0 j1 i0 i1
        cases hls : lessD p' q' p q with
        | true =>
          rw [hls] at D2
          have HT' : Hid ((List.range (j + 1 + 1)).all (stepF deps ds) = true) := by rw [HS.out, HST2.out, hls]; rfl
          refine wp_region_held_drew (S := (fun w' => w'.cell? ⟨wr.heap.size, 0, none⟩ = some (.int .i64 p) ∧ w'.cell? ⟨wr.heap.size, 1, none⟩ = some (.int .i64 q) ∧ w'.cell? ⟨b1, o1 + j * 2, none⟩ = some (.int .i64 p') ∧ w'.cell? ⟨b1, o1 + j * 2 + 1, none⟩ = some (.int .i64 q') ∧ Hid (Below W.heap.size W w'))) (by kernel_rfl) HS3 (fun hHeld => ?_)
          refine heldTake (v := ?_) 0 22 rfl rfl (by kernel_rfl) (by kernel_rfl) (by kernel_rfl) (fun _ _ _ h => h) (by rfl) (fun w hSw => ?_) (by assumption) ?_
          rotate_left
          · (try dsimp only at hSw); first | (go_simp; done) | (go_simp; with_reducible rfl)
          simp only [List.setIfInBounds_toArray, List.set_cons_zero, List.set_cons_succ]
          refine heldTake (v := ?_) 1 23 rfl rfl (by kernel_rfl) (by kernel_rfl) (by kernel_rfl) (fun _ _ _ h => h) (by rfl) (fun w hSw => ?_) (by assumption) ?_
          rotate_left
          · (try dsimp only at hSw); first | (go_simp; done) | (go_simp; with_reducible rfl)
          simp only [List.setIfInBounds_toArray, List.set_cons_zero, List.set_cons_succ]
          refine heldOne 2 rfl (by kernel_rfl) (by rfl) (fun K2 hK => ?_)
          go_simp
          refine (D1 _ (o4V (by assumption))).mono ?_
          rintro e wz ⟨rfl, hb⟩
          simp only []
          refine hK.out _ _ ?_ (fun hHeld => ?_)
          · exact k4V hb (by assumption)
          clear hK K2
          try simp only [List.setIfInBounds_toArray, List.set_cons_zero, List.set_cons_succ]
          refine heldTake (v := ?_) 3 25 rfl rfl (by kernel_rfl) (by kernel_rfl) (by kernel_rfl) (fun _ _ _ h => h) (by rfl) (fun w hSw => ?_) (by assumption) ?_
          rotate_left
          · (try dsimp only at hSw); first | (go_simp; done) | (go_simp; with_reducible rfl)
          simp only [List.setIfInBounds_toArray, List.set_cons_zero, List.set_cons_succ]
          refine heldTake (v := ?_) 4 26 rfl rfl (by kernel_rfl) (by kernel_rfl) (by kernel_rfl) (fun _ _ _ h => h) (by rfl) (fun w hSw => ?_) (by assumption) ?_
          rotate_left
          · (try dsimp only at hSw); first | (go_simp; done) | (go_simp; with_reducible rfl)
          simp only [List.setIfInBounds_toArray, List.set_cons_zero, List.set_cons_succ]
          refine heldTake (v := ?_) 5 27 rfl rfl (by kernel_rfl) (by kernel_rfl) (by kernel_rfl) (fun _ _ _ h => h) (by rfl) (fun w hSw => ?_) (by assumption) ?_
          rotate_left
          · (try dsimp only at hSw); first | (go_simp; done) | (go_simp; with_reducible rfl)
          simp only [List.setIfInBounds_toArray, List.set_cons_zero, List.set_cons_succ]
          refine heldTake (v := ?_) 6 28 rfl rfl (by kernel_rfl) (by kernel_rfl) (by kernel_rfl) (fun _ _ _ h => h) (by rfl) (fun w hSw => ?_) (by assumption) ?_
          rotate_left
          · (try dsimp only at hSw); first | (go_simp; done) | (go_simp; with_reducible rfl)
          simp only [List.setIfInBounds_toArray, List.set_cons_zero, List.set_cons_succ]
          refine heldTake (v := ?_) 7 29 rfl rfl (by kernel_rfl) (by kernel_rfl) (by kernel_rfl) (fun _ _ _ h => h) (by rfl) (fun w hSw => ?_) (by assumption) ?_
          rotate_left
          · (try dsimp only at hSw); first | (go_simp; done) | (go_simp; with_reducible rfl)
          simp only [List.setIfInBounds_toArray, List.set_cons_zero, List.set_cons_succ]
          refine heldTake (v := ?_) 8 30 rfl rfl (by kernel_rfl) (by kernel_rfl) (by kernel_rfl) (fun _ _ _ h => h) (by rfl) (fun w hSw => ?_) (by assumption) ?_
          rotate_left
          · (try dsimp only at hSw); first | (go_simp; done) | (go_simp; with_reducible rfl)
          simp only [List.setIfInBounds_toArray, List.set_cons_zero, List.set_cons_succ]
          refine heldTake (v := ?_) 9 31 rfl rfl (by kernel_rfl) (by kernel_rfl) (by kernel_rfl) (fun _ _ _ h => h) (by rfl) (fun w hSw => ?_) (by assumption) ?_
          rotate_left
          · (try dsimp only at hSw); first | (go_simp; done) | (go_simp; with_reducible rfl)
          simp only [List.setIfInBounds_toArray, List.set_cons_zero, List.set_cons_succ]
          refine heldTake (v := ?_) 10 32 rfl rfl (by kernel_rfl) (by kernel_rfl) (by kernel_rfl) (fun _ _ _ h => h) (by rfl) (fun w hSw => ?_) (by assumption) ?_
          rotate_left
          · (try dsimp only at hSw); first | (go_simp; done) | (go_simp; with_reducible rfl)
          simp only [List.setIfInBounds_toArray, List.set_cons_zero, List.set_cons_succ]
          refine heldTake (v := ?_) 11 33 rfl rfl (by kernel_rfl) (by kernel_rfl) (by kernel_rfl) (fun _ _ _ h => h) (by rfl) (fun w hSw => ?_) (by assumption) ?_
          rotate_left
          · (try dsimp only at hSw); first | (go_simp; done) | (go_simp; with_reducible rfl)
          simp only [List.setIfInBounds_toArray, List.set_cons_zero, List.set_cons_succ]
          refine heldTake (v := ?_) 12 34 rfl rfl (by kernel_rfl) (by kernel_rfl) (by kernel_rfl) (fun _ _ _ h => h) (by rfl) (fun w hSw => ?_) (by assumption) ?_
          rotate_left
          · (try dsimp only at hSw); first | (go_simp; done) | (go_simp; with_reducible rfl)
          simp only [List.setIfInBounds_toArray, List.set_cons_zero, List.set_cons_succ]
          refine heldTake (v := ?_) 13 35 rfl rfl (by kernel_rfl) (by kernel_rfl) (by kernel_rfl) (fun _ _ _ h => h) (by rfl) (fun w hSw => ?_) (by assumption) ?_
          rotate_left
          · (try dsimp only at hSw); first | (go_simp; done) | (go_simp; with_reducible rfl)
          simp only [List.setIfInBounds_toArray, List.set_cons_zero, List.set_cons_succ]
          refine heldOne 14 rfl (by kernel_rfl) (by rfl) (fun K2 hK => ?_)
          go_simp
          refine (D2 _).mono ?_
          rintro e wz ⟨rfl, hb⟩
          simp only []
          refine hK.out _ _ ?_ (fun hHeld => ?_)
          · exact k4V hb (by assumption)
          clear hK K2
          try simp only [List.setIfInBounds_toArray, List.set_cons_zero, List.set_cons_succ]
          refine heldTake (v := ?_) 15 37 rfl rfl (by kernel_rfl) (by kernel_rfl) (by kernel_rfl) (fun _ _ _ h => h) (by rfl) (fun w hSw => ?_) (by assumption) ?_
          rotate_left
          · (try dsimp only at hSw); first | (go_simp; done) | (go_simp; with_reducible rfl)
          simp only [List.setIfInBounds_toArray, List.set_cons_zero, List.set_cons_succ]
          refine heldTake (v := ?_) 16 38 rfl rfl (by kernel_rfl) (by kernel_rfl) (by kernel_rfl) (fun _ _ _ h => h) (by rfl) (fun w hSw => ?_) (by assumption) ?_
          rotate_left
          · (try dsimp only at hSw); first | (go_simp; done) | (go_simp; with_reducible rfl)
          simp only [List.setIfInBounds_toArray, List.set_cons_zero, List.set_cons_succ]
          refine heldTake (v := ?_) 17 39 rfl rfl (by kernel_rfl) (by kernel_rfl) (by kernel_rfl) (fun _ _ _ h => h) (by rfl) (fun w hSw => ?_) (by assumption) ?_
          rotate_left
          · (try dsimp only at hSw); first | (go_simp; done) | (go_simp; with_reducible rfl)
          simp only [List.setIfInBounds_toArray, List.set_cons_zero, List.set_cons_succ]
          refine wpAnyH_done (by kernel_rfl) ?_ _
          have HB9 : Hid (Below w.heap.size w _) := chain HB1.out hHeld.2.2.2.2.out
          clear hHeld
          go_wp2
          go_roundw
          case rel => exact ⟨j + 1 + 1, by omega, by go_num, HT', HB9⟩
          case measure => simp [RowKit.intOf]; omega
        | false =>
          rw [hls] at D2
          have HF : Hid (remF deps ds = false) := HX.out (by rw [HST2.out, hls])
          refine wp_region_held_drew (S := (fun w' => w'.cell? ⟨wr.heap.size, 0, none⟩ = some (.int .i64 p) ∧ w'.cell? ⟨wr.heap.size, 1, none⟩ = some (.int .i64 q) ∧ w'.cell? ⟨b1, o1 + j * 2, none⟩ = some (.int .i64 p') ∧ w'.cell? ⟨b1, o1 + j * 2 + 1, none⟩ = some (.int .i64 q') ∧ Hid (Below W.heap.size W w'))) (by kernel_rfl) HS3 (fun hHeld => ?_)
          refine heldTake (v := ?_) 0 22 rfl rfl (by kernel_rfl) (by kernel_rfl) (by kernel_rfl) (fun _ _ _ h => h) (by rfl) (fun w hSw => ?_) (by assumption) ?_
          rotate_left
          · (try dsimp only at hSw); first | (go_simp; done) | (go_simp; with_reducible rfl)
          simp only [List.setIfInBounds_toArray, List.set_cons_zero, List.set_cons_succ]
          refine heldTake (v := ?_) 1 23 rfl rfl (by kernel_rfl) (by kernel_rfl) (by kernel_rfl) (fun _ _ _ h => h) (by rfl) (fun w hSw => ?_) (by assumption) ?_
          rotate_left
          · (try dsimp only at hSw); first | (go_simp; done) | (go_simp; with_reducible rfl)
          simp only [List.setIfInBounds_toArray, List.set_cons_zero, List.set_cons_succ]
          refine heldOne 2 rfl (by kernel_rfl) (by rfl) (fun K2 hK => ?_)
          go_simp
          refine (D1 _ (o4V (by assumption))).mono ?_
          rintro e wz ⟨rfl, hb⟩
          simp only []
          refine hK.out _ _ ?_ (fun hHeld => ?_)
          · exact k4V hb (by assumption)
          clear hK K2
          try simp only [List.setIfInBounds_toArray, List.set_cons_zero, List.set_cons_succ]
          refine heldTake (v := ?_) 3 25 rfl rfl (by kernel_rfl) (by kernel_rfl) (by kernel_rfl) (fun _ _ _ h => h) (by rfl) (fun w hSw => ?_) (by assumption) ?_
          rotate_left
          · (try dsimp only at hSw); first | (go_simp; done) | (go_simp; with_reducible rfl)
          simp only [List.setIfInBounds_toArray, List.set_cons_zero, List.set_cons_succ]
          refine heldTake (v := ?_) 4 26 rfl rfl (by kernel_rfl) (by kernel_rfl) (by kernel_rfl) (fun _ _ _ h => h) (by rfl) (fun w hSw => ?_) (by assumption) ?_
          rotate_left
          · (try dsimp only at hSw); first | (go_simp; done) | (go_simp; with_reducible rfl)
          simp only [List.setIfInBounds_toArray, List.set_cons_zero, List.set_cons_succ]
          refine heldTake (v := ?_) 5 27 rfl rfl (by kernel_rfl) (by kernel_rfl) (by kernel_rfl) (fun _ _ _ h => h) (by rfl) (fun w hSw => ?_) (by assumption) ?_
          rotate_left
          · (try dsimp only at hSw); first | (go_simp; done) | (go_simp; with_reducible rfl)
          simp only [List.setIfInBounds_toArray, List.set_cons_zero, List.set_cons_succ]
          refine heldTake (v := ?_) 6 28 rfl rfl (by kernel_rfl) (by kernel_rfl) (by kernel_rfl) (fun _ _ _ h => h) (by rfl) (fun w hSw => ?_) (by assumption) ?_
          rotate_left
          · (try dsimp only at hSw); first | (go_simp; done) | (go_simp; with_reducible rfl)
          simp only [List.setIfInBounds_toArray, List.set_cons_zero, List.set_cons_succ]
          refine heldTake (v := ?_) 7 29 rfl rfl (by kernel_rfl) (by kernel_rfl) (by kernel_rfl) (fun _ _ _ h => h) (by rfl) (fun w hSw => ?_) (by assumption) ?_
          rotate_left
          · (try dsimp only at hSw); first | (go_simp; done) | (go_simp; with_reducible rfl)
          simp only [List.setIfInBounds_toArray, List.set_cons_zero, List.set_cons_succ]
          refine heldTake (v := ?_) 8 30 rfl rfl (by kernel_rfl) (by kernel_rfl) (by kernel_rfl) (fun _ _ _ h => h) (by rfl) (fun w hSw => ?_) (by assumption) ?_
          rotate_left
          · (try dsimp only at hSw); first | (go_simp; done) | (go_simp; with_reducible rfl)
          simp only [List.setIfInBounds_toArray, List.set_cons_zero, List.set_cons_succ]
          refine heldTake (v := ?_) 9 31 rfl rfl (by kernel_rfl) (by kernel_rfl) (by kernel_rfl) (fun _ _ _ h => h) (by rfl) (fun w hSw => ?_) (by assumption) ?_
          rotate_left
          · (try dsimp only at hSw); first | (go_simp; done) | (go_simp; with_reducible rfl)
          simp only [List.setIfInBounds_toArray, List.set_cons_zero, List.set_cons_succ]
          refine heldTake (v := ?_) 10 32 rfl rfl (by kernel_rfl) (by kernel_rfl) (by kernel_rfl) (fun _ _ _ h => h) (by rfl) (fun w hSw => ?_) (by assumption) ?_
          rotate_left
          · (try dsimp only at hSw); first | (go_simp; done) | (go_simp; with_reducible rfl)
          simp only [List.setIfInBounds_toArray, List.set_cons_zero, List.set_cons_succ]
          refine heldTake (v := ?_) 11 33 rfl rfl (by kernel_rfl) (by kernel_rfl) (by kernel_rfl) (fun _ _ _ h => h) (by rfl) (fun w hSw => ?_) (by assumption) ?_
          rotate_left
          · (try dsimp only at hSw); first | (go_simp; done) | (go_simp; with_reducible rfl)
          simp only [List.setIfInBounds_toArray, List.set_cons_zero, List.set_cons_succ]
          refine heldTake (v := ?_) 12 34 rfl rfl (by kernel_rfl) (by kernel_rfl) (by kernel_rfl) (fun _ _ _ h => h) (by rfl) (fun w hSw => ?_) (by assumption) ?_
          rotate_left
          · (try dsimp only at hSw); first | (go_simp; done) | (go_simp; with_reducible rfl)
          simp only [List.setIfInBounds_toArray, List.set_cons_zero, List.set_cons_succ]
          refine heldTake (v := ?_) 13 35 rfl rfl (by kernel_rfl) (by kernel_rfl) (by kernel_rfl) (fun _ _ _ h => h) (by rfl) (fun w hSw => ?_) (by assumption) ?_
          rotate_left
          · (try dsimp only at hSw); first | (go_simp; done) | (go_simp; with_reducible rfl)
          simp only [List.setIfInBounds_toArray, List.set_cons_zero, List.set_cons_succ]
          refine heldOne 14 rfl (by kernel_rfl) (by rfl) (fun K2 hK => ?_)
          go_simp
          refine (D2 _).mono ?_
          rintro e wz ⟨rfl, hb⟩
          simp only []
          refine hK.out _ _ ?_ (fun hHeld => ?_)
          · exact k4V hb (by assumption)
          clear hK K2
          try simp only [List.setIfInBounds_toArray, List.set_cons_zero, List.set_cons_succ]
          refine heldTake (v := ?_) 15 37 rfl rfl (by kernel_rfl) (by kernel_rfl) (by kernel_rfl) (fun _ _ _ h => h) (by rfl) (fun w hSw => ?_) (by assumption) ?_
          rotate_left
          · (try dsimp only at hSw); first | (go_simp; done) | (go_simp; with_reducible rfl)
          simp only [List.setIfInBounds_toArray, List.set_cons_zero, List.set_cons_succ]
          refine heldTake (v := ?_) 16 38 rfl rfl (by kernel_rfl) (by kernel_rfl) (by kernel_rfl) (fun _ _ _ h => h) (by rfl) (fun w hSw => ?_) (by assumption) ?_
          rotate_left
          · (try dsimp only at hSw); first | (go_simp; done) | (go_simp; with_reducible rfl)
          simp only [List.setIfInBounds_toArray, List.set_cons_zero, List.set_cons_succ]
          refine heldTake (v := ?_) 17 39 rfl rfl (by kernel_rfl) (by kernel_rfl) (by kernel_rfl) (fun _ _ _ h => h) (by rfl) (fun w hSw => ?_) (by assumption) ?_
          rotate_left
          · (try dsimp only at hSw); first | (go_simp; done) | (go_simp; with_reducible rfl)
          simp only [List.setIfInBounds_toArray, List.set_cons_zero, List.set_cons_succ]
          refine wpAnyH_done (by kernel_rfl) ?_ _
          have HB9 : Hid (Below w.heap.size w _) := chain HB1.out hHeld.2.2.2.2.out
          clear hHeld
          go_wp2
          go_ret
          exact ⟨by rw [HF.out]; rfl, HB9.out⟩
  obtain rfl : k = n := by omega
  go_wp2
  go_ret
  exact ⟨by rw [HD.out, hT.out]; rfl, hB.out⟩

theorem opRem_any (a b : Option Addr) (n m cap dap : Nat) (ds : List (Int × Int)) (deps : List Int) (w : World) (hn : ds.length = n) (hl : n ≤ 65536) (hm : deps.length = m) (hl' : m ≤ 65536) (ha : RdD w a ds) (hb : RdI .i64 w b deps) (hdp : All64 deps) (hds : ∀ d ∈ ds, In64 d.1 ∧ In64 d.2) :
    Calls Try.prog 87 #[.slice a n cap, .slice b m dap] w fun e w' => e = .returned (.bool (remF deps ds)) ∧ Below w.heap.size w w' := by
  by_cases h : n < 1 ∨ 64 < n
  · have e : remF deps ds = false := by unfold remF; rw [hn, decide_eq_false (by omega)]; rfl
    rw [e]
    exact opRem_len a b n m cap dap w h hl
  · obtain ⟨b1, o1, rfl, _⟩ := ha (by omega)
    exact opRem_few b1 o1 b n m cap dap ds deps w hn (by omega) (by omega) hm hl' ha hb hdp hds

end Go.Proofs.Ytjpcljmlkgjbgaa

namespace Go.Proofs.Ytjpcljmlkgjbgaa
open Go.RowKit Go.Lib
set_option linter.unusedVariables false

/-- The numbers of an operation are ints. -/
structure I64O (x : PO) : Prop where
  deps : All64 x.deps
  dp : In64 x.dp
  dn : In64 x.dn
  st : S64 ⟨x.sp, x.sl, x.sq⟩
  dots : ∀ d ∈ x.dots, In64 d.1 ∧ In64 d.2
  col : In64 x.col
  table : In64 x.table

/-- May it be its peer's next one? -/
def issuedF (n : Int) (x : PO) : Bool :=
  decide ((x.deps.length : Int) = n) && decide (chkD x.deps = 0) && nextD x.deps x.dp x.dn && decide (x.dn ≤ 1073741824) && decide (chkS ⟨x.sp, x.sl, x.sq⟩ = 0) && decide (x.sq = x.dp)

set_option maxRecDepth 100000 in
set_option maxHeartbeats 4000000 in
theorem opIssued_any (n : Int) (x : PO) (da va oa : Option Addr) (dc vc oc : Nat) (w : World) (h : LiesO w x da va oa dc vc oc) (hx : I64O x) :
    Calls Try.prog 50 #[.int .i64 n, .agg (cellsO x da va oa dc vc oc)] w fun e w' => e = .returned (.bool (issuedF n x)) ∧ Below w.heap.size w w' := by
  obtain ⟨dp, dn, deps, sp, sl, sq, kind, table, key, col, vals, dots⟩ := x
  have HR : Hid (RdI .i64 w da deps) := h.deps
  have hld : deps.length ≤ 65536 := h.ld
  have C1 := fun (W : World) (hb : Below w.heap.size w W) => dCheck_any da deps.length dc deps W rfl hld (HR.out.later hb)
  have C2 := fun (W : World) (hb : Below w.heap.size w W) => dotNext da deps.length dc dp dn deps W rfl hld hx.deps hx.dp hx.dn (HR.out.later hb)
  have C3 := fun (W : World) => hlcCheck sp sl sq W hx.st
  have HI : Hid (issuedF n ⟨dp, dn, deps, sp, sl, sq, kind, table, key, col, vals, dots⟩ = (decide ((deps.length : Int) = n) && decide (chkD deps = 0) && nextD deps dp dn && decide (dn ≤ 1073741824) && decide (chkS ⟨sp, sl, sq⟩ = 0) && decide (sq = dp))) := rfl
  generalize issuedF n ⟨dp, dn, deps, sp, sl, sq, kind, table, key, col, vals, dots⟩ = res at *
  generalize chkD deps = cd at *
  generalize nextD deps dp dn = nx at *
  generalize chkS ⟨sp, sl, sq⟩ = cs at *
  clear h hx HR
  simp only [cellsO]
  generalize deps.length = m at *
  generalize vals.length = nv at *
  generalize dots.length = no at *
  have HK : Hid (CellsAt (w.alloc (.cells #[.int .i64 dp, .int .i64 dn, .slice da m dc, .int .i64 sp, .int .i64 sl, .int .i64 sq, .int .i64 kind, .int .i64 table, .string key, .int .i64 col, .slice va nv vc, .slice oa no oc] 32)) w.heap.size #[.int .i64 dp, .int .i64 dn, .slice da m dc, .int .i64 sp, .int .i64 sl, .int .i64 sq, .int .i64 kind, .int .i64 table, .string key, .int .i64 col, .slice va nv vc, .slice oa no oc] 32) := CellsAt.made rfl
  have HB0 : Hid (Below w.heap.size w (w.alloc (.cells #[.int .i64 dp, .int .i64 dn, .slice da m dc, .int .i64 sp, .int .i64 sl, .int .i64 sq, .int .i64 kind, .int .i64 table, .string key, .int .i64 col, .slice va nv vc, .slice oa no oc] 32))) := alloc_below _ _
  have HC : Hid (∀ W, Below (w.alloc (.cells #[.int .i64 dp, .int .i64 dn, .slice da m dc, .int .i64 sp, .int .i64 sl, .int .i64 sq, .int .i64 kind, .int .i64 table, .string key, .int .i64 col, .slice va nv vc, .slice oa no oc] 32)).heap.size (w.alloc (.cells #[.int .i64 dp, .int .i64 dn, .slice da m dc, .int .i64 sp, .int .i64 sl, .int .i64 sq, .int .i64 kind, .int .i64 table, .string key, .int .i64 col, .slice va nv vc, .slice oa no oc] 32)) W → W.cell? ⟨w.heap.size, 0, none⟩ = some (.int .i64 dp) ∧ W.cell? ⟨w.heap.size, 1, none⟩ = some (.int .i64 dn) ∧ W.cell? ⟨w.heap.size, 2, none⟩ = some (.slice da m dc) ∧ W.cell? ⟨w.heap.size, 3, none⟩ = some (.int .i64 sp) ∧ W.cell? ⟨w.heap.size, 4, none⟩ = some (.int .i64 sl) ∧ W.cell? ⟨w.heap.size, 5, none⟩ = some (.int .i64 sq)) := fun W hb => by
    have k := HK.out.later hb
    exact ⟨k.cell 0, k.cell 1, k.cell 2, k.cell 3, k.cell 4, k.cell 5⟩
  clear HK
  by_cases h1 : (m : Int) = n
  case neg =>
    have q1 : ((m : Int) != n) = true := by simp [h1]
    have HF : Hid (res = false) := by rw [HI.out, decide_eq_false h1]; rfl
    clear C1 C2 C3
    go_enter Try.func50, Try.ntmps50
    go_wp2
    go_ret
    exact ⟨by rw [HF.out]; rfl, HB0.out⟩
  have q1 : ((m : Int) != n) = false := by simp [h1]
  by_cases h2 : cd = 0
  case neg =>
    have q2 : (cd != 0) = true := by simp [h2]
    have HF : Hid (res = false) := by show _ = _; rw [HI.out]; simp [h2]
    go_enter Try.func50, Try.ntmps50
    go_wp2_with fail
    refine (C1 _ HB0.out).mono ?_
    rintro e w1 ⟨rfl, hw⟩
    subst w1
    go_wp2
    go_ret
    exact ⟨by rw [HF.out]; rfl, HB0.out⟩
  subst h2
  cases nx with
  | false =>
    have HF : Hid (res = false) := by show _ = _; rw [HI.out]; simp
    go_enter Try.func50, Try.ntmps50
    go_wp2_with fail
    refine (C1 _ HB0.out).mono ?_
    rintro e w1 ⟨rfl, hw⟩
    subst w1
    go_wp2_with fail
    refine (C2 _ HB0.out).mono ?_
    rintro e w1 ⟨rfl, hb1⟩
    have HB1 : Hid (Below w.heap.size w w1) := chain HB0.out hb1
    clear hb1
    go_wp2
    go_ret
    exact ⟨by rw [HF.out]; rfl, HB1.out⟩
  | true =>
    by_cases h3 : dn ≤ 1073741824
    case neg =>
      have q3 : 1073741824 < dn := by omega
      have HF : Hid (res = false) := by show _ = _; rw [HI.out]; simp [h3]
      go_enter Try.func50, Try.ntmps50
      go_wp2_with fail
      refine (C1 _ HB0.out).mono ?_
      rintro e w1 ⟨rfl, hw⟩
      subst w1
      go_wp2_with fail
      refine (C2 _ HB0.out).mono ?_
      rintro e w1 ⟨rfl, hb1⟩
      obtain ⟨f0, f1, f2, f3, f4, f5⟩ := HC.out w1 hb1
      have HB1 : Hid (Below w.heap.size w w1) := chain HB0.out hb1
      clear hb1
      go_wp2
      go_ret
      exact ⟨by rw [HF.out]; rfl, HB1.out⟩
    by_cases h4 : cs = 0
    case neg =>
      have q4 : (cs == 0) = false := by simp [h4]
      have HF : Hid (res = false) := by show _ = _; rw [HI.out]; simp [h4]
      go_enter Try.func50, Try.ntmps50
      go_wp2_with fail
      refine (C1 _ HB0.out).mono ?_
      rintro e w1 ⟨rfl, hw⟩
      subst w1
      go_wp2_with fail
      refine (C2 _ HB0.out).mono ?_
      rintro e w1 ⟨rfl, hb1⟩
      obtain ⟨f0, f1, f2, f3, f4, f5⟩ := HC.out w1 hb1
      have HB1 : Hid (Below w.heap.size w w1) := chain HB0.out hb1
      clear hb1
      go_wp2_with fail
      refine (C3 _).mono ?_
      rintro e w2 ⟨rfl, hb2⟩
      have HB2 : Hid (Below w.heap.size w w2) := chain HB1.out hb2
      go_wp2
      go_ret
      exact ⟨by rw [HF.out]; rfl, HB2.out⟩
    subst h4
    have HF : Hid (res = decide (sq = dp)) := by show _ = _; rw [HI.out]; simp [h1, h3]
    go_enter Try.func50, Try.ntmps50
    go_wp2_with fail
    refine (C1 _ HB0.out).mono ?_
    rintro e w1 ⟨rfl, hw⟩
    subst w1
    go_wp2_with fail
    refine (C2 _ HB0.out).mono ?_
    rintro e w1 ⟨rfl, hb1⟩
    obtain ⟨f0, f1, f2, f3, f4, f5⟩ := HC.out w1 hb1
    have HB1 : Hid (Below w.heap.size w w1) := chain HB0.out hb1
    have HBo : Hid (Below (w.alloc (.cells #[.int .i64 dp, .int .i64 dn, .slice da m dc, .int .i64 sp, .int .i64 sl, .int .i64 sq, .int .i64 kind, .int .i64 table, .string key, .int .i64 col, .slice va nv vc, .slice oa no oc] 32)).heap.size (w.alloc (.cells #[.int .i64 dp, .int .i64 dn, .slice da m dc, .int .i64 sp, .int .i64 sl, .int .i64 sq, .int .i64 kind, .int .i64 table, .string key, .int .i64 col, .slice va nv vc, .slice oa no oc] 32)) w1) := hb1
    clear hb1
    go_wp2_with fail
    refine (C3 _).mono ?_
    rintro e w2 ⟨rfl, hb2⟩
    obtain ⟨g0, g1, g2, g3, g4, g5⟩ := HC.out w2 (chain HBo.out hb2)
    have HB2 : Hid (Below w.heap.size w w2) := chain HB1.out hb2
    clear hb2
    by_cases h5 : sq = dp
    · subst h5
      go_wp2
      go_ret
      exact ⟨by rw [HF.out]; simp, HB2.out⟩
    · have q5 : (sq == dp) = false := by simp [h5]
      go_wp2
      go_ret
      exact ⟨by rw [HF.out, decide_eq_false h5]; rfl, HB2.out⟩

end Go.Proofs.Ytjpcljmlkgjbgaa

namespace Go.Proofs.Ytjpcljmlkgjbgaa
open Go.RowKit Go.Lib
set_option linter.unusedVariables false

/-- Can a number be written in so many bytes? -/
def fitsF (n : Int) (s : Nat) : Bool := decide (0 ≤ n ∧ n < ((256 ^ s : Nat) : Int))

theorem putN_isSome (n : Int) (s : Nat) : (putN n s).isSome = fitsF n s := by
  unfold putN fitsF
  by_cases h : 0 ≤ n ∧ n < ((256 ^ s : Nat) : Int)
  · rw [if_pos h, decide_eq_true h]; rfl
  · rw [if_neg h, decide_eq_false h]; rfl

set_option maxHeartbeats 400000 in
theorem fits_any (n : Int) (s : Nat) (w : World) (hs1 : 1 ≤ s) (hs7 : s ≤ 7) :
    Calls Try.prog 56 #[.int .i64 n, .int .i64 s] w fun e w' => e = .returned (.bool (fitsF n s)) ∧ w' = w := by
  by_cases h0 : n < 0
  · have e : Hid (fitsF n s = false) := decide_eq_false (by omega)
    go_enter Try.func56, Try.ntmps56
    go_wp2
    go_ret
    exact ⟨by rw [e.out]; simp, rfl⟩
  · obtain ⟨m, rfl⟩ : ∃ m : Nat, n = m := ⟨n.toNat, by omega⟩
    by_cases h : m < 256 ^ s
    · have e : Hid (fitsF (m : Int) s = true) := decide_eq_true (by omega)
      have hq : ((m : Int) / 2 ^ (8 * s) == 0) = true := by have := shr_none m s h; simpa using this
      clear h
      go_enter Try.func56, Try.ntmps56
      go_wp2
      go_ret
      exact ⟨by rw [e.out]; rfl, rfl⟩
    · have e : Hid (fitsF (m : Int) s = false) := decide_eq_false (by omega)
      have hq : ((m : Int) / 2 ^ (8 * s) == 0) = false := by have := shr_some m s (by omega); simpa using this
      clear h
      go_enter Try.func56, Try.ntmps56
      go_wp2
      go_ret
      exact ⟨by rw [e.out]; rfl, rfl⟩

/-- Can a dot? -/
def fitsD (d : Int × Int) : Bool := fitsF d.1 1 && fitsF d.2 4

set_option maxHeartbeats 400000 in
theorem dotFits_any (p k : Int) (w : World) :
    Calls Try.prog 57 #[.agg #[.int .i64 p, .int .i64 k]] w fun e w' => e = .returned (.bool (fitsD (p, k))) ∧ Below w.heap.size w w' := by
  obtain ⟨x0, x1⟩ := box2_cells (t := 25) w (.int .i64 p) (.int .i64 k)
  have HB : Hid (Below w.heap.size w (w.alloc (.cells #[.int .i64 p, .int .i64 k] 25))) := alloc_below _ _
  have C1 := fun W => fits_any p 1 W (by omega) (by omega)
  have C2 := fun W => fits_any k 4 W (by omega) (by omega)
  have HI : Hid (fitsD (p, k) = (fitsF p 1 && fitsF k 4)) := rfl
  generalize fitsD (p, k) = r at *
  generalize fitsF p 1 = a at *
  generalize fitsF k 4 = b at *
  go_enter Try.func57, Try.ntmps57
  go_wp2_with fail
  refine (C1 _).mono ?_
  rintro e w1 ⟨rfl, hw⟩
  subst hw
  cases a
  · go_wp2
    go_ret
    exact ⟨by rw [HI.out]; rfl, HB.out⟩
  · go_wp2_with fail
    refine (C2 _).mono ?_
    rintro e w1 ⟨rfl, hw⟩
    subst hw
    go_wp2
    go_ret
    exact ⟨by rw [HI.out]; simp, HB.out⟩

/-- Can a time? -/
def fitsS (p l q : Int) : Bool := fitsF p 6 && fitsF l 3 && fitsF q 1

set_option maxHeartbeats 400000 in
theorem stampFits_any (p l q : Int) (w : World) :
    Calls Try.prog 59 #[.agg #[.int .i64 p, .int .i64 l, .int .i64 q]] w fun e w' => e = .returned (.bool (fitsS p l q)) ∧ Below w.heap.size w w' := by
  obtain ⟨x0, x1, x2⟩ := (BoxS.made (w := w) (p := p) (l := l) (q := q) rfl).cells
  have HB : Hid (Below w.heap.size w (w.alloc (.cells #[.int .i64 p, .int .i64 l, .int .i64 q] 28))) := alloc_below _ _
  have C1 := fun W => fits_any p 6 W (by omega) (by omega)
  have C2 := fun W => fits_any l 3 W (by omega) (by omega)
  have C3 := fun W => fits_any q 1 W (by omega) (by omega)
  have HI : Hid (fitsS p l q = (fitsF p 6 && fitsF l 3 && fitsF q 1)) := rfl
  generalize fitsS p l q = r at *
  generalize fitsF p 6 = a at *
  generalize fitsF l 3 = b at *
  generalize fitsF q 1 = c at *
  go_enter Try.func59, Try.ntmps59
  go_wp2_with fail
  refine (C1 _).mono ?_
  rintro e w1 ⟨rfl, hw⟩
  subst hw
  cases a
  · go_wp2
    go_ret
    exact ⟨by rw [HI.out]; rfl, HB.out⟩
  · go_wp2_with fail
    refine (C2 _).mono ?_
    rintro e w1 ⟨rfl, hw⟩
    subst hw
    cases b
    · go_wp2
      go_ret
      exact ⟨by rw [HI.out]; rfl, HB.out⟩
    · go_wp2_with fail
      refine (C3 _).mono ?_
      rintro e w1 ⟨rfl, hw⟩
      subst hw
      go_wp2
      go_ret
      exact ⟨by rw [HI.out]; simp, HB.out⟩

/-- Can a vector? -/
def fitsVec (v : List Int) : Bool := v.all (fun n => fitsF n 4) && decide (v.length ≤ 5)

set_option maxHeartbeats 400000 in
theorem vectorFits_any (a : Option Addr) (n cap : Nat) (v : List Int) (w : World) (hn : v.length = n) (hl : n ≤ 65536) (hr : RdI .i64 w a v) :
    Calls Try.prog 58 #[.slice a n cap] w fun e w' => e = .returned (.bool (fitsVec v)) ∧ w' = w := by
  have HN : Hid (v.length = n) := hn
  have HR : Hid (RdI .i64 w a v) := hr
  clear hn hr
  go_enter Try.func58, Try.ntmps58
  go_wp2
  go_loop [3] (fun i => ∃ k : Nat, k ≤ n ∧ i = .int .i64 k ∧ Hid ((v.take k).all (fun n => fitsF n 4) = true)) (fun i => n - (RowKit.intOf i).toNat)
  case atStart => exact ⟨0, Nat.zero_le _, rfl, rfl⟩
  case round =>
    obtain ⟨k, hk, rfl, hT⟩ := hrel
    by_cases hlt : k < n
    · have hkl : k < v.length := by rw [HN.out]; exact hlt
      obtain ⟨b, off, rfl, hc⟩ := HR.out (by omega)
      have hck := hc k hkl
      have HS : Hid ((v.take (k + 1)).all (fun n => fitsF n 4) = fitsF v[k] 4) := by
        have h := hT.out
        show _ = _
        rw [List.take_succ_eq_append_getElem hkl, List.all_append, h]
        simp
      have HX : Hid (fitsF v[k] 4 = false → fitsVec v = false) := fun h => by
        unfold fitsVec
        have : v.all (fun n => fitsF n 4) = false := by
          rw [List.all_eq_false]
          exact ⟨_, List.getElem_mem hkl, by simp [h]⟩
        rw [this]; rfl
      clear hc HR
      have C := fun W => fits_any v[k] 4 W (by omega) (by omega)
      generalize fitsF v[k] 4 = f at *
      generalize v[k] = x at *
      go_wp2_with fail
      refine (C _).mono ?_
      rintro e w1 ⟨rfl, hw⟩
      subst w1
      cases f
      · go_wp2
        go_ret
        exact ⟨by rw [HX.out (by trivial)]; rfl, rfl⟩
      · go_wp2
        go_round
        case rel => exact ⟨k + 1, by omega, by go_num, HS⟩
        case measure => simp [RowKit.intOf]; omega
    · have h := hT.out
      rw [List.take_of_length_le (by rw [HN.out]; omega)] at h
      have HH : Hid (fitsVec v = decide (n ≤ 5)) := by
        unfold fitsVec
        show _ = _
        rw [h, HN.out]; rfl
      clear h hT
      by_cases h5 : n ≤ 5
      · go_wp2
        go_ret
        exact ⟨by rw [HH.out, decide_eq_true h5]; simp; omega, rfl⟩
      · go_wp2
        go_ret
        exact ⟨by rw [HH.out, decide_eq_false h5]; simp; omega, rfl⟩

end Go.Proofs.Ytjpcljmlkgjbgaa

namespace Go.Proofs.Ytjpcljmlkgjbgaa
open Go.RowKit Go.Lib
set_option linter.unusedVariables false

/-- These bytes stand there. -/
def Stands (l : List UInt8) (q : Nat) (B : List UInt8) : Prop := ∃ r, l.drop q = B ++ r

theorem Stands.app {l B C : List UInt8} {q : Nat} : Stands l q (B ++ C) ↔ Stands l q B ∧ Stands l (q + B.length) C := by
  have e : l.drop (q + B.length) = (l.drop q).drop B.length := by rw [List.drop_drop]
  constructor
  · rintro ⟨r, h⟩
    refine ⟨⟨C ++ r, by rw [h, List.append_assoc]⟩, ⟨r, ?_⟩⟩
    rw [e, h, List.append_assoc, List.drop_left]
  · rintro ⟨⟨r, h⟩, ⟨r', h'⟩⟩
    refine ⟨r', ?_⟩
    rw [e, h, List.drop_left] at h'
    rw [h, h', List.append_assoc]

theorem Stands.le {l B : List UInt8} {q : Nat} (h : Stands l q B) (h0 : 0 < B.length) : q + B.length ≤ l.length := by
  obtain ⟨r, h⟩ := h
  have := congrArg List.length h
  simp at this
  omega

theorem Stands.whole (B : List UInt8) : Stands B 0 B := ⟨[], by simp⟩

/-- A reader's place is one of the bytes, or they are none. -/
def Fine (l : List UInt8) (s : Int × Int) : Prop := (s.2 = 0 ∧ 0 ≤ s.1 ∧ s.1 ≤ (l.length : Int)) ∨ s.2 = 3

/-- What is read of things that are written so. -/
structure Lawful {α : Type} (T : List UInt8 → Int × Int → α × (Int × Int)) (enc : α → List UInt8) (ok : α → Prop) : Prop where
  fwd : ∀ l (q : Nat) v, ok v → Stands l q (enc v) → T l ((q : Int), 0) = (v, ((q : Int) + ((enc v).length : Int), 0))
  inv : ∀ l s, (T l s).2.2 = 0 → s.2 = 0 ∧ ∃ q : Nat, s.1 = q ∧ ok (T l s).1 ∧ Stands l q (enc (T l s).1) ∧ (T l s).2.1 = (q : Int) + ((enc (T l s).1).length : Int)
  fine : ∀ l s, Fine l s → Fine l (T l s).2

def seqT {α β : Type} (T : List UInt8 → Int × Int → α × (Int × Int)) (U : List UInt8 → Int × Int → β × (Int × Int)) (l : List UInt8) (s : Int × Int) : (α × β) × (Int × Int) :=
  (((T l s).1, (U l (T l s).2).1), (U l (T l s).2).2)

theorem Lawful.seq {α β : Type} {T : List UInt8 → Int × Int → α × (Int × Int)} {U : List UInt8 → Int × Int → β × (Int × Int)} {e : α → List UInt8} {f : β → List UInt8} {p : α → Prop} {q : β → Prop} (hT : Lawful T e p) (hU : Lawful U f q) :
    Lawful (seqT T U) (fun v => e v.1 ++ f v.2) (fun v => p v.1 ∧ q v.2) where
  fwd := fun l k v hv hs => by
    obtain ⟨h1, h2⟩ := Stands.app.1 hs
    have a := hT.fwd l k v.1 hv.1 h1
    have b := hU.fwd l (k + (e v.1).length) v.2 hv.2 h2
    rw [show ((k + (e v.1).length : Nat) : Int) = (k : Int) + ((e v.1).length : Int) from by omega] at b
    unfold seqT
    rw [a]
    simp only []
    rw [b, List.length_append]
    simp only [Prod.mk.injEq, true_and, and_true]
    omega
  inv := fun l s h => by
    have h2 : (U l (T l s).2).2.2 = 0 := h
    obtain ⟨z, k2, e2, ok2, st2, p2⟩ := hU.inv l _ h2
    obtain ⟨z1, k1, e1, ok1, st1, p1⟩ := hT.inv l s z
    have hk : k2 = k1 + (e (T l s).1).length := by omega
    subst hk
    refine ⟨z1, k1, e1, ⟨ok1, ok2⟩, Stands.app.2 ⟨st1, st2⟩, ?_⟩
    show (U l (T l s).2).2.1 = _
    rw [p2, List.length_append]
    simp only [seqT]
    omega
  fine := fun l s h => hU.fine l _ (hT.fine l s h)

/-- A number of so many bytes. -/
theorem lawN (size : Nat) (h1 : 1 ≤ size) (h7 : size ≤ 7) : Lawful (fun l s => takeN l s (size : Int)) (fun n => be n.toNat size) (fun n => fitsF n size = true) where
  fwd := fun l q n hv hs => by
    have hv' : 0 ≤ n ∧ n < ((256 ^ size : Nat) : Int) := by simpa [fitsF] using hv
    have hle := hs.le (by rw [be_length]; omega)
    obtain ⟨r, hr⟩ := hs
    rw [be_length] at hle
    unfold takeN rGet
    simp only [if_true]
    rw [if_neg (by omega), if_neg (by omega)]
    simp only [Int.toNat_natCast, hr]
    rw [List.take_left' (be_length _ _), num_be_of_lt (by omega), be_length]
    simp only [Prod.mk.injEq, and_true]
    omega
  inv := fun l s h => by
    unfold takeN at h ⊢
    by_cases h0 : s.2 = 0
    · rw [if_pos h0] at h ⊢
      unfold rGet at h ⊢
      by_cases c1 : (size : Int) < 1 ∨ 7 < (size : Int) ∨ s.1 < 0 ∨ (l.length : Int) < s.1
      · rw [if_pos c1] at h
        exact absurd h (by decide)
      rw [if_neg c1] at h ⊢
      by_cases c2 : (l.length : Int) - s.1 < (size : Int)
      · rw [if_pos c2] at h
        exact absurd h (by decide)
      rw [if_neg c2] at h ⊢
      simp only [Int.toNat_natCast]
      have hlen : ((l.drop s.1.toNat).take size).length = size := by rw [List.length_take, List.length_drop]; omega
      have hb : be (num ((l.drop s.1.toNat).take size)) size = (l.drop s.1.toNat).take size := by
        have := be_num ((l.drop s.1.toNat).take size)
        rw [hlen] at this
        exact this
      have hlt := num_lt ((l.drop s.1.toNat).take size)
      rw [hlen] at hlt
      refine ⟨h0, s.1.toNat, by omega, ?_, ⟨(l.drop s.1.toNat).drop size, ?_⟩, ?_⟩
      · unfold fitsF
        exact decide_eq_true ⟨by omega, by omega⟩
      · rw [hb, List.take_append_drop]
      · rw [be_length]
        omega
    · rw [if_neg h0] at h
      exact absurd h h0
  fine := fun l s h => by
    rcases h with ⟨h0, h2, h3⟩ | h0
    · unfold takeN
      rw [if_pos h0]
      unfold rGet
      rw [if_neg (by omega)]
      by_cases c2 : (l.length : Int) - s.1 < (size : Int)
      · rw [if_pos c2]
        exact .inr rfl
      · rw [if_neg c2]
        exact .inl ⟨rfl, by simp only; omega, by simp only; omega⟩
    · unfold takeN
      rw [if_neg (by omega)]
      exact .inr h0

/-- A count. -/
theorem lawC (most : Nat) (hm : most ≤ 255) : Lawful (fun l s => takeC l s 1 (most : Int)) (fun n => be n.toNat 1) (fun n => 0 ≤ n ∧ n ≤ (most : Int)) where
  fwd := fun l q n hv hs => by
    have a := (lawN 1 (by omega) (by omega)).fwd l q n (by unfold fitsF; exact decide_eq_true ⟨by omega, by omega⟩) hs
    have a' : takeN l ((q : Int), 0) 1 = (n, ((q : Int) + ((be n.toNat 1).length : Int), 0)) := a
    simp only [takeC]
    rw [a', if_neg (by simp only; omega)]
  inv := fun l s h => by
    simp only [takeC] at h ⊢
    by_cases c : (most : Int) < (takeN l s 1).1
    · rw [if_pos c] at h
      exact absurd h (show ¬ ((3 : Int) = 0) by decide)
    · rw [if_neg c] at h ⊢
      obtain ⟨z, q, e, ok, st, p⟩ := (lawN 1 (by omega) (by omega)).inv l s h
      have ok' : 0 ≤ (takeN l s 1).1 ∧ (takeN l s 1).1 < ((256 ^ 1 : Nat) : Int) := by simpa [fitsF] using ok
      exact ⟨z, q, e, ⟨ok'.1, by omega⟩, st, p⟩
  fine := fun l s h => by
    simp only [takeC]
    by_cases c : (most : Int) < (takeN l s 1).1
    · rw [if_pos c]
      exact .inr rfl
    · rw [if_neg c]
      exact (lawN 1 (by omega) (by omega)).fine l s h

/-- So many of them. -/
def manyT {α : Type} (T : List UInt8 → Int × Int → α × (Int × Int)) (l : List UInt8) : Nat → Int × Int → List α × (Int × Int)
  | 0, s => ([], s)
  | n + 1, s => ((T l s).1 :: (manyT T l n (T l s).2).1, (manyT T l n (T l s).2).2)

theorem manyT_len {α : Type} (T : List UInt8 → Int × Int → α × (Int × Int)) (l : List UInt8) : ∀ n s, (manyT T l n s).1.length = n
  | 0, _ => rfl
  | n + 1, s => by simp [manyT, manyT_len T l n]

theorem many_fwd {α : Type} {T : List UInt8 → Int × Int → α × (Int × Int)} {e : α → List UInt8} {p : α → Prop} (hT : Lawful T e p) : ∀ (vs : List α) l (q : Nat), (∀ v ∈ vs, p v) → Stands l q (vs.flatMap e) → manyT T l vs.length ((q : Int), 0) = (vs, ((q : Int) + ((vs.flatMap e).length : Int), 0))
  | [], l, q, _, _ => by simp [manyT]
  | v :: vs, l, q, hp, hs => by
    rw [List.flatMap_cons] at hs
    obtain ⟨h1, h2⟩ := Stands.app.1 hs
    have a := hT.fwd l q v (hp v (List.mem_cons_self ..)) h1
    have b := many_fwd hT vs l (q + (e v).length) (fun u hu => hp u (List.mem_cons_of_mem _ hu)) h2
    rw [show ((q + (e v).length : Nat) : Int) = (q : Int) + ((e v).length : Int) from by omega] at b
    show ((T l ((q : Int), 0)).1 :: (manyT T l vs.length (T l ((q : Int), 0)).2).1, (manyT T l vs.length (T l ((q : Int), 0)).2).2) = _
    rw [a]
    simp only []
    rw [b, List.flatMap_cons, List.length_append]
    simp only [Prod.mk.injEq, true_and, and_true]
    omega

theorem many_inv {α : Type} {T : List UInt8 → Int × Int → α × (Int × Int)} {e : α → List UInt8} {p : α → Prop} (hT : Lawful T e p) : ∀ (n : Nat) l (s : Int × Int), (manyT T l n s).2.2 = 0 → (n ≠ 0 ∨ ∃ q : Nat, s.1 = q) → s.2 = 0 ∧ ∃ q : Nat, s.1 = q ∧ (∀ v ∈ (manyT T l n s).1, p v) ∧ Stands l q ((manyT T l n s).1.flatMap e) ∧ (manyT T l n s).2.1 = (q : Int) + (((manyT T l n s).1.flatMap e).length : Int)
  | 0, l, s, h, hq => by
    obtain ⟨q, hq⟩ : ∃ q : Nat, s.1 = q := by rcases hq with h | h; exact absurd rfl h; exact h
    exact ⟨h, q, hq, (fun v hv => by cases hv), ⟨l.drop q, rfl⟩, by simp [manyT, hq]⟩
  | n + 1, l, s, h, _ => by
    have h2 : (manyT T l n (T l s).2).2.2 = 0 := h
    have hz : (T l s).2.2 = 0 := by
      cases n with
      | zero => exact h2
      | succ n => exact (many_inv hT (n + 1) l _ h2 (.inl (by omega))).1
    obtain ⟨z1, k1, e1, ok1, st1, p1⟩ := hT.inv l s hz
    obtain ⟨z, k2, e2, ok2, st2, p2⟩ := many_inv hT n l _ h2 (.inr ⟨k1 + (e (T l s).1).length, by rw [p1]; omega⟩)
    have hk : k2 = k1 + (e (T l s).1).length := by omega
    subst hk
    refine ⟨z1, k1, e1, ?_, ?_, ?_⟩
    · intro v hv
      simp only [manyT, List.mem_cons] at hv
      rcases hv with rfl | hv
      · exact ok1
      · exact ok2 v hv
    · simp only [manyT, List.flatMap_cons]
      exact Stands.app.2 ⟨st1, st2⟩
    · simp only [manyT, List.flatMap_cons, List.length_append]
      rw [p2]
      omega

theorem many_fine {α : Type} {T : List UInt8 → Int × Int → α × (Int × Int)} {e : α → List UInt8} {p : α → Prop} (hT : Lawful T e p) (l : List UInt8) : ∀ (n : Nat) s, Fine l s → Fine l (manyT T l n s).2
  | 0, s, h => h
  | n + 1, s, h => many_fine hT l n _ (hT.fine l s h)

/-- A list with its count ahead of it. -/
theorem lawL {α : Type} {T : List UInt8 → Int × Int → α × (Int × Int)} {e : α → List UInt8} {p : α → Prop} (hT : Lawful T e p) (most : Nat) (hm : most ≤ 255) :
    Lawful (fun l s => manyT T l (takeC l s 1 (most : Int)).1.toNat (takeC l s 1 (most : Int)).2) (fun vs => be vs.length 1 ++ vs.flatMap e) (fun vs => vs.length ≤ most ∧ ∀ v ∈ vs, p v) where
  fwd := fun l q vs hv hs => by
    obtain ⟨h1, h2⟩ := Stands.app.1 hs
    have a := (lawC most hm).fwd l q (vs.length : Int) ⟨by omega, by have := hv.1; omega⟩ (by rw [Int.toNat_natCast]; exact h1)
    simp only [Int.toNat_natCast] at a
    have b := many_fwd hT vs l (q + (be vs.length 1).length) hv.2 h2
    rw [show ((q + (be vs.length 1).length : Nat) : Int) = (q : Int) + ((be vs.length 1).length : Int) from by omega] at b
    rw [a]
    simp only [Int.toNat_natCast]
    rw [b, List.length_append]
    simp only [Prod.mk.injEq, true_and, and_true]
    omega
  inv := fun l s h => by
    have hz : (takeC l s 1 (most : Int)).2.2 = 0 := by
      generalize (takeC l s 1 (most : Int)).1.toNat = n at h
      cases n with
      | zero => exact h
      | succ n => exact (many_inv hT (n + 1) l _ h (.inl (by omega))).1
    obtain ⟨z1, k1, e1, ok1, st1, p1⟩ := (lawC most hm).inv l s hz
    obtain ⟨z, k2, e2, ok2, st2, p2⟩ := many_inv hT _ l _ h (.inr ⟨k1 + (be (takeC l s 1 (most : Int)).1.toNat 1).length, by rw [p1]; omega⟩)
    have hn := manyT_len T l (takeC l s 1 (most : Int)).1.toNat (takeC l s 1 (most : Int)).2
    have hk : k2 = k1 + (be (takeC l s 1 (most : Int)).1.toNat 1).length := by omega
    subst hk
    refine ⟨z1, k1, e1, ⟨by rw [hn]; omega, ok2⟩, ?_, ?_⟩
    · rw [hn]
      exact Stands.app.2 ⟨st1, st2⟩
    · rw [p2, hn, List.length_append]
      omega
  fine := fun l s h => many_fine hT l _ _ ((lawC most hm).fine l s h)

theorem takeNs_many (l : List UInt8) : ∀ n s, takeNs l n s = manyT (fun l s => takeN l s 4) l n s
  | 0, _ => rfl
  | n + 1, s => by simp only [takeNs, manyT, takeNs_many l n]

theorem takeDs_many (l : List UInt8) : ∀ n s, takeDs l n s = manyT takeD l n s
  | 0, _ => rfl
  | n + 1, s => by simp only [takeDs, manyT, takeDs_many l n]

/-- A dot's bytes; a time's; a text's. -/
def encD (d : Int × Int) : List UInt8 := be d.1.toNat 1 ++ be d.2.toNat 4
def encS (s : Int × Int × Int) : List UInt8 := be s.1.toNat 6 ++ (be s.2.1.toNat 3 ++ be s.2.2.toNat 1)
def encV (v : List Int) : List UInt8 := be v.length 1 ++ v.flatMap fun n => be n.toNat 4
def encDs (ds : List (Int × Int)) : List UInt8 := be ds.length 1 ++ ds.flatMap encD

theorem lawD : Lawful takeD encD (fun d => fitsD d = true) := by
  have h := (lawN 1 (by omega) (by omega)).seq (lawN 4 (by omega) (by omega))
  refine ⟨fun l q v hv hs => h.fwd l q v (by simpa [fitsD] using hv) hs, fun l s hz => ?_, fun l s hf => h.fine l s hf⟩
  obtain ⟨z, q, e, ok, st, p⟩ := h.inv l s hz
  refine ⟨z, q, e, ?_, st, p⟩
  have ok' : fitsF (takeD l s).1.1 1 = true ∧ fitsF (takeD l s).1.2 4 = true := ok
  simp only [fitsD, ok'.1, ok'.2, Bool.and_self]

theorem lawS : Lawful takeS encS (fun s => fitsS s.1 s.2.1 s.2.2 = true) := by
  have h := (lawN 6 (by omega) (by omega)).seq ((lawN 3 (by omega) (by omega)).seq (lawN 1 (by omega) (by omega)))
  have hS : ∀ v : Int × Int × Int, fitsS v.1 v.2.1 v.2.2 = true → fitsF v.1 6 = true ∧ fitsF v.2.1 3 = true ∧ fitsF v.2.2 1 = true := fun v hv => by
    have t : (fitsF v.1 6 = true ∧ fitsF v.2.1 3 = true) ∧ fitsF v.2.2 1 = true := by simpa [fitsS] using hv
    exact ⟨t.1.1, t.1.2, t.2⟩
  refine ⟨fun l q v hv hs => h.fwd l q v (hS v hv) hs, fun l s hz => ?_, fun l s hf => h.fine l s hf⟩
  obtain ⟨z, q, e, ok, st, p⟩ := h.inv l s hz
  refine ⟨z, q, e, ?_, st, p⟩
  have ok' : fitsF (takeS l s).1.1 6 = true ∧ fitsF (takeS l s).1.2.1 3 = true ∧ fitsF (takeS l s).1.2.2 1 = true := ok
  simp only [fitsS, ok'.1, ok'.2.1, ok'.2.2, Bool.and_self]

theorem lawV : Lawful takeV encV (fun v => v.length ≤ 5 ∧ ∀ n ∈ v, fitsF n 4 = true) := by
  have h := lawL (lawN 4 (by omega) (by omega)) 5 (by omega)
  have e : takeV = fun l s => manyT (fun l s => takeN l s ((4 : Nat) : Int)) l (takeC l s 1 ((5 : Nat) : Int)).1.toNat (takeC l s 1 ((5 : Nat) : Int)).2 := by
    funext l s
    exact takeNs_many l _ _
  rw [e]
  exact h

theorem lawDs : Lawful (fun l s => takeDots l s 64) encDs (fun ds => ds.length ≤ 64 ∧ ∀ d ∈ ds, fitsD d = true) := by
  have h := lawL lawD 64 (by omega)
  have e : (fun l s => takeDots l s 64) = fun l s => manyT takeD l (takeC l s 1 ((64 : Nat) : Int)).1.toNat (takeC l s 1 ((64 : Nat) : Int)).2 := by
    funext l s
    exact takeDs_many l _ _
  rw [e]
  exact h

theorem lawT : Lawful takeT (fun t => textBytes t.data.toList) (fun t => t.size ≤ 24) where
  fwd := fun l q t hv hs => by
    obtain ⟨r, hr⟩ := hs
    have ht : t.data.toList.length = t.size := rfl
    have := rGetText_of hr (by rw [ht]; exact hv)
    unfold takeT
    simp only [if_true]
    rw [this, textBytes_length, ht]
    simp only [Prod.mk.injEq, and_true]
    refine ⟨by first | trivial | rfl, by omega⟩
  inv := fun l s h => by
    unfold takeT at h ⊢
    by_cases h0 : s.2 = 0
    · rw [if_pos h0] at h ⊢
      simp only [] at h ⊢
      have hp : 0 ≤ s.1 := by
        rcases Int.lt_or_le s.1 0 with h1 | h1
        · exfalso
          unfold rGetText at h
          rw [if_pos (.inl h1)] at h
          exact absurd h (by decide)
        · exact h1
      obtain ⟨q, hq⟩ : ∃ q : Nat, s.1 = q := ⟨s.1.toNat, by omega⟩
      rw [hq] at h ⊢
      generalize hr : rGetText l (q : Int) = r at *
      obtain ⟨t, n, e⟩ := r
      simp only at h
      subst h
      obtain ⟨hs, hl, hn⟩ := rGetText_inv hr
      refine ⟨h0, q, rfl, hl, hs, ?_⟩
      rw [textBytes_length]
      show n = (q : Int) + ((1 + t.length : Nat) : Int)
      omega
    · rw [if_neg h0] at h
      exact absurd h h0
  fine := fun l s h => by
    rcases h with ⟨h0, h2, h3⟩ | h0
    · unfold takeT
      rw [if_pos h0]
      unfold rGetText
      rw [if_neg (by omega)]
      by_cases c2 : s.1 = (l.length : Int)
      · rw [if_pos c2]
        exact .inr rfl
      rw [if_neg c2]
      by_cases c3 : 24 < (l[s.1.toNat]?.getD 0).toNat ∨ l.length - (s.1.toNat + 1) < (l[s.1.toNat]?.getD 0).toNat
      · rw [if_pos c3]
        exact .inr rfl
      · rw [if_neg c3]
        exact .inl ⟨rfl, by simp only; omega, by simp only; omega⟩
    · unfold takeT
      rw [if_neg (by omega)]
      exact .inr h0

theorem readR_err (l : List UInt8) (p : Int) (h1 : 0 ≤ p) (h2 : p ≤ (l.length : Int)) : (readR l p).2.2 = 0 ∨ (readR l p).2.2 = 3 := by
  unfold readR
  rw [if_neg (by omega)]
  split
  · exact .inr rfl
  · split
    · exact .inr rfl
    · split
      · exact .inr rfl
      · exact .inl rfl

theorem lawR : Lawful takeR bytesR (fun vs => chkR vs = 0) where
  fwd := fun l q vs hv hs => by
    obtain ⟨r, hr⟩ := hs
    have := readR_bytes hv hr
    unfold takeR
    simp only [if_true]
    rw [this]
  inv := fun l s h => by
    unfold takeR at h ⊢
    by_cases h0 : s.2 = 0
    · rw [if_pos h0] at h ⊢
      simp only [] at h ⊢
      generalize hr : readR l s.1 = r at *
      obtain ⟨vs, n, e⟩ := r
      simp only at h
      subst h
      obtain ⟨q, hq, hc, hs, hn⟩ := readR_inv hr
      exact ⟨h0, q, hq, hc, hs, hn⟩
    · rw [if_neg h0] at h
      exact absurd h h0
  fine := fun l s h => by
    rcases h with ⟨h0, h2, h3⟩ | h0
    · unfold takeR
      rw [if_pos h0]
      simp only []
      rcases readR_err l s.1 h2 h3 with hz | hz
      · refine .inl ⟨hz, ?_⟩
        generalize hr : readR l s.1 = r at *
        obtain ⟨vs, n, e⟩ := r
        simp only at hz
        subst hz
        obtain ⟨q, hq, hc, hs, hn⟩ := readR_inv hr
        have := Stands.le hs (by simp [bytesR])
        simp only
        omega
      · exact .inr hz
    · unfold takeR
      rw [if_neg (by omega)]
      exact .inr h0

/-- An operation, piece by piece. -/
abbrev TO := Int × (Int × Int) × List Int × (Int × Int × Int) × Int × ByteArray × Int × List PV × List (Int × Int)

def toTO (x : PO) : TO := (x.kind, (x.dp, x.dn), x.deps, (x.sp, x.sl, x.sq), x.table, x.key, x.col, x.vals, x.dots)

def ofTO (t : TO) : PO := ⟨t.2.1.1, t.2.1.2, t.2.2.1, t.2.2.2.1.1, t.2.2.2.1.2.1, t.2.2.2.1.2.2, t.1, t.2.2.2.2.1, t.2.2.2.2.2.1, t.2.2.2.2.2.2.1, t.2.2.2.2.2.2.2.1, t.2.2.2.2.2.2.2.2⟩

theorem of_to (x : PO) : ofTO (toTO x) = x := rfl
theorem to_of (t : TO) : toTO (ofTO t) = t := rfl

def takeO : List UInt8 → Int × Int → TO × (Int × Int) :=
  seqT (fun l s => takeN l s ((1 : Nat) : Int)) (seqT takeD (seqT takeV (seqT takeS (seqT (fun l s => takeN l s ((1 : Nat) : Int)) (seqT takeT (seqT (fun l s => takeN l s ((1 : Nat) : Int)) (seqT takeR (fun l s => takeDots l s 64))))))))

/-- An operation's bytes, whether they can be. -/
def encTO (t : TO) : List UInt8 := be t.1.toNat 1 ++ (encD t.2.1 ++ (encV t.2.2.1 ++ (encS t.2.2.2.1 ++ (be t.2.2.2.2.1.toNat 1 ++ (textBytes t.2.2.2.2.2.1.data.toList ++ (be t.2.2.2.2.2.2.1.toNat 1 ++ (bytesR t.2.2.2.2.2.2.2.1 ++ encDs t.2.2.2.2.2.2.2.2)))))))

def okTO (t : TO) : Prop := fitsF t.1 1 = true ∧ fitsD t.2.1 = true ∧ (t.2.2.1.length ≤ 5 ∧ ∀ n ∈ t.2.2.1, fitsF n 4 = true) ∧ fitsS t.2.2.2.1.1 t.2.2.2.1.2.1 t.2.2.2.1.2.2 = true ∧ fitsF t.2.2.2.2.1 1 = true ∧ t.2.2.2.2.2.1.size ≤ 24 ∧ fitsF t.2.2.2.2.2.2.1 1 = true ∧ chkR t.2.2.2.2.2.2.2.1 = 0 ∧ (t.2.2.2.2.2.2.2.2.length ≤ 64 ∧ ∀ d ∈ t.2.2.2.2.2.2.2.2, fitsD d = true)

theorem lawO : Lawful takeO encTO okTO :=
  (lawN 1 (by omega) (by omega)).seq (lawD.seq (lawV.seq (lawS.seq ((lawN 1 (by omega) (by omega)).seq (lawT.seq ((lawN 1 (by omega) (by omega)).seq (lawR.seq lawDs)))))))

/-- Nothing. -/
def noO : PO := ⟨0, 0, [], 0, 0, 0, 0, 0, ByteArray.empty, 0, [], []⟩

theorem readO_take (l : List UInt8) (p : Int) : readO l p = if (takeO l (p, 0)).2.2 = 0 then (ofTO (takeO l (p, 0)).1, (takeO l (p, 0)).2.1, 0) else (noO, 0, (takeO l (p, 0)).2.2) := by
  have e : readO l p = if (endR (takeO l (p, 0)).2).2 = 0 then (ofTO (takeO l (p, 0)).1, (endR (takeO l (p, 0)).2).1, 0) else (noO, 0, (endR (takeO l (p, 0)).2).2) := rfl
  rw [e]
  unfold endR
  by_cases h : (takeO l (p, 0)).2.2 = 0
  · simp only [if_pos h, if_true]
  · simp only [if_neg h]

def okO (x : PO) : Prop := okTO (toTO x)
def bytesO (x : PO) : List UInt8 := encTO (toTO x)

theorem bytesO_pos (x : PO) : 0 < (bytesO x).length := by
  unfold bytesO encTO
  rw [List.length_append, be_length]
  omega

/-- What is written is read. -/
theorem readO_fwd {l : List UInt8} {q : Nat} {x : PO} (h : okO x) (hs : Stands l q (bytesO x)) : readO l (q : Int) = (x, (q : Int) + ((bytesO x).length : Int), 0) := by
  rw [readO_take, lawO.fwd l q (toTO x) h hs]
  rfl

/-- What is read was written so. -/
theorem readO_inv {l : List UInt8} {p : Int} (h : (readO l p).2.2 = 0) : ∃ q : Nat, p = q ∧ okO (readO l p).1 ∧ Stands l q (bytesO (readO l p).1) ∧ (readO l p).2.1 = (q : Int) + ((bytesO (readO l p).1).length : Int) := by
  rw [readO_take] at h ⊢
  by_cases hz : (takeO l (p, 0)).2.2 = 0
  · rw [if_pos hz]
    obtain ⟨_, q, e, ok, st, pl⟩ := lawO.inv l (p, 0) hz
    exact ⟨q, e, ok, st, pl⟩
  · rw [if_neg hz] at h
    exact absurd h hz

theorem readO_err {l : List UInt8} {p : Int} (h1 : 0 ≤ p) (h2 : p ≤ (l.length : Int)) (h : (readO l p).2.2 ≠ 0) : readO l p = (noO, 0, 3) := by
  have hf := lawO.fine l (p, 0) (.inl ⟨rfl, h1, h2⟩)
  rw [readO_take] at h ⊢
  by_cases hz : (takeO l (p, 0)).2.2 = 0
  · rw [if_pos hz] at h
    exact absurd rfl h
  · rw [if_neg hz]
    rcases hf with ⟨h0, _⟩ | h3
    · exact absurd h0 hz
    · rw [h3]

/-- Cut short it is nothing. -/
theorem readO_cut {x : PO} {k : Nat} (h : okO x) (hk : k < (bytesO x).length) : readO ((bytesO x).take k) 0 = (noO, 0, 3) := by
  by_cases hz : (readO ((bytesO x).take k) 0).2.2 = 0
  · exfalso
    obtain ⟨q, e, ok, st, pl⟩ := readO_inv hz
    obtain rfl : q = 0 := by omega
    have hle := st.le (bytesO_pos _)
    rw [List.length_take] at hle
    have st2 : Stands (bytesO x) 0 (bytesO (readO ((bytesO x).take k) 0).1) := by
      obtain ⟨r, hr⟩ := st
      refine ⟨r ++ (bytesO x).drop k, ?_⟩
      rw [List.drop_zero] at hr ⊢
      rw [← List.append_assoc, ← hr, List.take_append_drop]
    have a := readO_fwd ok st2
    have b := readO_fwd h (Stands.whole (bytesO x))
    rw [a] at b
    simp only [Prod.mk.injEq] at b
    omega
  · exact readO_err (by omega) (by omega) hz

theorem bytesO_inj {x y : PO} (hx : okO x) (hy : okO y) (h : bytesO x = bytesO y) : x = y := by
  have a := readO_fwd hx (Stands.whole (bytesO x))
  have b := readO_fwd hy (Stands.whole (bytesO y))
  rw [h, b] at a
  simp only [Prod.mk.injEq] at a
  exact a.1.symm

end Go.Proofs.Ytjpcljmlkgjbgaa

namespace Go.Proofs.Ytjpcljmlkgjbgaa
open Go.RowKit Go.Lib
set_option linter.unusedVariables false

/-- Pieces one behind the other, if each can be written. -/
def joinP : List (Option (List UInt8)) → Option (List UInt8)
  | [] => some []
  | none :: _ => none
  | some b :: l => (joinP l).map (b ++ ·)

theorem joinP_app : ∀ a b : List (Option (List UInt8)), joinP (a ++ b) = (joinP a).bind fun c => (joinP b).map (c ++ ·)
  | [], b => by cases h : joinP b <;> simp [joinP, h]
  | none :: a, b => rfl
  | some x :: a, b => by
    show (joinP (a ++ b)).map (x ++ ·) = _
    rw [joinP_app a b]
    cases h : joinP a <;> simp [joinP, h]
    cases h' : joinP b <;> simp

theorem addWs_yes : ∀ {l : List (Option (List UInt8))} {s c : List UInt8}, joinP l = some c → addWs (s, false) l = (s ++ c, false)
  | [], s, c, h => by
    cases h
    simp [addWs]
  | none :: l, s, c, h => by cases h
  | some b :: l, s, c, h => by
    simp only [joinP, Option.map_eq_some_iff] at h
    obtain ⟨d, hd, rfl⟩ := h
    rw [addWs_cons, show addW (s, false) (some b) = (s ++ b, false) from rfl, addWs_yes hd, List.append_assoc]

theorem addWs_no : ∀ {l : List (Option (List UInt8))} {s : List UInt8 × Bool}, joinP l = none → (addWs s l).2 = true
  | [], s, h => by cases h
  | none :: l, s, h => by
    rw [addWs_cons, addWs_bad rfl]
    rfl
  | some b :: l, s, h => by
    simp only [joinP, Option.map_eq_none_iff] at h
    rw [addWs_cons]
    exact addWs_no h

/-- What is written of an operation, piece by piece. -/
def piecesO (x : PO) : List (Option (List UInt8)) :=
  [putN x.kind 1] ++ (dotP x.dp x.dn ++ (vecP x.deps ++ (stampP x.sp x.sl x.sq ++ ([putN x.table 1] ++ ([putT x.key] ++ ([putN x.col 1] ++ ([putRo x.vals] ++ dotsP 64 x.dots)))))))

theorem wO9_pieces (x : PO) : wO9 x = addWs ([], false) (piecesO x) := by
  unfold piecesO
  simp only [addWs_append]
  rfl

theorem putN_fits (n : Int) (s : Nat) : putN n s = if fitsF n s = true then some (be n.toNat s) else none := by
  unfold putN fitsF
  by_cases h : 0 ≤ n ∧ n < ((256 ^ s : Nat) : Int)
  · rw [if_pos h, if_pos (decide_eq_true h)]
  · rw [if_neg h, if_neg (by simpa using h)]

theorem join_one (o : Option (List UInt8)) : joinP [o] = o := by
  cases o <;> simp [joinP]

theorem join_dot (d : Int × Int) : joinP (dotP d.1 d.2) = if fitsD d = true then some (encD d) else none := by
  unfold dotP fitsD encD
  rw [putN_fits, putN_fits]
  cases fitsF d.1 1 <;> cases fitsF d.2 4 <;> simp [joinP]

theorem join_stamp (p l q : Int) : joinP (stampP p l q) = if fitsS p l q = true then some (encS (p, l, q)) else none := by
  unfold stampP fitsS encS
  rw [putN_fits, putN_fits, putN_fits]
  cases fitsF p 6 <;> cases fitsF l 3 <;> cases fitsF q 1 <;> simp [joinP]

theorem join_nums : ∀ v : List Int, joinP (v.map fun n => putN n 4) = if v.all (fun n => fitsF n 4) = true then some (v.flatMap fun n => be n.toNat 4) else none
  | [] => rfl
  | n :: v => by
    rw [List.map_cons, putN_fits, List.all_cons, List.flatMap_cons]
    cases h : fitsF n 4
    · rfl
    · simp only [if_true, Bool.true_and, joinP, join_nums v]
      cases v.all (fun n => fitsF n 4) <;> simp

theorem join_dots : ∀ v : List (Int × Int), joinP (v.flatMap fun d => dotP d.1 d.2) = if v.all fitsD = true then some (v.flatMap encD) else none
  | [] => rfl
  | d :: v => by
    rw [List.flatMap_cons, joinP_app, join_dot, join_dots v, List.all_cons, List.flatMap_cons]
    cases fitsD d <;> cases v.all fitsD <;> simp

theorem join_count (n most : Nat) (hm : most ≤ 255) (r : Option (List UInt8)) (l : List (Option (List UInt8))) (h : joinP l = r) : joinP (putC n 1 most :: l) = if n ≤ most then r.map (be n 1 ++ ·) else none := by
  unfold putC
  by_cases hn : most < n
  · rw [if_pos hn, if_neg (by omega)]
    rfl
  · rw [if_neg hn, if_pos (by omega), putN_fits, show fitsF (n : Int) 1 = true from decide_eq_true ⟨by omega, by omega⟩]
    simp [joinP, h]

theorem join_vec (v : List Int) : joinP (vecP v) = if fitsVec v = true then some (encV v) else none := by
  unfold vecP fitsVec encV
  rw [join_count v.length 5 (by omega) _ _ (join_nums v)]
  by_cases h : v.length ≤ 5
  · cases v.all (fun n => fitsF n 4) <;> simp [h]
  · simp [h]

theorem join_dl (ds : List (Int × Int)) : joinP (dotsP 64 ds) = if (decide (ds.length ≤ 64) && ds.all fitsD) = true then some (encDs ds) else none := by
  unfold dotsP encDs
  rw [join_count ds.length 64 (by omega) _ _ (join_dots ds)]
  by_cases h : ds.length ≤ 64
  · cases ds.all fitsD <;> simp [h]
  · simp [h]

theorem putT_fits (t : ByteArray) : putT t = if decide (t.size ≤ 24) = true then some (textBytes t.data.toList) else none := by
  unfold putT
  by_cases h : 24 < t.size
  · rw [if_pos h, if_neg (by simp; omega)]
  · rw [if_neg h, if_pos (by simp; omega)]

theorem putRo_fits (vs : List PV) : putRo vs = if decide (chkR vs = 0) = true then some (bytesR vs) else none := by
  unfold putRo
  by_cases h : chkR vs = 0
  · rw [if_pos h, if_pos (by simpa using h)]
  · rw [if_neg h, if_neg (by simpa using h)]

/-- Can it be written? -/
def fitsO (x : PO) : Bool :=
  fitsF x.kind 1 && (fitsD (x.dp, x.dn) && (fitsVec x.deps && (fitsS x.sp x.sl x.sq && (fitsF x.table 1 && (decide (x.key.size ≤ 24) && (fitsF x.col 1 && (decide (chkR x.vals = 0) && (decide (x.dots.length ≤ 64) && x.dots.all fitsD))))))))

theorem join_ite {b c : Bool} {u v : List UInt8} : ((if b = true then some u else none).bind fun x => (if c = true then some v else none).map (x ++ ·)) = if (b && c) = true then some (u ++ v) else none := by
  cases b <;> cases c <;> rfl

theorem join_op (x : PO) : joinP (piecesO x) = if fitsO x = true then some (bytesO x) else none := by
  unfold piecesO fitsO
  rw [joinP_app, joinP_app, joinP_app, joinP_app, joinP_app, joinP_app, joinP_app, joinP_app, join_one, join_dot (x.dp, x.dn), join_vec, join_stamp, join_one, join_one, join_one, join_one, join_dl, putN_fits, putN_fits, putN_fits, putT_fits, putRo_fits]
  simp only [join_ite]
  rfl

theorem putO_yes {x : PO} (h : fitsO x = true) : putO x = (bytesO x, 0) := by
  unfold putO
  rw [wO9_pieces, addWs_yes (c := bytesO x) (by rw [join_op, if_pos h])]
  rfl

theorem putO_no {x : PO} (h : fitsO x = false) : putO x = ([], 1) := by
  unfold putO tellW
  rw [wO9_pieces, if_pos (addWs_no (by rw [join_op, h]; rfl))]

theorem okO_iff (x : PO) : okO x ↔ fitsO x = true := by
  unfold okO okTO toTO fitsO fitsVec
  simp only [Bool.and_eq_true, decide_eq_true_eq, List.all_eq_true]
  constructor
  · rintro ⟨a, b, ⟨c, d⟩, e, f, g, h, i, j, k⟩
    exact ⟨a, b, ⟨d, c⟩, e, f, g, h, i, j, k⟩
  · rintro ⟨a, b, ⟨d, c⟩, e, f, g, h, i, j, k⟩
    exact ⟨a, b, ⟨c, d⟩, e, f, g, h, i, j, k⟩

theorem flat4 (v : List Int) : (v.flatMap fun n => be n.toNat 4).length = 4 * v.length := by
  induction v with
  | nil => rfl
  | cons n v ih =>
    rw [List.flatMap_cons, List.length_append, be_length, ih, List.length_cons]
    omega

theorem flat5 (v : List (Int × Int)) : (v.flatMap encD).length = 5 * v.length := by
  induction v with
  | nil => rfl
  | cons n v ih =>
    rw [List.flatMap_cons, List.length_append, ih, List.length_cons]
    unfold encD
    rw [List.length_append, be_length, be_length]
    omega

/-- How many bytes they are. -/
theorem bytesO_len (x : PO) : (bytesO x).length = 1 + 5 + 1 + 4 * x.deps.length + 10 + 1 + 1 + x.key.size + 1 + (bytesR x.vals).length + 1 + 5 * x.dots.length := by
  unfold bytesO encTO toTO encD encV encS encDs
  simp only [List.length_append, be_length, flat4, flat5, textBytes_length]
  rw [show x.key.data.toList.length = x.key.size from rfl]
  omega

end Go.Proofs.Ytjpcljmlkgjbgaa

namespace Go.Proofs.Ytjpcljmlkgjbgaa
open Go.RowKit Go.Lib
set_option linter.unusedVariables false

theorem pairs_take {l r : List (Int × Int)} {k : Nat} (h : l.take k = r.take k) (hl : k < l.length) (hr : k < r.length) (hx : l[k] = r[k]) : l.take (k + 1) = r.take (k + 1) := by
  rw [List.take_succ_eq_append_getElem hl, List.take_succ_eq_append_getElem hr, h, hx]

set_option maxRecDepth 100000 in
set_option maxHeartbeats 4000000 in
theorem keepDots_any (a b : Option Addr) (n m cap dap : Nat) (l r : List (Int × Int)) (w : World) (hn : l.length = n) (hm : r.length = m) (hl : n ≤ 65536) (hr : m ≤ 65536) (ha : RdD w a l) (hb : RdD w b r) :
    Calls Try.prog 38 #[.slice a n cap, .slice b m dap] w fun e w' => e = .returned (.bool (decide (l = r))) ∧ Below w.heap.size w w' := by
  by_cases hnm : n = m
  case neg =>
    have HNE : Hid (l ≠ r) := fun e => hnm (by rw [← hn, ← hm, e])
    have hbq : ((n : Int) != (m : Int)) = true := by simp; omega
    clear hn hm hnm
    go_enter Try.func38, Try.ntmps38
    go_wp2
    go_ret
    exact ⟨by rw [decide_eq_false HNE.out]; rfl, Below.refl _ _⟩
  subst hnm
  have HN : Hid (l.length = n) := hn
  have HM : Hid (r.length = n) := hm
  have HA : Hid (RdD w a l) := ha
  have HB : Hid (RdD w b r) := hb
  clear hn hm ha hb
  go_enter Try.func38, Try.ntmps38
  go_wp2
  go_loopw [5] (fun i wr => ∃ k : Nat, k ≤ n ∧ i = .int .i64 k ∧ Hid (l.take k = r.take k) ∧ Hid (Below w.heap.size w wr)) (fun i _ => n - (RowKit.intOf i).toNat)
  case atStart => exact ⟨0, Nat.zero_le _, rfl, rfl, Below.refl _ _⟩
  case round =>
  obtain ⟨k, hk, rfl, hT, hB⟩ := hrel
  by_cases hlt : k < n
  · have hkl : k < l.length := by rw [HN.out]; exact hlt
    have hkr : k < r.length := by rw [HM.out]; exact hlt
    obtain ⟨b1, o1, rfl, hc1⟩ := (HA.out.later hB.out) (by omega)
    obtain ⟨b2, o2, rfl, hc2⟩ := (HB.out.later hB.out) (by omega)
    obtain ⟨x0, x1⟩ := hc1 k hkl
    obtain ⟨y0, y1⟩ := hc2 k hkr
    have HQ : Hid (l[k] = r[k] → l.take (k + 1) = r.take (k + 1)) := fun h => pairs_take hT.out hkl hkr h
    have HF : Hid (l[k] ≠ r[k] → l ≠ r) := fun h e => h (by subst e; rfl)
    clear hc1 hc2
    generalize l[k] = d at *
    generalize r[k] = d' at *
    clear hkl hkr
    obtain ⟨p, q⟩ := d
    obtain ⟨p', q'⟩ := d'
    simp only [Prod.mk.injEq, ne_eq] at x0 x1 y0 y1 HQ HF
    have k0 : (0 : Int) ≤ (k : Int) := by omega
    have k1 : (k : Int) < (n : Int) := by omega
    have HS3 := And.intro x0 (And.intro x1 (And.intro y0 (And.intro y1 (show Hid (Below wr.heap.size wr wr.drew) from (Below.refl _ _).drew))))
    have D1 := fun (V : World) => keepDot_any p q p' q' V
    by_cases he : p = p' ∧ q = q'
    · rw [show (decide (p = p') && decide (q = q')) = true from by simpa using he] at D1
      have HT' : Hid (l.take (k + 1) = r.take (k + 1)) := HQ.out he
      clear HQ HF he x0 x1 y0 y1
      go_wp2
      refine wp_region_held_drew (S := (fun w' => w'.cell? ⟨b1, o1 + k * 2, none⟩ = some (.int .i64 p) ∧ w'.cell? ⟨b1, o1 + k * 2 + 1, none⟩ = some (.int .i64 q) ∧ w'.cell? ⟨b2, o2 + k * 2, none⟩ = some (.int .i64 p') ∧ w'.cell? ⟨b2, o2 + k * 2 + 1, none⟩ = some (.int .i64 q') ∧ Hid (Below wr.heap.size wr w'))) (by kernel_rfl) HS3 (fun hHeld => ?_)
      refine heldTake (v := ?_) 0 17 rfl rfl (by kernel_rfl) (by kernel_rfl) (by kernel_rfl) (fun _ _ _ h => h) (by rfl) (fun w hSw => ?_) (by assumption) ?_
      rotate_left
      · (try dsimp only at hSw); first | (go_simp; done) | (go_simp; with_reducible rfl)
      simp only [List.setIfInBounds_toArray, List.set_cons_zero, List.set_cons_succ]
      refine heldTake (v := ?_) 1 18 rfl rfl (by kernel_rfl) (by kernel_rfl) (by kernel_rfl) (fun _ _ _ h => h) (by rfl) (fun w hSw => ?_) (by assumption) ?_
      rotate_left
      · (try dsimp only at hSw); first | (go_simp; done) | (go_simp; with_reducible rfl)
      simp only [List.setIfInBounds_toArray, List.set_cons_zero, List.set_cons_succ]
      refine heldTake (v := ?_) 2 19 rfl rfl (by kernel_rfl) (by kernel_rfl) (by kernel_rfl) (fun _ _ _ h => h) (by rfl) (fun w hSw => ?_) (by assumption) ?_
      rotate_left
      · (try dsimp only at hSw); first | (go_simp; done) | (go_simp; with_reducible rfl)
      simp only [List.setIfInBounds_toArray, List.set_cons_zero, List.set_cons_succ]
      refine heldTake (v := ?_) 3 20 rfl rfl (by kernel_rfl) (by kernel_rfl) (by kernel_rfl) (fun _ _ _ h => h) (by rfl) (fun w hSw => ?_) (by assumption) ?_
      rotate_left
      · (try dsimp only at hSw); first | (go_simp; done) | (go_simp; with_reducible rfl)
      simp only [List.setIfInBounds_toArray, List.set_cons_zero, List.set_cons_succ]
      refine heldTake (v := ?_) 4 21 rfl rfl (by kernel_rfl) (by kernel_rfl) (by kernel_rfl) (fun _ _ _ h => h) (by rfl) (fun w hSw => ?_) (by assumption) ?_
      rotate_left
      · (try dsimp only at hSw); first | (go_simp; done) | (go_simp; with_reducible rfl)
      simp only [List.setIfInBounds_toArray, List.set_cons_zero, List.set_cons_succ]
      refine heldTake (v := ?_) 5 22 rfl rfl (by kernel_rfl) (by kernel_rfl) (by kernel_rfl) (fun _ _ _ h => h) (by rfl) (fun w hSw => ?_) (by assumption) ?_
      rotate_left
      · (try dsimp only at hSw); first | (go_simp; done) | (go_simp; with_reducible rfl)
      simp only [List.setIfInBounds_toArray, List.set_cons_zero, List.set_cons_succ]
      refine heldTake (v := ?_) 6 23 rfl rfl (by kernel_rfl) (by kernel_rfl) (by kernel_rfl) (fun _ _ _ h => h) (by rfl) (fun w hSw => ?_) (by assumption) ?_
      rotate_left
      · (try dsimp only at hSw); first | (go_simp; done) | (go_simp; with_reducible rfl)
      simp only [List.setIfInBounds_toArray, List.set_cons_zero, List.set_cons_succ]
      refine heldTake (v := ?_) 7 24 rfl rfl (by kernel_rfl) (by kernel_rfl) (by kernel_rfl) (fun _ _ _ h => h) (by rfl) (fun w hSw => ?_) (by assumption) ?_
      rotate_left
      · (try dsimp only at hSw); first | (go_simp; done) | (go_simp; with_reducible rfl)
      simp only [List.setIfInBounds_toArray, List.set_cons_zero, List.set_cons_succ]
      refine heldOne 8 rfl (by kernel_rfl) (by rfl) (fun K2 hK => ?_)
      go_simp
      refine (D1 _).mono ?_
      rintro e wz ⟨rfl, hb⟩
      simp only []
      refine hK.out _ _ ?_ (fun hHeld => ?_)
      · exact k4V hb (by assumption)
      clear hK K2
      try simp only [List.setIfInBounds_toArray, List.set_cons_zero, List.set_cons_succ]
      refine heldTake (v := ?_) 9 26 rfl rfl (by kernel_rfl) (by kernel_rfl) (by kernel_rfl) (fun _ _ _ h => h) (by rfl) (fun w hSw => ?_) (by assumption) ?_
      rotate_left
      · (try dsimp only at hSw); first | (go_simp; done) | (go_simp; with_reducible rfl)
      simp only [List.setIfInBounds_toArray, List.set_cons_zero, List.set_cons_succ]
      refine wpAnyH_done (by kernel_rfl) ?_ _
      have HB9 : Hid (Below w.heap.size w _) := chain hB.out hHeld.2.2.2.2.out
      clear hHeld
      go_wp2
      go_roundw
      case rel => exact ⟨k + 1, by omega, by go_num, HT', HB9⟩
      case measure => simp [RowKit.intOf]; omega
    · rw [show (decide (p = p') && decide (q = q')) = false from by simpa using he] at D1
      have HNE : Hid (l ≠ r) := HF.out he
      clear HQ HF he x0 x1 y0 y1
      go_wp2
      refine wp_region_held_drew (S := (fun w' => w'.cell? ⟨b1, o1 + k * 2, none⟩ = some (.int .i64 p) ∧ w'.cell? ⟨b1, o1 + k * 2 + 1, none⟩ = some (.int .i64 q) ∧ w'.cell? ⟨b2, o2 + k * 2, none⟩ = some (.int .i64 p') ∧ w'.cell? ⟨b2, o2 + k * 2 + 1, none⟩ = some (.int .i64 q') ∧ Hid (Below wr.heap.size wr w'))) (by kernel_rfl) HS3 (fun hHeld => ?_)
      refine heldTake (v := ?_) 0 17 rfl rfl (by kernel_rfl) (by kernel_rfl) (by kernel_rfl) (fun _ _ _ h => h) (by rfl) (fun w hSw => ?_) (by assumption) ?_
      rotate_left
      · (try dsimp only at hSw); first | (go_simp; done) | (go_simp; with_reducible rfl)
      simp only [List.setIfInBounds_toArray, List.set_cons_zero, List.set_cons_succ]
      refine heldTake (v := ?_) 1 18 rfl rfl (by kernel_rfl) (by kernel_rfl) (by kernel_rfl) (fun _ _ _ h => h) (by rfl) (fun w hSw => ?_) (by assumption) ?_
      rotate_left
      · (try dsimp only at hSw); first | (go_simp; done) | (go_simp; with_reducible rfl)
      simp only [List.setIfInBounds_toArray, List.set_cons_zero, List.set_cons_succ]
      refine heldTake (v := ?_) 2 19 rfl rfl (by kernel_rfl) (by kernel_rfl) (by kernel_rfl) (fun _ _ _ h => h) (by rfl) (fun w hSw => ?_) (by assumption) ?_
      rotate_left
      · (try dsimp only at hSw); first | (go_simp; done) | (go_simp; with_reducible rfl)
      simp only [List.setIfInBounds_toArray, List.set_cons_zero, List.set_cons_succ]
      refine heldTake (v := ?_) 3 20 rfl rfl (by kernel_rfl) (by kernel_rfl) (by kernel_rfl) (fun _ _ _ h => h) (by rfl) (fun w hSw => ?_) (by assumption) ?_
      rotate_left
      · (try dsimp only at hSw); first | (go_simp; done) | (go_simp; with_reducible rfl)
      simp only [List.setIfInBounds_toArray, List.set_cons_zero, List.set_cons_succ]
      refine heldTake (v := ?_) 4 21 rfl rfl (by kernel_rfl) (by kernel_rfl) (by kernel_rfl) (fun _ _ _ h => h) (by rfl) (fun w hSw => ?_) (by assumption) ?_
      rotate_left
      · (try dsimp only at hSw); first | (go_simp; done) | (go_simp; with_reducible rfl)
      simp only [List.setIfInBounds_toArray, List.set_cons_zero, List.set_cons_succ]
      refine heldTake (v := ?_) 5 22 rfl rfl (by kernel_rfl) (by kernel_rfl) (by kernel_rfl) (fun _ _ _ h => h) (by rfl) (fun w hSw => ?_) (by assumption) ?_
      rotate_left
      · (try dsimp only at hSw); first | (go_simp; done) | (go_simp; with_reducible rfl)
      simp only [List.setIfInBounds_toArray, List.set_cons_zero, List.set_cons_succ]
      refine heldTake (v := ?_) 6 23 rfl rfl (by kernel_rfl) (by kernel_rfl) (by kernel_rfl) (fun _ _ _ h => h) (by rfl) (fun w hSw => ?_) (by assumption) ?_
      rotate_left
      · (try dsimp only at hSw); first | (go_simp; done) | (go_simp; with_reducible rfl)
      simp only [List.setIfInBounds_toArray, List.set_cons_zero, List.set_cons_succ]
      refine heldTake (v := ?_) 7 24 rfl rfl (by kernel_rfl) (by kernel_rfl) (by kernel_rfl) (fun _ _ _ h => h) (by rfl) (fun w hSw => ?_) (by assumption) ?_
      rotate_left
      · (try dsimp only at hSw); first | (go_simp; done) | (go_simp; with_reducible rfl)
      simp only [List.setIfInBounds_toArray, List.set_cons_zero, List.set_cons_succ]
      refine heldOne 8 rfl (by kernel_rfl) (by rfl) (fun K2 hK => ?_)
      go_simp
      refine (D1 _).mono ?_
      rintro e wz ⟨rfl, hb⟩
      simp only []
      refine hK.out _ _ ?_ (fun hHeld => ?_)
      · exact k4V hb (by assumption)
      clear hK K2
      try simp only [List.setIfInBounds_toArray, List.set_cons_zero, List.set_cons_succ]
      refine heldTake (v := ?_) 9 26 rfl rfl (by kernel_rfl) (by kernel_rfl) (by kernel_rfl) (fun _ _ _ h => h) (by rfl) (fun w hSw => ?_) (by assumption) ?_
      rotate_left
      · (try dsimp only at hSw); first | (go_simp; done) | (go_simp; with_reducible rfl)
      simp only [List.setIfInBounds_toArray, List.set_cons_zero, List.set_cons_succ]
      refine wpAnyH_done (by kernel_rfl) ?_ _
      have HB9 : Hid (Below w.heap.size w _) := chain hB.out hHeld.2.2.2.2.out
      clear hHeld
      go_wp2
      go_ret
      exact ⟨by rw [decide_eq_false HNE.out]; rfl, HB9.out⟩
  have HE : Hid (l = r) := by
    have h1 := hT.out
    rw [List.take_of_length_le (by rw [HN.out]; omega), List.take_of_length_le (by rw [HM.out]; omega)] at h1
    exact h1
  go_wp2
  go_ret
  exact ⟨by rw [decide_eq_true HE.out]; rfl, hB.out⟩

theorem sameVs_self (l : List PV) : sameVs l l = true := (sameVs_iff l l).2 rfl

set_option maxRecDepth 100000 in
set_option maxHeartbeats 4000000 in
theorem keepOp_same (x : PO) (da va oa da' va' oa' : Option Addr) (dc vc oc dc' vc' oc' : Nat) (w : World) (h : LiesO w x da va oa dc vc oc) (h' : LiesO w x da' va' oa' dc' vc' oc') :
    Calls Try.prog 11 #[.agg (cellsO x da va oa dc vc oc), .agg (cellsO x da' va' oa' dc' vc' oc')] w fun e w' => e = .returned (.bool true) ∧ Below w.heap.size w w' := by
  have HX : Hid (LiesO w x da va oa dc vc oc) := h
  have HY : Hid (LiesO w x da' va' oa' dc' vc' oc') := h'
  clear h h'
  obtain ⟨B, hBB⟩ : ∃ B : World, B = (w.alloc (.cells (cellsO x da va oa dc vc oc) 32)).alloc (.cells (cellsO x da' va' oa' dc' vc' oc') 32) := ⟨_, rfl⟩
  have HB0 : Hid (Below w.heap.size w B) := by rw [hBB]; exact below_two _ _ _
  have HK : Hid (CellsAt B w.heap.size (cellsO x da va oa dc vc oc) 32) := by rw [hBB]; exact (CellsAt.made rfl).later (alloc_below _ _)
  have HK' : Hid (CellsAt B (w.heap.size + 1) (cellsO x da' va' oa' dc' vc' oc') 32) := by rw [hBB]; exact CellsAt.made (by simp)
  have HC : Hid (∀ W, Below B.heap.size B W → W.cell? ⟨w.heap.size, 0, none⟩ = some (.int .i64 x.dp) ∧ W.cell? ⟨w.heap.size, 1, none⟩ = some (.int .i64 x.dn) ∧ W.cell? ⟨w.heap.size, 2, none⟩ = some (.slice da x.deps.length dc) ∧ W.cell? ⟨w.heap.size, 3, none⟩ = some (.int .i64 x.sp) ∧ W.cell? ⟨w.heap.size, 4, none⟩ = some (.int .i64 x.sl) ∧ W.cell? ⟨w.heap.size, 5, none⟩ = some (.int .i64 x.sq) ∧ W.cell? ⟨w.heap.size, 6, none⟩ = some (.int .i64 x.kind) ∧ W.cell? ⟨w.heap.size, 7, none⟩ = some (.int .i64 x.table) ∧ W.cell? ⟨w.heap.size, 8, none⟩ = some (.string x.key) ∧ W.cell? ⟨w.heap.size, 9, none⟩ = some (.int .i64 x.col) ∧ W.cell? ⟨w.heap.size, 10, none⟩ = some (.slice va x.vals.length vc) ∧ W.cell? ⟨w.heap.size, 11, none⟩ = some (.slice oa x.dots.length oc)) := fun W hb => by
    have k := HK.out.later hb
    exact ⟨k.cell 0, k.cell 1, k.cell 2, k.cell 3, k.cell 4, k.cell 5, k.cell 6, k.cell 7, k.cell 8, k.cell 9, k.cell 10, k.cell 11⟩
  have HD : Hid (∀ W, Below B.heap.size B W → W.cell? ⟨w.heap.size + 1, 0, none⟩ = some (.int .i64 x.dp) ∧ W.cell? ⟨w.heap.size + 1, 1, none⟩ = some (.int .i64 x.dn) ∧ W.cell? ⟨w.heap.size + 1, 2, none⟩ = some (.slice da' x.deps.length dc') ∧ W.cell? ⟨w.heap.size + 1, 3, none⟩ = some (.int .i64 x.sp) ∧ W.cell? ⟨w.heap.size + 1, 4, none⟩ = some (.int .i64 x.sl) ∧ W.cell? ⟨w.heap.size + 1, 5, none⟩ = some (.int .i64 x.sq) ∧ W.cell? ⟨w.heap.size + 1, 6, none⟩ = some (.int .i64 x.kind) ∧ W.cell? ⟨w.heap.size + 1, 7, none⟩ = some (.int .i64 x.table) ∧ W.cell? ⟨w.heap.size + 1, 8, none⟩ = some (.string x.key) ∧ W.cell? ⟨w.heap.size + 1, 9, none⟩ = some (.int .i64 x.col) ∧ W.cell? ⟨w.heap.size + 1, 10, none⟩ = some (.slice va' x.vals.length vc') ∧ W.cell? ⟨w.heap.size + 1, 11, none⟩ = some (.slice oa' x.dots.length oc')) := fun W hb => by
    have k := HK'.out.later hb
    exact ⟨k.cell 0, k.cell 1, k.cell 2, k.cell 3, k.cell 4, k.cell 5, k.cell 6, k.cell 7, k.cell 8, k.cell 9, k.cell 10, k.cell 11⟩
  have HBB : Hid (B = (w.alloc (.cells (cellsO x da va oa dc vc oc) 32)).alloc (.cells (cellsO x da' va' oa' dc' vc' oc') 32)) := hBB
  clear HK HK' hBB
  have C1 := fun W => keepDot_any x.dp x.dn x.dp x.dn W
  simp only [decide_true, Bool.and_self] at C1
  have C2 := fun (W : World) (hb : Below w.heap.size w W) => keepInts_any da da' x.deps.length x.deps.length dc dc' x.deps x.deps W rfl rfl HX.out.ld HX.out.ld (HX.out.deps.later hb) (HY.out.deps.later hb)
  simp only [decide_true] at C2
  have C3 := fun W => keepStamp_any x.sp x.sl x.sq x.sp x.sl x.sq W
  simp only [decide_true] at C3
  have C4 := fun (W : World) (hb : Below w.heap.size w W) => keepRow_any va va' x.vals.length x.vals.length vc vc' x.vals x.vals W rfl rfl HX.out.lv HX.out.lv (HX.out.vals.later hb) (HY.out.vals.later hb)
  simp only [sameVs_self] at C4
  have C5 := fun (W : World) (hb : Below w.heap.size w W) => keepDots_any oa oa' x.dots.length x.dots.length oc oc' x.dots x.dots W rfl rfl HX.out.lo HX.out.lo (HX.out.dots.later hb) (HY.out.dots.later hb)
  simp only [decide_true] at C5
  go_enter Try.func11, Try.ntmps11
  go_wp2_with fail
  rw [← HBB.out]
  refine (C1 _).mono ?_
  rintro e w1 ⟨rfl, hb1⟩
  have HB1 : Hid (Below B.heap.size B w1) := hb1
  obtain ⟨f0, f1, f2, f3, f4, f5, f6, f7, f8, f9, f10, f11⟩ := HC.out w1 HB1.out
  obtain ⟨g0, g1, g2, g3, g4, g5, g6, g7, g8, g9, g10, g11⟩ := HD.out w1 HB1.out
  clear hb1
  go_wp2_with fail
  refine (C2 _ (chain HB0.out HB1.out)).mono ?_
  rintro e w2 ⟨rfl, hb2⟩
  have HB2 : Hid (Below B.heap.size B w2) := chain HB1.out hb2
  clear hb2 f0 f1 f2 f3 f4 f5 f6 f7 f8 f9 f10 f11 g0 g1 g2 g3 g4 g5 g6 g7 g8 g9 g10 g11
  obtain ⟨f0, f1, f2, f3, f4, f5, f6, f7, f8, f9, f10, f11⟩ := HC.out w2 HB2.out
  obtain ⟨g0, g1, g2, g3, g4, g5, g6, g7, g8, g9, g10, g11⟩ := HD.out w2 HB2.out
  go_wp2_with fail
  refine (C3 _).mono ?_
  rintro e w3 ⟨rfl, hb3⟩
  have HB3 : Hid (Below B.heap.size B w3) := chain HB2.out hb3
  clear hb3 f0 f1 f2 f3 f4 f5 f6 f7 f8 f9 f10 f11 g0 g1 g2 g3 g4 g5 g6 g7 g8 g9 g10 g11
  obtain ⟨f0, f1, f2, f3, f4, f5, f6, f7, f8, f9, f10, f11⟩ := HC.out w3 HB3.out
  obtain ⟨g0, g1, g2, g3, g4, g5, g6, g7, g8, g9, g10, g11⟩ := HD.out w3 HB3.out
  go_wp2_with fail
  refine (C4 _ (chain HB0.out HB3.out)).mono ?_
  rintro e w4 ⟨rfl, hb4⟩
  have HB4 : Hid (Below B.heap.size B w4) := chain HB3.out hb4
  clear hb4 f0 f1 f2 f3 f4 f5 f6 f7 f8 f9 f10 f11 g0 g1 g2 g3 g4 g5 g6 g7 g8 g9 g10 g11
  obtain ⟨f0, f1, f2, f3, f4, f5, f6, f7, f8, f9, f10, f11⟩ := HC.out w4 HB4.out
  obtain ⟨g0, g1, g2, g3, g4, g5, g6, g7, g8, g9, g10, g11⟩ := HD.out w4 HB4.out
  go_wp2_with fail
  refine (C5 _ (chain HB0.out HB4.out)).mono ?_
  rintro e w5 ⟨rfl, hb5⟩
  have HB5 : Hid (Below w.heap.size w w5) := chain HB0.out (chain HB4.out hb5)
  clear hb5
  go_wp2
  go_ret
  exact ⟨rfl, HB5.out⟩

end Go.Proofs.Ytjpcljmlkgjbgaa

namespace Go.Proofs.Ytjpcljmlkgjbgaa
open Go.RowKit Go.Lib
set_option linter.unusedVariables false

theorem rdI_atC (w : World) (g : Nat) (hg : w.heap.size = g) (x : Int) : RdI .i64 (w.alloc (.cells #[.int .i64 x] 3)) (some ⟨g, 0, none⟩) [x] := by
  subst hg
  refine fun _ => ⟨w.heap.size, 0, rfl, fun j hj => ?_⟩
  obtain rfl : j = 0 := by simp at hj; omega
  rw [cell_of_row (w.alloc (.cells #[.int .i64 x] 3)) w.heap.size _ #[.int .i64 x] 3 (0, 0) (by show (w.heap.push _)[w.heap.size]? = _; simp)]
  rfl

/-- append(l, x), x a number. -/
theorem run_append_intC {w : World} {B n : Nat} {v : Value} {xs : List Int} (g : Nat) (hg : w.heap.size = g) (x : Int) (hown : OwnI w B v xs) (hn : xs.length = n) (h1 : n ≤ 65536) (hB : B ≤ w.heap.size) :
    ∃ a' cap' w', (Builtin.append_ #[26, 26] 26 #[v, .slice (some ⟨g, 0, none⟩) 1 1]).run Try.prog (w.alloc (.cells #[.int .i64 x] 3)) = .ok (.slice a' (n + 1) cap') w' ∧ n + 1 ≤ cap' ∧ OwnI w' B (.slice a' (n + 1) cap') (xs ++ [x]) ∧ Below B w w' := by
  obtain ⟨a', cap', w', hrun, hc, ho, hrd, hnl, _, hb⟩ := run_append_ints (ty := 26) (cap := 1) (hown.later (alloc_below w (.cells #[.int .i64 x] 3))) hn (m := 1) rfl (rdI_atC w g hg x) (fun h => by cases h) h1 (by omega) (Nat.le_trans hB (by simp))
  exact ⟨a', cap', w', hrun, hc, ho, ((alloc_below w _).mono hB).trans hb⟩

/-- A Cutter at g stands over these bytes, as a Reader would stand so. -/
structure CAt (w : World) (g : Nat) (a : Option Addr) (len cap : Nat) (l : List UInt8) (t : Int × Int) : Prop where
  box : ∃ (p : Int) (bad : Bool), CellsAt w g #[.slice a len cap, .int .i64 p, .bool bad] 70 ∧ ((bad = false ∧ t = (p, 0) ∧ 0 ≤ p ∧ p ≤ (len : Int)) ∨ (bad = true ∧ t.2 ≠ 0))
  rd : Rd w a l
  src : ∀ b o, a = some ⟨b, o, none⟩ → 0 < len → b ≠ g ∧ b < w.heap.size
  hlen : l.length = len
  hl : len ≤ 1048576
  hcap : len ≤ cap

theorem CAt.lt {w : World} {g : Nat} {a : Option Addr} {len cap : Nat} {l : List UInt8} {t : Int × Int} (h : CAt w g a len cap l t) : g < w.heap.size := by
  obtain ⟨p, b, hb, _⟩ := h.box
  exact hb.lt

theorem CAt.to {w w' : World} {g : Nat} {a : Option Addr} {len cap : Nat} {l : List UInt8} {t t' : Int × Int} (h : CAt w g a len cap l t) (hs : Aside g w w') {p : Int} {bad : Bool} (hb : CellsAt w' g #[.slice a len cap, .int .i64 p, .bool bad] 70) (ht : (bad = false ∧ t' = (p, 0) ∧ 0 ≤ p ∧ p ≤ (len : Int)) ∨ (bad = true ∧ t'.2 ≠ 0)) : CAt w' g a len cap l t' := by
  refine ⟨⟨p, bad, hb, ht⟩, ?_, fun b o e h0 => ⟨(h.src b o e h0).1, Nat.lt_of_lt_of_le (h.src b o e h0).2 hs.size⟩, h.hlen, h.hl, h.hcap⟩
  intro h0
  obtain ⟨b, off, rfl, hc⟩ := h.rd h0
  have h00 : 0 < len := by rw [← h.hlen]; exact h0
  exact ⟨b, off, rfl, fun i hi => (hs.cell (h.src b off rfl h00).1 (h.src b off rfl h00).2).trans (hc i hi)⟩

theorem CAt.later {w w' : World} {g : Nat} {a : Option Addr} {len cap : Nat} {l : List UInt8} {t : Int × Int} (h : CAt w g a len cap l t) (hb : Below w.heap.size w w') : CAt w' g a len cap l t := by
  obtain ⟨p, bad, h1, h2⟩ := h.box
  exact h.to (Aside.of_below hb) (h1.later hb) h2

theorem CAt.drewN {w : World} {g : Nat} {a : Option Addr} {len cap : Nat} {l : List UInt8} {t : Int × Int} (h : CAt w g a len cap l t) (n : Nat) : CAt (w.drewN n) g a len cap l t := h.later (below_drewN (Below.refl _ w) n)

/-- It is known to be bad, or to stand somewhere. -/
theorem CAt.cases {w : World} {g : Nat} {a : Option Addr} {len cap : Nat} {l : List UInt8} {t : Int × Int} (h : CAt w g a len cap l t) : (∃ p : Nat, p ≤ len ∧ t = ((p : Int), 0) ∧ CellsAt w g #[.slice a len cap, .int .i64 (p : Int), .bool false] 70) ∨ (∃ p : Int, t.2 ≠ 0 ∧ CellsAt w g #[.slice a len cap, .int .i64 p, .bool true] 70) := by
  obtain ⟨p, bad, h1, h2⟩ := h.box
  rcases h2 with ⟨rfl, ht, h0, hp⟩ | ⟨rfl, ht⟩
  · obtain ⟨q, rfl⟩ : ∃ q : Nat, p = q := ⟨p.toNat, by omega⟩
    exact .inl ⟨q, by omega, ht, h1⟩
  · exact .inr ⟨p, ht, h1⟩

/-- The flag is set. -/
theorem CAt.bad {w : World} {g : Nat} {a : Option Addr} {len cap : Nat} {l : List UInt8} {t t' : Int × Int} (h : CAt w g a len cap l t) (ht : t'.2 ≠ 0) : CAt (w.setCell ⟨g, 2, none⟩ (.bool true)) g a len cap l t' ∧ Aside g w (w.setCell ⟨g, 2, none⟩ (.bool true)) := by
  obtain ⟨p, bad, h1, h2⟩ := h.box
  have hs : Aside g w (w.setCell ⟨g, 2, none⟩ (.bool true)) := Stay.setCell (p := ⟨g, 2, none⟩) (Stay.refl _ w) (fun h => h.1 rfl) _
  exact ⟨h.to hs (h1.set 2 (.bool true)) (.inr ⟨rfl, ht⟩), hs⟩

/-- The place is set. -/
theorem CAt.move {w : World} {g : Nat} {a : Option Addr} {len cap p : Nat} {l : List UInt8} {t : Int × Int} (h : CAt w g a len cap l t) (hc : CellsAt w g #[.slice a len cap, .int .i64 (p : Int), .bool false] 70) (q : Int) (hq : 0 ≤ q ∧ q ≤ (len : Int)) : CAt (w.setCell ⟨g, 1, none⟩ (.int .i64 q)) g a len cap l (q, 0) ∧ Aside g w (w.setCell ⟨g, 1, none⟩ (.int .i64 q)) := by
  have hs : Aside g w (w.setCell ⟨g, 1, none⟩ (.int .i64 q)) := Stay.setCell (p := ⟨g, 1, none⟩) (Stay.refl _ w) (fun h => h.1 rfl) _
  exact ⟨h.to hs (hc.set 1 (.int .i64 q)) (.inl ⟨rfl, rfl, hq.1, hq.2⟩), hs⟩

theorem cellsC_at {w : World} {g : Nat} {v : Value} {p : Int} {bad : Bool} (h : CellsAt w g #[v, .int .i64 p, .bool bad] 70) : w.cell? ⟨g, 0, none⟩ = some v ∧ w.cell? ⟨g, 1, none⟩ = some (.int .i64 p) ∧ w.cell? ⟨g, 2, none⟩ = some (.bool bad) :=
  ⟨h.cell 0, h.cell 1, h.cell 2⟩

theorem takeN_bad {l : List UInt8} {t : Int × Int} {size : Int} (h : t.2 ≠ 0) : takeN l t size = (0, t) := if_neg h

theorem takeN_short {l : List UInt8} {p : Nat} {size : Nat} (h1 : 1 ≤ size) (h7 : size ≤ 7) (hp : p ≤ l.length) (hs : l.length < p + size) : takeN l ((p : Int), 0) (size : Int) = (0, (0, 3)) := by
  unfold takeN
  rw [if_pos rfl]
  unfold rGet
  rw [if_neg (by omega), if_pos (by omega)]

theorem takeN_ok {l : List UInt8} {p : Nat} {size : Nat} (h1 : 1 ≤ size) (h7 : size ≤ 7) (hs : p + size ≤ l.length) : takeN l ((p : Int), 0) (size : Int) = (((num ((l.drop p).take size) : Nat) : Int), (((p + size : Nat) : Int), 0)) := by
  unfold takeN
  rw [if_pos rfl]
  unfold rGet
  rw [if_neg (by omega), if_neg (by omega)]
  simp

set_option maxRecDepth 100000 in
set_option maxHeartbeats 2000000 in
theorem cNum_any (g : Nat) (a : Option Addr) (len cap : Nat) (l : List UInt8) (t : Int × Int) (size : Nat) (w : World) (h1 : 1 ≤ size) (h7 : size ≤ 7) (h : CAt w g a len cap l t) :
    Calls Try.prog 70 #[.pointer (some ⟨g, 0, none⟩), .int .i64 size] w fun e w' => e = .returned (.int .i64 (takeN l t size).1) ∧ CAt w' g a len cap l (takeN l t size).2 ∧ Aside g w w' := by
  have HP : Hid (CAt w g a len cap l t) := h
  rcases h.cases with ⟨p, hp, rfl, hb⟩ | ⟨p, ht, hb⟩
  · obtain ⟨c0, c1, c2⟩ := cellsC_at hb
    have f1 := hb.free 1
    have f2 := hb.free 2
    have hlen := h.hlen
    have hl := h.hl
    have hcap := h.hcap
    by_cases hs : len < p + size
    · rw [takeN_short h1 h7 (by omega) (by omega)]
      have HC : Hid (∀ n, CAt ((w.drewN n).setCell ⟨g, 2, none⟩ (.bool true)) g a len cap l (0, 3) ∧ Aside g w ((w.drewN n).setCell ⟨g, 2, none⟩ (.bool true))) := fun n => by
        obtain ⟨hC, hA⟩ := (h.drewN n).bad (t' := (0, 3)) (by decide)
        exact ⟨hC, (Aside.drewN n).trans hA⟩
      have q1 : decide ((len : Int) - (p : Int) < (size : Int)) = true := by simp; omega
      clear h hb hlen
      go_enter Try.func70, Try.ntmps70
      go_wp2_with fail
      go_quiet (fail)
      go_wp2
      go_ret
      exact ⟨rfl, (HC.out _).1, (HC.out _).2⟩
    · rw [takeN_ok h1 h7 (by omega)]
      have HC : Hid (∀ n m, CAt (((w.drewN n).drewN m).setCell ⟨g, 1, none⟩ (.int .i64 ((p : Int) + (size : Int)))) g a len cap l ((((p + size : Nat) : Int)), 0) ∧ Aside g w (((w.drewN n).drewN m).setCell ⟨g, 1, none⟩ (.int .i64 ((p : Int) + (size : Int))))) := fun n m => by
        obtain ⟨hC, hA⟩ := ((h.drewN n).drewN m).move ((hb.later (below_drewN (Below.refl _ w) n)).later (below_drewN (Below.refl _ _) m)) ((p : Int) + (size : Int)) ⟨by omega, by omega⟩
        rw [show ((p + size : Nat) : Int) = (p : Int) + (size : Int) by omega]
        exact ⟨hC, ((Aside.drewN n).trans (Aside.drewN m)).trans hA⟩
      have q1 : decide ((len : Int) - (p : Int) < (size : Int)) = false := by simp; omega
      have HL : Hid (((l.drop p).take size).length = size) := by show _ = _; rw [List.length_take, List.length_drop]; omega
      obtain ⟨b, off, rfl, hcell⟩ := h.rd (by omega)
      have HR : Hid (Rd w (some ⟨b, off + p, none⟩) ((l.drop p).take size)) := Rd.cut (fun _ => ⟨b, off, rfl, hcell⟩) p size
      have hb7 := num_lt7 (t := (l.drop p).take size) (by rw [HL.out]; omega)
      have k0 : (0 : Int) ≤ (p : Int) := by omega
      have k1 : (p : Int) ≤ (p : Int) + (size : Int) := by omega
      have k2 : (p : Int) + (size : Int) ≤ (cap : Int) := by omega
      have e1 : (cap = p) = False := by simp; omega
      have e2 : ((p : Int) + (size : Int)).toNat - p = size := by omega
      have hw : IntKind.i64.wrap ((p : Int) + (size : Int)) = (p : Int) + (size : Int) := by rw [IntKind.wrap_i64]; omega
      have HB : Hid (CellsAt w g #[.slice (some ⟨b, off, none⟩) len cap, .int .i64 (p : Int), .bool false] 70) := hb
      clear h hb hlen hcell
      generalize (l.drop p).take size = T at *
      have HKn : Hid (∀ n, CellsAt (w.drewN n) g #[.slice (some ⟨b, off, none⟩) len cap, .int .i64 (p : Int), .bool false] 70) := fun n => HB.out.later (below_drewN (Below.refl _ w) n)
      have CN := fun (n m : Nat) => rnum_any (some ⟨b, off + p, none⟩) size (cap - p) T ((w.drewN n).drewN m) HL.out (by omega) (by omega) HR.out
      go_enter Try.func70, Try.ntmps70
      go_wp2_with fail
      go_quiet (fail)
      clear c0 c1 c2 f1 f2
      obtain ⟨c0, c1, c2⟩ := cellsC_at (HKn.out nq)
      have f1 := (HKn.out nq).free 1
      have HCV := HC.out nq
      have CV := CN nq
      clear HC CN HKn HB
      generalize w.drewN nq = V at *
      go_wp2_with fail
      go_quiet ((go_at_call 108; exact Calls.quiet_of_same (CV _)))
      go_wp2
      go_ret
      exact ⟨rfl, (HCV _).1, (HCV _).2⟩
  · obtain ⟨c0, c1, c2⟩ := cellsC_at hb
    have f2 := hb.free 2
    rw [takeN_bad ht]
    have HC : Hid (∀ n, CAt ((w.drewN n).setCell ⟨g, 2, none⟩ (.bool true)) g a len cap l t ∧ Aside g w ((w.drewN n).setCell ⟨g, 2, none⟩ (.bool true))) := fun n => by
      obtain ⟨hC, hA⟩ := (h.drewN n).bad ht
      exact ⟨hC, (Aside.drewN n).trans hA⟩
    clear h hb
    go_enter Try.func70, Try.ntmps70
    go_wp2_with fail
    go_quiet (fail)
    go_wp2
    go_ret
    exact ⟨rfl, (HC.out _).1, (HC.out _).2⟩


/-- Another block is written. -/
theorem CAt.set {w : World} {g : Nat} {a : Option Addr} {len cap : Nat} {l : List UInt8} {t : Int × Int} (h : CAt w g a len cap l t) {c : Nat} (i : Nat) (v : Value) (hc : c ≠ g) (hx : ∀ x k, a = some ⟨x, k, none⟩ → 0 < len → c ≠ x) : CAt (w.setCell ⟨c, i, none⟩ v) g a len cap l t := by
  obtain ⟨p, bad, h1, h2⟩ := h.box
  refine ⟨⟨p, bad, h1.other (Ne.symm hc) _ _, h2⟩, ?_, fun b o e h0 => ⟨(h.src b o e h0).1, by have := (h.src b o e h0).2; simpa [World.setCell] using this⟩, h.hlen, h.hl, h.hcap⟩
  intro h0
  obtain ⟨b, off, rfl, hcl⟩ := h.rd h0
  have h00 : 0 < len := by rw [← h.hlen]; exact h0
  exact ⟨b, off, rfl, fun j hj => (World.cell?_of_block (w := w) (a := ⟨b, _, none⟩) (same_set b (Ne.symm (hx b off rfl h00)))).trans (hcl j hj)⟩

theorem takeD_eq (l : List UInt8) (t : Int × Int) : takeD l t = (((takeN l t ((1 : Nat) : Int)).1, (takeN l (takeN l t ((1 : Nat) : Int)).2 ((4 : Nat) : Int)).1), (takeN l (takeN l t ((1 : Nat) : Int)).2 ((4 : Nat) : Int)).2) := rfl

set_option maxRecDepth 100000 in
set_option maxHeartbeats 2000000 in
theorem cDot_any (g : Nat) (a : Option Addr) (len cap : Nat) (l : List UInt8) (t : Int × Int) (w : World) (h : CAt w g a len cap l t) :
    Calls Try.prog 71 #[.pointer (some ⟨g, 0, none⟩)] w fun e w' => e = .returned (.agg #[.int .i64 (takeD l t).1.1, .int .i64 (takeD l t).1.2]) ∧ CAt w' g a len cap l (takeD l t).2 ∧ Aside g w w' := by
  rw [takeD_eq]
  have hg := h.lt
  obtain ⟨W, hW⟩ : ∃ W, W = w.alloc (.cells #[.int .i64 0, .int .i64 0] 25) := ⟨_, rfl⟩
  have HK : Hid (CellsAt W w.heap.size #[.int .i64 0, .int .i64 0] 25) := by rw [hW]; exact CellsAt.made rfl
  have HA : Hid (Aside g w W) := by rw [hW]; exact Aside.of_below (alloc_below w _)
  have hsz : W.heap.size = w.heap.size + 1 := by rw [hW]; simp
  have hcW : CAt W g a len cap l t := by rw [hW]; exact h.later (alloc_below w _)
  have C1 := cNum_any g a len cap l t 1 W (by omega) (by omega) hcW
  have C2 := fun (V : World) (hV : CAt V g a len cap l (takeN l t ((1 : Nat) : Int)).2) => cNum_any g a len cap l (takeN l t ((1 : Nat) : Int)).2 4 V (by omega) (by omega) hV
  have HSRC : Hid (∀ x k, a = some ⟨x, k, none⟩ → 0 < len → x < w.heap.size) := fun x k e h0 => (h.src x k e h0).2
  generalize takeN l t ((1 : Nat) : Int) = r1 at *
  generalize takeN l r1.2 ((4 : Nat) : Int) = r2 at *
  have HW : Hid (W = w.alloc (.cells #[.int .i64 0, .int .i64 0] 25)) := hW
  clear h hW hcW
  go_enter Try.func71, Try.ntmps71
  go_wp2_with fail
  rw [← HW.out]
  refine C1.mono ?_
  rintro e w1 ⟨rfl, hc1, hs1⟩
  have HK1 : Hid (CellsAt w1 w.heap.size #[.int .i64 0, .int .i64 0] 25) := HK.out.aside hs1 (by omega)
  have HA1 : Hid (Aside g w w1) := HA.out.trans hs1
  have C3 := C2 w1 hc1
  clear C1 C2 hs1 HK HA hc1
  go_wp2_with fail
  refine C3.mono ?_
  rintro e w2 ⟨rfl, hc2, hs2⟩
  have hk2 : CellsAt w2 w.heap.size #[.int .i64 0, .int .i64 0] 25 := HK1.out.aside hs2 (by omega)
  have HA2 : Hid (Aside g w w2) := HA1.out.trans hs2
  have HC2 : Hid (CAt w2 g a len cap l r2.2) := hc2
  have y0 : w2.cell? ⟨w.heap.size, 0, none⟩ = some (.int .i64 0) := hk2.cell 0
  have y1 : w2.cell? ⟨w.heap.size, 1, none⟩ = some (.int .i64 0) := hk2.cell 1
  have z0 := hk2.free 0
  have z1 := hk2.free 1
  clear hk2 hc2 hs2 HK1 HA1 C3
  go_wp2
  refine bodyPost_ret (by simp [results, Try.results71, go_sem, y0, y1]; rfl) rfl ?_
  refine ⟨rfl, (HC2.out.set _ _ (by omega) ?_).set _ _ (by omega) ?_, (HA2.out.set (by omega)).set (by omega)⟩
  all_goals (intro x k e h0; have := HSRC.out x k e h0; omega)

theorem takeS_eq (l : List UInt8) (t : Int × Int) : takeS l t = (((takeN l t ((6 : Nat) : Int)).1, (takeN l (takeN l t ((6 : Nat) : Int)).2 ((3 : Nat) : Int)).1, (takeN l (takeN l (takeN l t ((6 : Nat) : Int)).2 ((3 : Nat) : Int)).2 ((1 : Nat) : Int)).1), (takeN l (takeN l (takeN l t ((6 : Nat) : Int)).2 ((3 : Nat) : Int)).2 ((1 : Nat) : Int)).2) := rfl

set_option maxRecDepth 100000 in
set_option maxHeartbeats 2000000 in
theorem cStamp_any (g : Nat) (a : Option Addr) (len cap : Nat) (l : List UInt8) (t : Int × Int) (w : World) (h : CAt w g a len cap l t) :
    Calls Try.prog 73 #[.pointer (some ⟨g, 0, none⟩)] w fun e w' => e = .returned (.agg #[.int .i64 (takeS l t).1.1, .int .i64 (takeS l t).1.2.1, .int .i64 (takeS l t).1.2.2]) ∧ CAt w' g a len cap l (takeS l t).2 ∧ Aside g w w' := by
  rw [takeS_eq]
  have hg := h.lt
  obtain ⟨W, hW⟩ : ∃ W, W = w.alloc (.cells #[.int .i64 0, .int .i64 0, .int .i64 0] 28) := ⟨_, rfl⟩
  have HK : Hid (CellsAt W w.heap.size #[.int .i64 0, .int .i64 0, .int .i64 0] 28) := by rw [hW]; exact CellsAt.made rfl
  have HA : Hid (Aside g w W) := by rw [hW]; exact Aside.of_below (alloc_below w _)
  have hsz : W.heap.size = w.heap.size + 1 := by rw [hW]; simp
  have hcW : CAt W g a len cap l t := by rw [hW]; exact h.later (alloc_below w _)
  have C1 := cNum_any g a len cap l t 6 W (by omega) (by omega) hcW
  have C2 := fun (V : World) (hV : CAt V g a len cap l (takeN l t ((6 : Nat) : Int)).2) => cNum_any g a len cap l (takeN l t ((6 : Nat) : Int)).2 3 V (by omega) (by omega) hV
  have C3 := fun (V : World) (hV : CAt V g a len cap l (takeN l (takeN l t ((6 : Nat) : Int)).2 ((3 : Nat) : Int)).2) => cNum_any g a len cap l (takeN l (takeN l t ((6 : Nat) : Int)).2 ((3 : Nat) : Int)).2 1 V (by omega) (by omega) hV
  have HSRC : Hid (∀ x k, a = some ⟨x, k, none⟩ → 0 < len → x < w.heap.size) := fun x k e h0 => (h.src x k e h0).2
  generalize takeN l t ((6 : Nat) : Int) = r1 at *
  generalize takeN l r1.2 ((3 : Nat) : Int) = r2 at *
  generalize takeN l r2.2 ((1 : Nat) : Int) = r3 at *
  have HW : Hid (W = w.alloc (.cells #[.int .i64 0, .int .i64 0, .int .i64 0] 28)) := hW
  clear h hW hcW
  go_enter Try.func73, Try.ntmps73
  go_wp2_with fail
  rw [← HW.out]
  refine C1.mono ?_
  rintro e w1 ⟨rfl, hc1, hs1⟩
  have HK1 : Hid (CellsAt w1 w.heap.size #[.int .i64 0, .int .i64 0, .int .i64 0] 28) := HK.out.aside hs1 (by omega)
  have HA1 : Hid (Aside g w w1) := HA.out.trans hs1
  have C2' := C2 w1 hc1
  clear C1 C2 hs1 HK HA hc1
  go_wp2_with fail
  refine C2'.mono ?_
  rintro e w2 ⟨rfl, hc2, hs2⟩
  have HK2 : Hid (CellsAt w2 w.heap.size #[.int .i64 0, .int .i64 0, .int .i64 0] 28) := HK1.out.aside hs2 (by have := HA1.out.size; have := hs2.size; omega)
  have HA2 : Hid (Aside g w w2) := HA1.out.trans hs2
  have C3' := C3 w2 hc2
  clear C2' C3 hs2 HK1 HA1 hc2
  go_wp2_with fail
  refine C3'.mono ?_
  rintro e w3 ⟨rfl, hc3, hs3⟩
  have hk3 : CellsAt w3 w.heap.size #[.int .i64 0, .int .i64 0, .int .i64 0] 28 := HK2.out.aside hs3 (by omega)
  have HA3 : Hid (Aside g w w3) := HA2.out.trans hs3
  have HC3 : Hid (CAt w3 g a len cap l r3.2) := hc3
  have y0 : w3.cell? ⟨w.heap.size, 0, none⟩ = some (.int .i64 0) := hk3.cell 0
  have y1 : w3.cell? ⟨w.heap.size, 1, none⟩ = some (.int .i64 0) := hk3.cell 1
  have y2 : w3.cell? ⟨w.heap.size, 2, none⟩ = some (.int .i64 0) := hk3.cell 2
  have z0 := hk3.free 0
  have z1 := hk3.free 1
  have z2 := hk3.free 2
  clear hk3 hc3 hs3 HK2 HA2 C3'
  go_wp2
  refine bodyPost_ret (by simp [results, Try.results73, go_sem, y0, y1, y2]; rfl) rfl ?_
  refine ⟨rfl, ((HC3.out.set _ _ (by omega) ?_).set _ _ (by omega) ?_).set _ _ (by omega) ?_, ((HA3.out.set (by omega)).set (by omega)).set (by omega)⟩
  all_goals (intro x k e h0; have := HSRC.out x k e h0; omega)

end Go.Proofs.Ytjpcljmlkgjbgaa
