/-
  Texts of the proof of BufAll, one behind the other.
-/
import Derived.Test.YtjddkodcbpnilaaRows
import Derived.Test.YtjddkodcbpnilaaG34BufAll
import Derived.Test.YtjddkodcbpnilaaG35BufAll
import Derived.Test.YtjddkodcbpnilaaG20BufAll
import Derived.Lib.SmallJoins
import Derived.Test.YtjddkodcbpnilaaG19BufAll
namespace Go.Proofs.Ytjddkodcbpnilaa
open Go.ChangeShapes Go.WideShapes Go.ChangeAt Go.RowKit Go.Lib
set_option linter.unusedVariables false

/-- What is known of an operation that came in, whatever its sizes. -/
structure InO (w : World) (x : PO) (da va oa : Option Addr) (dc vc oc : Nat) : Prop where
  deps : RdI .i64 w da x.deps
  vals : RdV w va x.vals
  dots : RdD w oa x.dots
  ld : x.deps.length ≤ 9223372036854775807
  lv : x.vals.length ≤ 9223372036854775807
  lo : x.dots.length ≤ 9223372036854775807
  cd : x.deps.length ≤ dc
  cv : x.vals.length ≤ vc
  co : x.dots.length ≤ oc
  nd : da = none → x.deps = [] ∧ dc = 0
  nv : va = none → x.vals = [] ∧ vc = 0
  no : oa = none → x.dots = [] ∧ oc = 0
  key : x.key.size ≤ 9223372036854775807
  i64 : I64O x
  k64 : In64 x.kind

theorem InO.later {w w' : World} {x : PO} {da va oa : Option Addr} {dc vc oc : Nat} (h : InO w x da va oa dc vc oc) (hb : Below w.heap.size w w') : InO w' x da va oa dc vc oc :=
  ⟨h.deps.later hb, h.vals.later hb, h.dots.later hb, h.ld, h.lv, h.lo, h.cd, h.cv, h.co, h.nd, h.nv, h.no, h.key, h.i64, h.k64⟩

theorem InO.lies {w : World} {x : PO} {da va oa : Option Addr} {dc vc oc : Nat} (h : InO w x da va oa dc vc oc) (h1 : x.deps.length ≤ 65536) (h2 : x.vals.length ≤ 65536) (h3 : x.dots.length ≤ 65536) : LiesO w x da va oa dc vc oc :=
  ⟨h.deps, h.vals, h.dots, h1, h2, h3, h.cd, h.cv, h.co, h.nd, h.nv, h.no, h.key⟩

theorem two_cells {w : World} {base : Nat} {a : Addr} {cs : List Value} (h : w.cells? base a 2 = some cs) : ∃ x y, cs = [x, y] ∧ w.cell? a = some x ∧ w.cell? (a.add 1) = some y := by
  unfold World.cells? at h
  split at h
  · rw [show List.range 2 = [0, 1] from rfl] at h
    simp only [List.mapM_cons, List.mapM_nil, Option.pure_def, Option.bind_eq_bind, Option.bind_eq_some_iff, Option.some.injEq] at h
    obtain ⟨x, hx, r, ⟨y, hy, r', rfl, rfl⟩, rfl⟩ := h
    have h0 : a.add 0 = a := by unfold Addr.add; split <;> simp_all
    rw [h0] at hx
    exact ⟨x, y, rfl, hx, hy⟩
  · cases h

theorem wf64 {n : Int} (h : (Lit.int .i64 n).wf = true) : In64 n := all64_of (N := [n]) (fun m hm => by rw [List.mem_singleton.1 hm]; exact h) n (List.mem_singleton.2 rfl)

/-- A slice of dots that came in. -/
theorem dots_in {H : Type} {enc : TypeId × Value → H} {w : World} {a : Option Addr} {len cap : Nat} {d : DataW H} {p : List MemPlace}
    (h : DataW.Trod enc Try.prog w 0 (fun _ => true) true 30 (Value.slice a len cap) d p) :
    ∃ ds : List (Int × Int), ds.length = len ∧ len ≤ cap ∧ cap ≤ 9223372036854775807 ∧ RdD w a ds ∧ (a = none → ds = [] ∧ cap = 0) ∧ ∀ d ∈ ds, In64 d.1 ∧ In64 d.2 := by
  obtain ⟨fuel, hfu⟩ := h
  have hci : Try.prog.cellsOf 3 = 1 := by kernel_rfl
  have hc : Try.prog.cellsOf 25 = 2 := by kernel_rfl
  rcases DataW.trod_slice Try.underlying30 hfu with ⟨hcs, _⟩ | ⟨x, l, c, elems, rest, n, _, hcs, _, _, hl, hm, hlen, hel, _, _⟩
  · simp [Value.cells] at hcs
    obtain ⟨rfl, rfl, rfl⟩ := hcs
    exact ⟨[], rfl, Nat.le_refl _, by omega, (fun h => absurd h (by simp)), fun _ => ⟨rfl, rfl⟩, fun d hd => by cases hd⟩
  · simp [Value.cells] at hcs
    obtain ⟨rfl, rfl, rfl⟩ := hcs
    have each : ∀ i, i < len → ∃ v : Int × Int, (w.cell? (x.add (i * 2)) = some (.int .i64 v.1) ∧ w.cell? ((x.add (i * 2)).add 1) = some (.int .i64 v.2)) ∧ In64 v.1 ∧ In64 v.2 := by
      intro i hi
      have h1 := hel i hi
      rw [hc, List.getElem?_eq_getElem (by omega), Option.bind_eq_some_iff] at h1
      obtain ⟨cs, hcs, hy⟩ := h1
      obtain ⟨u0, u1, rfl, c0, c1⟩ := two_cells hcs
      obtain ⟨y0, y1, m, _, _, t0, t1⟩ := trod_struct2 Try.underlying25 hy
      simp [hci] at t0 t1
      obtain ⟨k, e0, _, w0⟩ := DataW.trod_int Try.underlying3 t0
      obtain ⟨j, e1, _, w1⟩ := DataW.trod_int Try.underlying3 t1
      simp at e0 e1
      subst e0 e1
      exact ⟨⟨k, j⟩, ⟨c0, c1⟩, wf64 w0, wf64 w1⟩
    have hch : ∃ f : Nat → Int × Int, ∀ i, i < len → (w.cell? (x.add (i * 2)) = some (.int .i64 (f i).1) ∧ w.cell? ((x.add (i * 2)).add 1) = some (.int .i64 (f i).2)) ∧ In64 (f i).1 ∧ In64 (f i).2 :=
      ⟨fun i => if h : i < len then (each i h).choose else (0, 0), fun i hi => by simp only [dif_pos hi]; exact (each i hi).choose_spec⟩
    obtain ⟨f, hf⟩ := hch
    clear each hel
    refine ⟨(List.range len).map f, by simp, hl, by unfold maxLen at hm; omega, fun h0 => ?_, (fun h => by cases h), fun d hd => ?_⟩
    · have h00 : 0 < len := by simpa using h0
      have hx : x.spot = none := by
        have := World.cell?_spot (hf 0 h00).1.1
        simpa [Addr.add] using this
      obtain ⟨b, off, sp⟩ := x
      simp only at hx
      subst hx
      refine ⟨b, off, rfl, fun i hi => ?_⟩
      have hi' : i < len := by simpa using hi
      have := (hf i hi').1
      rw [add_plain3, add_plain3] at this
      simp only [List.getElem_map, List.getElem_range]
      exact this
    · simp only [List.mem_map, List.mem_range] at hd
      obtain ⟨i, hi, rfl⟩ := hd
      exact (hf i hi).2

set_option maxRecDepth 100000 in
theorem list12 {α : Type} {l : List α} (h : l.length = 12) : ∃ c0 c1 c2 c3 c4 c5 c6 c7 c8 c9 c10 c11, l = [c0, c1, c2, c3, c4, c5, c6, c7, c8, c9, c10, c11] := by
  match l, h with
  | [c0, c1, c2, c3, c4, c5, c6, c7, c8, c9, c10, c11], _ => exact ⟨c0, c1, c2, c3, c4, c5, c6, c7, c8, c9, c10, c11, rfl⟩

set_option maxRecDepth 100000 in
theorem trod_struct9 {H : Type} {enc : TypeId × Value → H} {P : Program} {w : World} {base : Nat} {spare : Nat → Bool} {held : Bool} {t : TypeId} {f0 f1 f2 f3 f4 f5 f6 f7 f8 : Field} {fuel : Nat} {cs : List Value} {x : DataW H × List MemPlace} (ht : P.underlying t = some (.struct #[f0, f1, f2, f3, f4, f5, f6, f7, f8])) (h : DataW.trod enc P w base spare held fuel t cs = some x) :
    ∃ y0 y1 y2 y3 y4 y5 y6 y7 y8 n, cs.length = P.cellsOf t ∧ DataW.trod enc P w base spare held n f0.type ((cs.drop f0.offset).take (P.cellsOf f0.type)) = some y0 ∧ DataW.trod enc P w base spare held n f1.type ((cs.drop f1.offset).take (P.cellsOf f1.type)) = some y1 ∧
      DataW.trod enc P w base spare held n f2.type ((cs.drop f2.offset).take (P.cellsOf f2.type)) = some y2 ∧ DataW.trod enc P w base spare held n f3.type ((cs.drop f3.offset).take (P.cellsOf f3.type)) = some y3 ∧ DataW.trod enc P w base spare held n f4.type ((cs.drop f4.offset).take (P.cellsOf f4.type)) = some y4 ∧
      DataW.trod enc P w base spare held n f5.type ((cs.drop f5.offset).take (P.cellsOf f5.type)) = some y5 ∧ DataW.trod enc P w base spare held n f6.type ((cs.drop f6.offset).take (P.cellsOf f6.type)) = some y6 ∧ DataW.trod enc P w base spare held n f7.type ((cs.drop f7.offset).take (P.cellsOf f7.type)) = some y7 ∧
      DataW.trod enc P w base spare held n f8.type ((cs.drop f8.offset).take (P.cellsOf f8.type)) = some y8 := by
  obtain ⟨xs, n, _, rfl, hl, hlen, hf⟩ := DataW.trod_struct ht h
  match xs, hlen with
  | [y0, y1, y2, y3, y4, y5, y6, y7, y8], _ => exact ⟨y0, y1, y2, y3, y4, y5, y6, y7, y8, n, hl, by simpa using hf 0 f0 rfl, by simpa using hf 1 f1 rfl, by simpa using hf 2 f2 rfl, by simpa using hf 3 f3 rfl, by simpa using hf 4 f4 rfl, by simpa using hf 5 f5 rfl, by simpa using hf 6 f6 rfl, by simpa using hf 7 f7 rfl, by simpa using hf 8 f8 rfl⟩

set_option maxRecDepth 100000 in
/-- An operation's cells that came in. -/
theorem op_in {H : Type} {enc : TypeId × Value → H} {w : World} {fuel : Nat} {cs : List Value} {y : DataW H × List MemPlace}
    (h : DataW.trod enc Try.prog w 0 (fun _ => true) true fuel 32 cs = some y) : ∃ x da va oa dc vc oc, cs = (cellsO x da va oa dc vc oc).toList ∧ InO w x da va oa dc vc oc := by
  have ci : Try.prog.cellsOf 3 = 1 := by kernel_rfl
  have cst : Try.prog.cellsOf 9 = 1 := by kernel_rfl
  have cD : Try.prog.cellsOf 25 = 2 := by kernel_rfl
  have cS : Try.prog.cellsOf 28 = 3 := by kernel_rfl
  have c1 : Try.prog.cellsOf 26 = 1 := by kernel_rfl
  have c2 : Try.prog.cellsOf 29 = 1 := by kernel_rfl
  have c3 : Try.prog.cellsOf 30 = 1 := by kernel_rfl
  have cO : Try.prog.cellsOf 32 = 12 := by kernel_rfl
  obtain ⟨y0, y1, y2, y3, y4, y5, y6, y7, y8, n, hl, t0, t1, t2, t3, t4, t5, t6, t7, t8⟩ := trod_struct9 Try.underlying32 h
  obtain ⟨d0, d1, d2, d3, d4, d5, d6, d7, d8, d9, d10, d11, rfl⟩ := list12 (hl.trans cO)
  clear hl h
  simp [ci, cst, cD, cS, c1, c2, c3] at t0 t1 t2 t3 t4 t5 t6 t7 t8
  obtain ⟨z0, z1, n0, _, _, u0, u1⟩ := trod_struct2 Try.underlying25 t0
  simp [ci] at u0 u1
  obtain ⟨dp, e0, _, k0⟩ := DataW.trod_int Try.underlying3 u0
  obtain ⟨dn, e1, _, k1⟩ := DataW.trod_int Try.underlying3 u1
  obtain ⟨z0, z1, z2, n2, _, _, u0, u1, u2⟩ := Go.Deep.trod_struct3 Try.underlying28 t2
  simp [ci] at u0 u1 u2
  obtain ⟨sp, e3, _, k3⟩ := DataW.trod_int Try.underlying3 u0
  obtain ⟨sl, e4, _, k4⟩ := DataW.trod_int Try.underlying3 u1
  obtain ⟨sq, e5, _, k5⟩ := DataW.trod_int Try.underlying3 u2
  obtain ⟨kind, e6, _, k6⟩ := DataW.trod_int Try.underlying3 t3
  obtain ⟨table, e7, _, k7⟩ := DataW.trod_int Try.underlying3 t4
  obtain ⟨key, e8, _, k8⟩ := DataW.trod_string Try.underlying9 t5
  obtain ⟨col, e9, _, k9⟩ := DataW.trod_int Try.underlying3 t6
  obtain ⟨da, ld, dc, e2⟩ := Joins.slice_form Try.underlying26 t1
  obtain ⟨va, lv, vc, e10⟩ := Joins.slice_form Try.underlying29 t7
  obtain ⟨oa, lo, oc, e11⟩ := Joins.slice_form Try.underlying30 t8
  simp at e0 e1 e2 e3 e4 e5 e6 e7 e8 e9 e10 e11
  subst e0 e1 e2 e3 e4 e5 e6 e7 e8 e9 e10 e11
  obtain ⟨zs, hi⟩ := ints_of (k := .i64) Try.underlying26 Try.underlying3 ci (show DataW.Trod enc Try.prog w 0 (fun _ => true) true 26 (Value.slice da ld dc) y1.1 y1.2 from ⟨n, t1⟩)
  obtain ⟨N, hN1, hN2, hN3, hN4, hN5⟩ := hi.ints
  obtain ⟨vs, hv⟩ := vals_of (show DataW.Trod enc Try.prog w 0 (fun _ => true) true 29 (Value.slice va lv vc) y7.1 y7.2 from ⟨n, t7⟩)
  obtain ⟨hv1, hv2, hv3, hv4⟩ := hv.vals
  obtain ⟨ds, hd1, hd2, hd3, hd4, hd5, hd6⟩ := dots_in (show DataW.Trod enc Try.prog w 0 (fun _ => true) true 30 (Value.slice oa lo oc) y8.1 y8.2 from ⟨n, t8⟩)
  have hs1 := hi.small
  have hs2 := hv.small
  subst hN1 hv1 hd1
  refine ⟨⟨dp, dn, N, sp, sl, sq, kind, table, key, col, vs, ds⟩, da, va, oa, dc, vc, oc, rfl, ⟨hN3, hv3, hd4, hs1, hs2, by show ds.length ≤ _; omega, hN2, hv2, hd2, hN4, hv4, hd5, by unfold maxLen at k8; exact k8, ⟨all64_of hN5, wf64 k0, wf64 k1, ⟨wf64 k3, wf64 k4, wf64 k5⟩, hd6, wf64 k9, wf64 k7⟩, wf64 k6⟩⟩

set_option maxRecDepth 100000 in
theorem op_arg {H : Type} {enc : TypeId × Value → H} {w : World} {base : Nat} {v : Value} {d : DataW H} {p : List MemPlace} (hv : Value.okWide Try.prog w .any base 32 v)
    (h : DataW.Trod enc Try.prog w 0 (fun _ => true) true 32 v d p) : ∃ x da va oa dc vc oc, v = .agg (cellsO x da va oa dc vc oc) ∧ InO w x da va oa dc vc oc := by
  obtain ⟨cs, rfl, _⟩ := okWide_struct Try.underlying32 hv
  obtain ⟨fuel, hf⟩ := h
  obtain ⟨x, da, va, oa, dc, vc, oc, e, hi⟩ := op_in hf
  refine ⟨x, da, va, oa, dc, vc, oc, ?_, hi⟩
  have e' : cs.toList = (cellsO x da va oa dc vc oc).toList := e
  rw [Array.toList_inj.1 e']

end Go.Proofs.Ytjddkodcbpnilaa

namespace Go.Proofs.Ytjddkodcbpnilaa
open Go.RowKit Go.Lib
set_option linter.unusedVariables false

/-- A slice's beginning, and the operations that are read from there on. -/
def RdO (w : World) (a : Option Addr) (X : List PO) : Prop :=
  0 < X.length → ∃ b off, a = some ⟨b, off, none⟩ ∧ ∀ i (hi : i < X.length), ∃ da va oa dc vc oc, (∀ j v, (cellsO X[i] da va oa dc vc oc)[j]? = some v → w.cell? ⟨b, off + i * 12 + j, none⟩ = some v) ∧ InO w X[i] da va oa dc vc oc

theorem RdO.later {w w' : World} {a : Option Addr} {X : List PO} (h : RdO w a X) (hb : Below w.heap.size w w') : RdO w' a X := fun h0 => by
  obtain ⟨b, off, e, hc⟩ := h h0
  refine ⟨b, off, e, fun i hi => ?_⟩
  obtain ⟨da, va, oa, dc, vc, oc, h1, h2⟩ := hc i hi
  exact ⟨da, va, oa, dc, vc, oc, fun j v hj => cell_later hb (h1 j v hj), h2.later hb⟩

/-- Heavy's answer of a row; of an operation; of several. -/
def heavyR (vs : List PV) : Bool := decide (40 < vs.length) || heavyV vs
def heavyO (x : PO) : Bool := decide (30 < x.deps.length) || (decide (100 < x.key.size) || (heavyR x.vals || decide (100 < x.dots.length)))
def heavyOs (X : List PO) : Bool := decide (300 < X.length) || X.any heavyO

set_option maxHeartbeats 400000 in
theorem heavyR_any (a : Option Addr) (n cap : Nat) (vs : List PV) (w : World) (hn : vs.length = n) (hr : RdV w a vs) :
    Calls Try.prog 9 #[.slice a n cap] w fun e w' => e = .returned (.bool (heavyR vs)) ∧ w' = w := by
  by_cases h : n ≤ 40
  · have e : heavyR vs = heavyV vs := by unfold heavyR; rw [decide_eq_false (by omega), Bool.false_or]
    rw [e]
    exact heavy_few a n cap vs w hn h hr
  · have e : heavyR vs = true := by unfold heavyR; rw [decide_eq_true (by omega), Bool.true_or]
    rw [e]
    have hd : decide ((40 : Int) < (n : Int)) = true := by simp; omega
    clear hn hr e
    go_enter Try.func9, Try.ntmps9
    go_wp2
    go_ret
    exact ⟨rfl, rfl⟩

theorem heavyOs_cons_no {X : List PO} {k : Nat} (hk : k < X.length) (h : (X.take k).any heavyO = false) : (X.take (k + 1)).any heavyO = heavyO X[k] := by
  rw [List.take_succ_eq_append_getElem hk, List.any_append, h]
  simp

set_option maxRecDepth 100000 in
set_option maxHeartbeats 2000000 in
theorem heavyO_any (a : Option Addr) (n cap : Nat) (X : List PO) (w : World) (hn : X.length = n) (hl : n ≤ 9223372036854775807) (hr : RdO w a X) :
    Calls Try.prog 4 #[.slice a n cap] w fun e w' => e = .returned (.bool (heavyOs X)) ∧ w' = w := by
  by_cases h300 : 300 < n
  · have e : heavyOs X = true := by unfold heavyOs; rw [decide_eq_true (by omega), Bool.true_or]
    rw [e]
    have hd : decide ((300 : Int) < (n : Int)) = true := by simp; omega
    clear hn hr e
    go_enter Try.func4, Try.ntmps4
    go_wp2
    go_ret
    exact ⟨rfl, rfl⟩
  have hd : decide ((300 : Int) < (n : Int)) = false := by simp; omega
  have HE : Hid (heavyOs X = X.any heavyO) := by show _ = _; unfold heavyOs; rw [decide_eq_false (by omega), Bool.false_or]
  have HN : Hid (X.length = n) := hn
  have HR : Hid (RdO w a X) := hr
  clear hn hr
  go_enter Try.func4, Try.ntmps4
  go_wp2
  go_loop [3] (fun i => ∃ k : Nat, k ≤ n ∧ i = .int .i64 k ∧ Hid ((X.take k).any heavyO = false)) (fun i => n - (RowKit.intOf i).toNat)
  case atStart => exact ⟨0, Nat.zero_le _, rfl, rfl⟩
  case round =>
    obtain ⟨k, hk, rfl, hT⟩ := hrel
    by_cases hlt : k < n
    · have hkl : k < X.length := by rw [HN.out]; exact hlt
      obtain ⟨b, off, rfl, hc⟩ := HR.out (by omega)
      obtain ⟨da, va, oa, dc, vc, oc, hcs, hin⟩ := hc k hkl
      have HS : Hid (heavyO X[k] = false → (X.take (k + 1)).any heavyO = false) := fun h => by rw [heavyOs_cons_no hkl hT.out]; exact h
      have HX : Hid (heavyO X[k] = true → heavyOs X = true) := fun h => by
        rw [HE.out, List.any_eq_true]
        exact ⟨_, List.getElem_mem hkl, h⟩
      have HO : Hid (heavyO X[k] = (decide (30 < X[k].deps.length) || (decide (100 < X[k].key.size) || (heavyR X[k].vals || decide (100 < X[k].dots.length))))) := rfl
      have x1 : w.cell? ⟨b, off + k * 12 + 2, none⟩ = some (.slice da X[k].deps.length dc) := hcs 2 _ rfl
      have x2 : w.cell? ⟨b, off + k * 12 + 8, none⟩ = some (.string X[k].key) := hcs 8 _ rfl
      have x3 : w.cell? ⟨b, off + k * 12 + 10, none⟩ = some (.slice va X[k].vals.length vc) := hcs 10 _ rfl
      have x4 : w.cell? ⟨b, off + k * 12 + 11, none⟩ = some (.slice oa X[k].dots.length oc) := hcs 11 _ rfl
      have C := heavyR_any va X[k].vals.length vc X[k].vals w rfl hin.vals
      have l1 := hin.ld
      have l2 := hin.key
      have l4 := hin.lo
      clear hc hcs hin
      generalize heavyO X[k] = ho at *
      generalize heavyR X[k].vals = hv at *
      generalize X[k].deps.length = n1 at *
      generalize X[k].key = s at *
      generalize X[k].vals.length = n3 at *
      generalize X[k].dots.length = n4 at *
      clear hkl
      by_cases c1 : 30 < n1
      · have d1 : decide ((30 : Int) < (n1 : Int)) = true := by simp; omega
        have HX' : Hid (heavyOs X = true) := HX.out (by rw [HO.out, decide_eq_true c1, Bool.true_or])
        clear HS HX HO
        go_wp2
        go_ret
        exact ⟨by rw [HX'.out]; rfl, rfl⟩
      have d1 : decide ((30 : Int) < (n1 : Int)) = false := by simp; omega
      by_cases c2 : 100 < s.size
      · have d2 : decide ((100 : Int) < (s.size : Int)) = true := by simp; omega
        have HX' : Hid (heavyOs X = true) := HX.out (by rw [HO.out, decide_eq_true c2, Bool.true_or, Bool.or_true])
        clear HS HX HO
        go_wp2
        go_ret
        exact ⟨by rw [HX'.out]; rfl, rfl⟩
      have d2 : decide ((100 : Int) < (s.size : Int)) = false := by simp; omega
      cases hv with
      | true =>
        have HX' : Hid (heavyOs X = true) := HX.out (by rw [HO.out]; simp)
        clear HS HX HO
        go_wp2_with fail
        refine C.mono ?_
        rintro e w1 ⟨rfl, hw⟩
        subst w1
        go_wp2
        go_ret
        exact ⟨by rw [HX'.out]; rfl, rfl⟩
      | false =>
        by_cases c4 : 100 < n4
        · have d4 : decide ((100 : Int) < (n4 : Int)) = true := by simp; omega
          have HX' : Hid (heavyOs X = true) := HX.out (by rw [HO.out, decide_eq_true c4]; simp)
          clear HS HX HO
          go_wp2_with fail
          refine C.mono ?_
          rintro e w1 ⟨rfl, hw⟩
          subst w1
          go_wp2
          go_ret
          exact ⟨by rw [HX'.out]; rfl, rfl⟩
        · have d4 : decide ((100 : Int) < (n4 : Int)) = false := by simp; omega
          have HS' : Hid ((X.take (k + 1)).any heavyO = false) := HS.out (by rw [HO.out, decide_eq_false c1, decide_eq_false c2, decide_eq_false c4]; rfl)
          clear HS HX HO
          go_wp2_with fail
          refine C.mono ?_
          rintro e w1 ⟨rfl, hw⟩
          subst w1
          go_wp2
          go_round
          case rel => exact ⟨k + 1, by omega, by go_num, HS'⟩
          case measure => simp [RowKit.intOf]; omega
    · have h := hT.out
      rw [List.take_of_length_le (by rw [HN.out]; omega)] at h
      have HH : Hid (heavyOs X = false) := HE.out.trans h
      clear h
      go_wp2
      go_ret
      exact ⟨by rw [HH.out]; rfl, rfl⟩

theorem InO.of_light {w : World} {x : PO} {da va oa : Option Addr} {dc vc oc : Nat} (h : InO w x da va oa dc vc oc) (hh : heavyO x = false) : LiesO w x da va oa dc vc oc ∧ x.deps.length ≤ 30 ∧ x.key.size ≤ 100 ∧ x.vals.length ≤ 40 ∧ x.dots.length ≤ 100 := by
  unfold heavyO heavyR at hh
  simp only [Bool.or_eq_false_iff, decide_eq_false_iff_not] at hh
  obtain ⟨h1, h2, ⟨h3, _⟩, h4⟩ := hh
  exact ⟨h.lies (by omega) (by omega) (by omega), by omega, by omega, by omega, by omega⟩

/-- One operation in a block of its own. -/
theorem rdO_one {w : World} {b : Nat} {x : PO} {da va oa : Option Addr} {dc vc oc : Nat} {t : TypeId} (hc : CellsAt w b (cellsO x da va oa dc vc oc) t) (hi : InO w x da va oa dc vc oc) : RdO w (some ⟨b, 0, none⟩) [x] := fun _ =>
  ⟨b, 0, rfl, fun i h => by
    obtain rfl : i = 0 := by have : i < 1 := h; omega
    refine ⟨da, va, oa, dc, vc, oc, fun j v hj => ?_, hi⟩
    have := hc.cell j
    rw [show 0 + 0 * 12 + j = j by omega]
    rw [this]
    exact hj⟩

end Go.Proofs.Ytjddkodcbpnilaa
