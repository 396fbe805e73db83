/-
  Texts of the proof of OpKinds, one behind the other.
-/
import Derived.Test.YtjpcljmlkgjbgaaRows
import Derived.Test.YtjpcljmlkgjbgaaG34OpKinds
import Derived.Test.YtjpcljmlkgjbgaaG35OpKinds
import Derived.Test.YtjpcljmlkgjbgaaG20OpKinds
import Derived.Lib.SmallJoins
import Derived.Test.YtjpcljmlkgjbgaaG19OpKinds
namespace Go.Proofs.Ytjpcljmlkgjbgaa
open Go.ChangeShapes Go.WideShapes Go.ChangeAt Go.RowKit Go.Lib
set_option linter.unusedVariables false

/-- What is known of an operation that came in, whatever its sizes. -/
structure InO (w : World) (x : PO) (da va oa : Option Addr) (dc vc oc : Nat) : Prop where
  deps : RdI .i64 w da x.deps
  vals : RdV w va x.vals
  dots : RdD w oa x.dots
  ld : x.deps.length ≤ 9223372036854775807
  lv : x.vals.length ≤ 9223372036854775807
  lo : x.dots.length ≤ 9223372036854775807
  cd : x.deps.length ≤ dc
  cv : x.vals.length ≤ vc
  co : x.dots.length ≤ oc
  nd : da = none → x.deps = [] ∧ dc = 0
  nv : va = none → x.vals = [] ∧ vc = 0
  no : oa = none → x.dots = [] ∧ oc = 0
  key : x.key.size ≤ 9223372036854775807
  i64 : I64O x
  k64 : In64 x.kind

theorem InO.later {w w' : World} {x : PO} {da va oa : Option Addr} {dc vc oc : Nat} (h : InO w x da va oa dc vc oc) (hb : Below w.heap.size w w') : InO w' x da va oa dc vc oc :=
  ⟨h.deps.later hb, h.vals.later hb, h.dots.later hb, h.ld, h.lv, h.lo, h.cd, h.cv, h.co, h.nd, h.nv, h.no, h.key, h.i64, h.k64⟩

theorem InO.lies {w : World} {x : PO} {da va oa : Option Addr} {dc vc oc : Nat} (h : InO w x da va oa dc vc oc) (h1 : x.deps.length ≤ 65536) (h2 : x.vals.length ≤ 65536) (h3 : x.dots.length ≤ 65536) : LiesO w x da va oa dc vc oc :=
  ⟨h.deps, h.vals, h.dots, h1, h2, h3, h.cd, h.cv, h.co, h.nd, h.nv, h.no, h.key⟩

theorem two_cells {w : World} {base : Nat} {a : Addr} {cs : List Value} (h : w.cells? base a 2 = some cs) : ∃ x y, cs = [x, y] ∧ w.cell? a = some x ∧ w.cell? (a.add 1) = some y := by
  unfold World.cells? at h
  split at h
  · rw [show List.range 2 = [0, 1] from rfl] at h
    simp only [List.mapM_cons, List.mapM_nil, Option.pure_def, Option.bind_eq_bind, Option.bind_eq_some_iff, Option.some.injEq] at h
    obtain ⟨x, hx, r, ⟨y, hy, r', rfl, rfl⟩, rfl⟩ := h
    have h0 : a.add 0 = a := by unfold Addr.add; split <;> simp_all
    rw [h0] at hx
    exact ⟨x, y, rfl, hx, hy⟩
  · cases h

theorem wf64 {n : Int} (h : (Lit.int .i64 n).wf = true) : In64 n := all64_of (N := [n]) (fun m hm => by rw [List.mem_singleton.1 hm]; exact h) n (List.mem_singleton.2 rfl)

/-- A slice of dots that came in. -/
theorem dots_in {H : Type} {enc : TypeId × Value → H} {w : World} {a : Option Addr} {len cap : Nat} {d : DataW H} {p : List MemPlace}
    (h : DataW.Trod enc Try.prog w 0 (fun _ => true) true 30 (Value.slice a len cap) d p) :
    ∃ ds : List (Int × Int), ds.length = len ∧ len ≤ cap ∧ cap ≤ 9223372036854775807 ∧ RdD w a ds ∧ (a = none → ds = [] ∧ cap = 0) ∧ ∀ d ∈ ds, In64 d.1 ∧ In64 d.2 := by
  obtain ⟨fuel, hfu⟩ := h
  have hci : Try.prog.cellsOf 3 = 1 := by kernel_rfl
  have hc : Try.prog.cellsOf 25 = 2 := by kernel_rfl
  rcases DataW.trod_slice Try.underlying30 hfu with ⟨hcs, _⟩ | ⟨x, l, c, elems, rest, n, _, hcs, _, _, hl, hm, hlen, hel, _, _⟩
  · simp [Value.cells] at hcs
    obtain ⟨rfl, rfl, rfl⟩ := hcs
    exact ⟨[], rfl, Nat.le_refl _, by omega, (fun h => absurd h (by simp)), fun _ => ⟨rfl, rfl⟩, fun d hd => by cases hd⟩
  · simp [Value.cells] at hcs
    obtain ⟨rfl, rfl, rfl⟩ := hcs
    have each : ∀ i, i < len → ∃ v : Int × Int, (w.cell? (x.add (i * 2)) = some (.int .i64 v.1) ∧ w.cell? ((x.add (i * 2)).add 1) = some (.int .i64 v.2)) ∧ In64 v.1 ∧ In64 v.2 := by
      intro i hi
      have h1 := hel i hi
      rw [hc, List.getElem?_eq_getElem (by omega), Option.bind_eq_some_iff] at h1
      obtain ⟨cs, hcs, hy⟩ := h1
      obtain ⟨u0, u1, rfl, c0, c1⟩ := two_cells hcs
      obtain ⟨y0, y1, m, _, _, t0, t1⟩ := trod_struct2 Try.underlying25 hy
      simp [hci] at t0 t1
      obtain ⟨k, e0, _, w0⟩ := DataW.trod_int Try.underlying3 t0
      obtain ⟨j, e1, _, w1⟩ := DataW.trod_int Try.underlying3 t1
      simp at e0 e1
      subst e0 e1
      exact ⟨⟨k, j⟩, ⟨c0, c1⟩, wf64 w0, wf64 w1⟩
    have hch : ∃ f : Nat → Int × Int, ∀ i, i < len → (w.cell? (x.add (i * 2)) = some (.int .i64 (f i).1) ∧ w.cell? ((x.add (i * 2)).add 1) = some (.int .i64 (f i).2)) ∧ In64 (f i).1 ∧ In64 (f i).2 :=
      ⟨fun i => if h : i < len then (each i h).choose else (0, 0), fun i hi => by simp only [dif_pos hi]; exact (each i hi).choose_spec⟩
    obtain ⟨f, hf⟩ := hch
    clear each hel
    refine ⟨(List.range len).map f, by simp, hl, by unfold maxLen at hm; omega, fun h0 => ?_, (fun h => by cases h), fun d hd => ?_⟩
    · have h00 : 0 < len := by simpa using h0
      have hx : x.spot = none := by
        have := World.cell?_spot (hf 0 h00).1.1
        simpa [Addr.add] using this
      obtain ⟨b, off, sp⟩ := x
      simp only at hx
      subst hx
      refine ⟨b, off, rfl, fun i hi => ?_⟩
      have hi' : i < len := by simpa using hi
      have := (hf i hi').1
      rw [add_plain3, add_plain3] at this
      simp only [List.getElem_map, List.getElem_range]
      exact this
    · simp only [List.mem_map, List.mem_range] at hd
      obtain ⟨i, hi, rfl⟩ := hd
      exact (hf i hi).2

set_option maxRecDepth 100000 in
theorem list12 {α : Type} {l : List α} (h : l.length = 12) : ∃ c0 c1 c2 c3 c4 c5 c6 c7 c8 c9 c10 c11, l = [c0, c1, c2, c3, c4, c5, c6, c7, c8, c9, c10, c11] := by
  match l, h with
  | [c0, c1, c2, c3, c4, c5, c6, c7, c8, c9, c10, c11], _ => exact ⟨c0, c1, c2, c3, c4, c5, c6, c7, c8, c9, c10, c11, rfl⟩

set_option maxRecDepth 100000 in
theorem trod_struct9 {H : Type} {enc : TypeId × Value → H} {P : Program} {w : World} {base : Nat} {spare : Nat → Bool} {held : Bool} {t : TypeId} {f0 f1 f2 f3 f4 f5 f6 f7 f8 : Field} {fuel : Nat} {cs : List Value} {x : DataW H × List MemPlace} (ht : P.underlying t = some (.struct #[f0, f1, f2, f3, f4, f5, f6, f7, f8])) (h : DataW.trod enc P w base spare held fuel t cs = some x) :
    ∃ y0 y1 y2 y3 y4 y5 y6 y7 y8 n, cs.length = P.cellsOf t ∧ DataW.trod enc P w base spare held n f0.type ((cs.drop f0.offset).take (P.cellsOf f0.type)) = some y0 ∧ DataW.trod enc P w base spare held n f1.type ((cs.drop f1.offset).take (P.cellsOf f1.type)) = some y1 ∧
      DataW.trod enc P w base spare held n f2.type ((cs.drop f2.offset).take (P.cellsOf f2.type)) = some y2 ∧ DataW.trod enc P w base spare held n f3.type ((cs.drop f3.offset).take (P.cellsOf f3.type)) = some y3 ∧ DataW.trod enc P w base spare held n f4.type ((cs.drop f4.offset).take (P.cellsOf f4.type)) = some y4 ∧
      DataW.trod enc P w base spare held n f5.type ((cs.drop f5.offset).take (P.cellsOf f5.type)) = some y5 ∧ DataW.trod enc P w base spare held n f6.type ((cs.drop f6.offset).take (P.cellsOf f6.type)) = some y6 ∧ DataW.trod enc P w base spare held n f7.type ((cs.drop f7.offset).take (P.cellsOf f7.type)) = some y7 ∧
      DataW.trod enc P w base spare held n f8.type ((cs.drop f8.offset).take (P.cellsOf f8.type)) = some y8 := by
  obtain ⟨xs, n, _, rfl, hl, hlen, hf⟩ := DataW.trod_struct ht h
  match xs, hlen with
  | [y0, y1, y2, y3, y4, y5, y6, y7, y8], _ => exact ⟨y0, y1, y2, y3, y4, y5, y6, y7, y8, n, hl, by simpa using hf 0 f0 rfl, by simpa using hf 1 f1 rfl, by simpa using hf 2 f2 rfl, by simpa using hf 3 f3 rfl, by simpa using hf 4 f4 rfl, by simpa using hf 5 f5 rfl, by simpa using hf 6 f6 rfl, by simpa using hf 7 f7 rfl, by simpa using hf 8 f8 rfl⟩

set_option maxRecDepth 100000 in
/-- An operation's cells that came in. -/
theorem op_in {H : Type} {enc : TypeId × Value → H} {w : World} {fuel : Nat} {cs : List Value} {y : DataW H × List MemPlace}
    (h : DataW.trod enc Try.prog w 0 (fun _ => true) true fuel 32 cs = some y) : ∃ x da va oa dc vc oc, cs = (cellsO x da va oa dc vc oc).toList ∧ InO w x da va oa dc vc oc := by
  have ci : Try.prog.cellsOf 3 = 1 := by kernel_rfl
  have cst : Try.prog.cellsOf 9 = 1 := by kernel_rfl
  have cD : Try.prog.cellsOf 25 = 2 := by kernel_rfl
  have cS : Try.prog.cellsOf 28 = 3 := by kernel_rfl
  have c1 : Try.prog.cellsOf 26 = 1 := by kernel_rfl
  have c2 : Try.prog.cellsOf 29 = 1 := by kernel_rfl
  have c3 : Try.prog.cellsOf 30 = 1 := by kernel_rfl
  have cO : Try.prog.cellsOf 32 = 12 := by kernel_rfl
  obtain ⟨y0, y1, y2, y3, y4, y5, y6, y7, y8, n, hl, t0, t1, t2, t3, t4, t5, t6, t7, t8⟩ := trod_struct9 Try.underlying32 h
  obtain ⟨d0, d1, d2, d3, d4, d5, d6, d7, d8, d9, d10, d11, rfl⟩ := list12 (hl.trans cO)
  clear hl h
  simp [ci, cst, cD, cS, c1, c2, c3] at t0 t1 t2 t3 t4 t5 t6 t7 t8
  obtain ⟨z0, z1, n0, _, _, u0, u1⟩ := trod_struct2 Try.underlying25 t0
  simp [ci] at u0 u1
  obtain ⟨dp, e0, _, k0⟩ := DataW.trod_int Try.underlying3 u0
  obtain ⟨dn, e1, _, k1⟩ := DataW.trod_int Try.underlying3 u1
  obtain ⟨z0, z1, z2, n2, _, _, u0, u1, u2⟩ := Go.Deep.trod_struct3 Try.underlying28 t2
  simp [ci] at u0 u1 u2
  obtain ⟨sp, e3, _, k3⟩ := DataW.trod_int Try.underlying3 u0
  obtain ⟨sl, e4, _, k4⟩ := DataW.trod_int Try.underlying3 u1
  obtain ⟨sq, e5, _, k5⟩ := DataW.trod_int Try.underlying3 u2
  obtain ⟨kind, e6, _, k6⟩ := DataW.trod_int Try.underlying3 t3
  obtain ⟨table, e7, _, k7⟩ := DataW.trod_int Try.underlying3 t4
  obtain ⟨key, e8, _, k8⟩ := DataW.trod_string Try.underlying9 t5
  obtain ⟨col, e9, _, k9⟩ := DataW.trod_int Try.underlying3 t6
  obtain ⟨da, ld, dc, e2⟩ := Joins.slice_form Try.underlying26 t1
  obtain ⟨va, lv, vc, e10⟩ := Joins.slice_form Try.underlying29 t7
  obtain ⟨oa, lo, oc, e11⟩ := Joins.slice_form Try.underlying30 t8
  simp at e0 e1 e2 e3 e4 e5 e6 e7 e8 e9 e10 e11
  subst e0 e1 e2 e3 e4 e5 e6 e7 e8 e9 e10 e11
  obtain ⟨zs, hi⟩ := ints_of (k := .i64) Try.underlying26 Try.underlying3 ci (show DataW.Trod enc Try.prog w 0 (fun _ => true) true 26 (Value.slice da ld dc) y1.1 y1.2 from ⟨n, t1⟩)
  obtain ⟨N, hN1, hN2, hN3, hN4, hN5⟩ := hi.ints
  obtain ⟨vs, hv⟩ := vals_of (show DataW.Trod enc Try.prog w 0 (fun _ => true) true 29 (Value.slice va lv vc) y7.1 y7.2 from ⟨n, t7⟩)
  obtain ⟨hv1, hv2, hv3, hv4⟩ := hv.vals
  obtain ⟨ds, hd1, hd2, hd3, hd4, hd5, hd6⟩ := dots_in (show DataW.Trod enc Try.prog w 0 (fun _ => true) true 30 (Value.slice oa lo oc) y8.1 y8.2 from ⟨n, t8⟩)
  have hs1 := hi.small
  have hs2 := hv.small
  subst hN1 hv1 hd1
  refine ⟨⟨dp, dn, N, sp, sl, sq, kind, table, key, col, vs, ds⟩, da, va, oa, dc, vc, oc, rfl, ⟨hN3, hv3, hd4, hs1, hs2, by show ds.length ≤ _; omega, hN2, hv2, hd2, hN4, hv4, hd5, by unfold maxLen at k8; exact k8, ⟨all64_of hN5, wf64 k0, wf64 k1, ⟨wf64 k3, wf64 k4, wf64 k5⟩, hd6, wf64 k9, wf64 k7⟩, wf64 k6⟩⟩

set_option maxRecDepth 100000 in
theorem op_arg {H : Type} {enc : TypeId × Value → H} {w : World} {base : Nat} {v : Value} {d : DataW H} {p : List MemPlace} (hv : Value.okWide Try.prog w .any base 32 v)
    (h : DataW.Trod enc Try.prog w 0 (fun _ => true) true 32 v d p) : ∃ x da va oa dc vc oc, v = .agg (cellsO x da va oa dc vc oc) ∧ InO w x da va oa dc vc oc := by
  obtain ⟨cs, rfl, _⟩ := okWide_struct Try.underlying32 hv
  obtain ⟨fuel, hf⟩ := h
  obtain ⟨x, da, va, oa, dc, vc, oc, e, hi⟩ := op_in hf
  refine ⟨x, da, va, oa, dc, vc, oc, ?_, hi⟩
  have e' : cs.toList = (cellsO x da va oa dc vc oc).toList := e
  rw [Array.toList_inj.1 e']

/-- Forms that came in. -/
theorem forms_of {H : Type} {enc : TypeId × Value → H} {w : World} {a : Option Addr} {len cap : Nat} {d : DataW H} {p : List MemPlace}
    (h : DataW.Trod enc Try.prog w 0 (fun _ => true) true 42 (Value.slice a len cap) d p) : ∃ L, IsRows w a len cap L := by
  obtain ⟨fuel, hf⟩ := h
  have hci : Try.prog.cellsOf 3 = 1 := by kernel_rfl
  have hc1 : Try.prog.cellsOf 26 = 1 := by kernel_rfl
  have hc : Try.prog.cellsOf 51 = 1 := by kernel_rfl
  rcases DataW.trod_slice Try.underlying42 hf with ⟨hcs, _⟩ | ⟨x, l, c, elems, rest, n, _, hcs, _, _, hl, hm, hlen, hel, _, _⟩
  · simp [Value.cells] at hcs
    obtain ⟨rfl, rfl, rfl⟩ := hcs
    exact ⟨[], .inl ⟨rfl, rfl, rfl, rfl⟩⟩
  · simp [Value.cells] at hcs
    obtain ⟨rfl, rfl, rfl⟩ := hcs
    have each : ∀ i, i < len → ∃ N u, w.cell? (x.add i) = some u ∧ SlI w u N ∧ All64 N ∧ N.length ≤ 9223372036854775807 := by
      intro i hi
      have h1 := hel i hi
      rw [hc, List.getElem?_eq_getElem (by omega), Option.bind_eq_some_iff, Nat.mul_one] at h1
      obtain ⟨cs, hcs, hy0⟩ := h1
      have hu : ∃ u, cs = [u] ∧ w.cell? (x.add i) = some u := by
        unfold World.cells? at hcs
        split at hcs
        · rw [show List.range 1 = [0] from rfl] at hcs
          simp only [List.mapM_cons, List.mapM_nil, Option.pure_def, Option.bind_eq_bind, Option.bind_eq_some_iff, Option.some.injEq] at hcs
          obtain ⟨u, hu, r, rfl, rfl⟩ := hcs
          have h0 : (x.add i).add 0 = x.add i := by unfold Addr.add; split <;> simp_all
          rw [h0] at hu
          exact ⟨u, rfl, hu⟩
        · cases hcs
      obtain ⟨u, rfl, hu⟩ := hu
      obtain ⟨y, m, _, _, hy⟩ := trod_struct1 Try.underlying51 hy0
      simp [hc1] at hy
      have hs : ∃ a2 l2 c2 zs, u = .slice a2 l2 c2 ∧ IsInts .i64 w a2 l2 c2 zs := by
        rcases open_ints Try.underlying26 Try.underlying3 hci hy with ⟨h2, _⟩ | ⟨x2, l2, c2, zs, h2, _, hl2, hm2, hz2, _, hcell, hwz⟩
        · simp at h2
          exact ⟨none, 0, 0, [], h2, .inl ⟨rfl, rfl, rfl, rfl⟩⟩
        · simp at h2
          exact ⟨some x2, l2, c2, zs, h2, .inr ⟨_, rfl, hl2, hm2, by simpa using hz2, hcell, hwz⟩⟩
      obtain ⟨a2, l2, c2, zs, rfl, hi2⟩ := hs
      obtain ⟨N, hN, h64, hNl⟩ := SlI.of_ints hi2
      exact ⟨N, _, hu, hN, h64, by rw [hNl]; exact hi2.small⟩
    refine ⟨(List.range len).map fun i => if h : i < len then (each i h).choose else [], .inr ⟨x, rfl, hl, hm, by simp, fun i hi => ?_⟩⟩
    have hi' : i < len := by simpa using hi
    have := (each i hi').choose_spec
    simp only [List.getElem_map, List.getElem_range, dif_pos hi']
    exact this

end Go.Proofs.Ytjpcljmlkgjbgaa

namespace Go.Proofs.Ytjpcljmlkgjbgaa
open Go.RowKit Go.Lib
set_option linter.unusedVariables false

/-- A slice's beginning, and the operations that are read from there on. -/
def RdO (w : World) (a : Option Addr) (X : List PO) : Prop :=
  0 < X.length → ∃ b off, a = some ⟨b, off, none⟩ ∧ ∀ i (hi : i < X.length), ∃ da va oa dc vc oc, (∀ j v, (cellsO X[i] da va oa dc vc oc)[j]? = some v → w.cell? ⟨b, off + i * 12 + j, none⟩ = some v) ∧ InO w X[i] da va oa dc vc oc

theorem RdO.later {w w' : World} {a : Option Addr} {X : List PO} (h : RdO w a X) (hb : Below w.heap.size w w') : RdO w' a X := fun h0 => by
  obtain ⟨b, off, e, hc⟩ := h h0
  refine ⟨b, off, e, fun i hi => ?_⟩
  obtain ⟨da, va, oa, dc, vc, oc, h1, h2⟩ := hc i hi
  exact ⟨da, va, oa, dc, vc, oc, fun j v hj => cell_later hb (h1 j v hj), h2.later hb⟩

/-- Heavy's answer of a row; of an operation; of several. -/
def heavyR (vs : List PV) : Bool := decide (40 < vs.length) || heavyV vs
def heavyO (x : PO) : Bool := decide (30 < x.deps.length) || (decide (100 < x.key.size) || (heavyR x.vals || decide (100 < x.dots.length)))
def heavyOs (X : List PO) : Bool := decide (300 < X.length) || X.any heavyO

set_option maxHeartbeats 400000 in
theorem heavyR_any (a : Option Addr) (n cap : Nat) (vs : List PV) (w : World) (hn : vs.length = n) (hr : RdV w a vs) :
    Calls Try.prog 48 #[.slice a n cap] w fun e w' => e = .returned (.bool (heavyR vs)) ∧ w' = w := by
  by_cases h : n ≤ 40
  · have e : heavyR vs = heavyV vs := by unfold heavyR; rw [decide_eq_false (by omega), Bool.false_or]
    rw [e]
    exact heavy_few a n cap vs w hn h hr
  · have e : heavyR vs = true := by unfold heavyR; rw [decide_eq_true (by omega), Bool.true_or]
    rw [e]
    have hd : decide ((40 : Int) < (n : Int)) = true := by simp; omega
    clear hn hr e
    go_enter Try.func48, Try.ntmps48
    go_wp2
    go_ret
    exact ⟨rfl, rfl⟩

theorem heavyOs_cons_no {X : List PO} {k : Nat} (hk : k < X.length) (h : (X.take k).any heavyO = false) : (X.take (k + 1)).any heavyO = heavyO X[k] := by
  rw [List.take_succ_eq_append_getElem hk, List.any_append, h]
  simp

set_option maxRecDepth 100000 in
set_option maxHeartbeats 2000000 in
theorem heavyO_any (a : Option Addr) (n cap : Nat) (X : List PO) (w : World) (hn : X.length = n) (hl : n ≤ 9223372036854775807) (hr : RdO w a X) :
    Calls Try.prog 16 #[.slice a n cap] w fun e w' => e = .returned (.bool (heavyOs X)) ∧ w' = w := by
  by_cases h300 : 300 < n
  · have e : heavyOs X = true := by unfold heavyOs; rw [decide_eq_true (by omega), Bool.true_or]
    rw [e]
    have hd : decide ((300 : Int) < (n : Int)) = true := by simp; omega
    clear hn hr e
    go_enter Try.func16, Try.ntmps16
    go_wp2
    go_ret
    exact ⟨rfl, rfl⟩
  have hd : decide ((300 : Int) < (n : Int)) = false := by simp; omega
  have HE : Hid (heavyOs X = X.any heavyO) := by show _ = _; unfold heavyOs; rw [decide_eq_false (by omega), Bool.false_or]
  have HN : Hid (X.length = n) := hn
  have HR : Hid (RdO w a X) := hr
  clear hn hr
  go_enter Try.func16, Try.ntmps16
  go_wp2
  go_loop [3] (fun i => ∃ k : Nat, k ≤ n ∧ i = .int .i64 k ∧ Hid ((X.take k).any heavyO = false)) (fun i => n - (RowKit.intOf i).toNat)
  case atStart => exact ⟨0, Nat.zero_le _, rfl, rfl⟩
  case round =>
    obtain ⟨k, hk, rfl, hT⟩ := hrel
    by_cases hlt : k < n
    · have hkl : k < X.length := by rw [HN.out]; exact hlt
      obtain ⟨b, off, rfl, hc⟩ := HR.out (by omega)
      obtain ⟨da, va, oa, dc, vc, oc, hcs, hin⟩ := hc k hkl
      have HS : Hid (heavyO X[k] = false → (X.take (k + 1)).any heavyO = false) := fun h => by rw [heavyOs_cons_no hkl hT.out]; exact h
      have HX : Hid (heavyO X[k] = true → heavyOs X = true) := fun h => by
        rw [HE.out, List.any_eq_true]
        exact ⟨_, List.getElem_mem hkl, h⟩
      have HO : Hid (heavyO X[k] = (decide (30 < X[k].deps.length) || (decide (100 < X[k].key.size) || (heavyR X[k].vals || decide (100 < X[k].dots.length))))) := rfl
      have x1 : w.cell? ⟨b, off + k * 12 + 2, none⟩ = some (.slice da X[k].deps.length dc) := hcs 2 _ rfl
      have x2 : w.cell? ⟨b, off + k * 12 + 8, none⟩ = some (.string X[k].key) := hcs 8 _ rfl
      have x3 : w.cell? ⟨b, off + k * 12 + 10, none⟩ = some (.slice va X[k].vals.length vc) := hcs 10 _ rfl
      have x4 : w.cell? ⟨b, off + k * 12 + 11, none⟩ = some (.slice oa X[k].dots.length oc) := hcs 11 _ rfl
      have C := heavyR_any va X[k].vals.length vc X[k].vals w rfl hin.vals
      have l1 := hin.ld
      have l2 := hin.key
      have l4 := hin.lo
      clear hc hcs hin
      generalize heavyO X[k] = ho at *
      generalize heavyR X[k].vals = hv at *
      generalize X[k].deps.length = n1 at *
      generalize X[k].key = s at *
      generalize X[k].vals.length = n3 at *
      generalize X[k].dots.length = n4 at *
      clear hkl
      by_cases c1 : 30 < n1
      · have d1 : decide ((30 : Int) < (n1 : Int)) = true := by simp; omega
        have HX' : Hid (heavyOs X = true) := HX.out (by rw [HO.out, decide_eq_true c1, Bool.true_or])
        clear HS HX HO
        go_wp2
        go_ret
        exact ⟨by rw [HX'.out]; rfl, rfl⟩
      have d1 : decide ((30 : Int) < (n1 : Int)) = false := by simp; omega
      by_cases c2 : 100 < s.size
      · have d2 : decide ((100 : Int) < (s.size : Int)) = true := by simp; omega
        have HX' : Hid (heavyOs X = true) := HX.out (by rw [HO.out, decide_eq_true c2, Bool.true_or, Bool.or_true])
        clear HS HX HO
        go_wp2
        go_ret
        exact ⟨by rw [HX'.out]; rfl, rfl⟩
      have d2 : decide ((100 : Int) < (s.size : Int)) = false := by simp; omega
      cases hv with
      | true =>
        have HX' : Hid (heavyOs X = true) := HX.out (by rw [HO.out]; simp)
        clear HS HX HO
        go_wp2_with fail
        refine C.mono ?_
        rintro e w1 ⟨rfl, hw⟩
        subst w1
        go_wp2
        go_ret
        exact ⟨by rw [HX'.out]; rfl, rfl⟩
      | false =>
        by_cases c4 : 100 < n4
        · have d4 : decide ((100 : Int) < (n4 : Int)) = true := by simp; omega
          have HX' : Hid (heavyOs X = true) := HX.out (by rw [HO.out, decide_eq_true c4]; simp)
          clear HS HX HO
          go_wp2_with fail
          refine C.mono ?_
          rintro e w1 ⟨rfl, hw⟩
          subst w1
          go_wp2
          go_ret
          exact ⟨by rw [HX'.out]; rfl, rfl⟩
        · have d4 : decide ((100 : Int) < (n4 : Int)) = false := by simp; omega
          have HS' : Hid ((X.take (k + 1)).any heavyO = false) := HS.out (by rw [HO.out, decide_eq_false c1, decide_eq_false c2, decide_eq_false c4]; rfl)
          clear HS HX HO
          go_wp2_with fail
          refine C.mono ?_
          rintro e w1 ⟨rfl, hw⟩
          subst w1
          go_wp2
          go_round
          case rel => exact ⟨k + 1, by omega, by go_num, HS'⟩
          case measure => simp [RowKit.intOf]; omega
    · have h := hT.out
      rw [List.take_of_length_le (by rw [HN.out]; omega)] at h
      have HH : Hid (heavyOs X = false) := HE.out.trans h
      clear h
      go_wp2
      go_ret
      exact ⟨by rw [HH.out]; rfl, rfl⟩

theorem InO.of_light {w : World} {x : PO} {da va oa : Option Addr} {dc vc oc : Nat} (h : InO w x da va oa dc vc oc) (hh : heavyO x = false) : LiesO w x da va oa dc vc oc ∧ x.deps.length ≤ 30 ∧ x.key.size ≤ 100 ∧ x.vals.length ≤ 40 ∧ x.dots.length ≤ 100 := by
  unfold heavyO heavyR at hh
  simp only [Bool.or_eq_false_iff, decide_eq_false_iff_not] at hh
  obtain ⟨h1, h2, ⟨h3, _⟩, h4⟩ := hh
  exact ⟨h.lies (by omega) (by omega) (by omega), by omega, by omega, by omega, by omega⟩

/-- One operation in a block of its own. -/
theorem rdO_one {w : World} {b : Nat} {x : PO} {da va oa : Option Addr} {dc vc oc : Nat} {t : TypeId} (hc : CellsAt w b (cellsO x da va oa dc vc oc) t) (hi : InO w x da va oa dc vc oc) : RdO w (some ⟨b, 0, none⟩) [x] := fun _ =>
  ⟨b, 0, rfl, fun i h => by
    obtain rfl : i = 0 := by have : i < 1 := h; omega
    refine ⟨da, va, oa, dc, vc, oc, fun j v hj => ?_, hi⟩
    have := hc.cell j
    rw [show 0 + 0 * 12 + j = j by omega]
    rw [this]
    exact hj⟩

end Go.Proofs.Ytjpcljmlkgjbgaa

namespace Go.Proofs.Ytjpcljmlkgjbgaa
open Go.RowKit Go.Lib
set_option linter.unusedVariables false

set_option maxRecDepth 100000 in
set_option maxHeartbeats 4000000 in
theorem opWithin_out (dp dn sp sl sq kind table col : Int) (key : ByteArray) (da va oa : Option Addr) (m nv no dc vc oc : Nat) (af : Option Addr) (nf fcap : Nat) (w : World) (hk : key.size ≤ 9223372036854775807) (h : (placeF nf table && keyF key) = false) :
    Calls Try.prog 51 #[.slice af nf fcap, .agg #[.int .i64 dp, .int .i64 dn, .slice da m dc, .int .i64 sp, .int .i64 sl, .int .i64 sq, .int .i64 kind, .int .i64 table, .string key, .int .i64 col, .slice va nv vc, .slice oa no oc]] w fun e w' => e = .returned (.bool false) ∧ Below w.heap.size w w' := by
  have HK : Hid (CellsAt (w.alloc (.cells #[.int .i64 dp, .int .i64 dn, .slice da m dc, .int .i64 sp, .int .i64 sl, .int .i64 sq, .int .i64 kind, .int .i64 table, .string key, .int .i64 col, .slice va nv vc, .slice oa no oc] 32)) w.heap.size #[.int .i64 dp, .int .i64 dn, .slice da m dc, .int .i64 sp, .int .i64 sl, .int .i64 sq, .int .i64 kind, .int .i64 table, .string key, .int .i64 col, .slice va nv vc, .slice oa no oc] 32) := CellsAt.made rfl
  have HB0 : Hid (Below w.heap.size w (w.alloc (.cells #[.int .i64 dp, .int .i64 dn, .slice da m dc, .int .i64 sp, .int .i64 sl, .int .i64 sq, .int .i64 kind, .int .i64 table, .string key, .int .i64 col, .slice va nv vc, .slice oa no oc] 32))) := alloc_below _ _
  have HC : Hid (∀ W, Below (w.alloc (.cells #[.int .i64 dp, .int .i64 dn, .slice da m dc, .int .i64 sp, .int .i64 sl, .int .i64 sq, .int .i64 kind, .int .i64 table, .string key, .int .i64 col, .slice va nv vc, .slice oa no oc] 32)).heap.size (w.alloc (.cells #[.int .i64 dp, .int .i64 dn, .slice da m dc, .int .i64 sp, .int .i64 sl, .int .i64 sq, .int .i64 kind, .int .i64 table, .string key, .int .i64 col, .slice va nv vc, .slice oa no oc] 32)) W → W.cell? ⟨w.heap.size, 0, none⟩ = some (.int .i64 dp) ∧ W.cell? ⟨w.heap.size, 1, none⟩ = some (.int .i64 dn) ∧ W.cell? ⟨w.heap.size, 2, none⟩ = some (.slice da m dc) ∧ W.cell? ⟨w.heap.size, 3, none⟩ = some (.int .i64 sp) ∧ W.cell? ⟨w.heap.size, 4, none⟩ = some (.int .i64 sl) ∧ W.cell? ⟨w.heap.size, 5, none⟩ = some (.int .i64 sq) ∧ W.cell? ⟨w.heap.size, 6, none⟩ = some (.int .i64 kind) ∧ W.cell? ⟨w.heap.size, 7, none⟩ = some (.int .i64 table) ∧ W.cell? ⟨w.heap.size, 8, none⟩ = some (.string key) ∧ W.cell? ⟨w.heap.size, 9, none⟩ = some (.int .i64 col) ∧ W.cell? ⟨w.heap.size, 10, none⟩ = some (.slice va nv vc) ∧ W.cell? ⟨w.heap.size, 11, none⟩ = some (.slice oa no oc)) := fun W hb => by
    have k := HK.out.later hb
    exact ⟨k.cell 0, k.cell 1, k.cell 2, k.cell 3, k.cell 4, k.cell 5, k.cell 6, k.cell 7, k.cell 8, k.cell 9, k.cell 10, k.cell 11⟩
  clear HK
  have C1 := fun W => opPlace_any (nf : Int) table W
  have C2 := fun W => opKey_any key W hk
  generalize placeF nf table = p1 at *
  generalize keyF key = p2 at *
  cases p1 with
  | false =>
    clear h C2
    go_enter Try.func51, Try.ntmps51
    go_wp2_with fail
    refine (C1 _).mono ?_
    rintro e w1 ⟨rfl, hw⟩
    subst w1
    go_wp2
    go_ret
    exact ⟨rfl, HB0.out⟩
  | true =>
    obtain rfl : p2 = false := by simpa using h
    clear h
    go_enter Try.func51, Try.ntmps51
    go_wp2_with fail
    refine (C1 _).mono ?_
    rintro e w1 ⟨rfl, hw⟩
    subst w1
    go_wp2_with fail
    refine (C2 _).mono ?_
    rintro e w1 ⟨rfl, hw⟩
    subst w1
    go_wp2
    go_ret
    exact ⟨rfl, HB0.out⟩

set_option maxRecDepth 100000 in
set_option maxHeartbeats 4000000 in
theorem opWithin_del (dp dn sp sl sq kind table col : Int) (key : ByteArray) (da va oa : Option Addr) (m nv no dc vc oc : Nat) (bf of_ nf fcap z : Nat) (ac : Option Addr) (nc cc : Nat) (rem : Bool) (w : World) (hk : key.size ≤ 9223372036854775807) (hkey : keyF key = true) (htab : table = z) (hz : z < nf) (hnf : nf ≤ 65536) (hkind : kind = 3)
    (hcol : w.cell? ⟨bf, of_ + z, none⟩ = some (.slice ac nc cc))
    (C : ∀ W, Below w.heap.size w W → Calls Try.prog 87 #[.slice oa no oc, .slice da m dc] W fun e w' => e = .returned (.bool rem) ∧ Below W.heap.size W w') :
    Calls Try.prog 51 #[.slice (some ⟨bf, of_, none⟩) nf fcap, .agg #[.int .i64 dp, .int .i64 dn, .slice da m dc, .int .i64 sp, .int .i64 sl, .int .i64 sq, .int .i64 kind, .int .i64 table, .string key, .int .i64 col, .slice va nv vc, .slice oa no oc]] w fun e w' => e = .returned (.bool (rem && decide (col = 0) && decide (nv = 0))) ∧ Below w.heap.size w w' := by
  subst htab hkind
  have HK : Hid (CellsAt (w.alloc (.cells #[.int .i64 dp, .int .i64 dn, .slice da m dc, .int .i64 sp, .int .i64 sl, .int .i64 sq, .int .i64 3, .int .i64 (z : Int), .string key, .int .i64 col, .slice va nv vc, .slice oa no oc] 32)) w.heap.size #[.int .i64 dp, .int .i64 dn, .slice da m dc, .int .i64 sp, .int .i64 sl, .int .i64 sq, .int .i64 3, .int .i64 (z : Int), .string key, .int .i64 col, .slice va nv vc, .slice oa no oc] 32) := CellsAt.made rfl
  have HB0 : Hid (Below w.heap.size w (w.alloc (.cells #[.int .i64 dp, .int .i64 dn, .slice da m dc, .int .i64 sp, .int .i64 sl, .int .i64 sq, .int .i64 3, .int .i64 (z : Int), .string key, .int .i64 col, .slice va nv vc, .slice oa no oc] 32))) := alloc_below _ _
  have HC : Hid (∀ W, Below (w.alloc (.cells #[.int .i64 dp, .int .i64 dn, .slice da m dc, .int .i64 sp, .int .i64 sl, .int .i64 sq, .int .i64 3, .int .i64 (z : Int), .string key, .int .i64 col, .slice va nv vc, .slice oa no oc] 32)).heap.size (w.alloc (.cells #[.int .i64 dp, .int .i64 dn, .slice da m dc, .int .i64 sp, .int .i64 sl, .int .i64 sq, .int .i64 3, .int .i64 (z : Int), .string key, .int .i64 col, .slice va nv vc, .slice oa no oc] 32)) W → W.cell? ⟨w.heap.size, 0, none⟩ = some (.int .i64 dp) ∧ W.cell? ⟨w.heap.size, 1, none⟩ = some (.int .i64 dn) ∧ W.cell? ⟨w.heap.size, 2, none⟩ = some (.slice da m dc) ∧ W.cell? ⟨w.heap.size, 3, none⟩ = some (.int .i64 sp) ∧ W.cell? ⟨w.heap.size, 4, none⟩ = some (.int .i64 sl) ∧ W.cell? ⟨w.heap.size, 5, none⟩ = some (.int .i64 sq) ∧ W.cell? ⟨w.heap.size, 6, none⟩ = some (.int .i64 3) ∧ W.cell? ⟨w.heap.size, 7, none⟩ = some (.int .i64 (z : Int)) ∧ W.cell? ⟨w.heap.size, 8, none⟩ = some (.string key) ∧ W.cell? ⟨w.heap.size, 9, none⟩ = some (.int .i64 col) ∧ W.cell? ⟨w.heap.size, 10, none⟩ = some (.slice va nv vc) ∧ W.cell? ⟨w.heap.size, 11, none⟩ = some (.slice oa no oc)) := fun W hb => by
    have k := HK.out.later hb
    exact ⟨k.cell 0, k.cell 1, k.cell 2, k.cell 3, k.cell 4, k.cell 5, k.cell 6, k.cell 7, k.cell 8, k.cell 9, k.cell 10, k.cell 11⟩
  clear HK
  have C1 := fun W => opPlace_any (nf : Int) (z : Int) W
  rw [show placeF nf z = true from by simp [placeF]; omega] at C1
  have C2 := fun W => opKey_any key W hk
  rw [hkey] at C2
  have x0 := cell_later HB0.out hcol
  have z0 : (0 : Int) ≤ (z : Int) := by omega
  have z1 : (z : Int) < (nf : Int) := by omega
  clear hcol
  cases rem with
  | false =>
    go_enter Try.func51, Try.ntmps51
    go_wp2_with fail
    refine (C1 _).mono ?_
    rintro e w1 ⟨rfl, hw⟩
    subst w1
    go_wp2_with fail
    refine (C2 _).mono ?_
    rintro e w1 ⟨rfl, hw⟩
    subst w1
    go_wp2_with fail
    refine (C _ HB0.out).mono ?_
    rintro e w1 ⟨rfl, hb1⟩
    have HB1 : Hid (Below w.heap.size w w1) := chain HB0.out hb1
    clear hb1
    go_wp2
    go_ret
    exact ⟨rfl, HB1.out⟩
  | true =>
    go_enter Try.func51, Try.ntmps51
    go_wp2_with fail
    refine (C1 _).mono ?_
    rintro e w1 ⟨rfl, hw⟩
    subst w1
    go_wp2_with fail
    refine (C2 _).mono ?_
    rintro e w1 ⟨rfl, hw⟩
    subst w1
    go_wp2_with fail
    refine (C _ HB0.out).mono ?_
    rintro e w1 ⟨rfl, hb1⟩
    obtain ⟨f0, f1, f2, f3, f4, f5, f6, f7, f8, f9, f10, f11⟩ := HC.out w1 hb1
    have HB1 : Hid (Below w.heap.size w w1) := chain HB0.out hb1
    clear hb1
    by_cases h1 : col = 0
    · subst h1
      by_cases h2 : nv = 0
      · subst h2
        go_wp2
        go_ret
        exact ⟨by first | rfl | simp, HB1.out⟩
      · have q2 : ((nv : Int) == 0) = false := by simp; omega
        go_wp2
        go_ret
        exact ⟨by simp, HB1.out⟩
    · have q1 : (col == 0) = false := by simp [h1]
      go_wp2
      go_ret
      exact ⟨by simp [h1], HB1.out⟩

set_option maxRecDepth 100000 in
set_option maxHeartbeats 4000000 in
theorem opWithin_ins (dp dn sp sl sq kind table col : Int) (key : ByteArray) (da va oa : Option Addr) (m nv no dc vc oc : Nat) (bf of_ nf fcap z : Nat) (ac : Option Addr) (nc cc : Nat) (put : Bool) (w : World) (hk : key.size ≤ 9223372036854775807) (hkey : keyF key = true) (htab : table = z) (hz : z < nf) (hnf : nf ≤ 65536) (hkind : kind = 1)
    (hcol : w.cell? ⟨bf, of_ + z, none⟩ = some (.slice ac nc cc))
    (C : ∀ W, Below w.heap.size w W → Calls Try.prog 86 #[.slice va nv vc, .slice ac nc cc] W fun e w' => e = .returned (.bool put) ∧ Below W.heap.size W w') :
    Calls Try.prog 51 #[.slice (some ⟨bf, of_, none⟩) nf fcap, .agg #[.int .i64 dp, .int .i64 dn, .slice da m dc, .int .i64 sp, .int .i64 sl, .int .i64 sq, .int .i64 kind, .int .i64 table, .string key, .int .i64 col, .slice va nv vc, .slice oa no oc]] w fun e w' => e = .returned (.bool (put && decide (col = 0) && decide (no = 0))) ∧ Below w.heap.size w w' := by
  subst htab hkind
  have HK : Hid (CellsAt (w.alloc (.cells #[.int .i64 dp, .int .i64 dn, .slice da m dc, .int .i64 sp, .int .i64 sl, .int .i64 sq, .int .i64 1, .int .i64 (z : Int), .string key, .int .i64 col, .slice va nv vc, .slice oa no oc] 32)) w.heap.size #[.int .i64 dp, .int .i64 dn, .slice da m dc, .int .i64 sp, .int .i64 sl, .int .i64 sq, .int .i64 1, .int .i64 (z : Int), .string key, .int .i64 col, .slice va nv vc, .slice oa no oc] 32) := CellsAt.made rfl
  have HB0 : Hid (Below w.heap.size w (w.alloc (.cells #[.int .i64 dp, .int .i64 dn, .slice da m dc, .int .i64 sp, .int .i64 sl, .int .i64 sq, .int .i64 1, .int .i64 (z : Int), .string key, .int .i64 col, .slice va nv vc, .slice oa no oc] 32))) := alloc_below _ _
  have HC : Hid (∀ W, Below (w.alloc (.cells #[.int .i64 dp, .int .i64 dn, .slice da m dc, .int .i64 sp, .int .i64 sl, .int .i64 sq, .int .i64 1, .int .i64 (z : Int), .string key, .int .i64 col, .slice va nv vc, .slice oa no oc] 32)).heap.size (w.alloc (.cells #[.int .i64 dp, .int .i64 dn, .slice da m dc, .int .i64 sp, .int .i64 sl, .int .i64 sq, .int .i64 1, .int .i64 (z : Int), .string key, .int .i64 col, .slice va nv vc, .slice oa no oc] 32)) W → W.cell? ⟨w.heap.size, 0, none⟩ = some (.int .i64 dp) ∧ W.cell? ⟨w.heap.size, 1, none⟩ = some (.int .i64 dn) ∧ W.cell? ⟨w.heap.size, 2, none⟩ = some (.slice da m dc) ∧ W.cell? ⟨w.heap.size, 3, none⟩ = some (.int .i64 sp) ∧ W.cell? ⟨w.heap.size, 4, none⟩ = some (.int .i64 sl) ∧ W.cell? ⟨w.heap.size, 5, none⟩ = some (.int .i64 sq) ∧ W.cell? ⟨w.heap.size, 6, none⟩ = some (.int .i64 1) ∧ W.cell? ⟨w.heap.size, 7, none⟩ = some (.int .i64 (z : Int)) ∧ W.cell? ⟨w.heap.size, 8, none⟩ = some (.string key) ∧ W.cell? ⟨w.heap.size, 9, none⟩ = some (.int .i64 col) ∧ W.cell? ⟨w.heap.size, 10, none⟩ = some (.slice va nv vc) ∧ W.cell? ⟨w.heap.size, 11, none⟩ = some (.slice oa no oc)) := fun W hb => by
    have k := HK.out.later hb
    exact ⟨k.cell 0, k.cell 1, k.cell 2, k.cell 3, k.cell 4, k.cell 5, k.cell 6, k.cell 7, k.cell 8, k.cell 9, k.cell 10, k.cell 11⟩
  clear HK
  have C1 := fun W => opPlace_any (nf : Int) (z : Int) W
  rw [show placeF nf z = true from by simp [placeF]; omega] at C1
  have C2 := fun W => opKey_any key W hk
  rw [hkey] at C2
  have x0 := cell_later HB0.out hcol
  have z0 : (0 : Int) ≤ (z : Int) := by omega
  have z1 : (z : Int) < (nf : Int) := by omega
  clear hcol
  cases put with
  | false =>
    go_enter Try.func51, Try.ntmps51
    go_wp2_with fail
    refine (C1 _).mono ?_
    rintro e w1 ⟨rfl, hw⟩
    subst w1
    go_wp2_with fail
    refine (C2 _).mono ?_
    rintro e w1 ⟨rfl, hw⟩
    subst w1
    go_wp2_with fail
    refine (C _ HB0.out).mono ?_
    rintro e w1 ⟨rfl, hb1⟩
    have HB1 : Hid (Below w.heap.size w w1) := chain HB0.out hb1
    clear hb1
    go_wp2
    go_ret
    exact ⟨rfl, HB1.out⟩
  | true =>
    go_enter Try.func51, Try.ntmps51
    go_wp2_with fail
    refine (C1 _).mono ?_
    rintro e w1 ⟨rfl, hw⟩
    subst w1
    go_wp2_with fail
    refine (C2 _).mono ?_
    rintro e w1 ⟨rfl, hw⟩
    subst w1
    go_wp2_with fail
    refine (C _ HB0.out).mono ?_
    rintro e w1 ⟨rfl, hb1⟩
    obtain ⟨f0, f1, f2, f3, f4, f5, f6, f7, f8, f9, f10, f11⟩ := HC.out w1 hb1
    have HB1 : Hid (Below w.heap.size w w1) := chain HB0.out hb1
    clear hb1
    by_cases h1 : col = 0
    · subst h1
      by_cases h2 : no = 0
      · subst h2
        go_wp2
        go_ret
        exact ⟨by first | rfl | simp, HB1.out⟩
      · have q2 : ((no : Int) == 0) = false := by simp; omega
        go_wp2
        go_ret
        exact ⟨by simp, HB1.out⟩
    · have q1 : (col == 0) = false := by simp [h1]
      go_wp2
      go_ret
      exact ⟨by simp [h1], HB1.out⟩

set_option maxRecDepth 100000 in
set_option maxHeartbeats 4000000 in
theorem opWithin_none (dp dn sp sl sq kind table col : Int) (key : ByteArray) (da va oa : Option Addr) (m nv no dc vc oc : Nat) (bf of_ nf fcap z : Nat) (ac : Option Addr) (nc cc : Nat) (w : World) (hk : key.size ≤ 9223372036854775807) (hkey : keyF key = true) (htab : table = z) (hz : z < nf) (hnf : nf ≤ 65536) (hkind : kind ≠ 1 ∧ kind ≠ 2 ∧ kind ≠ 3)
    (hcol : w.cell? ⟨bf, of_ + z, none⟩ = some (.slice ac nc cc)) :
    Calls Try.prog 51 #[.slice (some ⟨bf, of_, none⟩) nf fcap, .agg #[.int .i64 dp, .int .i64 dn, .slice da m dc, .int .i64 sp, .int .i64 sl, .int .i64 sq, .int .i64 kind, .int .i64 table, .string key, .int .i64 col, .slice va nv vc, .slice oa no oc]] w fun e w' => e = .returned (.bool false) ∧ Below w.heap.size w w' := by
  subst htab
  have HK : Hid (CellsAt (w.alloc (.cells #[.int .i64 dp, .int .i64 dn, .slice da m dc, .int .i64 sp, .int .i64 sl, .int .i64 sq, .int .i64 kind, .int .i64 (z : Int), .string key, .int .i64 col, .slice va nv vc, .slice oa no oc] 32)) w.heap.size #[.int .i64 dp, .int .i64 dn, .slice da m dc, .int .i64 sp, .int .i64 sl, .int .i64 sq, .int .i64 kind, .int .i64 (z : Int), .string key, .int .i64 col, .slice va nv vc, .slice oa no oc] 32) := CellsAt.made rfl
  have HB0 : Hid (Below w.heap.size w (w.alloc (.cells #[.int .i64 dp, .int .i64 dn, .slice da m dc, .int .i64 sp, .int .i64 sl, .int .i64 sq, .int .i64 kind, .int .i64 (z : Int), .string key, .int .i64 col, .slice va nv vc, .slice oa no oc] 32))) := alloc_below _ _
  have HC : Hid (∀ W, Below (w.alloc (.cells #[.int .i64 dp, .int .i64 dn, .slice da m dc, .int .i64 sp, .int .i64 sl, .int .i64 sq, .int .i64 kind, .int .i64 (z : Int), .string key, .int .i64 col, .slice va nv vc, .slice oa no oc] 32)).heap.size (w.alloc (.cells #[.int .i64 dp, .int .i64 dn, .slice da m dc, .int .i64 sp, .int .i64 sl, .int .i64 sq, .int .i64 kind, .int .i64 (z : Int), .string key, .int .i64 col, .slice va nv vc, .slice oa no oc] 32)) W → W.cell? ⟨w.heap.size, 0, none⟩ = some (.int .i64 dp) ∧ W.cell? ⟨w.heap.size, 1, none⟩ = some (.int .i64 dn) ∧ W.cell? ⟨w.heap.size, 2, none⟩ = some (.slice da m dc) ∧ W.cell? ⟨w.heap.size, 3, none⟩ = some (.int .i64 sp) ∧ W.cell? ⟨w.heap.size, 4, none⟩ = some (.int .i64 sl) ∧ W.cell? ⟨w.heap.size, 5, none⟩ = some (.int .i64 sq) ∧ W.cell? ⟨w.heap.size, 6, none⟩ = some (.int .i64 kind) ∧ W.cell? ⟨w.heap.size, 7, none⟩ = some (.int .i64 (z : Int)) ∧ W.cell? ⟨w.heap.size, 8, none⟩ = some (.string key) ∧ W.cell? ⟨w.heap.size, 9, none⟩ = some (.int .i64 col) ∧ W.cell? ⟨w.heap.size, 10, none⟩ = some (.slice va nv vc) ∧ W.cell? ⟨w.heap.size, 11, none⟩ = some (.slice oa no oc)) := fun W hb => by
    have k := HK.out.later hb
    exact ⟨k.cell 0, k.cell 1, k.cell 2, k.cell 3, k.cell 4, k.cell 5, k.cell 6, k.cell 7, k.cell 8, k.cell 9, k.cell 10, k.cell 11⟩
  clear HK
  have C1 := fun W => opPlace_any (nf : Int) (z : Int) W
  rw [show placeF nf z = true from by simp [placeF]; omega] at C1
  have C2 := fun W => opKey_any key W hk
  rw [hkey] at C2
  have x0 := cell_later HB0.out hcol
  have z0 : (0 : Int) ≤ (z : Int) := by omega
  have z1 : (z : Int) < (nf : Int) := by omega
  obtain ⟨k1, k2, k3⟩ := hkind
  have k1' : (kind == 1) = false := by simp [k1]
  have k2' : (kind == 2) = false := by simp [k2]
  have k3' : (kind == 3) = false := by simp [k3]
  clear hcol
  go_enter Try.func51, Try.ntmps51
  go_wp2_with fail
  refine (C1 _).mono ?_
  rintro e w1 ⟨rfl, hw⟩
  subst w1
  go_wp2_with fail
  refine (C2 _).mono ?_
  rintro e w1 ⟨rfl, hw⟩
  subst w1
  go_wp2
  go_ret
  exact ⟨rfl, HB0.out⟩

set_option maxRecDepth 100000 in
set_option maxHeartbeats 4000000 in
/-- op.Check, whatever its parts answer. -/
theorem opCheck_of (dp dn sp sl sq kind table col : Int) (key : ByteArray) (da va oa : Option Addr) (m nv no dc vc oc : Nat) (n : Int) (af : Option Addr) (nf fcap : Nat) (cf : Int) (b1 b2 : Bool) (w : World)
    (C1 : ∀ W, Below w.heap.size w W → Calls Try.prog 49 #[.slice af nf fcap] W fun e w' => e = .returned (.int .i64 cf) ∧ Below W.heap.size W w')
    (C2 : ∀ W, Below w.heap.size w W → Calls Try.prog 50 #[.int .i64 n, .agg #[.int .i64 dp, .int .i64 dn, .slice da m dc, .int .i64 sp, .int .i64 sl, .int .i64 sq, .int .i64 kind, .int .i64 table, .string key, .int .i64 col, .slice va nv vc, .slice oa no oc]] W fun e w' => e = .returned (.bool b1) ∧ Below W.heap.size W w')
    (C3 : ∀ W, Below w.heap.size w W → Calls Try.prog 51 #[.slice af nf fcap, .agg #[.int .i64 dp, .int .i64 dn, .slice da m dc, .int .i64 sp, .int .i64 sl, .int .i64 sq, .int .i64 kind, .int .i64 table, .string key, .int .i64 col, .slice va nv vc, .slice oa no oc]] W fun e w' => e = .returned (.bool b2) ∧ Below W.heap.size W w') :
    Calls Try.prog 17 #[.int .i64 n, .slice af nf fcap, .agg #[.int .i64 dp, .int .i64 dn, .slice da m dc, .int .i64 sp, .int .i64 sl, .int .i64 sq, .int .i64 kind, .int .i64 table, .string key, .int .i64 col, .slice va nv vc, .slice oa no oc]] w fun e w' => e = .returned (.int .i64 (if cf ≠ 0 then cf else if (decide (1 ≤ n ∧ n ≤ 5) && b1 && b2) = true then 0 else 1)) ∧ Below w.heap.size w w' := by
  have HK : Hid (CellsAt (w.alloc (.cells #[.int .i64 dp, .int .i64 dn, .slice da m dc, .int .i64 sp, .int .i64 sl, .int .i64 sq, .int .i64 kind, .int .i64 table, .string key, .int .i64 col, .slice va nv vc, .slice oa no oc] 32)) w.heap.size #[.int .i64 dp, .int .i64 dn, .slice da m dc, .int .i64 sp, .int .i64 sl, .int .i64 sq, .int .i64 kind, .int .i64 table, .string key, .int .i64 col, .slice va nv vc, .slice oa no oc] 32) := CellsAt.made rfl
  have HB0 : Hid (Below w.heap.size w (w.alloc (.cells #[.int .i64 dp, .int .i64 dn, .slice da m dc, .int .i64 sp, .int .i64 sl, .int .i64 sq, .int .i64 kind, .int .i64 table, .string key, .int .i64 col, .slice va nv vc, .slice oa no oc] 32))) := alloc_below _ _
  have HC : Hid (∀ W, Below (w.alloc (.cells #[.int .i64 dp, .int .i64 dn, .slice da m dc, .int .i64 sp, .int .i64 sl, .int .i64 sq, .int .i64 kind, .int .i64 table, .string key, .int .i64 col, .slice va nv vc, .slice oa no oc] 32)).heap.size (w.alloc (.cells #[.int .i64 dp, .int .i64 dn, .slice da m dc, .int .i64 sp, .int .i64 sl, .int .i64 sq, .int .i64 kind, .int .i64 table, .string key, .int .i64 col, .slice va nv vc, .slice oa no oc] 32)) W → W.cell? ⟨w.heap.size, 0, none⟩ = some (.int .i64 dp) ∧ W.cell? ⟨w.heap.size, 1, none⟩ = some (.int .i64 dn) ∧ W.cell? ⟨w.heap.size, 2, none⟩ = some (.slice da m dc) ∧ W.cell? ⟨w.heap.size, 3, none⟩ = some (.int .i64 sp) ∧ W.cell? ⟨w.heap.size, 4, none⟩ = some (.int .i64 sl) ∧ W.cell? ⟨w.heap.size, 5, none⟩ = some (.int .i64 sq) ∧ W.cell? ⟨w.heap.size, 6, none⟩ = some (.int .i64 kind) ∧ W.cell? ⟨w.heap.size, 7, none⟩ = some (.int .i64 table) ∧ W.cell? ⟨w.heap.size, 8, none⟩ = some (.string key) ∧ W.cell? ⟨w.heap.size, 9, none⟩ = some (.int .i64 col) ∧ W.cell? ⟨w.heap.size, 10, none⟩ = some (.slice va nv vc) ∧ W.cell? ⟨w.heap.size, 11, none⟩ = some (.slice oa no oc)) := fun W hb => by
    have k := HK.out.later hb
    exact ⟨k.cell 0, k.cell 1, k.cell 2, k.cell 3, k.cell 4, k.cell 5, k.cell 6, k.cell 7, k.cell 8, k.cell 9, k.cell 10, k.cell 11⟩
  clear HK
  by_cases hc : cf = 0
  case neg =>
    rw [if_pos hc]
    have q0 : (cf != 0) = true := by simp [hc]
    go_enter Try.func17, Try.ntmps17
    go_wp2_with fail
    refine (C1 _ HB0.out).mono ?_
    rintro e w1 ⟨rfl, hb1⟩
    have HB1 : Hid (Below w.heap.size w w1) := chain HB0.out hb1
    clear hb1
    go_wp2
    go_ret
    exact ⟨rfl, HB1.out⟩
  subst hc
  rw [if_neg (by simp)]
  by_cases h1 : n < 1
  case pos =>
    rw [show decide (1 ≤ n ∧ n ≤ 5) = false from by simp; omega]
    go_enter Try.func17, Try.ntmps17
    go_wp2_with fail
    refine (C1 _ HB0.out).mono ?_
    rintro e w1 ⟨rfl, hb1⟩
    have HB1 : Hid (Below w.heap.size w w1) := chain HB0.out hb1
    clear hb1
    go_wp2
    go_ret
    exact ⟨rfl, HB1.out⟩
  by_cases h5 : 5 < n
  case pos =>
    rw [show decide (1 ≤ n ∧ n ≤ 5) = false from by simp; omega]
    go_enter Try.func17, Try.ntmps17
    go_wp2_with fail
    refine (C1 _ HB0.out).mono ?_
    rintro e w1 ⟨rfl, hb1⟩
    have HB1 : Hid (Below w.heap.size w w1) := chain HB0.out hb1
    clear hb1
    go_wp2
    go_ret
    exact ⟨rfl, HB1.out⟩
  rw [show decide (1 ≤ n ∧ n ≤ 5) = true from by simp; omega]
  cases b1 with
  | false =>
    go_enter Try.func17, Try.ntmps17
    go_wp2_with fail
    refine (C1 _ HB0.out).mono ?_
    rintro e w1 ⟨rfl, hb1⟩
    obtain ⟨f0, f1, f2, f3, f4, f5, f6, f7, f8, f9, f10, f11⟩ := HC.out w1 hb1
    have HB1 : Hid (Below w.heap.size w w1) := chain HB0.out hb1
    clear hb1
    go_wp2_with fail
    refine (C2 _ HB1.out).mono ?_
    rintro e w2 ⟨rfl, hb2⟩
    have HB2 : Hid (Below w.heap.size w w2) := chain HB1.out hb2
    clear hb2
    go_wp2
    go_ret
    exact ⟨by cases b2 <;> rfl, HB2.out⟩
  | true =>
    go_enter Try.func17, Try.ntmps17
    go_wp2_with fail
    refine (C1 _ HB0.out).mono ?_
    rintro e w1 ⟨rfl, hb1⟩
    have HBo : Hid (Below (w.alloc (.cells #[.int .i64 dp, .int .i64 dn, .slice da m dc, .int .i64 sp, .int .i64 sl, .int .i64 sq, .int .i64 kind, .int .i64 table, .string key, .int .i64 col, .slice va nv vc, .slice oa no oc] 32)).heap.size (w.alloc (.cells #[.int .i64 dp, .int .i64 dn, .slice da m dc, .int .i64 sp, .int .i64 sl, .int .i64 sq, .int .i64 kind, .int .i64 table, .string key, .int .i64 col, .slice va nv vc, .slice oa no oc] 32)) w1) := hb1
    obtain ⟨f0, f1, f2, f3, f4, f5, f6, f7, f8, f9, f10, f11⟩ := HC.out w1 hb1
    have HB1 : Hid (Below w.heap.size w w1) := chain HB0.out hb1
    clear hb1
    go_wp2_with fail
    refine (C2 _ HB1.out).mono ?_
    rintro e w2 ⟨rfl, hb2⟩
    obtain ⟨g0, g1, g2, g3, g4, g5, g6, g7, g8, g9, g10, g11⟩ := HC.out w2 (chain HBo.out hb2)
    have HB2 : Hid (Below w.heap.size w w2) := chain HB1.out hb2
    clear hb2
    go_wp2_with fail
    refine (C3 _ HB2.out).mono ?_
    rintro e w3 ⟨rfl, hb3⟩
    have HB3 : Hid (Below w.heap.size w w3) := chain HB2.out hb3
    clear hb3
    cases b2 with
    | true =>
      go_wp2
      go_ret
      exact ⟨rfl, HB3.out⟩
    | false =>
      go_wp2
      go_ret
      exact ⟨rfl, HB3.out⟩

end Go.Proofs.Ytjpcljmlkgjbgaa

namespace Go.Proofs.Ytjpcljmlkgjbgaa
open Go.RowKit Go.Lib
set_option linter.unusedVariables false

/-- The operation that wakes has. -/
def xW : PO := ⟨0, 2, [1], 0, 0, 0, 3, 0, ⟨#[107]⟩, 0, [], [(0, 1)]⟩

def lW : List UInt8 := [3, 0, 0, 0, 0, 2, 1, 0, 0, 0, 1, 0, 0, 0, 0, 0, 0, 0, 0, 0, 0, 0, 1, 107, 0, 0, 1, 0, 0, 0, 0, 1]

theorem putW : putO xW = (lW, 0) := by kernel_rfl

theorem readW : readO lW 0 = (xW, 32, 0) := by kernel_rfl

theorem cell_lt {w : World} {b o : Nat} {v : Value} (h : w.cell? ⟨b, o, none⟩ = some v) : b < w.heap.size := by
  rcases Nat.lt_or_ge b w.heap.size with h1 | h1
  · exact h1
  · simp [World.cell?, Array.getElem?_eq_none h1] at h

theorem Rd.lt {w : World} {a : Option Addr} {l : List UInt8} (h : Rd w a l) (h0 : 0 < l.length) : ∀ b o, a = some ⟨b, o, none⟩ → b < w.heap.size := by
  intro b o e
  obtain ⟨b', o', e', hc⟩ := h h0
  rw [e] at e'
  simp only [Option.some.injEq, Addr.mk.injEq, and_true] at e'
  obtain ⟨rfl, rfl⟩ := e'
  exact cell_lt (hc 0 h0)

/-- The world in which wakes' operation lies, and its lists. -/
abbrev w0W (w : World) : World := (w.alloc (.cells #[.int .i64 1] 3)).alloc (.cells #[.int .i64 0, .int .i64 1] 25)

theorem liesW (w : World) : LiesO (w0W w) xW (some ⟨w.heap.size, 0, none⟩) none (some ⟨w.heap.size + 1, 0, none⟩) 1 0 1 := by
  have c0 : (w0W w).cell? ⟨w.heap.size, 0, none⟩ = some (.int .i64 1) := cell_later (alloc_below _ _) (cell_new w _ rfl _ _)
  have c1 := box2 (w.alloc (.cells #[.int .i64 1] 3)) (w.heap.size + 1) (by simp) (.int .i64 0) (.int .i64 1) 25
  refine ⟨rdI_of c0, (fun h => absurd h (by decide)), fun _ => ⟨_, 0, rfl, fun i hi => ?_⟩, by decide, by decide, by decide, by decide, by decide, by decide, (fun h => by cases h), (fun _ => ⟨rfl, rfl⟩), (fun h => by cases h), by decide⟩
  · obtain rfl : i = 0 := by have : i < 1 := hi; omega
    exact c1

theorem LiesO.later {w w' : World} {x : PO} {da va oa : Option Addr} {dc vc oc : Nat} (h : LiesO w x da va oa dc vc oc) (hb : Below w.heap.size w w') : LiesO w' x da va oa dc vc oc :=
  ⟨h.deps.later hb, h.vals.later hb, h.dots.later hb, h.ld, h.lv, h.lo, h.cd, h.cv, h.co, h.nd, h.nv, h.no, h.key⟩

theorem i64W : I64O xW := by
  have two : ∀ x y : Int, (-4294967296 ≤ x ∧ x ≤ 4294967296) → (-4294967296 ≤ y ∧ y ≤ 4294967296) → In64 x ∧ In64 y := fun x y hx hy => ⟨in64 hx, in64 hy⟩
  refine ⟨fun v hv => ?_, in64 (by decide), in64 (by decide), ⟨in64 (by decide), in64 (by decide), in64 (by decide)⟩, fun d hd => ?_, in64 (by decide), in64 (by decide)⟩
  · have : v = 1 := by simpa [xW] using hv
    rw [this]
    exact in64 (by decide)
  · have : d = (0, 1) := by simpa [xW] using hd
    rw [this]
    exact two 0 1 (by decide) (by decide)

/-- Forms of one table with one column. -/
theorem rowsW (w : World) : RdII ((w.alloc (.cells #[.int .i64 3] 3)).alloc (.cells #[.slice (some ⟨w.heap.size, 0, none⟩) 1 1] 51)) (some ⟨w.heap.size + 1, 0, none⟩) [[3]] := by
  refine fun _ => ⟨_, 0, rfl, fun i hi => ?_⟩
  obtain rfl : i = 0 := by have : i < 1 := hi; omega
  refine ⟨_, cell_new _ _ (by simp) _ _, some ⟨w.heap.size, 0, none⟩, 1, rfl, Nat.le_refl _, ?_, fun h => by cases h⟩
  exact rdI_of (cell_later (alloc_below _ _) (cell_new w _ rfl _ _))

set_option maxRecDepth 100000 in
set_option maxHeartbeats 4000000 in
theorem owakes_any (w : World) :
    Calls Try.prog 13 #[] w fun e w' => e = .returned (.bool true) ∧ Below w.heap.size w w' := by
  obtain ⟨B, hBB⟩ : ∃ B : World, B = (w0W w).alloc (.cells #[.int .i64 0, .int .i64 2, .slice (some ⟨w.heap.size, 0, none⟩) 1 1, .int .i64 0, .int .i64 0, .int .i64 0, .int .i64 3, .int .i64 0, .string ⟨#[107]⟩, .int .i64 0, .slice none 0 0, .slice (some ⟨w.heap.size + 1, 0, none⟩) 1 1] 32) := ⟨_, rfl⟩
  have HBB : Hid (B = (w0W w).alloc (.cells #[.int .i64 0, .int .i64 2, .slice (some ⟨w.heap.size, 0, none⟩) 1 1, .int .i64 0, .int .i64 0, .int .i64 0, .int .i64 3, .int .i64 0, .string ⟨#[107]⟩, .int .i64 0, .slice none 0 0, .slice (some ⟨w.heap.size + 1, 0, none⟩) 1 1] 32)) := hBB
  have HB0 : Hid (Below w.heap.size w B) := by rw [hBB]; exact chain (below_two _ _ _) (alloc_below _ _)
  have HX : Hid (LiesO B xW (some ⟨w.heap.size, 0, none⟩) none (some ⟨w.heap.size + 1, 0, none⟩) 1 0 1) := by rw [hBB]; exact (liesW w).later (alloc_below _ _)
  have HK : Hid (CellsAt B (w.heap.size + 1 + 1) #[.int .i64 0, .int .i64 2, .slice (some ⟨w.heap.size, 0, none⟩) 1 1, .int .i64 0, .int .i64 0, .int .i64 0, .int .i64 3, .int .i64 0, .string ⟨#[107]⟩, .int .i64 0, .slice none 0 0, .slice (some ⟨w.heap.size + 1, 0, none⟩) 1 1] 32) := by rw [hBB]; exact CellsAt.made (by simp [w0W])
  have HC : Hid (∀ W, Below B.heap.size B W → W.cell? ⟨w.heap.size + 1 + 1, 0, none⟩ = some (.int .i64 0) ∧ W.cell? ⟨w.heap.size + 1 + 1, 1, none⟩ = some (.int .i64 2) ∧ W.cell? ⟨w.heap.size + 1 + 1, 2, none⟩ = some (.slice (some ⟨w.heap.size, 0, none⟩) 1 1) ∧ W.cell? ⟨w.heap.size + 1 + 1, 3, none⟩ = some (.int .i64 0) ∧ W.cell? ⟨w.heap.size + 1 + 1, 4, none⟩ = some (.int .i64 0) ∧ W.cell? ⟨w.heap.size + 1 + 1, 5, none⟩ = some (.int .i64 0) ∧ W.cell? ⟨w.heap.size + 1 + 1, 6, none⟩ = some (.int .i64 3) ∧ W.cell? ⟨w.heap.size + 1 + 1, 7, none⟩ = some (.int .i64 0) ∧ W.cell? ⟨w.heap.size + 1 + 1, 8, none⟩ = some (.string ⟨#[107]⟩) ∧ W.cell? ⟨w.heap.size + 1 + 1, 9, none⟩ = some (.int .i64 0) ∧ W.cell? ⟨w.heap.size + 1 + 1, 10, none⟩ = some (.slice none 0 0) ∧ W.cell? ⟨w.heap.size + 1 + 1, 11, none⟩ = some (.slice (some ⟨w.heap.size + 1, 0, none⟩) 1 1)) := fun W hb => by
    have k := HK.out.later hb
    exact ⟨k.cell 0, k.cell 1, k.cell 2, k.cell 3, k.cell 4, k.cell 5, k.cell 6, k.cell 7, k.cell 8, k.cell 9, k.cell 10, k.cell 11⟩
  clear hBB HK
  have C1 := opBytes_any xW _ _ _ _ _ _ B HX.out
  rw [putW] at C1
  go_enter Try.func13, Try.ntmps13
  go_wp2_with fail
  have hBB := HBB.out
  simp only [w0W] at hBB
  rw [← hBB]
  clear hBB HBB
  refine C1.mono ?_
  rintro e w1 ⟨a1, n1, c1, rfl, hn1, hl1, hc1, hr1, hnl1, hb1⟩
  simp only at hn1 hr1 hnl1 ⊢
  obtain rfl : n1 = 32 := by rw [← hn1]; rfl
  have HR1 : Hid (Rd w1 a1 lW) := hr1
  have HB1 : Hid (Below B.heap.size B w1) := hb1
  clear hn1 hr1 hnl1 hb1 C1
  have C2 := opRead_any a1 32 c1 lW 0 w1 HR1.out (HR1.out.lt (by decide)) rfl (by omega) hc1
  rw [readW] at C2
  go_wp2_with fail
  refine C2.mono ?_
  rintro e w2 ⟨da2, va2, oa2, dc2, vc2, oc2, rfl, hL2, hb2⟩
  simp only [cellsO, xW, List.length_cons, List.length_nil, Nat.zero_add]
  have HY2 : Hid (LiesO w2 xW da2 va2 oa2 dc2 vc2 oc2) := hL2
  have HB2 : Hid (Below B.heap.size B w2) := chain HB1.out hb2
  clear hL2 hb2 C2 HR1 HB1
  have HB3 : Hid (Below B.heap.size B (w2.alloc (.cells #[.int .i64 0, .int .i64 2, .slice da2 1 dc2, .int .i64 0, .int .i64 0, .int .i64 0, .int .i64 3, .int .i64 0, .string ⟨#[107]⟩, .int .i64 0, .slice va2 0 vc2, .slice oa2 1 oc2] 32))) := chain HB2.out (alloc_below _ _)
  have HY3 : Hid (LiesO (w2.alloc (.cells #[.int .i64 0, .int .i64 2, .slice da2 1 dc2, .int .i64 0, .int .i64 0, .int .i64 0, .int .i64 3, .int .i64 0, .string ⟨#[107]⟩, .int .i64 0, .slice va2 0 vc2, .slice oa2 1 oc2] 32)) xW da2 va2 oa2 dc2 vc2 oc2) := HY2.out.later (alloc_below _ _)
  obtain ⟨f0, f1, f2, f3, f4, f5, f6, f7, f8, f9, f10, f11⟩ := HC.out _ HB3.out
  have C3 := keepOp_same xW _ _ _ _ _ _ _ _ _ _ _ _ (w2.alloc (.cells #[.int .i64 0, .int .i64 2, .slice da2 1 dc2, .int .i64 0, .int .i64 0, .int .i64 0, .int .i64 3, .int .i64 0, .string ⟨#[107]⟩, .int .i64 0, .slice va2 0 vc2, .slice oa2 1 oc2] 32)) (HX.out.later HB3.out) HY3.out
  simp only [cellsO, xW, List.length_cons, List.length_nil, Nat.zero_add] at C3
  go_wp2_with fail
  refine C3.mono ?_
  rintro e w4 ⟨rfl, hb4⟩
  have HB4 : Hid (Below B.heap.size B w4) := chain HB3.out hb4
  clear hb4 C3 HY2 HY3 HB2 HB3 f0 f1 f2 f3 f4 f5 f6 f7 f8 f9 f10 f11
  have HB5 : Hid (Below B.heap.size B ((w4.alloc (.cells #[.int .i64 3] 3)).alloc (.cells #[.slice (some ⟨w4.heap.size, 0, none⟩) 1 1] 51))) := chain HB4.out (below_two _ _ _)
  have HF5 : Hid (RdII ((w4.alloc (.cells #[.int .i64 3] 3)).alloc (.cells #[.slice (some ⟨w4.heap.size, 0, none⟩) 1 1] 51)) (some ⟨w4.heap.size + 1, 0, none⟩) [[3]]) := rowsW w4
  obtain ⟨f0, f1, f2, f3, f4, f5, f6, f7, f8, f9, f10, f11⟩ := HC.out _ HB5.out
  have D1 := fun (W : World) (hb : Below ((w4.alloc (.cells #[.int .i64 3] 3)).alloc (.cells #[.slice (some ⟨w4.heap.size, 0, none⟩) 1 1] 51)).heap.size ((w4.alloc (.cells #[.int .i64 3] 3)).alloc (.cells #[.slice (some ⟨w4.heap.size, 0, none⟩) 1 1] 51)) W) => opForms_any (some ⟨w4.heap.size + 1, 0, none⟩) 1 1 [[3]] W rfl (by omega) (fun v hv => by simp at hv; subst hv; decide) (HF5.out.later hb)
  rw [show formsF [[3]] = 0 from by decide] at D1
  have D2 := fun (W : World) (hb : Below ((w4.alloc (.cells #[.int .i64 3] 3)).alloc (.cells #[.slice (some ⟨w4.heap.size, 0, none⟩) 1 1] 51)).heap.size ((w4.alloc (.cells #[.int .i64 3] 3)).alloc (.cells #[.slice (some ⟨w4.heap.size, 0, none⟩) 1 1] 51)) W) => opIssued_any 1 xW _ _ _ _ _ _ W (HX.out.later (chain HB5.out hb)) i64W
  rw [show issuedF 1 xW = true from by decide] at D2
  simp only [cellsO, xW, List.length_cons, List.length_nil, Nat.zero_add] at D2
  have D3 := fun (W : World) (hb : Below ((w4.alloc (.cells #[.int .i64 3] 3)).alloc (.cells #[.slice (some ⟨w4.heap.size, 0, none⟩) 1 1] 51)).heap.size ((w4.alloc (.cells #[.int .i64 3] 3)).alloc (.cells #[.slice (some ⟨w4.heap.size, 0, none⟩) 1 1] 51)) W) => opWithin_del 0 2 0 0 0 3 0 0 ⟨#[107]⟩ (some ⟨w.heap.size, 0, none⟩) none (some ⟨w.heap.size + 1, 0, none⟩) 1 0 1 1 0 1 (w4.heap.size + 1) 0 1 1 0 (some ⟨w4.heap.size, 0, none⟩) 1 1 true W (by decide) (by decide) rfl (by omega) (by omega) rfl (cell_later hb (cell_new _ _ (by simp) _ _)) (fun V hV => by
    have := opRem_any (some ⟨w.heap.size + 1, 0, none⟩) (some ⟨w.heap.size, 0, none⟩) 1 1 1 1 [(0, 1)] [1] V rfl (by omega) rfl (by omega) (HX.out.later (chain HB5.out (chain hb hV))).dots (HX.out.later (chain HB5.out (chain hb hV))).deps i64W.deps i64W.dots
    rwa [show remF [1] [(0, 1)] = true from by decide] at this)
  have D4 := opCheck_of 0 2 0 0 0 3 0 0 ⟨#[107]⟩ (some ⟨w.heap.size, 0, none⟩) none (some ⟨w.heap.size + 1, 0, none⟩) 1 0 1 1 0 1 1 (some ⟨w4.heap.size + 1, 0, none⟩) 1 1 0 true true _ D1 D2 D3
  rw [if_neg (by decide), if_pos (by decide)] at D4
  clear D1 D2 D3
  go_wp2_with fail
  refine D4.mono ?_
  rintro e w6 ⟨rfl, hb6⟩
  have HB6 : Hid (Below w.heap.size w w6) := chain HB0.out (chain HB5.out hb6)
  clear hb6 D4
  have D5 := opKey_any ⟨#[107]⟩ w6 (by decide)
  rw [show keyF ⟨#[107]⟩ = true from by decide] at D5
  go_wp2_with fail
  refine D5.mono ?_
  rintro e w7 ⟨rfl, hw⟩
  subst w7
  go_wp2
  go_ret
  exact ⟨rfl, HB6.out⟩

end Go.Proofs.Ytjpcljmlkgjbgaa

namespace Go.Proofs.Ytjpcljmlkgjbgaa
open Go.RowKit Go.Lib
set_option linter.unusedVariables false

/-- What a walk reads of an operation's box. -/
theorem cellsO_at {w : World} {b : Nat} {dp dn sp sl sq kind table col : Int} {key : ByteArray} {v2 v10 v11 : Value} {t : TypeId} (h : CellsAt w b #[.int .i64 dp, .int .i64 dn, v2, .int .i64 sp, .int .i64 sl, .int .i64 sq, .int .i64 kind, .int .i64 table, .string key, .int .i64 col, v10, v11] t) :
    w.cell? ⟨b, 0, none⟩ = some (.int .i64 dp) ∧ w.cell? ⟨b, 1, none⟩ = some (.int .i64 dn) ∧ w.cell? ⟨b, 2, none⟩ = some v2 ∧ w.cell? ⟨b, 3, none⟩ = some (.int .i64 sp) ∧ w.cell? ⟨b, 4, none⟩ = some (.int .i64 sl) ∧ w.cell? ⟨b, 5, none⟩ = some (.int .i64 sq) ∧ w.cell? ⟨b, 6, none⟩ = some (.int .i64 kind) ∧ w.cell? ⟨b, 7, none⟩ = some (.int .i64 table) ∧ w.cell? ⟨b, 8, none⟩ = some (.string key) ∧ w.cell? ⟨b, 9, none⟩ = some (.int .i64 col) ∧ w.cell? ⟨b, 10, none⟩ = some v10 ∧ w.cell? ⟨b, 11, none⟩ = some v11 :=
  ⟨h.cell 0, h.cell 1, h.cell 2, h.cell 3, h.cell 4, h.cell 5, h.cell 6, h.cell 7, h.cell 8, h.cell 9, h.cell 10, h.cell 11⟩

set_option maxRecDepth 100000 in
set_option maxHeartbeats 8000000 in
theorem opFits_any (x : PO) (da va oa : Option Addr) (dc vc oc : Nat) (w : World) (h : LiesO w x da va oa dc vc oc) :
    Calls Try.prog 20 #[.agg (cellsO x da va oa dc vc oc)] w fun e w' => e = .returned (.bool (fitsO x)) ∧ Below w.heap.size w w' := by
  have HI : Hid (fitsO x = (fitsF x.kind 1 && (fitsD (x.dp, x.dn) && (fitsVec x.deps && (fitsS x.sp x.sl x.sq && (fitsF x.table 1 && (decide (x.key.size ≤ 24) && (fitsF x.col 1 && (decide (chkR x.vals = 0) && (decide (x.dots.length ≤ 64) && x.dots.all fitsD)))))))))) := rfl
  generalize fitsO x = res at *
  obtain ⟨dp, dn, deps, sp, sl, sq, kind, table, key, col, vals, dots⟩ := x
  simp only [cellsO] at h HI ⊢
  have HL : Hid (LiesO w ⟨dp, dn, deps, sp, sl, sq, kind, table, key, col, vals, dots⟩ da va oa dc vc oc) := h
  have hkey : key.size ≤ 9223372036854775807 := h.key
  have hlo : dots.length ≤ 65536 := h.lo
  clear h
  obtain ⟨B, hBB⟩ : ∃ B : World, B = w.alloc (.cells #[.int .i64 dp, .int .i64 dn, .slice da deps.length dc, .int .i64 sp, .int .i64 sl, .int .i64 sq, .int .i64 kind, .int .i64 table, .string key, .int .i64 col, .slice va vals.length vc, .slice oa dots.length oc] 32) := ⟨_, rfl⟩
  have HK : Hid (CellsAt B w.heap.size #[.int .i64 dp, .int .i64 dn, .slice da deps.length dc, .int .i64 sp, .int .i64 sl, .int .i64 sq, .int .i64 kind, .int .i64 table, .string key, .int .i64 col, .slice va vals.length vc, .slice oa dots.length oc] 32) := by rw [hBB]; exact CellsAt.made rfl
  have HB0 : Hid (Below w.heap.size w B) := by rw [hBB]; exact alloc_below _ _
  have HBB : Hid (B = w.alloc (.cells #[.int .i64 dp, .int .i64 dn, .slice da deps.length dc, .int .i64 sp, .int .i64 sl, .int .i64 sq, .int .i64 kind, .int .i64 table, .string key, .int .i64 col, .slice va vals.length vc, .slice oa dots.length oc] 32)) := hBB
  clear hBB
  have C1 := fun W => fits_any kind 1 W (by omega) (by omega)
  have C2 := fun W => dotFits_any dp dn W
  have C3 := fun (W : World) (hb : Below w.heap.size w W) => vectorFits_any da deps.length dc deps W rfl HL.out.ld (HL.out.deps.later hb)
  have C4 := fun W => stampFits_any sp sl sq W
  have C5 := fun W => fits_any table 1 W (by omega) (by omega)
  have C7 := fun W => fits_any col 1 W (by omega) (by omega)
  have C8 := fun (W : World) (hb : Below w.heap.size w W) => rRow_any va vals.length vc vals W rfl HL.out.lv (HL.out.vals.later hb)
  have HD : Hid (∀ W, Below w.heap.size w W → RdD W oa dots) := fun W hb => HL.out.dots.later hb
  generalize hno : dots.length = no at *
  have HNO : Hid (dots.length = no) := hno
  clear hno
  generalize deps.length = nd at *
  generalize vals.length = nv at *
  generalize fitsF kind 1 = a1 at *
  generalize fitsD (dp, dn) = a2 at *
  generalize fitsVec deps = a3 at *
  generalize fitsS sp sl sq = a4 at *
  generalize fitsF table 1 = a5 at *
  generalize fitsF col 1 = a7 at *
  generalize chkR vals = c8 at *
  obtain ⟨a6, ha6⟩ : ∃ a6, a6 = decide (key.size ≤ 24) := ⟨_, rfl⟩
  obtain ⟨a8, ha8⟩ : ∃ a8, a8 = decide (c8 = 0) := ⟨_, rfl⟩
  obtain ⟨a9, ha9⟩ : ∃ a9, a9 = decide (no ≤ 64) := ⟨_, rfl⟩
  rw [← ha6, ← ha8, ← ha9] at HI
  have q6 : decide ((24 : Int) < (key.size : Int)) = !a6 := by
    rw [ha6]
    by_cases c : key.size ≤ 24
    · rw [decide_eq_true c, decide_eq_false (by omega)]; rfl
    · rw [decide_eq_false c, decide_eq_true (by omega)]; rfl
  have q8 : (c8 != 0) = !a8 := by
    rw [ha8]
    by_cases c : c8 = 0
    · simp [c]
    · simp [c]
  have q9 : decide ((64 : Int) < (no : Int)) = !a9 := by
    rw [ha9]
    by_cases c : no ≤ 64
    · rw [decide_eq_true c, decide_eq_false (by omega)]; rfl
    · rw [decide_eq_false c, decide_eq_true (by omega)]; rfl
  have Ha9 : Hid (a9 = true → no ≤ 64) := fun h => by rw [ha9] at h; exact of_decide_eq_true h
  clear ha6 ha8 ha9
  go_enter Try.func20, Try.ntmps20
  go_wp2_with fail
  rw [← HBB.out]
  refine (C1 _).mono ?_
  rintro e w1 ⟨rfl, hw⟩
  subst w1
  cases a1
  · go_wp2
    go_ret
    exact ⟨by rw [HI.out]; simp, HB0.out⟩
  obtain ⟨f0, f1, f2, f3, f4, f5, f6, f7, f8, f9, f10, f11⟩ := cellsO_at HK.out
  go_wp2_with fail
  refine (C2 _).mono ?_
  rintro e w2 ⟨rfl, hb2⟩
  have HB2 : Hid (Below B.heap.size B w2) := hb2
  clear hb2 f0 f1 f2 f3 f4 f5 f6 f7 f8 f9 f10 f11
  cases a2
  · go_wp2
    go_ret
    exact ⟨by rw [HI.out]; simp, chain HB0.out HB2.out⟩
  obtain ⟨f0, f1, f2, f3, f4, f5, f6, f7, f8, f9, f10, f11⟩ := cellsO_at (HK.out.later HB2.out)
  go_wp2_with fail
  refine (C3 _ (chain HB0.out HB2.out)).mono ?_
  rintro e w3 ⟨rfl, hw⟩
  subst w3
  cases a3
  · go_wp2
    go_ret
    exact ⟨by rw [HI.out]; simp, chain HB0.out HB2.out⟩
  go_wp2_with fail
  refine (C4 _).mono ?_
  rintro e w4 ⟨rfl, hb4⟩
  have HB4 : Hid (Below B.heap.size B w4) := chain HB2.out hb4
  clear hb4 HB2 f0 f1 f2 f3 f4 f5 f6 f7 f8 f9 f10 f11
  cases a4
  · go_wp2
    go_ret
    exact ⟨by rw [HI.out]; simp, chain HB0.out HB4.out⟩
  obtain ⟨f0, f1, f2, f3, f4, f5, f6, f7, f8, f9, f10, f11⟩ := cellsO_at (HK.out.later HB4.out)
  go_wp2_with fail
  refine (C5 _).mono ?_
  rintro e w5 ⟨rfl, hw⟩
  subst w5
  cases a5
  · go_wp2
    go_ret
    exact ⟨by rw [HI.out]; simp, chain HB0.out HB4.out⟩
  cases a6
  · rw [Bool.not_false] at q6
    go_wp2
    go_ret
    exact ⟨by rw [HI.out]; simp, chain HB0.out HB4.out⟩
  rw [Bool.not_true] at q6
  go_wp2_with fail
  refine (C7 _).mono ?_
  rintro e w7 ⟨rfl, hw⟩
  subst w7
  cases a7
  · go_wp2
    go_ret
    exact ⟨by rw [HI.out]; simp, chain HB0.out HB4.out⟩
  go_wp2_with fail
  refine (C8 _ (chain HB0.out HB4.out)).mono ?_
  rintro e w8 ⟨rfl, hb8⟩
  have HB8 : Hid (Below B.heap.size B w8) := chain HB4.out hb8
  clear hb8 HB4 f0 f1 f2 f3 f4 f5 f6 f7 f8 f9 f10 f11
  cases a8
  · rw [Bool.not_false] at q8
    go_wp2
    go_ret
    exact ⟨by rw [HI.out]; simp, chain HB0.out HB8.out⟩
  rw [Bool.not_true] at q8
  obtain ⟨f0, f1, f2, f3, f4, f5, f6, f7, f8, f9, f10, f11⟩ := cellsO_at (HK.out.later HB8.out)
  cases a9
  · rw [Bool.not_false] at q9
    go_wp2
    go_ret
    exact ⟨by rw [HI.out]; simp, chain HB0.out HB8.out⟩
  rw [Bool.not_true] at q9
  go_wp2
  clear f0 f1 f2 f3 f4 f5 f6 f7 f8 f9 f10 f11
  go_loopw [3] (fun i wr => ∃ k : Nat, k ≤ no ∧ i = .int .i64 k ∧ Hid ((dots.take k).all fitsD = true) ∧ Hid (Below B.heap.size B wr)) (fun i _ => no - (RowKit.intOf i).toNat)
  case atStart => exact ⟨0, Nat.zero_le _, rfl, rfl, HB8⟩
  case round =>
  clear HB8 C1 C2 C3 C4 C5 C7 C8
  obtain ⟨k, hk, rfl, hT, hB⟩ := hrel
  obtain ⟨f0, f1, f2, f3, f4, f5, f6, f7, f8, f9, f10, f11⟩ := cellsO_at (HK.out.later hB.out)
  by_cases hlt : k < no
  · have hkl : k < dots.length := by rw [HNO.out]; exact hlt
    obtain ⟨bo, oo, rfl, hc⟩ := (HD.out wr (chain HB0.out hB.out)) (by omega)
    obtain ⟨x0, x1⟩ := hc k hkl
    have HS : Hid ((dots.take (k + 1)).all fitsD = fitsD dots[k]) := by
      have h := hT.out
      show _ = _
      rw [List.take_succ_eq_append_getElem hkl, List.all_append, h]
      simp
    have HX : Hid (fitsD dots[k] = false → dots.all fitsD = false) := fun h => by
      rw [List.all_eq_false]
      exact ⟨_, List.getElem_mem hkl, by simp [h]⟩
    clear hc
    generalize dots[k] = d at *
    obtain ⟨p, q⟩ := d
    have C := dotFits_any p q wr
    generalize fitsD (p, q) = a at *
    simp only [] at x0 x1
    clear hkl
    go_wp2_with fail
    refine C.mono ?_
    rintro e w9 ⟨rfl, hb9⟩
    have HB9 : Hid (Below B.heap.size B w9) := chain hB.out hb9
    clear hb9
    cases a
    · go_wp2
      go_ret
      exact ⟨by rw [HI.out, HX.out (by simp)]; simp, chain HB0.out HB9.out⟩
    · go_wp2
      go_roundw
      case rel => exact ⟨k + 1, by omega, by go_num, HS, HB9⟩
      case measure => simp [RowKit.intOf]; omega
  · have HH : Hid (dots.all fitsD = true) := by
      have h := hT.out
      rw [List.take_of_length_le (by rw [HNO.out]; omega)] at h
      exact h
    go_wp2
    go_ret
    exact ⟨by rw [HI.out, HH.out]; simp, chain HB0.out hB.out⟩

end Go.Proofs.Ytjpcljmlkgjbgaa

namespace Go.Proofs.Ytjpcljmlkgjbgaa
open Go.RowKit Go.Lib
set_option linter.unusedVariables false

/-- Are they alike? -/
def sameO (x y : PO) : Bool :=
  (decide (x.dp = y.dp) && decide (x.dn = y.dn)) && (decide (x.deps = y.deps) && (decide ((⟨x.sp, x.sl, x.sq⟩ : PS) = ⟨y.sp, y.sl, y.sq⟩) && (decide (x.kind = y.kind) && (decide (x.table = y.table) && ((x.key.toList == y.key.toList) && (decide (x.col = y.col) && (sameVs x.vals y.vals && decide (x.dots = y.dots))))))))

theorem sameO_iff (x y : PO) : sameO x y = true ↔ x = y := by
  obtain ⟨dp, dn, deps, sp, sl, sq, kind, table, key, col, vals, dots⟩ := x
  obtain ⟨dp', dn', deps', sp', sl', sq', kind', table', key', col', vals', dots'⟩ := y
  unfold sameO
  simp only [Bool.and_eq_true, decide_eq_true_eq, sameVs_iff, PO.mk.injEq, PS.mk.injEq, beq_iff_eq]
  constructor
  · rintro ⟨⟨a, b⟩, c, ⟨d, e, f⟩, g, h, i, j, k, l⟩
    exact ⟨a, b, c, d, e, f, g, h, toList_inj i, j, k, l⟩
  · rintro ⟨a, b, c, d, e, f, g, h, i, j, k, l⟩
    exact ⟨⟨a, b⟩, c, ⟨d, e, f⟩, g, h, by rw [i], j, k, l⟩

set_option maxRecDepth 100000 in
set_option maxHeartbeats 8000000 in
theorem keepOp_any (x y : PO) (da va oa da' va' oa' : Option Addr) (dc vc oc dc' vc' oc' : Nat) (w : World) (h : LiesO w x da va oa dc vc oc) (h' : LiesO w y da' va' oa' dc' vc' oc') :
    Calls Try.prog 11 #[.agg (cellsO x da va oa dc vc oc), .agg (cellsO y da' va' oa' dc' vc' oc')] w fun e w' => e = .returned (.bool (sameO x y)) ∧ Below w.heap.size w w' := by
  have HI : Hid (sameO x y = ((decide (x.dp = y.dp) && decide (x.dn = y.dn)) && (decide (x.deps = y.deps) && (decide ((⟨x.sp, x.sl, x.sq⟩ : PS) = ⟨y.sp, y.sl, y.sq⟩) && (decide (x.kind = y.kind) && (decide (x.table = y.table) && ((x.key.toList == y.key.toList) && (decide (x.col = y.col) && (sameVs x.vals y.vals && decide (x.dots = y.dots)))))))))) := rfl
  generalize sameO x y = res at *
  obtain ⟨dp, dn, deps, sp, sl, sq, kind, table, key, col, vals, dots⟩ := x
  obtain ⟨dp', dn', deps', sp', sl', sq', kind', table', key', col', vals', dots'⟩ := y
  simp only [cellsO] at h h' HI ⊢
  have HX : Hid (LiesO w ⟨dp, dn, deps, sp, sl, sq, kind, table, key, col, vals, dots⟩ da va oa dc vc oc) := h
  have HY : Hid (LiesO w ⟨dp', dn', deps', sp', sl', sq', kind', table', key', col', vals', dots'⟩ da' va' oa' dc' vc' oc') := h'
  clear h h'
  obtain ⟨B, hBB⟩ : ∃ B : World, B = (w.alloc (.cells #[.int .i64 dp, .int .i64 dn, .slice da deps.length dc, .int .i64 sp, .int .i64 sl, .int .i64 sq, .int .i64 kind, .int .i64 table, .string key, .int .i64 col, .slice va vals.length vc, .slice oa dots.length oc] 32)).alloc (.cells #[.int .i64 dp', .int .i64 dn', .slice da' deps'.length dc', .int .i64 sp', .int .i64 sl', .int .i64 sq', .int .i64 kind', .int .i64 table', .string key', .int .i64 col', .slice va' vals'.length vc', .slice oa' dots'.length oc'] 32) := ⟨_, rfl⟩
  have HB0 : Hid (Below w.heap.size w B) := by rw [hBB]; exact below_two _ _ _
  have HK : Hid (CellsAt B w.heap.size #[.int .i64 dp, .int .i64 dn, .slice da deps.length dc, .int .i64 sp, .int .i64 sl, .int .i64 sq, .int .i64 kind, .int .i64 table, .string key, .int .i64 col, .slice va vals.length vc, .slice oa dots.length oc] 32) := by rw [hBB]; exact (CellsAt.made rfl).later (alloc_below _ _)
  have HK' : Hid (CellsAt B (w.heap.size + 1) #[.int .i64 dp', .int .i64 dn', .slice da' deps'.length dc', .int .i64 sp', .int .i64 sl', .int .i64 sq', .int .i64 kind', .int .i64 table', .string key', .int .i64 col', .slice va' vals'.length vc', .slice oa' dots'.length oc'] 32) := by rw [hBB]; exact CellsAt.made (by simp)
  have HBB : Hid (B = (w.alloc (.cells #[.int .i64 dp, .int .i64 dn, .slice da deps.length dc, .int .i64 sp, .int .i64 sl, .int .i64 sq, .int .i64 kind, .int .i64 table, .string key, .int .i64 col, .slice va vals.length vc, .slice oa dots.length oc] 32)).alloc (.cells #[.int .i64 dp', .int .i64 dn', .slice da' deps'.length dc', .int .i64 sp', .int .i64 sl', .int .i64 sq', .int .i64 kind', .int .i64 table', .string key', .int .i64 col', .slice va' vals'.length vc', .slice oa' dots'.length oc'] 32)) := hBB
  clear hBB
  have C1 := fun W => keepDot_any dp dn dp' dn' W
  have C2 := fun (W : World) (hb : Below w.heap.size w W) => keepInts_any da da' deps.length deps'.length dc dc' deps deps' W rfl rfl HX.out.ld HY.out.ld (HX.out.deps.later hb) (HY.out.deps.later hb)
  have C3 := fun W => keepStamp_any sp sl sq sp' sl' sq' W
  have C4 := fun (W : World) (hb : Below w.heap.size w W) => keepRow_any va va' vals.length vals'.length vc vc' vals vals' W rfl rfl HX.out.lv HY.out.lv (HX.out.vals.later hb) (HY.out.vals.later hb)
  have C5 := fun (W : World) (hb : Below w.heap.size w W) => keepDots_any oa oa' dots.length dots'.length oc oc' dots dots' W rfl rfl HX.out.lo HY.out.lo (HX.out.dots.later hb) (HY.out.dots.later hb)
  generalize (decide (dp = dp') && decide (dn = dn')) = a1 at *
  generalize decide (deps = deps') = a2 at *
  generalize decide ((⟨sp, sl, sq⟩ : PS) = ⟨sp', sl', sq'⟩) = a3 at *
  generalize sameVs vals vals' = a8 at *
  generalize decide (dots = dots') = a9 at *
  obtain ⟨a4, h4⟩ : ∃ a4, decide (kind = kind') = a4 := ⟨_, rfl⟩
  have q4 : (kind == kind') = a4 := h4
  obtain ⟨a5, h5⟩ : ∃ a5, decide (table = table') = a5 := ⟨_, rfl⟩
  have q5 : (table == table') = a5 := h5
  obtain ⟨a6, h6⟩ : ∃ a6, (key.toList == key'.toList) = a6 := ⟨_, rfl⟩
  obtain ⟨a7, h7⟩ : ∃ a7, decide (col = col') = a7 := ⟨_, rfl⟩
  have q7 : (col == col') = a7 := h7
  rw [h4, h5, h6, h7] at HI
  go_enter Try.func11, Try.ntmps11
  go_wp2_with fail
  rw [← HBB.out]
  refine (C1 _).mono ?_
  rintro e w1 ⟨rfl, hb1⟩
  have HB1 : Hid (Below B.heap.size B w1) := hb1
  clear hb1
  cases a1
  · go_wp2
    go_ret
    exact ⟨by rw [HI.out]; simp, chain HB0.out HB1.out⟩
  obtain ⟨f0, f1, f2, f3, f4, f5, f6, f7, f8, f9, f10, f11⟩ := cellsO_at (HK.out.later HB1.out)
  obtain ⟨g0, g1, g2, g3, g4, g5, g6, g7, g8, g9, g10, g11⟩ := cellsO_at (HK'.out.later HB1.out)
  go_wp2_with fail
  refine (C2 _ (chain HB0.out HB1.out)).mono ?_
  rintro e w2 ⟨rfl, hb2⟩
  have HB2 : Hid (Below B.heap.size B w2) := chain HB1.out hb2
  clear hb2 f0 f1 f2 f3 f4 f5 f6 f7 f8 f9 f10 f11 g0 g1 g2 g3 g4 g5 g6 g7 g8 g9 g10 g11 HB1
  cases a2
  · go_wp2
    go_ret
    exact ⟨by rw [HI.out]; simp, chain HB0.out HB2.out⟩
  obtain ⟨f0, f1, f2, f3, f4, f5, f6, f7, f8, f9, f10, f11⟩ := cellsO_at (HK.out.later HB2.out)
  obtain ⟨g0, g1, g2, g3, g4, g5, g6, g7, g8, g9, g10, g11⟩ := cellsO_at (HK'.out.later HB2.out)
  go_wp2_with fail
  refine (C3 _).mono ?_
  rintro e w3 ⟨rfl, hb3⟩
  have HB3 : Hid (Below B.heap.size B w3) := chain HB2.out hb3
  clear hb3 f0 f1 f2 f3 f4 f5 f6 f7 f8 f9 f10 f11 g0 g1 g2 g3 g4 g5 g6 g7 g8 g9 g10 g11 HB2
  cases a3
  · go_wp2
    go_ret
    exact ⟨by rw [HI.out]; simp, chain HB0.out HB3.out⟩
  obtain ⟨f0, f1, f2, f3, f4, f5, f6, f7, f8, f9, f10, f11⟩ := cellsO_at (HK.out.later HB3.out)
  obtain ⟨g0, g1, g2, g3, g4, g5, g6, g7, g8, g9, g10, g11⟩ := cellsO_at (HK'.out.later HB3.out)
  cases a4
  · go_wp2
    go_ret
    exact ⟨by rw [HI.out]; simp, chain HB0.out HB3.out⟩
  cases a5
  · go_wp2
    go_ret
    exact ⟨by rw [HI.out]; simp, chain HB0.out HB3.out⟩
  cases a6
  · go_wp2
    go_ret
    exact ⟨by rw [HI.out]; simp, chain HB0.out HB3.out⟩
  cases a7
  · go_wp2
    go_ret
    exact ⟨by rw [HI.out]; simp, chain HB0.out HB3.out⟩
  go_wp2_with fail
  refine (C4 _ (chain HB0.out HB3.out)).mono ?_
  rintro e w4 ⟨rfl, hb4⟩
  have HB4 : Hid (Below B.heap.size B w4) := chain HB3.out hb4
  clear hb4 f0 f1 f2 f3 f4 f5 f6 f7 f8 f9 f10 f11 g0 g1 g2 g3 g4 g5 g6 g7 g8 g9 g10 g11 HB3
  cases a8
  · go_wp2
    go_ret
    exact ⟨by rw [HI.out]; simp, chain HB0.out HB4.out⟩
  obtain ⟨f0, f1, f2, f3, f4, f5, f6, f7, f8, f9, f10, f11⟩ := cellsO_at (HK.out.later HB4.out)
  obtain ⟨g0, g1, g2, g3, g4, g5, g6, g7, g8, g9, g10, g11⟩ := cellsO_at (HK'.out.later HB4.out)
  go_wp2_with fail
  refine (C5 _ (chain HB0.out HB4.out)).mono ?_
  rintro e w5 ⟨rfl, hb5⟩
  have HB5 : Hid (Below w.heap.size w w5) := chain HB0.out (chain HB4.out hb5)
  clear hb5 f0 f1 f2 f3 f4 f5 f6 f7 f8 f9 f10 f11 g0 g1 g2 g3 g4 g5 g6 g7 g8 g9 g10 g11 HB4
  cases a9
  all_goals
    go_wp2
    go_ret
    exact ⟨by rw [HI.out]; simp, HB5.out⟩

end Go.Proofs.Ytjpcljmlkgjbgaa

namespace Go.Proofs.Ytjpcljmlkgjbgaa
open Go.RowKit Go.Lib
set_option linter.unusedVariables false

theorem rGetText_none {l : List UInt8} {p : Int} (h : (rGetText l p).2.2 ≠ 0) : (rGetText l p).1 = [] := by
  unfold rGetText at h ⊢
  split
  · rfl
  · split
    · rfl
    · split
      · rfl
      · rename_i h1 h2 h3
        rw [if_neg h1, if_neg h2, if_neg h3] at h
        exact absurd rfl h

theorem readR_none {l : List UInt8} {p : Int} (h : (readR l p).2.2 ≠ 0) : (readR l p).1 = [] := by
  unfold readR at h ⊢
  split
  · rfl
  · split
    · rfl
    · split
      · rfl
      · rename_i h1 h2 h3
        rw [if_neg h1, if_neg h2, if_neg h3] at h
        split
        · rfl
        · rename_i r hr
          rw [hr] at h
          exact absurd rfl h

/-- All but the box, then all below. -/
theorem aside_below {g : Nat} {w w1 w2 : World} (h : Aside g w w1) (hb : Below w.heap.size w1 w2) : Aside g w w2 := Stay.trans h (Stay.of_below hb fun b hb' => hb'.2)

theorem CAt.below {w w' : World} {g B : Nat} {a : Option Addr} {len cap : Nat} {l : List UInt8} {t : Int × Int} (h : CAt w g a len cap l t) (hb : Below B w w') (hg : g < B) (hs : ∀ x k, a = some ⟨x, k, none⟩ → 0 < len → x < B) : CAt w' g a len cap l t := by
  obtain ⟨p, bad, h1, h2⟩ := h.box
  refine ⟨⟨p, bad, (hb.block g hg).trans h1, h2⟩, ?_, fun b o e h0 => ⟨(h.src b o e h0).1, Nat.lt_of_lt_of_le (h.src b o e h0).2 hb.size⟩, h.hlen, h.hl, h.hcap⟩
  intro h0
  obtain ⟨b, off, rfl, hcl⟩ := h.rd h0
  have h00 : 0 < len := by rw [← h.hlen]; exact h0
  exact ⟨b, off, rfl, fun j hj => (World.cell?_of_block (w := w) (a := ⟨b, _, none⟩) (hb.block b (hs b off rfl h00))).trans (hcl j hj)⟩

theorem OwnV.base {w : World} {B C : Nat} {v : Value} {vs : List PV} (h : OwnV w B v vs) (hb : C ≤ B) : OwnV w C v vs := by
  refine ⟨h.1, ?_⟩
  rcases h.2 with h2 | ⟨x, cap, cur, hv, hx, hh, hc⟩
  · exact .inl h2
  · exact .inr ⟨x, cap, cur, hv, Nat.le_trans hb hx, hh, hc⟩

theorem OwnV.aside {w w' : World} {g B : Nat} {v : Value} {vs : List PV} (h : OwnV w B v vs) (hs : Aside g w w') (hg : g < B) : OwnV w' B v vs := by
  refine ⟨h.1, ?_⟩
  rcases h.2 with h2 | ⟨x, cap, cur, hv, hx, hh, hc⟩
  · exact .inl h2
  · exact .inr ⟨x, cap, cur, hv, hx, (hs.block x ⟨by omega, heap_lt hh⟩).trans hh, hc⟩

set_option maxRecDepth 100000 in
set_option maxHeartbeats 2000000 in
theorem cText_any (g : Nat) (a : Option Addr) (len cap : Nat) (l : List UInt8) (t : Int × Int) (w : World) (h : CAt w g a len cap l t) :
    Calls Try.prog 74 #[.pointer (some ⟨g, 0, none⟩)] w fun e w' => e = .returned (.string (takeT l t).1) ∧ CAt w' g a len cap l (takeT l t).2 ∧ Aside g w w' := by
  rcases h.cases with ⟨p, hp, rfl, hb⟩ | ⟨p, ht, hb⟩
  · obtain ⟨c0, c1, c2⟩ := cellsC_at hb
    have f1 := hb.free 1
    have f2 := hb.free 2
    have hfine := lawT.fine l ((p : Int), 0) (.inl ⟨rfl, by simp only; omega, by simp only; rw [h.hlen]; omega⟩)
    have C := fun (n : Nat) => rgetText_any a len cap p l (w.drewN n) h.hlen h.hl h.hcap h.rd
    have e : takeT l ((p : Int), 0) = (⟨(rGetText l p).1.toArray⟩, ((rGetText l p).2.1, (rGetText l p).2.2)) := if_pos rfl
    rw [e] at hfine ⊢
    simp only at hfine ⊢
    have hnone := rGetText_none (l := l) (p := p)
    generalize rGetText l p = r at *
    obtain ⟨s, n, er⟩ := r
    simp only at C hfine hnone ⊢
    have hlen := h.hlen
    by_cases h0 : er = 0
    · subst h0
      have hn : 0 ≤ n ∧ n ≤ (len : Int) := by
        rcases hfine with h1 | h1
        · rw [← hlen]; exact ⟨h1.2.1, h1.2.2⟩
        · exact absurd h1 (show ¬ ((0 : Int) = 3) by decide)
      have HC : Hid (∀ m, CAt ((w.drewN m).setCell ⟨g, 1, none⟩ (.int .i64 n)) g a len cap l (n, 0) ∧ Aside g w ((w.drewN m).setCell ⟨g, 1, none⟩ (.int .i64 n))) := fun m => by
        obtain ⟨hC, hA⟩ := (h.drewN m).move (hb.later (below_drewN (Below.refl _ w) m)) n hn
        exact ⟨hC, (Aside.drewN m).trans hA⟩
      clear h hb hfine hnone hlen e
      go_enter Try.func74, Try.ntmps74
      go_wp2_with fail
      go_quiet ((go_at_call 109; exact Calls.quiet_of_same (C _)))
      go_wp2
      go_ret
      exact ⟨rfl, (HC.out _).1, (HC.out _).2⟩
    · have hs := hnone h0
      subst hs
      have d0 : (er != 0) = true := by simpa using h0
      have HC : Hid (∀ m, CAt ((w.drewN m).setCell ⟨g, 2, none⟩ (.bool true)) g a len cap l (n, er) ∧ Aside g w ((w.drewN m).setCell ⟨g, 2, none⟩ (.bool true))) := fun m => by
        obtain ⟨hC, hA⟩ := (h.drewN m).bad (t' := (n, er)) h0
        exact ⟨hC, (Aside.drewN m).trans hA⟩
      clear h hb hfine hnone hlen e
      go_enter Try.func74, Try.ntmps74
      go_wp2_with fail
      go_quiet ((go_at_call 109; exact Calls.quiet_of_same (C _)))
      go_wp2
      go_ret
      exact ⟨rfl, (HC.out _).1, (HC.out _).2⟩
  · obtain ⟨c0, c1, c2⟩ := cellsC_at hb
    have e : takeT l t = (ByteArray.empty, t) := if_neg ht
    rw [e]
    have HC : Hid (CAt w g a len cap l t) := h
    clear h hb e
    go_enter Try.func74, Try.ntmps74
    go_wp2
    go_ret
    exact ⟨rfl, HC.out, Aside.refl _ _⟩

/-- The box' cells stay. -/
theorem keepC {W w w' : World} {g : Nat} {v : Value} {p : Int} {bad : Bool} (hb : Below w.heap.size w w')
    (h : w.cell? ⟨g, 0, none⟩ = some v ∧ w.cell? ⟨g, 1, none⟩ = some (.int .i64 p) ∧ w.cell? ⟨g, 2, none⟩ = some (.bool bad) ∧ Hid (Below W.heap.size W w)) :
    w'.cell? ⟨g, 0, none⟩ = some v ∧ w'.cell? ⟨g, 1, none⟩ = some (.int .i64 p) ∧ w'.cell? ⟨g, 2, none⟩ = some (.bool bad) ∧ Hid (Below W.heap.size W w') := by
  obtain ⟨h0, h1, h2, h9⟩ := h
  exact ⟨cell_later hb h0, cell_later hb h1, cell_later hb h2, chain h9.out hb⟩

set_option maxRecDepth 100000 in
set_option maxHeartbeats 2000000 in
theorem cRow_any (g : Nat) (a : Option Addr) (len cap : Nat) (l : List UInt8) (t : Int × Int) (w : World) (h : CAt w g a len cap l t) :
    Calls Try.prog 75 #[.pointer (some ⟨g, 0, none⟩)] w fun e w' => ∃ ra rn rc, e = .returned (.slice ra rn rc) ∧ (takeR l t).1.length = rn ∧ rn ≤ 65536 ∧ rn ≤ rc ∧ OwnV w' w.heap.size (.slice ra rn rc) (takeR l t).1 ∧ CAt w' g a len cap l (takeR l t).2 ∧ Aside g w w' := by
  have hg := h.lt
  rcases h.cases with ⟨p, hp, rfl, hb⟩ | ⟨p, ht, hb⟩
  · obtain ⟨c0, c1, c2⟩ := cellsC_at hb
    have hfine := lawR.fine l ((p : Int), 0) (.inl ⟨rfl, by simp only; omega, by simp only; rw [h.hlen]; omega⟩)
    have C := fun (V : World) (hV : V.cell? ⟨g, 0, none⟩ = some (.slice a len cap) ∧ V.cell? ⟨g, 1, none⟩ = some (.int .i64 (p : Int)) ∧ V.cell? ⟨g, 2, none⟩ = some (.bool false) ∧ Hid (Below w.heap.size w V)) => (rReadRow_any a len cap p l V h.hlen h.hl h.hcap (h.rd.later hV.2.2.2.out)).mono (R' := fun e w' => ∃ ra rn rc, e = .returned (.tuple #[.slice ra rn rc, .int .i64 (readR l p).2.1, .int .i64 (readR l p).2.2]) ∧ Hid ((readR l p).1.length = rn ∧ rn ≤ 65536 ∧ rn ≤ rc ∧ OwnV w' w.heap.size (.slice ra rn rc) (readR l p).1) ∧ Below V.heap.size V w') (fun e w' ⟨ra, rn, rc, he, h1, h2, h3, h4, _, _, hb⟩ => ⟨ra, rn, rc, he, ⟨h1, h2, h3, h4.base hV.2.2.2.out.size⟩, hb⟩)
    have e : takeR l ((p : Int), 0) = ((readR l p).1, ((readR l p).2.1, (readR l p).2.2)) := if_pos rfl
    rw [e] at hfine ⊢
    simp only at hfine ⊢
    have hnone := readR_none (l := l) (p := p)
    generalize readR l p = r at *
    obtain ⟨vs, n, er⟩ := r
    simp only at C hfine hnone ⊢
    have hlen := h.hlen
    have HP : Hid (CAt w g a len cap l ((p : Int), 0)) := h
    have HBX : Hid (CellsAt w g #[.slice a len cap, .int .i64 (p : Int), .bool false] 70) := hb
    have HS := And.intro c0 (And.intro c1 (And.intro c2 (show Hid (Below w.heap.size w w) from Below.refl _ _)))
    by_cases h0 : er = 0
    · subst h0
      have hn : 0 ≤ n ∧ n ≤ (len : Int) := by
        rcases hfine with h1 | h1
        · rw [← hlen]; exact ⟨h1.2.1, h1.2.2⟩
        · exact absurd h1 (show ¬ ((0 : Int) = 3) by decide)
      clear h hb hfine hnone hlen e
      go_enter Try.func75, Try.ntmps75
      go_wp2_with fail
      go_region_held3 (fun w' => w'.cell? ⟨g, 0, none⟩ = some (.slice a len cap) ∧ w'.cell? ⟨g, 1, none⟩ = some (.int .i64 (p : Int)) ∧ w'.cell? ⟨g, 2, none⟩ = some (.bool false) ∧ Hid (Below w.heap.size w w')) (first | exact keepC (by assumption) (by assumption) | exact keepC (Below.refl _ _).drew (by assumption)) (first | (go_at_call 110; refine (C _ (by assumption)).mono ?_; rintro e w' ⟨ra, rn, rc, rfl, HV, hb⟩))
      have HS1 : w'.cell? ⟨g, 0, none⟩ = some (.slice a len cap) ∧ w'.cell? ⟨g, 1, none⟩ = some (.int .i64 (p : Int)) ∧ w'.cell? ⟨g, 2, none⟩ = some (.bool false) ∧ Hid (Below w.heap.size w w') := by assumption
      obtain ⟨d0, d1, d2, HB1⟩ := HS1
      have hbx := HBX.out.later HB1.out
      have f1 := hbx.free 1
      obtain ⟨hC, hA⟩ := (HP.out.later HB1.out).move hbx n hn
      have HC : Hid (CAt (w'.setCell ⟨g, 1, none⟩ (.int .i64 n)) g a len cap l (n, 0)) := hC
      have hA2 : Aside g w (w'.setCell ⟨g, 1, none⟩ (.int .i64 n)) := (Aside.of_below HB1.out).trans hA
      have HV2 : Hid (OwnV (w'.setCell ⟨g, 1, none⟩ (.int .i64 n)) w.heap.size (.slice ra rn rc) vs) := HV.out.2.2.2.aside hA hg
      clear hC hA hbx HBX HP C c0 c1 c2 HS hb
      go_wp2
      go_ret
      exact ⟨_, _, _, rfl, HV.out.1, HV.out.2.1, HV.out.2.2.1, HV2.out, HC.out, hA2⟩
    · have hs := hnone h0
      subst hs
      have d0 : (er != 0) = true := by simpa using h0
      clear h hb hfine hnone hlen e
      go_enter Try.func75, Try.ntmps75
      go_wp2_with fail
      go_region_held3 (fun w' => w'.cell? ⟨g, 0, none⟩ = some (.slice a len cap) ∧ w'.cell? ⟨g, 1, none⟩ = some (.int .i64 (p : Int)) ∧ w'.cell? ⟨g, 2, none⟩ = some (.bool false) ∧ Hid (Below w.heap.size w w')) (first | exact keepC (by assumption) (by assumption) | exact keepC (Below.refl _ _).drew (by assumption)) (first | (go_at_call 110; refine (C _ (by assumption)).mono ?_; rintro e w' ⟨ra, rn, rc, rfl, HV, hb⟩))
      have HS1 : w'.cell? ⟨g, 0, none⟩ = some (.slice a len cap) ∧ w'.cell? ⟨g, 1, none⟩ = some (.int .i64 (p : Int)) ∧ w'.cell? ⟨g, 2, none⟩ = some (.bool false) ∧ Hid (Below w.heap.size w w') := by assumption
      obtain ⟨d0', d1', d2', HB1⟩ := HS1
      have f2 := (HBX.out.later HB1.out).free 2
      obtain ⟨hC, hA⟩ := (HP.out.later HB1.out).bad (t' := (n, er)) h0
      have HC : Hid (CAt (w'.setCell ⟨g, 2, none⟩ (.bool true)) g a len cap l (n, er)) := hC
      have hA2 : Aside g w (w'.setCell ⟨g, 2, none⟩ (.bool true)) := (Aside.of_below HB1.out).trans hA
      clear hC hA HBX HP C c0 c1 c2 HS hb HV
      go_wp2
      go_ret
      exact ⟨none, 0, 0, rfl, rfl, by omega, Nat.le_refl _, OwnV.nought _ _, HC.out, hA2⟩
  · obtain ⟨c0, c1, c2⟩ := cellsC_at hb
    have e : takeR l t = ([], t) := if_neg ht
    rw [e]
    have HC : Hid (CAt w g a len cap l t) := h
    clear h hb e
    go_enter Try.func75, Try.ntmps75
    go_wp2
    go_ret
    exact ⟨none, 0, 0, rfl, rfl, by omega, Nat.le_refl _, OwnV.nought _ _, HC.out, Aside.refl _ _⟩

theorem takeN_stuck {l : List UInt8} {t : Int × Int} {s : Int} (h : (takeN l t s).2.2 = 0) : t.2 = 0 := by
  by_cases h0 : t.2 = 0
  · exact h0
  · rw [takeN_bad h0] at h
    exact absurd h h0

theorem takeNs_stuck {l : List UInt8} : ∀ {n : Nat} {t : Int × Int}, (takeNs l n t).2.2 = 0 → t.2 = 0
  | 0, _, h => h
  | n + 1, t, h => takeN_stuck (takeNs_stuck (n := n) h)

set_option maxRecDepth 100000 in
set_option maxHeartbeats 4000000 in
theorem cVector_any (g : Nat) (a : Option Addr) (len cap : Nat) (l : List UInt8) (t : Int × Int) (w : World) (h : CAt w g a len cap l t) :
    Calls Try.prog 72 #[.pointer (some ⟨g, 0, none⟩)] w fun e w' => ∃ ra rn rc N, e = .returned (.slice ra rn rc) ∧ N.length = rn ∧ rn ≤ 5 ∧ rn ≤ rc ∧ OwnI w' w.heap.size (.slice ra rn rc) N ∧ ((takeV l t).2.2 = 0 → N = (takeV l t).1) ∧ CAt w' g a len cap l (takeV l t).2 ∧ Aside g w w' := by
  have hg := h.lt
  have C1 := cNum_any g a len cap l t 1 w (by omega) (by omega) h
  have HSRC : Hid (∀ x k, a = some ⟨x, k, none⟩ → 0 < len → x < w.heap.size) := fun x k e h0 => (h.src x k e h0).2
  obtain ⟨m, hm⟩ : ∃ m : Nat, (takeN l t ((1 : Nat) : Int)).1 = m := ⟨(takeN l t ((1 : Nat) : Int)).1.toNat, by have := takeN_nat l t ((1 : Nat) : Int); omega⟩
  have hm255 : m ≤ 255 := by
    by_cases h0 : (takeN l t ((1 : Nat) : Int)).2.2 = 0
    · have := (lawN 1 (by omega) (by omega)).inv l t h0
      obtain ⟨_, _, _, ok, _⟩ := this
      have := of_decide_eq_true ok
      simp only [hm] at this
      omega
    · have : (takeN l t ((1 : Nat) : Int)).1 = 0 := by
        unfold takeN at h0 ⊢
        by_cases h2 : t.2 = 0
        · rw [if_pos h2] at h0 ⊢
          unfold rGet at h0 ⊢
          split
          · rfl
          · split
            · rfl
            · rename_i q1 q2
              rw [if_neg q1, if_neg q2] at h0
              exact absurd rfl h0
        · rw [if_neg h2]
      omega
  have hV : takeV l t = takeNs l (takeC l t 1 5).1.toNat (takeC l t 1 5).2 := rfl
  have hC : takeC l t 1 5 = if 5 < (takeN l t ((1 : Nat) : Int)).1 then (0, ((takeN l t ((1 : Nat) : Int)).2.1, 3)) else takeN l t ((1 : Nat) : Int) := rfl
  rw [hC] at hV
  generalize takeV l t = VV at *
  generalize takeN l t ((1 : Nat) : Int) = r1 at *
  obtain ⟨v1, t1⟩ := r1
  simp only at hm C1 hV
  subst hm
  have HVm : Hid (5 < m → VV.2.2 ≠ 0) := fun h5 h0 => by
    rw [hV, if_pos (by omega)] at h0
    exact absurd (takeNs_stuck h0) (show ¬ ((3 : Int) = 0) by decide)
  have HVt : Hid (t1.2 ≠ 0 → VV.2.2 ≠ 0) := fun ht h0 => by
    rw [hV] at h0
    split at h0
    · exact absurd (takeNs_stuck h0) (show ¬ ((3 : Int) = 0) by decide)
    · exact ht (takeNs_stuck h0)
  have HVk : Hid (m ≤ 5 → VV = takeNs l m t1) := fun h5 => by
    rw [hV, if_neg (by omega)]
    simp
  clear hV hC h
  go_enter Try.func72, Try.ntmps72
  go_wp2_with fail
  refine C1.mono ?_
  rintro e w1 ⟨rfl, hc1, hs1⟩
  have HS1 : Hid (Aside g w w1) := hs1
  clear C1 hs1
  have d5 : decide ((5 : Int) < (m : Int)) = decide (5 < m) := by
    by_cases c : 5 < m
    · rw [decide_eq_true c, decide_eq_true (by omega)]
    · rw [decide_eq_false c, decide_eq_false (by omega)]
  rcases hc1.cases with ⟨p, hp, rfl, hb⟩ | ⟨p, ht, hb⟩
  · obtain ⟨c0, c1, c2⟩ := cellsC_at hb
    have f2 := hb.free 2
    by_cases h5 : 5 < m
    · rw [decide_eq_true h5] at d5
      obtain ⟨hC, hA⟩ := hc1.bad (t' := VV.2) (HVm.out h5)
      have HC : Hid (CAt (w1.setCell ⟨g, 2, none⟩ (.bool true)) g a len cap l VV.2) := hC
      have HA : Hid (Aside g w (w1.setCell ⟨g, 2, none⟩ (.bool true))) := HS1.out.trans hA
      have HX : Hid (CellsAt (w1.setCell ⟨g, 2, none⟩ (.bool true)) g #[.slice a len cap, .int .i64 (p : Int), .bool true] 70) := hb.set 2 (.bool true)
      clear hC hA hb hc1 HS1
      go_wp2
      go_loopw [4, 5] (fun u i wr => u = .slice none 0 0 ∧ i = .int .i64 0 ∧ Hid (CAt wr g a len cap l VV.2) ∧ Hid (Aside g w wr) ∧ Hid (wr.cell? ⟨g, 2, none⟩ = some (.bool true))) (fun _ _ _ => 0)
      case atStart => exact ⟨rfl, rfl, HC, HA, (cellsC_at HX.out).2.2⟩
      case round =>
      obtain ⟨rfl, rfl, hP, hS, hx⟩ := hrel
      have y2 := hx.out
      by_cases hm0 : 0 < m
      · go_wp2
        go_ret
        exact ⟨none, 0, 0, [], rfl, rfl, by omega, Nat.le_refl _, OwnI.nought _ _, fun h0 => absurd h0 (HVm.out h5), hP.out, hS.out⟩
      · obtain rfl : m = 0 := by omega
        go_wp2
        go_ret
        exact ⟨none, 0, 0, [], rfl, rfl, by omega, Nat.le_refl _, OwnI.nought _ _, fun h0 => absurd h0 (HVm.out h5), hP.out, hS.out⟩
    · rw [decide_eq_false h5] at d5
      have hA : Aside g w1 (w1.setCell ⟨g, 2, none⟩ (.bool false)) := Stay.setCell (p := ⟨g, 2, none⟩) (Stay.refl _ w1) (fun h => h.1 rfl) _
      have HC : Hid (CAt (w1.setCell ⟨g, 2, none⟩ (.bool false)) g a len cap l ((p : Int), 0)) := hc1.to hA (hb.set 2 (.bool false)) (.inl ⟨rfl, rfl, by omega, by omega⟩)
      have HA : Hid (Aside g w (w1.setCell ⟨g, 2, none⟩ (.bool false))) := HS1.out.trans hA
      have HVE : Hid (VV = takeNs l m ((p : Int), 0)) := HVk.out (by omega)
      clear hA hb hc1 HS1 HVk HVt HVm
      go_wp2
      go_loopw [4, 5] (fun u i wr => ∃ (k : Nat) (sk : Int × Int) (done : List Int) (ra : Option Addr) (rc : Nat), k ≤ m ∧ i = .int .i64 k ∧ u = .slice ra k rc ∧ k ≤ rc ∧ Hid (done.length = k) ∧ Hid (VV = (done ++ (takeNs l (m - k) sk).1, (takeNs l (m - k) sk).2)) ∧ Hid (OwnI wr w.heap.size (.slice ra k rc) done) ∧ Hid (CAt wr g a len cap l sk) ∧ Hid (Aside g w wr)) (fun _ i _ => m - (RowKit.intOf i).toNat)
      case atStart => exact ⟨0, ((p : Int), 0), [], none, 0, Nat.zero_le _, rfl, rfl, Nat.le_refl _, rfl, HVE.out, OwnI.nought _ _, HC, HA⟩
      case round =>
      clear HC HA HVE c0 c1 c2 f2 d5
      obtain ⟨k, sk, done, ra, rc, hk, rfl, rfl, hkc, hD, hE, hO, hP, hS⟩ := hrel
      by_cases hlt : k < m
      · rcases hP.out.cases with ⟨q, hq, hsk, hb⟩ | ⟨q, ht, hb⟩
        · obtain ⟨c0, c1, c2⟩ := cellsC_at hb
          have C := cNum_any g a len cap l sk 4 _ (by omega) (by omega) hP.out
          have HE : Hid (VV = (done ++ [(takeN l sk ((4 : Nat) : Int)).1] ++ (takeNs l (m - (k + 1)) (takeN l sk ((4 : Nat) : Int)).2).1, (takeNs l (m - (k + 1)) (takeN l sk ((4 : Nat) : Int)).2).2)) := by
            have h := hE.out
            rw [show m - k = m - (k + 1) + 1 from by omega] at h
            refine h.trans ?_
            rw [takeNs]
            simp
          generalize takeN l sk ((4 : Nat) : Int) = r at C HE
          obtain ⟨v, s2⟩ := r
          simp only at C HE
          clear hE hb hP
          go_wp2_with fail
          refine C.mono ?_
          rintro e w2 ⟨rfl, hp2, hs2⟩
          obtain ⟨a', cap', w', hrun, hc', ho', hb'⟩ := run_append_intC w2.heap.size rfl v (hO.out.aside hs2 hg) hD.out (by omega) (by have := hS.out.size; have := hs2.size; omega)
          have HO3 : Hid (OwnI w' w.heap.size (.slice a' (k + 1) cap') (done ++ [v])) := ho'
          have HP3 : Hid (CAt w' g a len cap l s2) := hp2.below hb' hg HSRC.out
          have HS3 : Hid (Aside g w w') := aside_below (hS.out.trans hs2) hb'
          have HD3 : Hid ((done ++ [v]).length = k + 1) := by
            have := hD.out
            show _ = _
            simp
            omega
          clear ho' hb' hp2 hs2 hO hS hD C c0 c1 c2
          go_wp2_with (at_builtin; refine wpList_append_run rfl _ _ 26 26 rfl _ _ _ _ rfl rfl hrun ?_)
          go_roundw
          case rel => exact ⟨k + 1, s2, done ++ [v], a', cap', by omega, by go_num, rfl, hc', HD3, HE, HO3, HP3, HS3⟩
          case measure => simp [RowKit.intOf]; omega
        · obtain ⟨c0, c1, c2⟩ := cellsC_at hb
          have hne : VV.2.2 ≠ 0 := fun h0 => ht (takeNs_stuck (by rw [hE.out] at h0; exact h0))
          have HC : Hid (CAt wr g a len cap l VV.2) := hP.out.to (Aside.refl _ _) hb (.inr ⟨rfl, hne⟩)
          have HN : Hid (VV.2.2 ≠ 0) := hne
          clear hb hne hE
          go_wp2
          go_ret
          exact ⟨_, _, _, done, rfl, hD.out, by omega, hkc, hO.out, fun h0 => absurd h0 HN.out, HC.out, hS.out⟩
      · obtain rfl : k = m := by omega
        have e1 : VV = (done, sk) := by
          rw [hE.out, Nat.sub_self]
          simp [takeNs]
        have HE1 : Hid (VV = (done, sk)) := e1
        clear hE e1
        go_wp2
        go_ret
        exact ⟨_, _, _, done, rfl, hD.out, by omega, hkc, hO.out, fun _ => by rw [HE1.out], by rw [HE1.out]; exact hP.out, hS.out⟩
  · obtain ⟨c0, c1, c2⟩ := cellsC_at hb
    have f2 := hb.free 2
    obtain ⟨hC, hA⟩ := hc1.bad (t' := VV.2) (HVt.out ht)
    have HC : Hid (CAt (w1.setCell ⟨g, 2, none⟩ (.bool true)) g a len cap l VV.2) := hC
    have HA : Hid (Aside g w (w1.setCell ⟨g, 2, none⟩ (.bool true))) := HS1.out.trans hA
    have HX : Hid (CellsAt (w1.setCell ⟨g, 2, none⟩ (.bool true)) g #[.slice a len cap, .int .i64 p, .bool true] 70) := hb.set 2 (.bool true)
    have HN : Hid (VV.2.2 ≠ 0) := HVt.out ht
    clear hC hA hb hc1 HS1 HVk HVm
    go_wp2
    go_loopw [4, 5] (fun u i wr => u = .slice none 0 0 ∧ i = .int .i64 0 ∧ Hid (CAt wr g a len cap l VV.2) ∧ Hid (Aside g w wr) ∧ Hid (wr.cell? ⟨g, 2, none⟩ = some (.bool true))) (fun _ _ _ => 0)
    case atStart => exact ⟨rfl, rfl, HC, HA, (cellsC_at HX.out).2.2⟩
    case round =>
    obtain ⟨rfl, rfl, hP, hS, hx⟩ := hrel
    have y2 := hx.out
    by_cases hm0 : 0 < m
    · go_wp2
      go_ret
      exact ⟨none, 0, 0, [], rfl, rfl, by omega, Nat.le_refl _, OwnI.nought _ _, fun h0 => absurd h0 HN.out, hP.out, hS.out⟩
    · obtain rfl : m = 0 := by omega
      go_wp2
      go_ret
      exact ⟨none, 0, 0, [], rfl, rfl, by omega, Nat.le_refl _, OwnI.nought _ _, fun h0 => absurd h0 HN.out, hP.out, hS.out⟩

end Go.Proofs.Ytjpcljmlkgjbgaa

namespace Go.Proofs.Ytjpcljmlkgjbgaa
open Go.RowKit Go.Lib
set_option linter.unusedVariables false

theorem Try.infoDt : (Try.prog.info? 25).map (fun i => (i.zero, i.size, i.bytes)) = some (some (.agg #[.int .i64 0, .int .i64 0]), 2, 16) := by kernel_rfl

theorem OwnD.nought (w : World) (B : Nat) : OwnD w B (.slice none 0 0) [] := World.ownsRow_nil w B 25 2

theorem OwnD.later {w w' : World} {B : Nat} {v : Value} {ds : List (Int × Int)} (h : OwnD w B v ds) (hb : Below w.heap.size w w') : OwnD w' B v ds := by
  obtain ⟨h1, h2⟩ := h
  refine ⟨h1, ?_⟩
  rcases h2 with h2 | ⟨g, cap, cur, hv, hg, hh, hc⟩
  · exact .inl h2
  · exact .inr ⟨g, cap, cur, hv, hg, (hb.block g (heap_lt hh)).trans hh, hc⟩

/-- append(v, d). -/
theorem run_append_dot {w : World} {B ty n s : Nat} {v : Value} {xs : List (Int × Int)} {p q : Int} (hown : OwnD w B v xs) (hn : xs.length = n) (h1 : n ≤ 65536) (hB : B ≤ w.heap.size) (c0 : w.cell? ⟨s, 0, none⟩ = some (.int .i64 p)) (c1 : w.cell? ⟨s, 1, none⟩ = some (.int .i64 q)) :
    ∃ a' cap' w', (Builtin.append_ #[30, 30] ty #[v, .slice (some ⟨s, 0, none⟩) 1 1]).run Try.prog w = .ok (.slice a' (n + 1) cap') w' ∧ n + 1 ≤ cap' ∧ OwnD w' B (.slice a' (n + 1) cap') (xs ++ [(p, q)]) ∧ w.heap.size ≤ w'.heap.size ∧ Below B w w' := by
  subst hn
  obtain ⟨i0, hi, hz0, hz1, hz2⟩ := info_parts Try.infoDt
  obtain ⟨v', w', hrun, ho, hg, _⟩ := run_append_own (P := Try.prog) (w := w) B 30 ty 25 i0 (.agg #[.int .i64 0, .int .i64 0]) 2 16 Try.underlying30 hi hz0 hz1 hz2 rfl (by decide) v xs.length (cellsDs xs) hown ⟨s, 0, none⟩ 1 1 [.int .i64 p, .int .i64 q] rfl (fun j u hj => by
    rw [add_plain3]
    rcases j with _ | _ | j
    · simp at hj; subst hj; exact c0
    · simp at hj; subst hj; exact c1
    · simp at hj) (by intro u hu; simp at hu; rcases hu with rfl | rfl <;> rfl) (by unfold maxLen; omega) (by omega) hB
  have ho' : OwnD w' B v' (xs ++ [(p, q)]) := by
    unfold OwnD
    rw [List.length_append, cellsDs_append]
    exact ho
  obtain ⟨a', cap', rfl, hc, _, _⟩ := ho'.form
  rw [List.length_append] at hrun ho' hc
  exact ⟨a', cap', w', hrun, hc, ho', hg.size, (Below.refl _ _).grown hg hB (fun k hk => (World.ownsRow.lt hown k hk).1)⟩

/-- The first n dots of the first peer. -/
def dsN (n : Nat) : List (Int × Int) := (List.range n).map fun i : Nat => ((0 : Int), (i : Int) + 1)

theorem dsN_len (n : Nat) : (dsN n).length = n := by simp [dsN]

theorem dsN_succ (n : Nat) : dsN (n + 1) = dsN n ++ [((0 : Int), (n : Int) + 1)] := by simp [dsN, List.range_succ]

theorem dsN_at {n i : Nat} (h : i < n) : (dsN n)[i]? = some ((0 : Int), (i : Int) + 1) := by simp [dsN, h]

theorem has69 {k : Int} : hasD [69, 0] 0 k = decide (1 ≤ k ∧ k ≤ 69) := by simp [hasD, placeD, atD]

theorem rem_bad {deps : List Int} {ds : List (Int × Int)} {i : Nat} (hi : i < ds.length) (h : stepF deps ds i = false) : remF deps ds = false := by
  unfold remF
  rw [range_no hi h, Bool.and_false]

theorem rem_dsN {n : Nat} (h64 : n ≤ 65) : remF [69, 0] (dsN n) = decide (1 ≤ n ∧ n ≤ 64) := by
  unfold remF
  rw [dsN_len]
  by_cases h : 1 ≤ n ∧ n ≤ 64
  · have : (List.range n).all (stepF [69, 0] (dsN n)) = true := by
      rw [List.all_eq_true]
      intro i hi
      have hi' : i < n := by simpa using hi
      unfold stepF
      rw [dsN_at hi']
      simp only [Option.getD_some, has69]
      rcases Nat.eq_zero_or_pos i with h0 | h0
      · subst h0; simp
      · obtain ⟨j, rfl⟩ : ∃ j, i = j + 1 := ⟨i - 1, by omega⟩
        rw [Nat.add_sub_cancel, dsN_at (by omega)]
        simp [lessD]
        omega
    rw [this, Bool.and_true]
  · rw [decide_eq_false h, Bool.false_and]

theorem rem_no70 {n : Nat} (h1 : 1 ≤ n) : remF [69, 0] ((dsN n).set (n - 1) (0, 70)) = false := by
  have hl : n - 1 < (dsN n).length := by rw [dsN_len]; omega
  refine rem_bad (i := n - 1) (by rw [List.length_set]; exact hl) ?_
  unfold stepF
  rw [List.getElem?_set_self hl]
  simp [has69]

theorem rem_twice {n : Nat} (h1 : 1 ≤ n) : remF [69, 0] (dsN n ++ [((0 : Int), (n : Int))]) = false := by
  refine rem_bad (i := n) (by simp [dsN_len]) ?_
  obtain ⟨m, rfl⟩ : ∃ m, n = m + 1 := ⟨n - 1, by omega⟩
  unfold stepF
  have e1 : (dsN (m + 1) ++ [((0 : Int), ((m + 1 : Nat) : Int))])[m + 1]? = some ((0 : Int), ((m + 1 : Nat) : Int)) := by
    rw [List.getElem?_append_right (by rw [dsN_len]; exact Nat.le_refl _), dsN_len]
    simp
  have e2 : (dsN (m + 1) ++ [((0 : Int), ((m + 1 : Nat) : Int))])[m + 1 - 1]? = some ((0 : Int), (m : Int) + 1) := by
    rw [Nat.add_sub_cancel, List.getElem?_append_left (by rw [dsN_len]; omega), dsN_at (by omega)]
  rw [e1, e2]
  simp [lessD]

theorem rem_two {n : Nat} {q : Int} (h1 : 1 ≤ n) : remF [69, 0] ((dsN n).set 0 (2, q)) = false := by
  have hl : 0 < (dsN n).length := by rw [dsN_len]; omega
  refine rem_bad (i := 0) (by rw [List.length_set]; exact hl) ?_
  unfold stepF
  rw [List.getElem?_set_self hl]
  simp [hasD, placeD]

/-- OpDots' operation, with these dots. -/
def xD (ds : List (Int × Int)) : PO := ⟨1, 1, [69, 0], 0, 0, 1, 3, 0, ⟨#[107]⟩, 0, [], ds⟩

theorem i64D {ds : List (Int × Int)} (h : ∀ d ∈ ds, In64 d.1 ∧ In64 d.2) : I64O (xD ds) :=
  ⟨fun v hv => by
    have : v = 69 ∨ v = 0 := by simpa [xD] using hv
    rcases this with rfl | rfl
    · exact in64 (by decide)
    · exact in64 (by decide), (show In64 1 from in64 (by decide)), (show In64 1 from in64 (by decide)), ⟨(show In64 0 from in64 (by decide)), (show In64 0 from in64 (by decide)), (show In64 1 from in64 (by decide))⟩, h, (show In64 0 from in64 (by decide)), (show In64 0 from in64 (by decide))⟩

set_option maxRecDepth 100000 in
set_option maxHeartbeats 2000000 in
theorem ocheckD (W : World) (bf bc bd : Nat) (oa : Option Addr) (oc no : Nat) (ds : List (Int × Int)) (hcol : W.cell? ⟨bf, 0, none⟩ = some (.slice (some ⟨bc, 0, none⟩) 1 1)) (hF : RdII W (some ⟨bf, 0, none⟩) [[3]]) (hD : RdI .i64 W (some ⟨bd, 0, none⟩) [69, 0])
    (hO : RdD W oa ds) (hn : ds.length = no) (hno : no ≤ 65536) (hoc : no ≤ oc) (hnil : oa = none → ds = [] ∧ oc = 0) (hbd : bd < W.heap.size) (hbo : ∀ b o, oa = some ⟨b, o, none⟩ → b < W.heap.size) (h64 : ∀ d ∈ ds, In64 d.1 ∧ In64 d.2) :
    Calls Try.prog 17 #[.int .i64 2, .slice (some ⟨bf, 0, none⟩) 1 1, .agg #[.int .i64 1, .int .i64 1, .slice (some ⟨bd, 0, none⟩) 2 2, .int .i64 0, .int .i64 0, .int .i64 1, .int .i64 3, .int .i64 0, .string ⟨#[107]⟩, .int .i64 0, .slice none 0 0, .slice oa no oc]] W fun e w' => e = .returned (.int .i64 (if remF [69, 0] ds = true then 0 else 1)) ∧ Below W.heap.size W w' := by
  subst hn
  have hL : LiesO W (xD ds) (some ⟨bd, 0, none⟩) none oa 2 0 oc :=
    ⟨hD, (fun h => absurd h (by simp [xD])), hO, by simp [xD], by simp [xD], hno, by simp [xD], by simp [xD], hoc, (fun h => by cases h), (fun _ => ⟨rfl, rfl⟩), hnil, (show (⟨#[107]⟩ : ByteArray).size ≤ 9223372036854775807 by decide)⟩
  have D1 := fun (V : World) (hb : Below W.heap.size W V) => opForms_any (some ⟨bf, 0, none⟩) 1 1 [[3]] V rfl (by omega) (fun v hv => by simp at hv; subst hv; decide) (hF.later hb)
  rw [show formsF [[3]] = 0 from by decide] at D1
  have D2 := fun (V : World) (hb : Below W.heap.size W V) => opIssued_any 2 (xD ds) _ _ _ _ _ _ V (hL.later hb) (i64D h64)
  rw [show issuedF 2 (xD ds) = true from (show issuedF 2 (xD []) = true by decide)] at D2
  simp only [cellsO, xD, List.length_cons, List.length_nil, Nat.zero_add] at D2
  have D3 := fun (V : World) (hb : Below W.heap.size W V) => opWithin_del 1 1 0 0 1 3 0 0 ⟨#[107]⟩ (some ⟨bd, 0, none⟩) none oa 2 0 ds.length 2 0 oc bf 0 1 1 0 (some ⟨bc, 0, none⟩) 1 1 (remF [69, 0] ds) V (by decide) (by decide) rfl (by omega) (by omega) rfl (cell_later hb hcol) (fun U hU => opRem_any oa (some ⟨bd, 0, none⟩) ds.length 2 oc 2 ds [69, 0] U rfl hno rfl (by omega) (hO.later (chain hb hU)) (hD.later (chain hb hU)) (i64D h64).deps h64)
  have D4 := opCheck_of 1 1 0 0 1 3 0 0 ⟨#[107]⟩ (some ⟨bd, 0, none⟩) none oa 2 0 ds.length 2 0 oc 2 (some ⟨bf, 0, none⟩) 1 1 0 true _ W D1 D2 D3
  refine D4.mono fun e w' ⟨he, hb⟩ => ⟨he.trans ?_, hb⟩
  cases remF [69, 0] ds <;> rfl

end Go.Proofs.Ytjpcljmlkgjbgaa

namespace Go.Proofs.Ytjpcljmlkgjbgaa
open Go.RowKit Go.Lib
set_option linter.unusedVariables false

theorem cellsDs_one (N : List (Int × Int)) : ∀ u ∈ cellsDs N, u.oneCell' = true := by
  intro u hu
  simp [cellsDs] at hu
  obtain ⟨a, b, _, rfl | rfl⟩ := hu <;> rfl

theorem RdD.src {w : World} {a : Option Addr} {N : List (Int × Int)} (h : RdD w a N) (h0 : 0 < N.length) : ∃ ad, a = some ad ∧ ∀ j u, (cellsDs N)[j]? = some u → w.cell? (ad.add j) = some u := by
  obtain ⟨b, off, e, hc⟩ := h h0
  refine ⟨_, e, fun j u hu => ?_⟩
  rw [add_plain3]
  have hj : j < N.length * 2 := by have := (List.getElem?_eq_some_iff.1 hu).1; rwa [cellsDs_length] at this
  have hi : j / 2 < N.length := by omega
  obtain ⟨c1, c2⟩ := cellsDs_at N (j / 2) hi
  obtain ⟨d1, d2⟩ := hc (j / 2) hi
  rcases Nat.mod_two_eq_zero_or_one j with e0 | e0
  · rw [show j / 2 * 2 = j from by omega] at c1 d1
    rw [c1] at hu
    cases hu
    exact d1
  · rw [show j / 2 * 2 + 1 = j from by omega] at c2
    rw [show off + j / 2 * 2 + 1 = off + j from by omega] at d2
    rw [c2] at hu
    cases hu
    exact d2

/-- append(v, src...): v the call's own, src any dots that can be read. -/
theorem run_append_dots {w : World} {B ty n m cap : Nat} {v : Value} {a : Option Addr} {xs N : List (Int × Int)}
    (hown : OwnD w B v xs) (hn : xs.length = n) (hm : N.length = m) (hr : RdD w a N) (hnil : a = none → N = [] ∧ cap = 0) (h1 : n ≤ 65536) (h2 : m ≤ 65536) (hB : B ≤ w.heap.size) :
    ∃ a' cap' w', (Builtin.append_ #[30, 30] ty #[v, .slice a m cap]).run Try.prog w = .ok (.slice a' (n + m) cap') w' ∧ n + m ≤ cap' ∧ OwnD w' B (.slice a' (n + m) cap') (xs ++ N) ∧ RdD w' a' (xs ++ N) ∧ (a' = none → xs ++ N = [] ∧ cap' = 0) ∧ w.heap.size ≤ w'.heap.size ∧ Below B w w' := by
  subst hn hm
  obtain ⟨i0, hi, hz0, hz1, hz2⟩ := info_parts Try.infoDt
  have main : ∃ v' w', (Builtin.append_ #[30, 30] ty #[v, .slice a N.length cap]).run Try.prog w = .ok v' w' ∧ OwnD w' B v' (xs ++ N) ∧ w.grownBy w' v.ownBlock := by
    cases a with
    | none =>
      obtain ⟨rfl, rfl⟩ := hnil rfl
      exact ⟨v, w, run_append_owned_none (P := Try.prog) (w := w) B 30 ty 25 i0 2 Try.underlying30 hi v xs.length (cellsDs xs) hown, by simpa [OwnD] using hown, World.grownBy.refl _ _⟩
    | some ad =>
      have hsrc : ∀ j u, (cellsDs N)[j]? = some u → w.cell? (ad.add j) = some u := by
        rcases Nat.eq_zero_or_pos N.length with h0 | h0
        · obtain rfl := List.eq_nil_of_length_eq_zero h0
          intro j u hj
          simp [cellsDs] at hj
        · obtain ⟨ad', e, h⟩ := hr.src h0
          cases e
          exact h
      obtain ⟨v', w', hrun, ho, hg, _⟩ := run_append_own (P := Try.prog) (w := w) B 30 ty 25 i0 (.agg #[.int .i64 0, .int .i64 0]) 2 16 Try.underlying30 hi hz0 hz1 hz2 rfl (by decide) v xs.length (cellsDs xs) hown ad N.length cap (cellsDs N) (by rw [cellsDs_length]) hsrc (cellsDs_one _) (by unfold maxLen; omega) (by omega) hB
      refine ⟨v', w', hrun, ?_, hg⟩
      unfold OwnD
      rw [List.length_append, cellsDs_append]
      exact ho
  obtain ⟨v', w', hrun, ho, hg⟩ := main
  obtain ⟨a', cap', rfl, hc, hrd, hnl⟩ := ho.form
  rw [List.length_append] at hrun ho hc
  exact ⟨a', cap', w', hrun, hc, ho, hrd, hnl, hg.size, (Below.refl _ _).grown hg hB (fun k hk => (World.ownsRow.lt hown k hk).1)⟩

end Go.Proofs.Ytjpcljmlkgjbgaa
