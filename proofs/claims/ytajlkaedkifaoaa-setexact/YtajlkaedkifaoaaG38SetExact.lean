/-
  Texts of the proof of SetExact, one behind the other.
-/
import Derived.Test.YtajlkaedkifaoaaRows
import Derived.Test.YtajlkaedkifaoaaG30SetExact
import Derived.RangeFuncNested
import Derived.RangeFuncBound
import Derived.RangeFuncCalls
import Derived.RangeFuncLeaves
import Derived.Shelf.Abstract
import Derived.Shelf.RegionOpen
import Derived.WalkKit
import Derived.OwnWalkIn
import Derived.TacticsInMore
import Derived.LoopNIn
import Derived.LoopIn
import Derived.Maps.AppendAt
namespace Go.Proofs.Ytajlkaedkifaoaa
open Go.RowKit Go.Shelf
set_option linter.unusedVariables false

attribute [local go_sem] Oper.semAt_some

/-- An Item's two cells: where its row lies, and its weight. -/
structure ZI where
  a : Option Addr
  n : Nat
  c : Nat
  wt : Int

instance : Inhabited ZI := ⟨⟨none, 0, 0, 0⟩⟩

def ZI.cells (z : ZI) : List Value := [.slice z.a z.n z.c, .int .i64 z.wt]

theorem ZI.wide (zs : List ZI) : Wide 2 (zs.map ZI.cells) := fun c hc => by
  obtain ⟨z, -, rfl⟩ := List.mem_map.1 hc
  exact ⟨rfl, fun u hu => by simp [ZI.cells] at hu; rcases hu with rfl | rfl <;> rfl⟩

/-- The Items' cells, in a block below n₀. -/
def RdI2 (n₀ : Nat) (W : World) (a : Option Addr) (zs : List ZI) : Prop :=
  0 < zs.length → ∃ b off, a = some ⟨b, off, none⟩ ∧ b < n₀ ∧ ∀ j (h : j < zs.length), W.cell? ⟨b, off + j * 2, none⟩ = some (.slice zs[j].a zs[j].n zs[j].c) ∧ W.cell? ⟨b, off + j * 2 + 1, none⟩ = some (.int .i64 zs[j].wt)

theorem RdI2.below {n₀ : Nat} {A B : World} (h : Below n₀ A B) {a : Option Addr} {zs : List ZI} (k : RdI2 n₀ A a zs) : RdI2 n₀ B a zs := fun h0 => by
  obtain ⟨b, off, e, hb, hc⟩ := k h0
  exact ⟨b, off, e, hb, fun j hj => ⟨(h.cell (p := ⟨b, off + j * 2, none⟩) hb).trans (hc j hj).1, (h.cell (p := ⟨b, off + j * 2 + 1, none⟩) hb).trans (hc j hj).2⟩⟩

abbrev encI2 (z : ZI) : Array Value := #[.agg #[.slice z.a z.n z.c, .int .i64 z.wt]]

set_option maxRecDepth 100000 in
set_option maxHeartbeats 2000000 in
theorem zvalues1_in (F : Fence) (n : Nat) (hf : F.fn 55) (hro : F.round = none) (hn : 1 ≤ n) (l Bs n₀ len cap : Nat) (a : Option Addr) (zs : List ZI) (hlen : zs.length = len) (hreach : len ≤ 4194304) (J Jx : List ZI → World → Prop)
    (hY : ∀ pre x W, J pre W → pre.length < len → YieldAt F (n - 1) Try.prog l (encI2 x) W fun e W' =>
      (e = .returned (.bool true) ∧ J (pre ++ [x]) W' ∧ Below n₀ W W') ∨ (e = .returned (.bool false) ∧ Jx (pre ++ [x]) W'))
    (B0 : Nat) (hJ : AbidesFrom B0 J) (W : World) (hBs : W.cell? ⟨Bs, 0, none⟩ = some (.slice a len cap)) (hc : RdI2 n₀ W a zs) (h0 : J [] W) (hn0 : n₀ ≤ W.heap.size) :
    CallsIn F n Try.prog 55 #[.func (.yield l) #[] #[], .pointer (some ⟨Bs, 0, none⟩)] W fun e W' => (∃ v, e = .returned v) ∧
      ((∃ ys, ys = zs ∧ J ys W') ∨ (∃ pre, pre <+: zs ∧ Jx pre W')) := by
  refine callsIn_of_wp Try.func55 rfl hf ?_ hro
  simp only [Try.ntmps55, List.size_toArray, List.length_cons, List.length_nil, Nat.reduceAdd, Nat.reduceSub, Array.replicate_succ, Array.replicate_zero, List.push_toArray, List.append_toArray, List.nil_append, List.cons_append]
  have HN : Hid (zs.length = len) := hlen
  have HN0 : Hid (n₀ ≤ W.heap.size) := hn0
  clear hlen hn0
  gi_wp2
  gi_loopw [7] (fun i wr => ∃ k : Nat, k ≤ len ∧ i = .int .i64 k ∧ J (zs.take k) wr ∧ Hid (Below n₀ W wr)) (fun i _ => len - (intOf i).toNat)
  case atStart => exact ⟨0, Nat.zero_le _, rfl, h0, Below.refl _ _⟩
  case round =>
    obtain ⟨k, hk, rfl, hJs, hnx⟩ := hrel
    by_cases hlt : k < len
    · have hkl : k < zs.length := by rw [HN.out]; exact hlt
      obtain ⟨b, off, rfl, hb, hcs⟩ := (hc.below hnx.out) (by omega)
      obtain ⟨x0, x1⟩ := hcs k hkl
      have hJ1 : J (zs.take k) (wr.alloc (.cells #[.slice zs[k].a zs[k].n zs[k].c, .int .i64 zs[k].wt] 40)) := hJ _ _ _ none hJs (World.grownBy_alloc wr _ none) (fun r e => by cases e)
      have hB1 : Hid (Below n₀ W (wr.alloc (.cells #[.slice zs[k].a zs[k].n zs[k].c, .int .i64 zs[k].wt] 40))) := Below.alloc hnx.out (Nat.le_trans HN0.out hnx.out.size) _
      obtain ⟨fn, tmps, assign, body, hy, hR⟩ := hY _ zs[k] _ hJ1 (by rw [List.length_take]; omega)
      have HT : Hid (zs.take k ++ [zs[k]] = zs.take (k + 1)) := (List.take_succ_eq_append_getElem hkl).symm
      rw [HT.out] at hR
      have HP : Hid (zs.take (k + 1) <+: zs) := List.take_prefix _ _
      generalize zs[k] = z at *
      obtain ⟨za, zn, zc, zw⟩ := z
      simp only at x0 x1 hy hB1
      clear hcs hJ1 hJs
      gi_wp2
      refine hR.mono ?_
      rintro e W3 (⟨rfl, hJ3, hk3⟩ | ⟨rfl, hJx3⟩)
      · gi_wp2
        go_roundw
        case rel => exact ⟨k + 1, by omega, by simp, hJ3, hB1.out.trans hk3⟩
        case measure => simp [intOf]; omega
      · gi_wp2
        refine bodyPost_ret (results_none rfl _ _ _) rfl ?_
        exact ⟨⟨_, rfl⟩, .inr ⟨_, HP.out, hJx3⟩⟩
    · obtain rfl : k = len := by omega
      rw [List.take_of_length_le (by rw [HN.out]; omega)] at hJs
      gi_wp2
      go_end0
      exact ⟨⟨_, rfl⟩, .inl ⟨_, rfl, hJs⟩⟩

set_option maxHeartbeats 1000000 in
/-- slices.Values(s): the slice's value is boxed; the function value captures the box. -/
theorem zvalues_in (F : Fence) (n : Nat) (hf : F.fn 35) (hro : F.round = none) (a : Option Addr) (len cap : Nat) (w : World) :
    CallsIn F n Try.prog 35 #[.slice a len cap] w fun e w' => e = .returned (.func (.func 55) #[] #[.pointer (some ⟨w.heap.size, 0, none⟩)]) ∧ w' = w.alloc (.cells #[.slice a len cap] 22) := by
  refine callsIn_of_wp Try.func35 rfl hf ?_ hro
  simp only [Try.ntmps35, List.size_toArray, List.length_cons, List.length_nil, Nat.reduceAdd, Nat.reduceSub, Array.replicate_succ, Array.replicate_zero, List.push_toArray, List.append_toArray, List.nil_append, List.cons_append]
  gi_wp2
  go_ret
  exact ⟨rfl, rfl⟩

/-- What slices.Values hands back gives the Items, in order. -/
theorem zvalues_stops (F : Fence) (n : Nat) (hf : F.fn 55) (hro : F.round = none) (hn : 1 ≤ n) (Bs n₀ len cap : Nat) (a : Option Addr) (zs : List ZI) (hlen : zs.length = len) (hreach : len ≤ 4194304) (w : World) (hBs : Bs < w.heap.size) (hn₀ : n₀ ≤ w.heap.size)
    (hc : w.cell? ⟨Bs, 0, none⟩ = some (.slice a len cap)) (hI : RdI2 n₀ w a zs) :
    SeqStopsK F n Try.prog 55 #[.pointer (some ⟨Bs, 0, none⟩)] encI2 (Below n₀) (fun ys => ys = zs) (fun pre => pre <+: zs) len w := fun l J Jx W hW hJ _ hY h0 =>
  zvalues1_in F n hf hro hn l Bs n₀ len cap a zs hlen hreach J Jx hY _ hJ W ((hW.cell (p := ⟨Bs, 0, none⟩) hBs).trans hc) (hI.below (hW.mono hn₀)) h0 (Nat.le_trans hn₀ hW.size)

theorem Try.infoItem : (Try.prog.info? 40).map (fun i => (i.zero, i.size, i.bytes)) = some (some (.agg #[.slice none 0 0, .int .i64 0]), 2, 32) := by kernel_rfl

theorem ktItem : KT 22 40 2 [.slice none 0 0, .int .i64 0] := by
  obtain ⟨i, h1, h2, h3, h4⟩ := info_parts Try.infoItem
  exact ⟨Try.underlying22, ⟨i, 32, h1, h2, h3, h4, by omega⟩, rfl, fun u hu => by simp at hu; rcases hu with rfl | rfl <;> rfl, by omega⟩

theorem two_new {w : World} {u v : Value} {t : TypeId} : ∀ (j : Nat) (x : Value), [u, v][j]? = some x → (w.alloc (.cells #[u, v] t)).cell? ((⟨w.heap.size, 0, none⟩ : Addr).add j) = some x := fun j x hj => by
  have hb := World.alloc_heap_new w (.cells #[u, v] t)
  rw [add_plain3, Nat.zero_add]
  show (match (w.alloc (.cells #[u, v] t)).heap[w.heap.size]? with | some (.cells c _ _) => _ | _ => _) = _
  rw [hb]
  simpa using hj

set_option maxRecDepth 100000 in
set_option maxHeartbeats 4000000 in
/-- slices.AppendSeq of nothing and what gives Items. -/
theorem zappendSeq_in (F : Fence) (n : Nat) (hf : F.fn 62) (hro : F.round = none) (hn : 3 ≤ n) (g : Nat) (lb : Array Value) (hFg : F.fn g) (eg : ∀ args w, (callFunc g args).run Try.prog w = .ok (.enter g args) w)
    (zs : List ZI) (hreach : zs.length ≤ 4194304) (w : World) (hseq : SeqStopsK F (n - 1) Try.prog g lb encI2 (Below w.heap.size) (fun ys => ys = zs) (fun pre => pre <+: zs) zs.length w) :
    CallsIn F n Try.prog 62 #[.slice none 0 0, .func (.func g) #[] lb] w fun e W' => ∃ v, e = .returned v ∧ OwnK 2 40 W' w.heap.size v (zs.map ZI.cells) ∧ Below w.heap.size w W' := by
  have h1 : 1 ≤ n := by omega
  obtain ⟨i0, hi, hz0, hz1, hz2⟩ := info_parts Try.infoItem
  refine callsIn_of_wp_marks Try.func62 rfl hf ?_ hro
  simp only [Try.ntmps62, List.size_toArray, List.length_cons, List.length_nil, Nat.reduceAdd, Nat.reduceSub, Array.replicate_succ, Array.replicate_zero, List.push_toArray, List.append_toArray, List.nil_append, List.cons_append]
  gi_wp2
  have bO := Boxed.new w 22 (.slice none 0 0)
  have hB0 : Below w.heap.size w (w.alloc (.cells #[.slice none 0 0] 22)) := (Below.refl _ w).alloc (Nat.le_refl _) _
  refine wpIn_rangeFunc_ownH hro h1 (gf := g) (lb := lb) rfl hFg eg hseq belowK_t (belowK_b (by simp)) hB0 (fun _ => rfl)
    (fun (pre : List ZI) W => (∃ v, Boxed W w.heap.size 22 v ∧ W.ownsRow w.heap.size 40 2 v pre.length (pre.map ZI.cells).flatten ∧ True) ∧ Below w.heap.size w W)
    (fun _ _ _ => False)
    (OwnFrom.and (Own.from (holdsRow_own w.heap.size w.heap.size 22 40 2 (fun (pre : List ZI) => pre.length) (fun (pre : List ZI) => (pre.map ZI.cells).flatten) (fun _ v => True)) _) (ownFrom_below (Nat.le_refl _) (by simp)))
    (fun _ _ _ _ _ hs _ _ => hs)
    ⟨⟨_, bO, World.ownsRow_nil _ _ _ _, trivial⟩, hB0⟩
    (fun (x : ZI) a' W => ∃ Bx, w.heap.size < Bx ∧ W.heap[Bx]? = some (.cells #[.slice x.a x.n x.c, .int .i64 x.wt] 40 (0, 0)) ∧ a' = { tmps := #[.slice none 0 0, .func (.func g) #[] lb, .pointer (some ⟨w.heap.size, 0, none⟩), undef, .slice none 0 0, .pointer (some ⟨Bx, 0, none⟩), .func (.func g) #[] lb, .agg #[.slice x.a x.n x.c, .int .i64 x.wt], undef, undef, undef, undef, undef], defers := [] })
    (fun x a' s A B row hs hg hr => by
      obtain ⟨Bx, h1, h2, h3⟩ := hs
      refine ⟨Bx, h1, (hg.block Bx (Array.getElem?_eq_some_iff.1 h2).1 (fun e => ?_)).trans h2, h3⟩
      obtain ⟨o, ho, hc⟩ := (hr Bx e.symm).2
      rw [h2] at ho
      cases ho
      cases hc)
    ?assign ?body ?done ?stop
  case assign =>
    rintro l pre ⟨xa, xn, xc, xw⟩ W K ⟨⟨v, hv, hrow, _⟩, hB⟩ hK
    gi_wp2
    have hkept : (W.alloc (.cells #[.slice xa xn xc, .int .i64 xw] 40)).ownsRow w.heap.size 40 2 v pre.length (pre.map ZI.cells).flatten := hrow.alloc _
    exact hK _ _ ((KeepsOthers.alloc _ _).from _) ((Below.refl _ W).alloc hB.size _) ⟨⟨v, hv.alloc _, hkept, trivial⟩, hB.alloc hB.size _⟩ ⟨W.heap.size, hv.lt, World.alloc_heap_new W _, rfl⟩
  case body =>
    rintro l pre ⟨xa, xn, xc, xw⟩ a' W hl hrr ⟨⟨v, hv, hrow, _⟩, hB⟩ ⟨Bx, hBx, hbx, rfl⟩ hlt
    have hc := hv.cell
    have x0 : W.cell? ⟨Bx, 0, none⟩ = some (.slice xa xn xc) := by simp [World.cell?, hbx]
    have x1 : W.cell? ⟨Bx, 1, none⟩ = some (.int .i64 xw) := by simp [World.cell?, hbx]
    clear hrr hbx
    gi_wp2_with (gi_at_builtin; refine wpListIn_append_own _ rfl _ _ 22 rfl w.heap.size 40 i0 (.agg #[.slice none 0 0, .int .i64 0]) 2 32 Try.underlying22 hi hz0 hz1 hz2 rfl (by decide) _ _ _ rfl (hrow.alloc _) ⟨W.heap.size, 0, none⟩ 1 1 [.slice xa xn xc, .int .i64 xw] rfl rfl two_new (by simp [Value.oneCell']) (by unfold maxLen; omega) (by omega) (by have := hB.size; simp; omega) ?_; intro v' w1 hown' hgrow _; obtain ⟨g', cap', rfl⟩ := ownsRow_succ hown'; obtain ⟨hv1, hv2, hr2, hk2, hb2⟩ := hv.appended (by decide) hrow hB.size (Nat.le_refl _) hown' hgrow; have hc1 := hv1.cell; have hf1 := hv1.frozen)
    refine ⟨hk2.from _, hb2, ⟨_, hv2, ?_⟩, hB.trans hb2⟩
    rw [List.map_append, List.flatten_append, List.length_append]
    exact hr2
  case done =>
    rintro D ys W hD rfl ⟨⟨v, hv, hrow, _⟩, hB⟩ hK
    have hc := hv.cell
    gi_wp2
    refine ⟨by simp, .inl ⟨_, _, rfl, run_takeDeferred hK, ?_⟩⟩
    refine ⟨_, results_tmp rfl _ _ _, v, rfl, ⟨ZI.wide ys, ?_⟩, hB.trans (belowK_b (w := w) (Nat.le_refl _) W D _ _ (by simp at hD; omega) hK rfl rfl)⟩
    rw [List.length_map]
    exact ownsRow_putObj hrow _ hK rfl
  case stop =>
    rintro D c pre W _ _ h _
    exact h.elim

set_option maxHeartbeats 1000000 in
/-- slices.Collect. -/
theorem zcollect_in (F : Fence) (n : Nat) (hf : F.fn 53) (hf2 : F.fn 62) (hro : F.round = none) (hn : 4 ≤ n) (g : Nat) (lb : Array Value) (hFg : F.fn g) (eg : ∀ args w, (callFunc g args).run Try.prog w = .ok (.enter g args) w)
    (zs : List ZI) (hreach : zs.length ≤ 4194304) (w : World) (hseq : SeqStopsK F (n - 1 - 1) Try.prog g lb encI2 (Below w.heap.size) (fun ys => ys = zs) (fun pre => pre <+: zs) zs.length w) :
    CallsIn F n Try.prog 53 #[.func (.func g) #[] lb] w fun e W' => ∃ v, e = .returned v ∧ OwnK 2 40 W' w.heap.size v (zs.map ZI.cells) ∧ Below w.heap.size w W' := by
  have h1 : 1 ≤ n := by omega
  have C := zappendSeq_in F (n - 1) hf2 hro (by omega) g lb hFg eg zs hreach w hseq
  refine callsIn_of_wp Try.func53 rfl hf ?_ hro
  simp only [Try.ntmps53, List.size_toArray, List.length_cons, List.length_nil, Nat.reduceAdd, Nat.reduceSub, Array.replicate_succ, Array.replicate_zero, List.push_toArray, List.append_toArray, List.nil_append, List.cons_append]
  gi_wp2_with (gi_at_call 62; refine C.mono ?_; rintro e w' ⟨v, rfl, ho, hb⟩; obtain ⟨a, cap, e, -⟩ := ho.form; rw [List.length_map] at e; subst e)
  go_ret
  exact ⟨_, rfl, ho, hb⟩

end Go.Proofs.Ytajlkaedkifaoaa
