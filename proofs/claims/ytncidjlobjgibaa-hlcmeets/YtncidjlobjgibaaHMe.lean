/-
  HlcMeets' walk: what the law answers, whatever its walls, whoever is told.
-/
import Derived.Test.YtncidjlobjgibaaRows
import Derived.Test.YtncidjlobjgibaaHLa
import Derived.Deep.Grids
namespace Go.Proofs.Ytncidjlobjgibaa
open Go.ChangeShapes Go.WideShapes Go.ChangeAt Go.RowKit Go.Lib
set_option linter.unusedVariables false

/-- A slice's beginning, and the bools that are read from there on. -/
def RdB (w : World) (a : Option Addr) (L : List Bool) : Prop :=
  0 < L.length → ∃ b off, a = some ⟨b, off, none⟩ ∧ ∀ i (hi : i < L.length), w.cell? ⟨b, off + i, none⟩ = some (.bool L[i])

theorem RdB.later {w w' : World} {a : Option Addr} {L : List Bool} (h : RdB w a L) (hb : Below w.heap.size w w') : RdB w' a L := by
  intro h0
  obtain ⟨b, off, e, hc⟩ := h h0
  exact ⟨b, off, e, fun i hi => cell_later hb (hc i hi)⟩

/-- A slice of bools that came in. -/
def IsBools (w : World) (a : Option Addr) (len cap : Nat) (L : List Bool) : Prop := L.length = len ∧ len ≤ 9223372036854775807 ∧ RdB w a L

theorem bools_of {H : Type} {enc : TypeId × Value → H} {w : World} {a : Option Addr} {len cap : Nat} {d : DataW H} {p : List MemPlace}
    (h : DataW.Trod enc Try.prog w 0 (fun _ => true) true 41 (Value.slice a len cap) d p) : ∃ L, IsBools w a len cap L := by
  obtain ⟨fuel, hf⟩ := h
  have hcb : Try.prog.cellsOf 4 = 1 := by kernel_rfl
  rcases DataW.trod_slice Try.underlying41 hf with ⟨hcs, _⟩ | ⟨x, l, c, elems, rest, n, _, hcs, _, _, hl, hm, hlen, hel, _, _⟩
  · simp [Value.cells] at hcs
    obtain ⟨rfl, rfl, rfl⟩ := hcs
    exact ⟨[], rfl, by omega, fun h => absurd h (by simp)⟩
  · simp [Value.cells] at hcs
    obtain ⟨rfl, rfl, rfl⟩ := hcs
    have each : ∀ i, i < len → ∃ v : Bool, w.cell? (x.add i) = some (.bool v) := by
      intro i hi
      have h1 := hel i hi
      rw [hcb, List.getElem?_eq_getElem (by omega), Option.bind_eq_some_iff, Nat.mul_one] at h1
      obtain ⟨cs, hcs, hy⟩ := h1
      have hu : ∃ u, cs = [u] ∧ w.cell? (x.add i) = some u := by
        unfold World.cells? at hcs
        split at hcs
        · rw [show List.range 1 = [0] from rfl] at hcs
          simp only [List.mapM_cons, List.mapM_nil, Option.pure_def, Option.bind_eq_bind, Option.bind_eq_some_iff, Option.some.injEq] at hcs
          obtain ⟨u, hu, r, rfl, rfl⟩ := hcs
          have h0 : (x.add i).add 0 = x.add i := by unfold Addr.add; split <;> simp_all
          rw [h0] at hu
          exact ⟨u, rfl, hu⟩
        · cases hcs
      obtain ⟨u, rfl, hu⟩ := hu
      obtain ⟨b, e, _⟩ := DataW.trod_bool Try.underlying4 hy
      simp at e
      exact ⟨b, by rw [hu, e]⟩
    refine ⟨(List.range len).map fun i => if h : i < len then (each i h).choose else false, by simp, by unfold maxLen at hm; omega, fun h0 => ?_⟩
    have hx : x.spot = none := by
      obtain ⟨u, hu⟩ := each 0 (by simpa using h0)
      have := World.cell?_spot hu
      simpa [Addr.add] using this
    obtain ⟨b, off, sp⟩ := x
    simp only at hx
    subst hx
    refine ⟨b, off, rfl, fun i hi => ?_⟩
    have hi' : i < len := by simpa using hi
    have := (each i hi').choose_spec
    rw [← add_plain3]
    simp only [List.getElem_map, List.getElem_range, dif_pos hi']
    exact this

/-- Two times side by side, the one at place p, the other one at r. -/
def AtB (w : World) (g p r : Nat) (X Y : PS) : Prop :=
  ∃ cs : Array Value, w.heap[g]? = some (.cells cs 42 (0, 0)) ∧ (cs[p * 3]? = some (.int .i64 X.p) ∧ cs[p * 3 + 1]? = some (.int .i64 X.l) ∧ cs[p * 3 + 2]? = some (.int .i64 X.q)) ∧ (cs[r * 3]? = some (.int .i64 Y.p) ∧ cs[r * 3 + 1]? = some (.int .i64 Y.l) ∧ cs[r * 3 + 2]? = some (.int .i64 Y.q))

theorem AtB.made {w : World} {g : Nat} (hg : w.heap.size = g) : AtB (w.alloc (.cells #[.int .i64 0, .int .i64 0, .int .i64 0, .int .i64 0, .int .i64 0, .int .i64 0] 42)) g 0 1 noS noS := by
  subst hg
  exact ⟨#[.int .i64 0, .int .i64 0, .int .i64 0, .int .i64 0, .int .i64 0, .int .i64 0], by show (w.heap.push _)[w.heap.size]? = _; simp, ⟨rfl, rfl, rfl⟩, rfl, rfl, rfl⟩

theorem AtB.flip {w : World} {g p r : Nat} {X Y : PS} (h : AtB w g p r X Y) : AtB w g r p Y X := by
  obtain ⟨cs, h1, h2, h3⟩ := h
  exact ⟨cs, h1, h3, h2⟩

theorem AtB.lt {w : World} {g p r : Nat} {X Y : PS} (h : AtB w g p r X Y) : g < w.heap.size := by
  obtain ⟨cs, h, _⟩ := h
  rcases Nat.lt_or_ge g w.heap.size with h1 | h1
  · exact h1
  · simp [Array.getElem?_eq_none h1] at h

theorem AtB.later {w w' : World} {B g p r : Nat} {X Y : PS} (h : AtB w g p r X Y) (hb : Below B w w') (hg : g < B) : AtB w' g p r X Y := by
  obtain ⟨cs, h1, h2⟩ := h
  exact ⟨cs, (hb.block g hg).trans h1, h2⟩

theorem AtB.cells {w : World} {g p r : Nat} {X Y : PS} (h : AtB w g p r X Y) : w.cell? ⟨g, p * 3, none⟩ = some (.int .i64 X.p) ∧ w.cell? ⟨g, p * 3 + 1, none⟩ = some (.int .i64 X.l) ∧ w.cell? ⟨g, p * 3 + 2, none⟩ = some (.int .i64 X.q) := by
  obtain ⟨cs, h1, ⟨a, b, c⟩, _⟩ := h
  exact ⟨by rw [cell_of_row w g _ _ _ _ h1]; exact a, by rw [cell_of_row w g _ _ _ _ h1]; exact b, by rw [cell_of_row w g _ _ _ _ h1]; exact c⟩

theorem AtB.frozen {w : World} {g p r : Nat} {X Y : PS} (h : AtB w g p r X Y) (i : Nat) : w.frozen? ⟨g, i, none⟩ = false := by
  obtain ⟨cs, h1, _⟩ := h
  simp [World.frozen?, h1]

theorem AtB.set {w : World} {g p r : Nat} {X Y : PS} (h : AtB w g p r X Y) (hn : p ≠ r) (np nl nq : Int) : AtB (((w.setCell ⟨g, p * 3, none⟩ (.int .i64 np)).setCell ⟨g, p * 3 + 1, none⟩ (.int .i64 nl)).setCell ⟨g, p * 3 + 2, none⟩ (.int .i64 nq)) g p r ⟨np, nl, nq⟩ Y := by
  obtain ⟨cs, h1, ⟨a, b, c⟩, d, e, f⟩ := h
  have sz : p * 3 + 2 < cs.size := (Array.getElem?_eq_some_iff.1 c).1
  refine ⟨_, Go.heap_setCell_same _ _ _ _ _ _ (Go.heap_setCell_same _ _ _ _ _ _ (Go.heap_setCell_same _ _ _ _ _ _ h1)), ⟨?_, ?_, ?_⟩, ?_, ?_, ?_⟩
  all_goals simp only [Array.getElem?_setIfInBounds, Array.size_setIfInBounds]
  · rw [if_neg (by omega), if_neg (by omega), if_pos trivial, if_pos (by omega)]
  · rw [if_neg (by omega), if_pos trivial, if_pos (by omega)]
  · rw [if_pos trivial, if_pos (by omega)]
  · rw [if_neg (by omega), if_neg (by omega), if_neg (by omega)]; exact d
  · rw [if_neg (by omega), if_neg (by omega), if_neg (by omega)]; exact e
  · rw [if_neg (by omega), if_neg (by omega), if_neg (by omega)]; exact f

/-- What is written at three places of a block. -/
theorem below_set3' {w w1 : World} {B g o : Nat} {x y z : Value} (h : Below B w w1) (hg : B ≤ g) : Below B w (((w1.setCell ⟨g, o, none⟩ x).setCell ⟨g, o + 1, none⟩ y).setCell ⟨g, o + 2, none⟩ z) := ((h.setCell hg _).setCell hg _).setCell hg _

theorem BoxS.beside' {w : World} {g h o : Nat} {p l q : Int} {x y z : Value} (H : BoxS w g p l q) (hn : g ≠ h) : BoxS (((w.setCell ⟨h, o, none⟩ x).setCell ⟨h, o + 1, none⟩ y).setCell ⟨h, o + 2, none⟩ z) g p l q := by
  unfold BoxS at H ⊢
  rw [Go.heap_setCell_other _ _ _ _ (by simpa using hn), Go.heap_setCell_other _ _ _ _ (by simpa using hn), Go.heap_setCell_other _ _ _ _ (by simpa using hn)]
  exact H

theorem OwnT.beside {w : World} {B h o : Nat} {v x y z : Value} {xs : List PS} (H : OwnT w B v xs) (hn : h < B) : OwnT (((w.setCell ⟨h, o, none⟩ x).setCell ⟨h, o + 1, none⟩ y).setCell ⟨h, o + 2, none⟩ z) B v xs := by
  obtain ⟨h1, h2 | ⟨g, cap, cur, hv, hg, hh, hc⟩⟩ := H
  · exact ⟨h1, .inl h2⟩
  · refine ⟨h1, .inr ⟨g, cap, cur, hv, hg, ?_, hc⟩⟩
    rw [Go.heap_setCell_other _ _ _ _ (by simp; omega), Go.heap_setCell_other _ _ _ _ (by simp; omega), Go.heap_setCell_other _ _ _ _ (by simp; omega)]
    exact hh

/-- append, where its run is known. -/
theorem wp_append_run {P : Program} {o : Oper} {a : Act} {w : World} {K : Act → World → Prop} {Q : Exit → Act → World → Prop}
    (s x : Operand) (t u : TypeId) (hop : o.op = Op.call { callee := Callee.builtin Builtin.append, args := #[s, x], argTypes := #[t, u] })
    (v y v' : Value) (w' : World) (hs : a.eval s = v) (hx : a.eval x = y) (hrun : (Builtin.append_ #[t, u] o.type #[v, y]).run P w = .ok v' w')
    (hK : K (a.put o.dst v') w') : Oper.wp P o a w K Q := by
  unfold Oper.wp
  simp [execOp, hop, resolve, invoke, builtin, hs, hx, hrun, Result.andThen]
  exact hK

/-- append(v, x): v a row of times of the call's own; other blocks stay. -/
theorem append_stamp {w : World} {B ty n b : Nat} {v : Value} {xs : List PS} {s : PS} (hown : OwnT w B v xs) (hn : xs.length = n) (h1 : n ≤ 65536) (hB : B ≤ w.heap.size) (hr : RdT w (some ⟨b, 0, none⟩) [s]) :
    ∃ a' cap' w', (Builtin.append_ #[38, 38] ty #[v, .slice (some ⟨b, 0, none⟩) 1 1]).run Try.prog w = .ok (.slice a' (n + 1) cap') w' ∧ n + 1 ≤ cap' ∧ OwnT w' B (.slice a' (n + 1) cap') (xs ++ [s]) ∧ RdT w' a' (xs ++ [s]) ∧ Below B w w' ∧ ∀ k, k < w.heap.size → v.ownBlock ≠ some k → w'.heap[k]? = w.heap[k]? := by
  subst hn
  obtain ⟨i0, hi, hz0, hz1, hz2⟩ := info_parts Try.infoSt
  obtain ⟨ad, e, hsrc⟩ := hr.src (by simp)
  cases e
  obtain ⟨v', w', hrun, ho, hg, _⟩ := run_append_own (P := Try.prog) (w := w) B 38 ty 23 i0 (.agg #[.int .i64 0, .int .i64 0, .int .i64 0]) 3 24 Try.underlying38 hi hz0 hz1 hz2 rfl (by decide) v xs.length (cellsT xs) hown ⟨b, 0, none⟩ 1 1 (cellsT [s]) (by rw [cellsT_length]; rfl) hsrc (cellsT_one _) (by unfold maxLen; omega) (by omega) hB
  have ho' : OwnT w' B v' (xs ++ [s]) := by
    unfold OwnT
    rw [List.length_append, cellsT_append]
    exact ho
  obtain ⟨a', cap', rfl, hc, hrd, _⟩ := ho'.form
  rw [List.length_append] at hrun ho' hc
  exact ⟨a', cap', w', hrun, hc, ho', hrd, (Below.refl _ _).grown hg hB (fun k hk => hown.block k hk), fun k hk hne => hg.block k hk (fun h => hne h.symm)⟩

end Go.Proofs.Ytncidjlobjgibaa
