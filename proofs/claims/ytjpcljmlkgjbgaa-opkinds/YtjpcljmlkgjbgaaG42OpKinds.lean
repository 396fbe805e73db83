/-
  Texts of the proof of OpKinds, one behind the other.
-/
import Derived.Test.YtjpcljmlkgjbgaaRows
import Derived.Test.YtjpcljmlkgjbgaaG41OpKinds
import Derived.WalkKit
import Derived.Shelf.Abstract
import Derived.WalkSpells
import Derived.Test.YtjpcljmlkgjbgaaG18OpKinds
import Derived.Test.YtjpcljmlkgjbgaaG36OpKinds
import Derived.Test.YtjpcljmlkgjbgaaG33OpKinds
import Derived.Test.YtjpcljmlkgjbgaaG19OpKinds
namespace Go.Proofs.Ytjpcljmlkgjbgaa
open Go.RowKit Go.Lib
set_option linter.unusedVariables false

/-- The first place at which it holds, or -1. -/
def idxP (n : Nat) (p : Nat → Bool) : Int := match (List.range n).find? p with | some k => (k : Int) | none => -1

theorem find_range_none {n : Nat} {p : Nat → Bool} (h : (List.range n).find? p = none) : ∀ k, k < n → p k = false := fun k hk => by
  have := List.find?_eq_none.1 h k (List.mem_range.2 hk)
  simpa using this

theorem find_range_some {p : Nat → Bool} : ∀ {n k : Nat}, k < n → p k = true → (∀ i, i < k → p i = false) → (List.range n).find? p = some k
  | 0, k, hk, _, _ => absurd hk (by omega)
  | n + 1, k, hk, hp, hb => by
    rw [List.range_succ, List.find?_append]
    by_cases h : k < n
    · rw [find_range_some h hp hb]
      rfl
    · obtain rfl : k = n := by omega
      rw [List.find?_eq_none.2 fun i hi => by rw [hb i (List.mem_range.1 hi)]; simp]
      simp [hp]

theorem find_range_no {p : Nat → Bool} {n : Nat} (hb : ∀ i, i < n → p i = false) : (List.range n).find? p = none :=
  List.find?_eq_none.2 fun i hi => by rw [hb i (List.mem_range.1 hi)]; simp

theorem idxP_yes {p : Nat → Bool} {n k : Nat} (hk : k < n) (hp : p k = true) (hb : ∀ i, i < k → p i = false) : idxP n p = k := by
  unfold idxP
  rw [find_range_some hk hp hb]

theorem idxP_no {p : Nat → Bool} {n : Nat} (hb : ∀ i, i < n → p i = false) : idxP n p = -1 := by
  unfold idxP
  rw [find_range_no hb]

end Go.Proofs.Ytjpcljmlkgjbgaa

namespace Go.Proofs.Ytjpcljmlkgjbgaa
open Go.RowKit Go.Lib
set_option linter.unusedVariables false

/-- What is left when all but the first so many are cleared. -/
theorem OwnC.cut {w : World} {B r n cap k : Nat} {C : List (List Value)} (h : OwnC w B (.slice (some ⟨r, 0, none⟩) n cap) C) (hn : C.length = n) (hk : k ≤ n) (z : List Value) : OwnC (w.setCells r (k * 12) z) B (.slice (some ⟨r, 0, none⟩) k cap) (C.take k) := by
  obtain ⟨hd, h⟩ := h
  rw [hn] at h
  rcases h.2 with ⟨h0, _⟩ | ⟨g', cap', cur, hv, hg, hh, hc, hm, hs, ht⟩
  · cases h0
  cases hv
  have hdt : Dozen (C.take k) := hd.sub fun c hc => List.mem_of_mem_take hc
  have e1 : (C.take k).length = k := by simp; omega
  refine ⟨hdt, by rw [flat_length hdt], .inr ⟨r, cap, _, by rw [e1], hg, setCells_block r _ z (k * 12) w cur hh, by rw [e1]; omega, hm, by rw [over_size, hs], ?_⟩⟩
  rw [e1, over_take _ _ _ _ (Nat.le_refl _), ← flat_take hd, ← ht, List.take_take, Nat.min_eq_left (by omega)]

theorem OwnC.grown {w w' : World} {B r n cap : Nat} {C : List (List Value)} (h : OwnC w B (.slice (some ⟨r, 0, none⟩) n cap) C) (hb : Below w.heap.size w w') : OwnC w' B (.slice (some ⟨r, 0, none⟩) n cap) C := h.later hb

theorem OwnC.slots {w : World} {B r n cap k : Nat} {C : List (List Value)} (h : OwnC w B (.slice (some ⟨r, 0, none⟩) n cap) C) (hn : C.length = n) (hk : k < n) (j : Nat) (hj : j < 12) : (∃ u, w.cell? ⟨r, k * 12 + j, none⟩ = some u) ∧ w.frozen? ⟨r, k * 12 + j, none⟩ = false := by
  obtain ⟨hd, h⟩ := h
  rw [hn] at h
  refine ⟨?_, World.ownsRow.frozenAt h _⟩
  rw [World.ownsRow.cellAt h (k * 12 + j) (by omega), flat_at hd k (by omega) j hj]
  exact ⟨_, List.getElem?_eq_getElem (by rw [hd.at_ (by omega)]; exact hj)⟩

/-- Cells that an operation may have. -/
def Shape (c : List Value) : Prop := ∃ (dp dn : Int) (da : Option Addr) (nd dc : Nat) (sp sl sq kd tb : Int) (ky : ByteArray) (cl : Int) (va : Option Addr) (nv vc : Nat) (oa : Option Addr) (no oc : Nat),
  c = [.int .i64 dp, .int .i64 dn, .slice da nd dc, .int .i64 sp, .int .i64 sl, .int .i64 sq, .int .i64 kd, .int .i64 tb, .string ky, .int .i64 cl, .slice va nv vc, .slice oa no oc]

theorem cells12 {w : World} {b : Nat} {c0 c1 c2 c3 c4 c5 c6 c7 c8 c9 c10 c11 : Value} {t : TypeId} (h : CellsAt w b #[c0, c1, c2, c3, c4, c5, c6, c7, c8, c9, c10, c11] t) :
    w.cell? ⟨b, 0, none⟩ = some c0 ∧ w.cell? ⟨b, 1, none⟩ = some c1 ∧ w.cell? ⟨b, 2, none⟩ = some c2 ∧ w.cell? ⟨b, 3, none⟩ = some c3 ∧ w.cell? ⟨b, 4, none⟩ = some c4 ∧ w.cell? ⟨b, 5, none⟩ = some c5 ∧ w.cell? ⟨b, 6, none⟩ = some c6 ∧ w.cell? ⟨b, 7, none⟩ = some c7 ∧ w.cell? ⟨b, 8, none⟩ = some c8 ∧ w.cell? ⟨b, 9, none⟩ = some c9 ∧ w.cell? ⟨b, 10, none⟩ = some c10 ∧ w.cell? ⟨b, 11, none⟩ = some c11 :=
  ⟨h.cell 0, h.cell 1, h.cell 2, h.cell 3, h.cell 4, h.cell 5, h.cell 6, h.cell 7, h.cell 8, h.cell 9, h.cell 10, h.cell 11⟩

theorem shape_one {dp dn : Int} {da : Option Addr} {nd dc : Nat} {sp sl sq kd tb : Int} {ky : ByteArray} {cl : Int} {va : Option Addr} {nv vc : Nat} {oa : Option Addr} {no oc : Nat} :
    ∀ u ∈ [Value.int .i64 dp, Value.int .i64 dn, Value.slice da nd dc, Value.int .i64 sp, Value.int .i64 sl, Value.int .i64 sq, Value.int .i64 kd, Value.int .i64 tb, Value.string ky, Value.int .i64 cl, Value.slice va nv vc, Value.slice oa no oc], u.oneCell' = true := fun u hu => by
  simp at hu
  rcases hu with rfl | rfl | rfl | rfl | rfl | rfl | rfl | rfl | rfl | rfl | rfl | rfl <;> rfl

theorem grown_below {w a b : World} {r : Option Nat} (h : w.grownBy a r) (hb : Below a.heap.size a b) : w.grownBy b r :=
  ⟨hb.os.trans h.os, hb.tape.trans h.tape, hb.output.trans h.output, Nat.le_trans h.size hb.size, fun k hk hne => (hb.block k (Nat.lt_of_lt_of_le hk h.size)).trans (h.block k hk hne)⟩

theorem grown_trans {a b c : World} {r : Option Nat} (h : a.grownBy b r) (k : b.grownBy c r) : a.grownBy c r :=
  ⟨k.os.trans h.os, k.tape.trans h.tape, k.output.trans h.output, Nat.le_trans h.size k.size, fun i hi hne => (k.block i (Nat.lt_of_lt_of_le hi h.size) hne).trans (h.block i hi hne)⟩

theorem take_set_of_lt {α : Type} {D : List α} {k : Nat} {c : α} (h : k < D.length) : (D.set k c).take (k + 1) = D.take k ++ [c] := by
  rw [List.take_succ_eq_append_getElem (by simpa using h), List.take_set_of_le (Nat.le_refl _)]
  simp

end Go.Proofs.Ytjpcljmlkgjbgaa

namespace Go.Proofs.Ytjpcljmlkgjbgaa
open Go.RowKit Go.Lib
set_option linter.unusedVariables false

end Go.Proofs.Ytjpcljmlkgjbgaa

namespace Go.Proofs.Ytjpcljmlkgjbgaa
open Go.RowKit Go.Lib
set_option linter.unusedVariables false

theorem own_base {w : World} {B C t k n : Nat} {v : Value} {xs : List Value} (h : w.ownsRow B t k v n xs) (hb : C ≤ B) : w.ownsRow C t k v n xs := by
  refine ⟨h.1, ?_⟩
  rcases h.2 with h0 | ⟨g, cap, cur, hv, hg, rest⟩
  · exact .inl h0
  · exact .inr ⟨g, cap, cur, hv, Nat.le_trans hb hg, rest⟩

theorem own_far {w : World} {B t k n m cap : Nat} {a : Option Addr} {xs : List Value} (h : w.ownsRow B t k (.slice a m cap) n xs) : ∀ b o s, a = some ⟨b, o, s⟩ → B ≤ b := by
  intro b o s e
  subst e
  exact (World.ownsRow.lt h b rfl).1

/-- An operation's lists lie from block B on. -/
structure FarO (B : Nat) (da va oa : Option Addr) : Prop where
  d : ∀ b o s, da = some ⟨b, o, s⟩ → B ≤ b
  v : ∀ b o s, va = some ⟨b, o, s⟩ → B ≤ b
  o : ∀ b o s, oa = some ⟨b, o, s⟩ → B ≤ b

theorem lies_of {w : World} {B : Nat} {x : PO} {a1 a2 a3 : Option Addr} {c1 c2 c3 : Nat} (h1 : OwnI w B (.slice a1 x.deps.length c1) x.deps) (h2 : OwnV w B (.slice a2 x.vals.length c2) x.vals) (h3 : OwnD w B (.slice a3 x.dots.length c3) x.dots)
    (l1 : x.deps.length ≤ 65536) (l2 : x.vals.length ≤ 65536) (l3 : x.dots.length ≤ 65536) (hk : x.key.size ≤ 9223372036854775807)
    (e1 : x.deps.length ≤ c1 ∧ (a1 = none → x.deps = [] ∧ c1 = 0)) (e2 : x.vals.length ≤ c2 ∧ (a2 = none → x.vals = [] ∧ c2 = 0)) (e3 : x.dots.length ≤ c3 ∧ (a3 = none → x.dots = [] ∧ c3 = 0)) :
    LiesO w x a1 a2 a3 c1 c2 c3 ∧ FarO B a1 a2 a3 := by
  obtain ⟨_, _, f1, _, r1, _⟩ := h1.form
  obtain ⟨_, _, f2, _, r2, _⟩ := h2.form
  obtain ⟨_, _, f3, _, r3, _⟩ := h3.form
  cases f1
  cases f2
  cases f3
  exact ⟨⟨r1, r2, r3, l1, l2, l3, e1.1, e2.1, e3.1, e1.2, e2.2, e3.2, hk⟩, ⟨own_far h1, own_far h2, own_far h3⟩⟩

end Go.Proofs.Ytjpcljmlkgjbgaa

namespace Go.Proofs.Ytjpcljmlkgjbgaa
open Go.RowKit Go.Lib
set_option linter.unusedVariables false

theorem wp_append_twin {P : Program} {o : Oper} {a : Act} {w : World} {K : Act → World → Prop} {Q : Exit → Act → World → Prop}
    (s x : Operand) (t u : TypeId) (hop : o.op = Op.call { callee := Callee.builtin Builtin.append, args := #[s, x], argTypes := #[t, u] })
    (v y v' : Value) (w' : World) (hs : a.eval s = v) (hx : a.eval x = y) (hrun : (Builtin.append_ #[t, u] o.type #[v, y]).run P w = .ok v' w')
    (hK : K (a.put o.dst v') w') : Oper.wp P o a w K Q := by
  unfold Oper.wp
  simp [execOp, hop, resolve, invoke, builtin, hs, hx, hrun, Result.andThen]
  exact hK

theorem twinDots_any (oa : Option Addr) (m oc : Nat) (N : List (Int × Int)) (V : World) (hn : N.length = m) (h : m ≤ 65536) (hnil : oa = none → N = [] ∧ oc = 0) (hr : RdD V oa N) :
    ∃ a' cap' w', (Builtin.append_ #[30, 30] 30 #[.slice none 0 0, .slice oa m oc]).run Try.prog V = .ok (.slice a' m cap') w' ∧ m ≤ cap' ∧ OwnD w' V.heap.size (.slice a' m cap') N ∧ (a' = none → N = [] ∧ cap' = 0) ∧ Below V.heap.size V w' := by
  obtain ⟨a', cap', w', h1, h2, h3, _, h5, _, h6⟩ := run_append_dots (w := V) (B := V.heap.size) (ty := 30) (cap := oc) (v := .slice none 0 0) (xs := []) (World.ownsRow_nil _ _ _ _) (n := 0) rfl hn hr hnil (by omega) h (Nat.le_refl _)
  rw [Nat.zero_add] at h1 h2 h3
  exact ⟨a', cap', w', h1, h2, h3, h5, h6⟩

set_option maxRecDepth 100000 in
set_option maxHeartbeats 4000000 in
theorem twinOp_any (x : PO) (da va oa : Option Addr) (dc vc oc : Nat) (w : World) (h : LiesO w x da va oa dc vc oc) :
    Calls Try.prog 19 #[.agg (cellsO x da va oa dc vc oc)] w fun e w' => ∃ da' va' oa' dc' vc' oc', e = .returned (.agg (cellsO x da' va' oa' dc' vc' oc')) ∧ LiesO w' x da' va' oa' dc' vc' oc' ∧ FarO (w.heap.size + 2) da' va' oa' ∧ Below w.heap.size w w' ∧ OwnI w' (w.heap.size + 2) (.slice da' x.deps.length dc') x.deps ∧ OwnV w' (w.heap.size + 2) (.slice va' x.vals.length vc') x.vals ∧ OwnD w' (w.heap.size + 2) (.slice oa' x.dots.length oc') x.dots := by
  have C1 := fun V (hb : Below w.heap.size w V) => (twinInts_any da x.deps.length dc x.deps V rfl h.ld h.nd (h.deps.later hb)).mono fun e w' ⟨a', cap', h1, h2, h3, h4, h5, h6⟩ => (⟨a', cap', h1, h2, h3, h4, h6⟩ : ∃ a' cap', e = Ending.returned (Value.slice a' x.deps.length cap') ∧ x.deps.length ≤ cap' ∧ OwnI w' V.heap.size (Value.slice a' x.deps.length cap') x.deps ∧ (a' = none → x.deps = [] ∧ cap' = 0) ∧ Below V.heap.size V w')
  have C2 := fun V (hb : Below w.heap.size w V) => (twinRow_any va x.vals.length vc x.vals V rfl h.lv h.nv (h.vals.later hb)).mono fun e w' ⟨a', cap', h1, h2, h3, h4, h5, h6⟩ => (⟨a', cap', h1, h2, h3, h4, h6⟩ : ∃ a' cap', e = Ending.returned (Value.slice a' x.vals.length cap') ∧ x.vals.length ≤ cap' ∧ OwnV w' V.heap.size (Value.slice a' x.vals.length cap') x.vals ∧ (a' = none → x.vals = [] ∧ cap' = 0) ∧ Below V.heap.size V w')
  have C3 := fun V (hb : Below w.heap.size w V) => twinDots_any oa x.dots.length oc x.dots V rfl h.lo h.no (h.dots.later hb)
  have HLF := fun (V : World) (a1 a2 a3 : Option Addr) (c1 c2 c3 : Nat) (h1 : OwnI V (w.heap.size + 2) (.slice a1 x.deps.length c1) x.deps) (h2 : OwnV V (w.heap.size + 2) (.slice a2 x.vals.length c2) x.vals) (h3 : OwnD V (w.heap.size + 2) (.slice a3 x.dots.length c3) x.dots) => lies_of h1 h2 h3 h.ld h.lv h.lo h.key
  have HLX : Hid (∀ (V : World) (a1 a2 a3 : Option Addr) (c1 c2 c3 : Nat) (h1 : OwnI V (w.heap.size + 2) (.slice a1 x.deps.length c1) x.deps) (h2 : OwnV V (w.heap.size + 2) (.slice a2 x.vals.length c2) x.vals) (h3 : OwnD V (w.heap.size + 2) (.slice a3 x.dots.length c3) x.dots), _) := HLF
  clear HLF h
  obtain ⟨dp, dn, deps, sp, sl, sq, kind, table, key, col, vals, dots⟩ := x
  simp only [cellsO] at *
  generalize deps.length = m at *
  generalize vals.length = nv at *
  generalize dots.length = no at *
  have HB : Hid (Below w.heap.size w (((w.alloc (.cells #[.int .i64 dp, .int .i64 dn, .slice da m dc, .int .i64 sp, .int .i64 sl, .int .i64 sq, .int .i64 kind, .int .i64 table, .string key, .int .i64 col, .slice va nv vc, .slice oa no oc] 32)).alloc (.cells #[.int .i64 0, .int .i64 0, .slice none 0 0, .int .i64 0, .int .i64 0, .int .i64 0, .int .i64 0, .int .i64 0, .string ⟨#[]⟩, .int .i64 0, .slice none 0 0, .slice none 0 0] 32)).drew)) := chain (alloc_below _ _) (chain (alloc_below _ _) (Below.refl _ _).drew)
  have HK : Hid (CellsAt (((w.alloc (.cells #[.int .i64 dp, .int .i64 dn, .slice da m dc, .int .i64 sp, .int .i64 sl, .int .i64 sq, .int .i64 kind, .int .i64 table, .string key, .int .i64 col, .slice va nv vc, .slice oa no oc] 32)).alloc (.cells #[.int .i64 0, .int .i64 0, .slice none 0 0, .int .i64 0, .int .i64 0, .int .i64 0, .int .i64 0, .int .i64 0, .string ⟨#[]⟩, .int .i64 0, .slice none 0 0, .slice none 0 0] 32)).drew) w.heap.size #[.int .i64 dp, .int .i64 dn, .slice da m dc, .int .i64 sp, .int .i64 sl, .int .i64 sq, .int .i64 kind, .int .i64 table, .string key, .int .i64 col, .slice va nv vc, .slice oa no oc] 32) := (CellsAt.made rfl).later (chain (alloc_below _ _) (Below.refl _ _).drew)
  have HZ : Hid (CellsAt (((w.alloc (.cells #[.int .i64 dp, .int .i64 dn, .slice da m dc, .int .i64 sp, .int .i64 sl, .int .i64 sq, .int .i64 kind, .int .i64 table, .string key, .int .i64 col, .slice va nv vc, .slice oa no oc] 32)).alloc (.cells #[.int .i64 0, .int .i64 0, .slice none 0 0, .int .i64 0, .int .i64 0, .int .i64 0, .int .i64 0, .int .i64 0, .string ⟨#[]⟩, .int .i64 0, .slice none 0 0, .slice none 0 0] 32)).drew) (w.heap.size + 1) #[.int .i64 0, .int .i64 0, .slice none 0 0, .int .i64 0, .int .i64 0, .int .i64 0, .int .i64 0, .int .i64 0, .string ⟨#[]⟩, .int .i64 0, .slice none 0 0, .slice none 0 0] 32) := (CellsAt.made (by simp)).later (Below.refl _ _).drew
  have HL : Hid (w.heap.size + 2 ≤ (((w.alloc (.cells #[.int .i64 dp, .int .i64 dn, .slice da m dc, .int .i64 sp, .int .i64 sl, .int .i64 sq, .int .i64 kind, .int .i64 table, .string key, .int .i64 col, .slice va nv vc, .slice oa no oc] 32)).alloc (.cells #[.int .i64 0, .int .i64 0, .slice none 0 0, .int .i64 0, .int .i64 0, .int .i64 0, .int .i64 0, .int .i64 0, .string ⟨#[]⟩, .int .i64 0, .slice none 0 0, .slice none 0 0] 32)).drew).heap.size) := by show _ ≤ _; simp [World.drew]
  go_enter Try.func19, Try.ntmps19
  go_wp2_with fail
  refine region_S (S := (fun w' => w'.cell? ⟨w.heap.size, 2, none⟩ = some (.slice da m dc) ∧ w'.cell? ⟨w.heap.size, 10, none⟩ = some (.slice va nv vc) ∧ w'.cell? ⟨w.heap.size, 11, none⟩ = some (.slice oa no oc))) 11 (by kernel_rfl) (by obtain ⟨k0, k1, k2, k3, k4, k5, k6, k7, k8, k9, k10, k11⟩ := cells12 HK.out; exact ⟨k2, k10, k11⟩) (fun hHeld => ?_)
  generalize ((w.alloc (.cells #[.int .i64 dp, .int .i64 dn, .slice da m dc, .int .i64 sp, .int .i64 sl, .int .i64 sq, .int .i64 kind, .int .i64 table, .string key, .int .i64 col, .slice va nv vc, .slice oa no oc] 32)).alloc (.cells #[.int .i64 0, .int .i64 0, .slice none 0 0, .int .i64 0, .int .i64 0, .int .i64 0, .int .i64 0, .int .i64 0, .string ⟨#[]⟩, .int .i64 0, .slice none 0 0, .slice none 0 0] 32)).drew = wq0 at *
  refine sPure (v := ?_) 0 4 rfl rfl (by kernel_rfl) (by kernel_rfl) (by kernel_rfl) (by decide) (fun _ _ _ h => h) (by rfl) (fun w => ?_) (.inr (by assumption)) ?_
  rotate_left
  · first | (go_simp; done) | (go_simp; with_reducible rfl)
  simp only [List.setIfInBounds_toArray, List.set_cons_zero, List.set_cons_succ]
  refine sTake (v := ?_) 1 5 rfl rfl (by kernel_rfl) (by kernel_rfl) (by kernel_rfl) (by kernel_rfl) (by kernel_rfl) (fun _ _ _ h => h) (by rfl) (fun w hSw => ?_) (by assumption) ?_
  rotate_left
  · (try dsimp only at hSw); first | (go_simp; done) | (go_simp; with_reducible rfl)
  simp only [List.setIfInBounds_toArray, List.set_cons_zero, List.set_cons_succ]
  refine sPure (v := ?_) 3 7 rfl rfl (by kernel_rfl) (by kernel_rfl) (by kernel_rfl) (by decide) (fun _ _ _ h => h) (by rfl) (fun w => ?_) (.inr (by assumption)) ?_
  rotate_left
  · first | (go_simp; done) | (go_simp; with_reducible rfl)
  simp only [List.setIfInBounds_toArray, List.set_cons_zero, List.set_cons_succ]
  refine sTake (v := ?_) 4 8 rfl rfl (by kernel_rfl) (by kernel_rfl) (by kernel_rfl) (by kernel_rfl) (by kernel_rfl) (fun _ _ _ h => h) (by rfl) (fun w hSw => ?_) (by assumption) ?_
  rotate_left
  · (try dsimp only at hSw); first | (go_simp; done) | (go_simp; with_reducible rfl)
  simp only [List.setIfInBounds_toArray, List.set_cons_zero, List.set_cons_succ]
  refine sPure (v := ?_) 6 10 rfl rfl (by kernel_rfl) (by kernel_rfl) (by kernel_rfl) (by decide) (fun _ _ _ h => h) (by rfl) (fun w => ?_) (.inr (by assumption)) ?_
  rotate_left
  · first | (go_simp; done) | (go_simp; with_reducible rfl)
  simp only [List.setIfInBounds_toArray, List.set_cons_zero, List.set_cons_succ]
  refine sPure (v := ?_) 7 11 rfl rfl (by kernel_rfl) (by kernel_rfl) (by kernel_rfl) (by decide) (fun _ _ _ h => h) (by rfl) (fun w => ?_) (.inr (by assumption)) ?_
  rotate_left
  · first | (go_simp; done) | (go_simp; with_reducible rfl)
  simp only [List.setIfInBounds_toArray, List.set_cons_zero, List.set_cons_succ]
  refine sTake (v := ?_) 8 12 rfl rfl (by kernel_rfl) (by kernel_rfl) (by kernel_rfl) (by kernel_rfl) (by kernel_rfl) (fun _ _ _ h => h) (by rfl) (fun w hSw => ?_) (by assumption) ?_
  rotate_left
  · (try dsimp only at hSw); first | (go_simp; done) | (go_simp; with_reducible rfl)
  simp only [List.setIfInBounds_toArray, List.set_cons_zero, List.set_cons_succ]
  refine sOne 2 rfl (by kernel_rfl) (by rfl) (fun K2 hK => ?_)
  go_simp
  refine (C1 _ HB.out).mono ?_
  rintro e wq1 ⟨a1, c1, rfl, hc1, ho1, hn1, hb⟩
  have HO1 : Hid (OwnI wq1 (w.heap.size + 2) (.slice a1 m c1) deps) := (own_base ho1 HL.out : OwnI wq1 (w.heap.size + 2) (.slice a1 m c1) deps)
  have HE1 : Hid (_ ∧ _) := ⟨hc1, hn1⟩
  clear ho1 hc1 hn1
  replace HB := (show Hid (Below w.heap.size w wq1) from chain HB.out hb)
  replace HK := (show Hid (CellsAt wq1 w.heap.size #[.int .i64 dp, .int .i64 dn, .slice da m dc, .int .i64 sp, .int .i64 sl, .int .i64 sq, .int .i64 kind, .int .i64 table, .string key, .int .i64 col, .slice va nv vc, .slice oa no oc] 32) from HK.out.later hb)
  replace HZ := (show Hid (CellsAt wq1 (w.heap.size + 1) #[.int .i64 0, .int .i64 0, .slice none 0 0, .int .i64 0, .int .i64 0, .int .i64 0, .int .i64 0, .int .i64 0, .string ⟨#[]⟩, .int .i64 0, .slice none 0 0, .slice none 0 0] 32) from HZ.out.later hb)
  replace HL := (show Hid (w.heap.size + 2 ≤ wq1.heap.size) from Nat.le_trans HL.out hb.size)
  clear hb
  simp only []
  refine hK.out _ _ ?_ (fun hHeld => ?_)
  · exact .inr ((by obtain ⟨k0, k1, k2, k3, k4, k5, k6, k7, k8, k9, k10, k11⟩ := cells12 HK.out; exact ⟨k2, k10, k11⟩))
  clear hK K2
  replace hHeld := hHeld.resolve_left (by decide)
  try simp only [List.setIfInBounds_toArray, List.set_cons_zero, List.set_cons_succ]
  refine sPure (v := ?_) 10 14 rfl rfl (by kernel_rfl) (by kernel_rfl) (by kernel_rfl) (by decide) (fun _ _ _ h => h) (by rfl) (fun w => ?_) (.inr (by assumption)) ?_
  rotate_left
  · first | (go_simp; done) | (go_simp; with_reducible rfl)
  simp only [List.setIfInBounds_toArray, List.set_cons_zero, List.set_cons_succ]
  refine sOne 5 rfl (by kernel_rfl) (by rfl) (fun K2 hK => ?_)
  go_simp
  refine (C2 _ HB.out).mono ?_
  rintro e wq2 ⟨a2, c2, rfl, hc2, ho2, hn2, hb⟩
  have HO2 : Hid (OwnV wq2 (w.heap.size + 2) (.slice a2 nv c2) vals) := (own_base ho2 HL.out : OwnV wq2 (w.heap.size + 2) (.slice a2 nv c2) vals)
  have HE2 : Hid (_ ∧ _) := ⟨hc2, hn2⟩
  clear ho2 hc2 hn2
  replace HB := (show Hid (Below w.heap.size w wq2) from chain HB.out hb)
  replace HK := (show Hid (CellsAt wq2 w.heap.size #[.int .i64 dp, .int .i64 dn, .slice da m dc, .int .i64 sp, .int .i64 sl, .int .i64 sq, .int .i64 kind, .int .i64 table, .string key, .int .i64 col, .slice va nv vc, .slice oa no oc] 32) from HK.out.later hb)
  replace HZ := (show Hid (CellsAt wq2 (w.heap.size + 1) #[.int .i64 0, .int .i64 0, .slice none 0 0, .int .i64 0, .int .i64 0, .int .i64 0, .int .i64 0, .int .i64 0, .string ⟨#[]⟩, .int .i64 0, .slice none 0 0, .slice none 0 0] 32) from HZ.out.later hb)
  replace HL := (show Hid (w.heap.size + 2 ≤ wq2.heap.size) from Nat.le_trans HL.out hb.size)
  replace HO1 : Hid (OwnI wq2 (w.heap.size + 2) (.slice a1 m c1) deps) := HO1.out.aside (Aside.of_below hb : Aside w.heap.size wq1 _) (by omega)
  clear hb
  simp only []
  refine hK.out _ _ ?_ (fun hHeld => ?_)
  · exact .inr ((by obtain ⟨k0, k1, k2, k3, k4, k5, k6, k7, k8, k9, k10, k11⟩ := cells12 HK.out; exact ⟨k2, k10, k11⟩))
  clear hK K2
  replace hHeld := hHeld.resolve_left (by decide)
  try simp only [List.setIfInBounds_toArray, List.set_cons_zero, List.set_cons_succ]
  refine sOne 9 rfl (by kernel_rfl) (by rfl) (fun K2 hK => ?_)
  obtain ⟨a3, c3, wq3, hrun, hc3, ho3, hn3, hb⟩ := C3 _ HB.out
  refine wp_append_twin _ _ 30 30 rfl _ _ _ _ rfl rfl hrun ?_
  go_simp
  clear hrun
  have HO3 : Hid (OwnD wq3 (w.heap.size + 2) (.slice a3 no c3) dots) := (own_base ho3 HL.out : OwnD wq3 (w.heap.size + 2) (.slice a3 no c3) dots)
  have HE3 : Hid (_ ∧ _) := ⟨hc3, hn3⟩
  clear ho3 hc3 hn3
  replace HB := (show Hid (Below w.heap.size w wq3) from chain HB.out hb)
  replace HK := (show Hid (CellsAt wq3 w.heap.size #[.int .i64 dp, .int .i64 dn, .slice da m dc, .int .i64 sp, .int .i64 sl, .int .i64 sq, .int .i64 kind, .int .i64 table, .string key, .int .i64 col, .slice va nv vc, .slice oa no oc] 32) from HK.out.later hb)
  replace HZ := (show Hid (CellsAt wq3 (w.heap.size + 1) #[.int .i64 0, .int .i64 0, .slice none 0 0, .int .i64 0, .int .i64 0, .int .i64 0, .int .i64 0, .int .i64 0, .string ⟨#[]⟩, .int .i64 0, .slice none 0 0, .slice none 0 0] 32) from HZ.out.later hb)
  replace HL := (show Hid (w.heap.size + 2 ≤ wq3.heap.size) from Nat.le_trans HL.out hb.size)
  replace HO1 : Hid (OwnI wq3 (w.heap.size + 2) (.slice a1 m c1) deps) := HO1.out.aside (Aside.of_below hb : Aside w.heap.size wq2 _) (by omega)
  replace HO2 : Hid (OwnV wq3 (w.heap.size + 2) (.slice a2 nv c2) vals) := HO2.out.aside (Aside.of_below hb : Aside w.heap.size wq2 _) (by omega)
  clear hb
  refine hK.out _ _ ?_ (fun hHeld => ?_)
  · exact .inr ((by obtain ⟨k0, k1, k2, k3, k4, k5, k6, k7, k8, k9, k10, k11⟩ := cells12 HK.out; exact ⟨k2, k10, k11⟩))
  clear hK K2
  replace hHeld := hHeld.resolve_left (by decide)
  try simp only [List.setIfInBounds_toArray, List.set_cons_zero, List.set_cons_succ]
  refine sOne 11 rfl (by kernel_rfl) (by rfl) (fun K2 hK => ?_)
  obtain ⟨k0, k1, k2, k3, k4, k5, k6, k7, k8, k9, k10, k11⟩ := cells12 HK.out
  have fr := HK.out.free 2
  go_simp
  clear k0 k1 k2 k3 k4 k5 k6 k7 k8 k9 k10 k11 fr
  obtain ⟨wq4, hwq⟩ : ∃ x, x = World.setCell wq3 ⟨w.heap.size, 2, none⟩ (.slice a1 m c1) := ⟨_, rfl⟩
  rw [← hwq]
  have ha : Aside w.heap.size wq3 wq4 := by rw [hwq]; exact (Aside.refl _ wq3).setCell (p := ⟨w.heap.size, 2, none⟩) (fun k => k.1 rfl) _
  replace HK := (show Hid (CellsAt wq4 w.heap.size #[.int .i64 dp, .int .i64 dn, .slice a1 m c1, .int .i64 sp, .int .i64 sl, .int .i64 sq, .int .i64 kind, .int .i64 table, .string key, .int .i64 col, .slice va nv vc, .slice oa no oc] 32) from by rw [hwq]; exact HK.out.set 2 _)
  replace HZ := (show Hid (CellsAt wq4 (w.heap.size + 1) #[.int .i64 0, .int .i64 0, .slice none 0 0, .int .i64 0, .int .i64 0, .int .i64 0, .int .i64 0, .int .i64 0, .string ⟨#[]⟩, .int .i64 0, .slice none 0 0, .slice none 0 0] 32) from HZ.out.aside ha (by omega))
  replace HL := (show Hid (w.heap.size + 2 ≤ wq4.heap.size) from Nat.le_trans HL.out ha.size)
  replace HB := (show Hid (Below w.heap.size w wq4) from ha.below_from HB.out (Nat.le_refl _))
  replace HO1 : Hid (OwnI wq4 (w.heap.size + 2) (.slice a1 m c1) deps) := HO1.out.aside ha (by omega)
  replace HO2 : Hid (OwnV wq4 (w.heap.size + 2) (.slice a2 nv c2) vals) := HO2.out.aside ha (by omega)
  replace HO3 : Hid (OwnD wq4 (w.heap.size + 2) (.slice a3 no c3) dots) := HO3.out.aside ha (by omega)
  clear hwq ha
  refine hK.out _ _ ?_ (fun hHeld => ?_)
  · exact .inl (by rfl)
  clear hK K2 hHeld
  try simp only [List.setIfInBounds_toArray, List.set_cons_zero, List.set_cons_succ]
  refine sPure (v := ?_) 12 15 rfl rfl (by kernel_rfl) (by kernel_rfl) (by kernel_rfl) (by decide) (fun _ _ _ h => h) (by rfl) (fun w => ?_) (.inl (by rfl)) ?_
  rotate_left
  · first | (go_simp; done) | (go_simp; with_reducible rfl)
  simp only [List.setIfInBounds_toArray, List.set_cons_zero, List.set_cons_succ]
  refine sOne 13 rfl (by kernel_rfl) (by rfl) (fun K2 hK => ?_)
  obtain ⟨k0, k1, k2, k3, k4, k5, k6, k7, k8, k9, k10, k11⟩ := cells12 HK.out
  have fr := HK.out.free 10
  go_simp
  clear k0 k1 k2 k3 k4 k5 k6 k7 k8 k9 k10 k11 fr
  obtain ⟨wq5, hwq⟩ : ∃ x, x = World.setCell wq4 ⟨w.heap.size, 10, none⟩ (.slice a2 nv c2) := ⟨_, rfl⟩
  rw [← hwq]
  have ha : Aside w.heap.size wq4 wq5 := by rw [hwq]; exact (Aside.refl _ wq4).setCell (p := ⟨w.heap.size, 10, none⟩) (fun k => k.1 rfl) _
  replace HK := (show Hid (CellsAt wq5 w.heap.size #[.int .i64 dp, .int .i64 dn, .slice a1 m c1, .int .i64 sp, .int .i64 sl, .int .i64 sq, .int .i64 kind, .int .i64 table, .string key, .int .i64 col, .slice a2 nv c2, .slice oa no oc] 32) from by rw [hwq]; exact HK.out.set 10 _)
  replace HZ := (show Hid (CellsAt wq5 (w.heap.size + 1) #[.int .i64 0, .int .i64 0, .slice none 0 0, .int .i64 0, .int .i64 0, .int .i64 0, .int .i64 0, .int .i64 0, .string ⟨#[]⟩, .int .i64 0, .slice none 0 0, .slice none 0 0] 32) from HZ.out.aside ha (by omega))
  replace HL := (show Hid (w.heap.size + 2 ≤ wq5.heap.size) from Nat.le_trans HL.out ha.size)
  replace HB := (show Hid (Below w.heap.size w wq5) from ha.below_from HB.out (Nat.le_refl _))
  replace HO1 : Hid (OwnI wq5 (w.heap.size + 2) (.slice a1 m c1) deps) := HO1.out.aside ha (by omega)
  replace HO2 : Hid (OwnV wq5 (w.heap.size + 2) (.slice a2 nv c2) vals) := HO2.out.aside ha (by omega)
  replace HO3 : Hid (OwnD wq5 (w.heap.size + 2) (.slice a3 no c3) dots) := HO3.out.aside ha (by omega)
  clear hwq ha
  refine hK.out _ _ ?_ (fun hHeld => ?_)
  · exact .inl (by rfl)
  clear hK K2 hHeld
  try simp only [List.setIfInBounds_toArray, List.set_cons_zero, List.set_cons_succ]
  refine sPure (v := ?_) 14 16 rfl rfl (by kernel_rfl) (by kernel_rfl) (by kernel_rfl) (by decide) (fun _ _ _ h => h) (by rfl) (fun w => ?_) (.inl (by rfl)) ?_
  rotate_left
  · first | (go_simp; done) | (go_simp; with_reducible rfl)
  simp only [List.setIfInBounds_toArray, List.set_cons_zero, List.set_cons_succ]
  refine sOne 15 rfl (by kernel_rfl) (by rfl) (fun K2 hK => ?_)
  obtain ⟨k0, k1, k2, k3, k4, k5, k6, k7, k8, k9, k10, k11⟩ := cells12 HK.out
  have fr := HK.out.free 11
  go_simp
  clear k0 k1 k2 k3 k4 k5 k6 k7 k8 k9 k10 k11 fr
  obtain ⟨wq6, hwq⟩ : ∃ x, x = World.setCell wq5 ⟨w.heap.size, 11, none⟩ (.slice a3 no c3) := ⟨_, rfl⟩
  rw [← hwq]
  have ha : Aside w.heap.size wq5 wq6 := by rw [hwq]; exact (Aside.refl _ wq5).setCell (p := ⟨w.heap.size, 11, none⟩) (fun k => k.1 rfl) _
  replace HK := (show Hid (CellsAt wq6 w.heap.size #[.int .i64 dp, .int .i64 dn, .slice a1 m c1, .int .i64 sp, .int .i64 sl, .int .i64 sq, .int .i64 kind, .int .i64 table, .string key, .int .i64 col, .slice a2 nv c2, .slice a3 no c3] 32) from by rw [hwq]; exact HK.out.set 11 _)
  replace HZ := (show Hid (CellsAt wq6 (w.heap.size + 1) #[.int .i64 0, .int .i64 0, .slice none 0 0, .int .i64 0, .int .i64 0, .int .i64 0, .int .i64 0, .int .i64 0, .string ⟨#[]⟩, .int .i64 0, .slice none 0 0, .slice none 0 0] 32) from HZ.out.aside ha (by omega))
  replace HL := (show Hid (w.heap.size + 2 ≤ wq6.heap.size) from Nat.le_trans HL.out ha.size)
  replace HB := (show Hid (Below w.heap.size w wq6) from ha.below_from HB.out (Nat.le_refl _))
  replace HO1 : Hid (OwnI wq6 (w.heap.size + 2) (.slice a1 m c1) deps) := HO1.out.aside ha (by omega)
  replace HO2 : Hid (OwnV wq6 (w.heap.size + 2) (.slice a2 nv c2) vals) := HO2.out.aside ha (by omega)
  replace HO3 : Hid (OwnD wq6 (w.heap.size + 2) (.slice a3 no c3) dots) := HO3.out.aside ha (by omega)
  clear hwq ha
  refine hK.out _ _ ?_ (fun hHeld => ?_)
  · exact .inl (by rfl)
  clear hK K2 hHeld
  try simp only [List.setIfInBounds_toArray, List.set_cons_zero, List.set_cons_succ]
  refine sDone (by kernel_rfl) ?_ _
  obtain ⟨k0, k1, k2, k3, k4, k5, k6, k7, k8, k9, k10, k11⟩ := cells12 HK.out
  obtain ⟨z0, z1, z2, z3, z4, z5, z6, z7, z8, z9, z10, z11⟩ := cells12 HZ.out
  have fz0 := HZ.out.free 0
  have fz1 := HZ.out.free 1
  have fz2 := HZ.out.free 2
  have fz3 := HZ.out.free 3
  have fz4 := HZ.out.free 4
  have fz5 := HZ.out.free 5
  have fz6 := HZ.out.free 6
  have fz7 := HZ.out.free 7
  have fz8 := HZ.out.free 8
  have fz9 := HZ.out.free 9
  have fz10 := HZ.out.free 10
  have fz11 := HZ.out.free 11
  have HA : Hid (Aside (w.heap.size + 1) wq6 ((((((((((((wq6.setCell ⟨w.heap.size + 1, 0, none⟩ (.int .i64 dp)).setCell ⟨w.heap.size + 1, 1, none⟩ (.int .i64 dn)).setCell ⟨w.heap.size + 1, 2, none⟩ (.slice a1 m c1)).setCell ⟨w.heap.size + 1, 3, none⟩ (.int .i64 sp)).setCell ⟨w.heap.size + 1, 4, none⟩ (.int .i64 sl)).setCell ⟨w.heap.size + 1, 5, none⟩ (.int .i64 sq)).setCell ⟨w.heap.size + 1, 6, none⟩ (.int .i64 kind)).setCell ⟨w.heap.size + 1, 7, none⟩ (.int .i64 table)).setCell ⟨w.heap.size + 1, 8, none⟩ (.string key)).setCell ⟨w.heap.size + 1, 9, none⟩ (.int .i64 col)).setCell ⟨w.heap.size + 1, 10, none⟩ (.slice a2 nv c2)).setCell ⟨w.heap.size + 1, 11, none⟩ (.slice a3 no c3))) := by
    show Aside _ _ _
    iterate 12 refine Stay.setCell ?_ (fun k => k.1 rfl) _
    exact Aside.refl _ _
  have HO : Hid (_ ∧ _ ∧ _) := ⟨HO1.out.aside HA.out (by omega), HO2.out.aside HA.out (by omega), HO3.out.aside HA.out (by omega)⟩
  have HX := HLX.out _ a1 a2 a3 c1 c2 c3 (HO1.out.aside HA.out (by omega)) (HO2.out.aside HA.out (by omega)) (HO3.out.aside HA.out (by omega)) HE1.out HE2.out HE3.out
  have HY : Hid (_ ∧ _) := HX
  have HBF : Hid (Below w.heap.size w ((((((((((((wq6.setCell ⟨w.heap.size + 1, 0, none⟩ (.int .i64 dp)).setCell ⟨w.heap.size + 1, 1, none⟩ (.int .i64 dn)).setCell ⟨w.heap.size + 1, 2, none⟩ (.slice a1 m c1)).setCell ⟨w.heap.size + 1, 3, none⟩ (.int .i64 sp)).setCell ⟨w.heap.size + 1, 4, none⟩ (.int .i64 sl)).setCell ⟨w.heap.size + 1, 5, none⟩ (.int .i64 sq)).setCell ⟨w.heap.size + 1, 6, none⟩ (.int .i64 kind)).setCell ⟨w.heap.size + 1, 7, none⟩ (.int .i64 table)).setCell ⟨w.heap.size + 1, 8, none⟩ (.string key)).setCell ⟨w.heap.size + 1, 9, none⟩ (.int .i64 col)).setCell ⟨w.heap.size + 1, 10, none⟩ (.slice a2 nv c2)).setCell ⟨w.heap.size + 1, 11, none⟩ (.slice a3 no c3))) := HA.out.below_from HB.out (by omega)
  have HZF : CellsAt ((((((((((((wq6.setCell ⟨w.heap.size + 1, 0, none⟩ (.int .i64 dp)).setCell ⟨w.heap.size + 1, 1, none⟩ (.int .i64 dn)).setCell ⟨w.heap.size + 1, 2, none⟩ (.slice a1 m c1)).setCell ⟨w.heap.size + 1, 3, none⟩ (.int .i64 sp)).setCell ⟨w.heap.size + 1, 4, none⟩ (.int .i64 sl)).setCell ⟨w.heap.size + 1, 5, none⟩ (.int .i64 sq)).setCell ⟨w.heap.size + 1, 6, none⟩ (.int .i64 kind)).setCell ⟨w.heap.size + 1, 7, none⟩ (.int .i64 table)).setCell ⟨w.heap.size + 1, 8, none⟩ (.string key)).setCell ⟨w.heap.size + 1, 9, none⟩ (.int .i64 col)).setCell ⟨w.heap.size + 1, 10, none⟩ (.slice a2 nv c2)).setCell ⟨w.heap.size + 1, 11, none⟩ (.slice a3 no c3)) (w.heap.size + 1) #[.int .i64 dp, .int .i64 dn, .slice a1 m c1, .int .i64 sp, .int .i64 sl, .int .i64 sq, .int .i64 kind, .int .i64 table, .string key, .int .i64 col, .slice a2 nv c2, .slice a3 no c3] 32 := by
    have := ((((((((((((HZ.out.set 0 (.int .i64 dp)).set 1 (.int .i64 dn)).set 2 (.slice a1 m c1)).set 3 (.int .i64 sp)).set 4 (.int .i64 sl)).set 5 (.int .i64 sq)).set 6 (.int .i64 kind)).set 7 (.int .i64 table)).set 8 (.string key)).set 9 (.int .i64 col)).set 10 (.slice a2 nv c2)).set 11 (.slice a3 no c3))
    simpa using this
  obtain ⟨y0, y1, y2, y3, y4, y5, y6, y7, y8, y9, y10, y11⟩ := cells12 HZF
  clear HZF
  clear HX HA HB HO1 HO2 HO3 HE1 HE2 HE3 HLX C1 C2 C3 HK HZ HL
  go_wp2
  refine bodyPost_ret (by simp [results, Try.results19, go_sem, y0, y1, y2, y3, y4, y5, y6, y7, y8, y9, y10, y11]; rfl) rfl ?_
  exact ⟨a1, a2, a3, c1, c2, c3, rfl, HY.out.1, HY.out.2, HBF.out, HO.out.1, HO.out.2.1, HO.out.2.2⟩

end Go.Proofs.Ytjpcljmlkgjbgaa
