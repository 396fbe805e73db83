/-
  What the document's own ValueBytes writes of a right value.
-/
import Derived.Test.YtmolklaammfbmaaRows
import Derived.Test.YtmolklaammfbmaaVals
import Derived.Test.YtmolklaammfbmaaVRef
import Derived.Test.YtmolklaammfbmaaRef
import Derived.Test.YtmolklaammfbmaaApi
import Derived.WalkKit
import Derived.WalkSpells
import Derived.WalkLawsBesides
import Derived.Deep.RegionLaw
namespace Go.Proofs.Ytmolklaammfbmaa
open Go.RowKit Go.Lib
set_option linter.unusedVariables false

/-- A right value's bytes. -/
def bytesV (v : PV) : List UInt8 :=
  UInt8.ofNat v.k.toNat :: (if v.k = 2 then [UInt8.ofNat v.i.toNat] else if v.k = 3 then intBytes v.i else if v.k = 4 then textBytes v.s.data.toList else [])

/-- An append whose run is known, as one step of a region that draws. -/
theorem step_append_run {P : Program} {ops : Array Oper} {o : Oper} {a : Act} {w : World} {K : Act → World → Prop} {Q : Exit → Act → World → Prop} {E : Prop}
    (hg : o.guard = none) (s x : Operand) (t u : TypeId) (hop : o.op = Op.call { callee := Callee.builtin Builtin.append, args := #[s, x], argTypes := #[t, u] })
    (v y v' : Value) (w' : World) (hs : a.eval s = v) (hx : a.eval x = y) (hrun : (Builtin.append_ #[t, u] o.type #[v, y]).run P w = .ok v' w')
    (hK : K (a.put o.dst v') w') : if Region.wanted o (yielded ops a.tmps) = true then Oper.wp P o a w K Q else E := by
  have hw : Region.wanted o (yielded ops a.tmps) = true := by simp [Region.wanted, hg]
  rw [if_pos hw]
  unfold Oper.wp
  simp [execOp, hop, resolve, invoke, builtin, hs, hx, hrun, Result.andThen]
  exact hK

/-- New bytes of the call's own: a slice that leads to them. -/
def NewB (w w' : World) (e : Ending) (l : List UInt8) : Prop :=
  ∃ a len cap, e = .returned (.slice a len cap) ∧ l.length = len ∧ len ≤ cap ∧ Own w' w.heap.size (.slice a len cap) l ∧ Rd w' a l ∧ (a = none → l = [] ∧ cap = 0) ∧ Below w.heap.size w w'

/-- The box of a value. -/
def boxV (w : World) (k i : Int) (s : ByteArray) : World := w.alloc (.cells #[.int .i64 k, .int .i64 i, .string s] 23)

theorem own_at (w : World) (g B : Nat) (hg : w.heap.size = g) (hB : B ≤ w.heap.size) (x : UInt8) (V : Int) (hV : V = (x.toNat : Int)) : Own (w.alloc (.cells #[.int .u8 V] 5)) B (.slice (some ⟨g, 0, none⟩) 1 1) [x] := by
  subst hg
  exact own_one w B hB x V hV

theorem rd_at (w : World) (g : Nat) (hg : w.heap.size = g) (x : UInt8) (V : Int) (hV : V = (x.toNat : Int)) : Rd (w.alloc (.cells #[.int .u8 V] 5)) (some ⟨g, 0, none⟩) [x] := by
  subst hg
  exact rd_one w x V hV

theorem Own.wider {w : World} {B C : Nat} {v : Value} {l : List UInt8} (h : Own w C v l) (hB : B ≤ C) : Own w B v l := by
  obtain ⟨h1, h2⟩ := h
  refine ⟨h1, ?_⟩
  rcases h2 with h2 | ⟨g, cap, cur, hv, hg, hh⟩
  · exact .inl h2
  · exact .inr ⟨g, cap, cur, hv, Nat.le_trans hB hg, hh⟩

theorem below_two (w : World) (o p : Obj) : Below w.heap.size w ((w.alloc o).alloc p) := chain (alloc_below _ _) (alloc_below _ _)

end Go.Proofs.Ytmolklaammfbmaa
