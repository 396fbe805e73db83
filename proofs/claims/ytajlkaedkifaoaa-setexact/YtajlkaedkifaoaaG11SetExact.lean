/-
  Texts of the proof of SetExact, one behind the other.
-/
import Derived.Test.YtajlkaedkifaoaaRows
import Derived.Test.YtajlkaedkifaoaaG6SetExact
import Derived.Test.YtajlkaedkifaoaaG10SetExact
import Derived.Test.YtajlkaedkifaoaaG9SetExact
import Derived.Test.YtajlkaedkifaoaaG8SetExact
import Derived.WalkKit
import Derived.WalkSpells
import Derived.WalkLawsBesides
import Derived.Deep.RegionLaw
namespace Go.Proofs.Ytajlkaedkifaoaa
open Go.RowKit Go.Lib
set_option linter.unusedVariables false

/-- A right value's bytes. -/
def bytesV (v : PV) : List UInt8 :=
  UInt8.ofNat v.k.toNat :: (if v.k = 2 then [UInt8.ofNat v.i.toNat] else if v.k = 3 then intBytes v.i else if v.k = 4 then textBytes v.s.data.toList else [])

/-- An append whose run is known, as one step of a region that draws. -/
theorem step_append_run {P : Program} {ops : Array Oper} {o : Oper} {a : Act} {w : World} {K : Act → World → Prop} {Q : Exit → Act → World → Prop} {E : Prop}
    (hg : o.guard = none) (s x : Operand) (t u : TypeId) (hop : o.op = Op.call { callee := Callee.builtin Builtin.append, args := #[s, x], argTypes := #[t, u] })
    (v y v' : Value) (w' : World) (hs : a.eval s = v) (hx : a.eval x = y) (hrun : (Builtin.append_ #[t, u] o.type #[v, y]).run P w = .ok v' w')
    (hK : K (a.put o.dst v') w') : if Region.wanted o (yielded ops a.tmps) = true then Oper.wp P o a w K Q else E := by
  have hw : Region.wanted o (yielded ops a.tmps) = true := by simp [Region.wanted, hg]
  rw [if_pos hw]
  unfold Oper.wp
  simp [execOp, hop, resolve, invoke, builtin, hs, hx, hrun, Result.andThen]
  exact hK

/-- New bytes of the call's own: a slice that leads to them. -/
def NewB (w w' : World) (e : Ending) (l : List UInt8) : Prop :=
  ∃ a len cap, e = .returned (.slice a len cap) ∧ l.length = len ∧ len ≤ cap ∧ Own w' w.heap.size (.slice a len cap) l ∧ Rd w' a l ∧ (a = none → l = [] ∧ cap = 0) ∧ Below w.heap.size w w'

/-- The box of a value. -/
def boxV (w : World) (k i : Int) (s : ByteArray) : World := w.alloc (.cells #[.int .i64 k, .int .i64 i, .string s] 65)

theorem own_at (w : World) (g B : Nat) (hg : w.heap.size = g) (hB : B ≤ w.heap.size) (x : UInt8) (V : Int) (hV : V = (x.toNat : Int)) : Own (w.alloc (.cells #[.int .u8 V] 5)) B (.slice (some ⟨g, 0, none⟩) 1 1) [x] := by
  subst hg
  exact own_one w B hB x V hV

theorem rd_at (w : World) (g : Nat) (hg : w.heap.size = g) (x : UInt8) (V : Int) (hV : V = (x.toNat : Int)) : Rd (w.alloc (.cells #[.int .u8 V] 5)) (some ⟨g, 0, none⟩) [x] := by
  subst hg
  exact rd_one w x V hV

theorem Own.wider {w : World} {B C : Nat} {v : Value} {l : List UInt8} (h : Own w C v l) (hB : B ≤ C) : Own w B v l := by
  obtain ⟨h1, h2⟩ := h
  refine ⟨h1, ?_⟩
  rcases h2 with h2 | ⟨g, cap, cur, hv, hg, hh⟩
  · exact .inl h2
  · exact .inr ⟨g, cap, cur, hv, Nat.le_trans hB hg, hh⟩

theorem below_two (w : World) (o p : Obj) : Below w.heap.size w ((w.alloc o).alloc p) := chain (alloc_below _ _) (alloc_below _ _)

end Go.Proofs.Ytajlkaedkifaoaa

namespace Go.Proofs.Ytajlkaedkifaoaa
open Go.RowKit Go.Lib

/-- No value. -/
def noV : PV := ⟨0, 0, ⟨#[]⟩⟩

/-- What stands at a place within the bytes, ahead of the question whether it is right: a value, the place behind it, the error's number. -/
def rawV (l : List UInt8) (p : Nat) : PV × Int × Int :=
  let k := (l[p]?.getD 0).toNat
  if k = 1 then (⟨1, 0, ⟨#[]⟩⟩, (p : Int) + 1, 0)
  else if k = 2 then (⟨2, (rGet l ((p : Int) + 1) 1).1, ⟨#[]⟩⟩, (rGet l ((p : Int) + 1) 1).2.1, (rGet l ((p : Int) + 1) 1).2.2)
  else if k = 3 then (⟨3, (rGetInt l ((p : Int) + 1)).1, ⟨#[]⟩⟩, (rGetInt l ((p : Int) + 1)).2.1, (rGetInt l ((p : Int) + 1)).2.2)
  else if k = 4 then (⟨4, 0, ⟨(rGetText l ((p : Int) + 1)).1.toArray⟩⟩, (rGetText l ((p : Int) + 1)).2.1, (rGetText l ((p : Int) + 1)).2.2)
  else (⟨k, 0, ⟨#[]⟩⟩, (p : Int) + 1, 3)

/-- What is read, if it is right. -/
def sealV (r : PV × Int × Int) : PV × Int × Int := if r.2.2 ≠ 0 ∨ okV r.1 = false then (noV, 0, 3) else (r.1, r.2.1, 0)

theorem sealV_err {v : PV} {n e : Int} (h : e ≠ 0) : sealV (v, n, e) = (noV, 0, 3) := by simp [sealV, h]
theorem sealV_no {v : PV} {n e : Int} (h : okV v = false) : sealV (v, n, e) = (noV, 0, 3) := by simp [sealV, h]
theorem sealV_ok {v : PV} {n : Int} (h : okV v = true) : sealV (v, n, 0) = (v, n, 0) := by simp [sealV, h]

/-- Read. -/
def readV (l : List UInt8) (p : Int) : PV × Int × Int :=
  if p < 0 ∨ (l.length : Int) < p then (noV, 0, 1)
  else if p = (l.length : Int) then (noV, 0, 3)
  else sealV (rawV l p.toNat)

/-- What Read hands back. -/
def TellsV (e : Ending) (r : PV × Int × Int) : Prop :=
  e = .returned (.tuple #[.agg #[.int .i64 r.1.k, .int .i64 r.1.i, .string r.1.s], .int .i64 r.2.1, .int .i64 r.2.2])

end Go.Proofs.Ytajlkaedkifaoaa

namespace Go.Proofs.Ytajlkaedkifaoaa
open Go.RowKit Go.Lib
set_option linter.unusedVariables false

/-- Check's answer. -/
def chkV (v : PV) : Int := if okV v = true then 0 else 1

/-- Bytes' answer. -/
def putV (v : PV) : List UInt8 × Int := if okV v = true then (bytesV v, 0) else ([], 1)

/-- What a call that makes bytes hands back: bytes that can be read. -/
def GivesB (w w' : World) (e : Ending) (r : List UInt8 × Int) : Prop :=
  ∃ a n cap, e = .returned (.tuple #[.slice a n cap, .int .i64 r.2]) ∧ r.1.length = n ∧ n ≤ 1048576 ∧ n ≤ cap ∧ Rd w' a r.1 ∧ (a = none → r.1 = [] ∧ cap = 0) ∧ Below w.heap.size w w'

def ValueCheck : Prop := ∀ (k i : Int) (s : ByteArray) (w : World), Calls Try.prog 61 #[.agg #[.int .i64 k, .int .i64 i, .string s]] w fun e w' => e = .returned (.int .i64 (chkV ⟨k, i, s⟩)) ∧ Below w.heap.size w w'

def ValueCompare : Prop := ∀ (k i : Int) (s : ByteArray) (k' i' : Int) (s' : ByteArray) (w : World), Calls Try.prog 59 #[.agg #[.int .i64 k, .int .i64 i, .string s], .agg #[.int .i64 k', .int .i64 i', .string s']] w fun e w' => e = .returned (.int .i64 (cmpV ⟨k, i, s⟩ ⟨k', i', s'⟩)) ∧ Below w.heap.size w w'

/-- One of these texts is too long to be played. -/
def longT (ts : List ByteArray) : Bool := ts.any fun s => decide (300 < s.size)

set_option maxHeartbeats 400000 in
theorem long_any (g n cap : Nat) (ts : List ByteArray) (w : World) (hn : ts.length = n) (h3 : n ≤ 1000) (hc : ∀ i (hi : i < ts.length), w.cell? ⟨g, i * 3 + 2, none⟩ = some (.string ts[i])) :
    Calls Try.prog 30 #[.slice (some ⟨g, 0, none⟩) n cap] w fun e w' => e = .returned (.bool (longT ts)) ∧ w' = w := by
  have HN : Hid (ts.length = n) := hn
  clear hn
  go_enter Try.func30, Try.ntmps30
  go_wp2
  go_loop [3] (fun i => ∃ k : Nat, k ≤ n ∧ i = .int .i64 k ∧ Hid (longT (ts.take k) = false)) (fun i => n - (RowKit.intOf i).toNat)
  case atStart => exact ⟨0, Nat.zero_le _, rfl, rfl⟩
  case round =>
    obtain ⟨k, hk, rfl, hT⟩ := hrel
    by_cases hlt : k < n
    · have hkl : k < ts.length := by rw [HN.out]; exact hlt
      have hck := hc k hkl
      have HS : Hid (longT (ts.take (k + 1)) = decide (300 < ts[k].size)) := by
        have h := hT.out
        unfold longT at h ⊢
        show _ = _
        rw [List.take_succ_eq_append_getElem hkl, List.any_append, h]
        simp
      have HX : Hid (300 < ts[k].size → longT ts = true) := fun h => by
        unfold longT
        rw [List.any_eq_true]
        exact ⟨_, List.getElem_mem hkl, by simpa using h⟩
      clear hc
      generalize ts[k] = s at *
      by_cases hs : 300 < s.size
      · have HX' : Hid (longT ts = true) := HX.out hs
        go_wp2
        go_ret
        exact ⟨by rw [HX'.out]; rfl, rfl⟩
      · have HS' : Hid (longT (ts.take (k + 1)) = false) := by rw [HS.out]; show _ = _; simpa using hs
        go_wp2
        go_round
        case rel => exact ⟨k + 1, by omega, by go_num, HS'⟩
        case measure => simp [RowKit.intOf]; omega
    · have h := hT.out
      rw [List.take_of_length_le (by rw [HN.out]; omega)] at h
      have HH : Hid (longT ts = false) := h
      clear h
      go_wp2
      go_ret
      exact ⟨by rw [HH.out]; rfl, rfl⟩

end Go.Proofs.Ytajlkaedkifaoaa
