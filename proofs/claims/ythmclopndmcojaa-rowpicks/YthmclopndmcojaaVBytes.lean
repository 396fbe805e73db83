/-
  What the document's own ValueBytes writes of a right value.
-/
import Derived.Test.YthmclopndmcojaaRows
import Derived.Test.YthmclopndmcojaaVals
import Derived.Test.YthmclopndmcojaaVRef
import Derived.Test.YthmclopndmcojaaRef
import Derived.Test.YthmclopndmcojaaApi
import Derived.WalkKit
import Derived.WalkSpells
import Derived.WalkLawsBesides
import Derived.Deep.RegionLaw
namespace Go.Proofs.Ythmclopndmcojaa
open Go.RowKit Go.Lib
set_option linter.unusedVariables false

/-- A right value's bytes. -/
def bytesV (v : PV) : List UInt8 :=
  UInt8.ofNat v.k.toNat :: (if v.k = 2 then [UInt8.ofNat v.i.toNat] else if v.k = 3 then intBytes v.i else if v.k = 4 then textBytes v.s.data.toList else [])

/-- An append whose run is known, as one step of a region that draws. -/
theorem step_append_run {P : Program} {ops : Array Oper} {o : Oper} {a : Act} {w : World} {K : Act → World → Prop} {Q : Exit → Act → World → Prop} {E : Prop}
    (hg : o.guard = none) (s x : Operand) (t u : TypeId) (hop : o.op = Op.call { callee := Callee.builtin Builtin.append, args := #[s, x], argTypes := #[t, u] })
    (v y v' : Value) (w' : World) (hs : a.eval s = v) (hx : a.eval x = y) (hrun : (Builtin.append_ #[t, u] o.type #[v, y]).run P w = .ok v' w')
    (hK : K (a.put o.dst v') w') : if Region.wanted o (yielded ops a.tmps) = true then Oper.wp P o a w K Q else E := by
  have hw : Region.wanted o (yielded ops a.tmps) = true := by simp [Region.wanted, hg]
  rw [if_pos hw]
  unfold Oper.wp
  simp [execOp, hop, resolve, invoke, builtin, hs, hx, hrun, Result.andThen]
  exact hK

/-- New bytes of the call's own: a slice that leads to them. -/
def NewB (w w' : World) (e : Ending) (l : List UInt8) : Prop :=
  ∃ a len cap, e = .returned (.slice a len cap) ∧ l.length = len ∧ len ≤ cap ∧ Own w' w.heap.size (.slice a len cap) l ∧ Rd w' a l ∧ (a = none → l = [] ∧ cap = 0) ∧ Below w.heap.size w w'

/-- The box of a value. -/
def boxV (w : World) (k i : Int) (s : ByteArray) : World := w.alloc (.cells #[.int .i64 k, .int .i64 i, .string s] 50)

theorem own_at (w : World) (g B : Nat) (hg : w.heap.size = g) (hB : B ≤ w.heap.size) (x : UInt8) (V : Int) (hV : V = (x.toNat : Int)) : Own (w.alloc (.cells #[.int .u8 V] 5)) B (.slice (some ⟨g, 0, none⟩) 1 1) [x] := by
  subst hg
  exact own_one w B hB x V hV

theorem rd_at (w : World) (g : Nat) (hg : w.heap.size = g) (x : UInt8) (V : Int) (hV : V = (x.toNat : Int)) : Rd (w.alloc (.cells #[.int .u8 V] 5)) (some ⟨g, 0, none⟩) [x] := by
  subst hg
  exact rd_one w x V hV

theorem Own.wider {w : World} {B C : Nat} {v : Value} {l : List UInt8} (h : Own w C v l) (hB : B ≤ C) : Own w B v l := by
  obtain ⟨h1, h2⟩ := h
  refine ⟨h1, ?_⟩
  rcases h2 with h2 | ⟨g, cap, cur, hv, hg, hh⟩
  · exact .inl h2
  · exact .inr ⟨g, cap, cur, hv, Nat.le_trans hB hg, hh⟩

theorem below_two (w : World) (o p : Obj) : Below w.heap.size w ((w.alloc o).alloc p) := chain (alloc_below _ _) (alloc_below _ _)

set_option maxHeartbeats 400000 in
theorem rVB_null (i : Int) (s : ByteArray) (w : World) :
    Calls Try.prog 45 #[.agg #[.int .i64 1, .int .i64 i, .string s]] w fun e w' => NewB w w' e (bytesV ⟨1, i, s⟩) := by
  have hv : bytesV ⟨1, i, s⟩ = [1] := by simp [bytesV]
  have ho := own_at (w.alloc (.cells #[.int .i64 1, .int .i64 i, .string s] 50)) (w.heap.size + 1) w.heap.size (by simp) (by simp) 1 1 rfl
  rw [hv]
  go_enter Try.func45, Try.ntmps45
  go_wp2
  go_ret
  obtain ⟨a, cap, e, h1, h2, h3⟩ := ho.form
  refine ⟨_, _, _, rfl, rfl, Nat.le_refl _, by simpa using ho, ?_, (fun h => by cases h), below_two _ _ _⟩
  simp at e
  rw [← e.1] at h2
  exact h2

set_option maxHeartbeats 400000 in
theorem rVB_bool (i : Nat) (hi : i < 256) (s : ByteArray) (w : World) :
    Calls Try.prog 45 #[.agg #[.int .i64 2, .int .i64 i, .string s]] w fun e w' => NewB w w' e (bytesV ⟨2, i, s⟩) := by
  have hv : bytesV ⟨2, i, s⟩ = [2] ++ [UInt8.ofNat i] := by simp [bytesV]
  have hx : ((i : Nat) : Int) = ((UInt8.ofNat i).toNat : Int) := by simp [UInt8.toNat_ofNat']; omega
  have ho := own_at (w.alloc (.cells #[.int .i64 2, .int .i64 i, .string s] 50)) (w.heap.size + 1) w.heap.size (by simp) (by simp) 2 2 rfl
  obtain ⟨a4, cap4, w4, hrun4, hc4, ho4, hr4, hn4, _, hb4⟩ := run_append_form (t := 29) (ty := 29) (n := 1) (m := 1) (l := [UInt8.ofNat i]) (cap := 1) Try.underlying29 Try.info5 (Own.later ho (alloc_below _ _)) rfl rfl (rd_at _ (w.heap.size + 1 + 1) (by simp) _ _ hx) (fun h => by cases h) (by omega) (by omega) (by simp; omega)
  have hb := ((below_two w _ _).trans ((alloc_below _ _).mono (by simp; omega))).trans hb4
  rw [hv]
  clear ho hb4 hv hx
  go_enter Try.func45, Try.ntmps45
  go_wp2_with (at_builtin; refine wpList_append_run rfl (.tmp 12) (.tmp 16) 29 29 rfl _ _ _ _ rfl rfl hrun4 ?_)
  go_ret
  exact ⟨_, _, _, rfl, rfl, hc4, ho4, hr4, hn4, hb⟩

set_option maxHeartbeats 400000 in
theorem rVB_int (i : Int) (s : ByteArray) (w : World) (h1 : -1152921504606846976 ≤ i) (h2 : i ≤ 1152921504606846976) :
    Calls Try.prog 45 #[.agg #[.int .i64 3, .int .i64 i, .string s]] w fun e w' => NewB w w' e (bytesV ⟨3, i, s⟩) := by
  have hv : bytesV ⟨3, i, s⟩ = [3] ++ intBytes i := by simp [bytesV]
  rw [hv]
  clear hv
  go_enter Try.func45, Try.ntmps45
  go_wp2_with fail
  refine (rintBytes_any i _ h1 h2).mono ?_
  rintro e w2 ⟨a2, cap2, rfl, hc2, ho2, hr2, hn2, hb2⟩
  obtain ⟨a4, cap4, w4, hrun4, hc4, ho4, hr4, hn4, _, hb4⟩ := run_append_form (t := 29) (ty := 29) (n := 1) (m := 9) (cap := cap2) Try.underlying29 Try.info5 (Own.later (own_at (w.alloc (.cells #[.int .i64 3, .int .i64 i, .string s] 50)) (w.heap.size + 1) w.heap.size (by simp) (by simp) 3 3 rfl) hb2) rfl (intBytes_length i) hr2 hn2 (by omega) (by omega) (Nat.le_trans (by simp; omega) hb2.size)
  have hb := (chain (below_two w _ _) hb2).trans hb4
  clear ho2 hr2 hn2 hb2 hb4
  go_wp2_with (at_builtin; refine wpList_append_run rfl (.tmp 20) (.tmp 23) 29 29 rfl _ _ _ _ rfl rfl hrun4 ?_)
  go_ret
  exact ⟨_, _, _, rfl, by simp [intBytes_length], hc4, ho4, hr4, hn4, hb⟩

set_option maxHeartbeats 800000 in
theorem rVB_text (i : Int) (s : ByteArray) (w : World) (hs : s.size ≤ 24) :
    Calls Try.prog 45 #[.agg #[.int .i64 4, .int .i64 i, .string s]] w fun e w' => NewB w w' e (bytesV ⟨4, i, s⟩) := by
  have hv : bytesV ⟨4, i, s⟩ = ([4] ++ [UInt8.ofNat s.data.toList.length]) ++ s.data.toList := by simp [bytesV, textBytes]
  have ho := own_at (w.alloc (.cells #[.int .i64 4, .int .i64 i, .string s] 50)) (w.heap.size + 1) (w.heap.size + 1) (by simp) (by simp) 4 4 rfl
  have hx : IntKind.u8.wrap ((s.size : Nat) : Int) = ((UInt8.ofNat s.data.toList.length).toNat : Int) := by rw [← size_eq, ofNat_small hs, IntKind.wrap_u8]; omega
  obtain ⟨a4, cap4, w4, hrun4, hc4, ho4, hr4, hn4, hs4, hb4⟩ := run_append_form (t := 29) (ty := 29) (n := 1) (m := 1) (l := [UInt8.ofNat s.data.toList.length]) (cap := 1) Try.underlying29 Try.info5 (Own.later ho (alloc_below _ (.cells #[.int .u8 (IntKind.u8.wrap ((s.size : Nat) : Int))] 5)).drew) rfl rfl (rd_at _ (w.heap.size + 1 + 1) (by simp) _ _ hx : Rd (World.alloc _ _) _ _) (fun h => by cases h) (by omega) (by omega) (by simp)
  have hbox4 : w4.cell? ⟨w.heap.size, 2, none⟩ = some (.string s) := (box3 ((below_two _ _ _).drew.trans (hb4.mono (by simp)))).2.2
  have hb24 : Below w.heap.size w w4 := ((below_two w _ _).trans (((alloc_below _ _).drew).mono (by simp; omega))).trans (hb4.mono (by omega))
  obtain ⟨a5, cap5, w5, hrun5, hc5, ho5, hr5, hn5, _, hb5⟩ := run_append_text (t := 29) (u := 9) (ty := 29) (n := 1 + 1) (s := s) Try.underlying29 Try.underlying9 Try.info5 ho4 (by simp) (by omega) (by omega) (by simp at hs4; omega)
  have hb := hb24.trans (hb5.mono (by omega))
  have HO : Hid (Own w5 w.heap.size (.slice a5 (1 + 1 + s.size) cap5) (bytesV ⟨4, i, s⟩)) := by rw [hv]; exact ho5.wider (by omega)
  have HR : Hid (Rd w5 a5 (bytesV ⟨4, i, s⟩)) := by rw [hv]; exact hr5
  have HN : Hid (a5 = none → bytesV ⟨4, i, s⟩ = [] ∧ cap5 = 0) := by rw [hv]; exact hn5
  have HL : Hid ((bytesV ⟨4, i, s⟩).length = 1 + 1 + s.size) := by rw [hv, size_eq]; show (_ : Nat) = _; simp; omega
  clear ho hx ho4 hr4 hn4 hs4 hb4 hb24 ho5 hr5 hn5 hb5 hv
  go_enter Try.func45, Try.ntmps45
  go_wp2
  go_region_law (first | (refine step_append_run rfl (.tmp 27) (.tmp 32) 29 29 rfl _ _ _ _ rfl rfl hrun4 ?_) | (refine step_append_run rfl (.tmp 33) (.tmp 35) 29 9 rfl _ _ _ _ rfl rfl hrun5 ?_))
  all_goals (go_wp2; go_ret; exact ⟨_, _, _, rfl, HL.out, hc5, HO.out, HR.out, HN.out, hb⟩)

theorem rVB_any (k i : Int) (s : ByteArray) (w : World) (hok : okV ⟨k, i, s⟩ = true) :
    Calls Try.prog 45 #[.agg #[.int .i64 k, .int .i64 i, .string s]] w fun e w' => NewB w w' e (bytesV ⟨k, i, s⟩) := by
  by_cases k1 : k = 1
  · subst k1; exact rVB_null i s w
  by_cases k2 : k = 2
  · subst k2
    simp [okV] at hok
    obtain ⟨n, rfl⟩ : ∃ n : Nat, i = n := ⟨i.toNat, by omega⟩
    exact rVB_bool n (by omega) s w
  by_cases k3 : k = 3
  · subst k3
    simp [okV] at hok
    exact rVB_int i s w hok.1 hok.2.1
  by_cases k4 : k = 4
  · subst k4
    simp [okV] at hok
    exact rVB_text i s w hok.2
  · rw [okV_none ⟨k1, k2, k3, k4⟩] at hok; cases hok

end Go.Proofs.Ythmclopndmcojaa
