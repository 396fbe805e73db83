/-
  Texts of the proof of BufAll, one behind the other.
-/
import Derived.Test.YtjddkodcbpnilaaRows
import Derived.Test.YtjddkodcbpnilaaG41BufAll
import Derived.Test.YtjddkodcbpnilaaG42BufAll
import Derived.Test.YtjddkodcbpnilaaG34BufAll
import Derived.Test.YtjddkodcbpnilaaG20BufAll
import Derived.Test.YtjddkodcbpnilaaG31BufAll
import Derived.Test.YtjddkodcbpnilaaG32BufAll
import Derived.Test.YtjddkodcbpnilaaG36BufAll
namespace Go.Proofs.Ytjddkodcbpnilaa
open Go.RowKit Go.Lib
set_option linter.unusedVariables false

def sameDot (x y : PO) : Bool := decide (y.dp = x.dp) && decide (y.dn = x.dn)

def chkB (H : List Int) (W : List PO) : Int := if chkD H ≠ 0 then chkD H else if 40 < W.length then 2 else 0

def offerF (H : List Int) (W : List PO) (x : PO) : List PO × List PO × Int :=
  if chkB H W ≠ 0 then ([], [], chkB H W)
  else if (hasD H x.dp x.dn || W.any (sameDot x)) = true then ([], [], 8)
  else if canP H x = true then ((takeF H (x :: W)).1, (takeF H (x :: W)).2, 0)
  else if W.length = 40 then ([], [], 6) else ([], W ++ [x], 9)

def againF (H : List Int) (W : List PO) : List PO × List PO × Int :=
  if chkB H W ≠ 0 then ([], [], chkB H W) else ((takeF H W).1, (takeF H W).2, 0)

set_option maxHeartbeats 1000000 in
theorem bcheck_any (ah a : Option Addr) (nh ch n cap : Nat) (H : List Int) (X : List PO) (w : World) (hn : H.length = nh) (hl : nh ≤ 65536) (hr : RdI .i64 w ah H) (hx : X.length = n) (h4 : n ≤ 65536) :
    Calls Try.prog 12 #[.slice ah nh ch, .slice a n cap] w fun e w' => e = .returned (.int .i64 (chkB H X)) ∧ w' = w := by
  have C1 := dCheck_any ah nh ch H w hn hl hr
  unfold chkB
  rw [hx]
  clear hr hn
  generalize chkD H = c at *
  by_cases hc : c = 0
  · subst hc
    simp only [ne_eq, not_true_eq_false, if_false]
    by_cases h40 : 40 < n
    · rw [if_pos h40]
      go_enter Try.func12, Try.ntmps12
      go_wp2_with fail
      refine C1.mono ?_
      rintro e w1 ⟨rfl, hw⟩
      subst w1
      clear C1
      go_wp2
      go_ret
      exact ⟨rfl, rfl⟩
    · rw [if_neg h40]
      go_enter Try.func12, Try.ntmps12
      go_wp2_with fail
      refine C1.mono ?_
      rintro e w1 ⟨rfl, hw⟩
      subst w1
      clear C1
      go_wp2
      go_ret
      exact ⟨rfl, rfl⟩
  · rw [if_pos hc]
    have hb : (c != 0) = true := by simpa using hc
    go_enter Try.func12, Try.ntmps12
    go_wp2_with fail
    refine C1.mono ?_
    rintro e w1 ⟨rfl, hw⟩
    subst w1
    clear C1 hc
    go_wp2
    go_ret
    exact ⟨rfl, rfl⟩

set_option maxRecDepth 100000 in
set_option maxHeartbeats 1000000 in
theorem offer1_any (g : Nat) (c : List Value) (y : PO) (p k : Int) (w : World) {E : Nat → Prop} (h : LiesX E w c y) (x0 : w.cell? ⟨g, 0, none⟩ = some (.int .i64 p)) (x1 : w.cell? ⟨g, 1, none⟩ = some (.int .i64 k)) :
    Calls Try.prog 15 (#[.agg c.toArray] ++ #[.pointer (some ⟨g, 0, none⟩)]) w fun e w' => e = .returned (.bool (decide (y.dp = p) && decide (y.dn = k))) ∧ Below w.heap.size w w' := by
  obtain ⟨da, va, oa, dc, vc, oc, rfl, hlo, hi, _⟩ := h
  have B1 := alloc_below w (.cells (cellsO y da va oa dc vc oc) 32)
  have z0 := cell_later B1 x0
  have z1 := cell_later B1 x1
  have HB : Hid (Below w.heap.size w (w.alloc (.cells (cellsO y da va oa dc vc oc) 32))) := B1
  clear B1 hlo hi x0 x1
  obtain ⟨dp, dn, deps, sp, sl, sq, kind, table, key, col, vals, dots⟩ := y
  simp only [cellsO] at *
  generalize deps.length = m at *
  generalize vals.length = nv at *
  generalize dots.length = no at *
  show Calls Try.prog 15 #[.agg #[.int .i64 dp, .int .i64 dn, .slice da m dc, .int .i64 sp, .int .i64 sl, .int .i64 sq, .int .i64 kind, .int .i64 table, .string key, .int .i64 col, .slice va nv vc, .slice oa no oc], .pointer (some ⟨g, 0, none⟩)] w _
  by_cases h1 : dp = p
  · subst h1
    by_cases h2 : dn = k
    · subst h2
      go_enter Try.func15, Try.ntmps15
      go_wp2
      go_ret
      exact ⟨by simp, HB.out⟩
    · have q2 : (dn == k) = false := by simpa using h2
      go_enter Try.func15, Try.ntmps15
      go_wp2
      go_ret
      exact ⟨by simp [h2], HB.out⟩
  · have q1 : (dp == p) = false := by simpa using h1
    go_enter Try.func15, Try.ntmps15
    go_wp2
    go_ret
    exact ⟨by simp [h1], HB.out⟩

end Go.Proofs.Ytjddkodcbpnilaa

namespace Go.Proofs.Ytjddkodcbpnilaa
open Go.RowKit Go.Lib
set_option linter.unusedVariables false

/-- What Offer and Again answer. -/
def GivesBuf (w w' : World) (e : Ending) (r : List PO × List PO × Int) : Prop :=
  ∃ a1 n1 c1 a2 n2 c2, e = .returned (.tuple #[.slice a1 n1 c1, .slice a2 n2 c2, .int .i64 r.2.2]) ∧ r.1.length = n1 ∧ r.2.1.length = n2 ∧ n1 ≤ c1 ∧ n2 ≤ c2 ∧ (a1 = none → r.1 = [] ∧ c1 = 0) ∧ (a2 = none → r.2.1 = [] ∧ c2 = 0) ∧ RdF w.heap.size w' a1 r.1 ∧ RdF w.heap.size w' a2 r.2.1 ∧ Below w.heap.size w w'

theorem GivesBuf.of_no {w w' : World} {e : Ending} {k : Int} (h : e = .returned (.tuple #[.slice none 0 0, .slice none 0 0, .int .i64 k])) (hb : Below w.heap.size w w') : GivesBuf w w' e ([], [], k) :=
  ⟨none, 0, 0, none, 0, 0, h, rfl, rfl, Nat.le_refl _, Nat.le_refl _, fun _ => ⟨rfl, rfl⟩, fun _ => ⟨rfl, rfl⟩, RdF.nil _ _, RdF.nil _ _, hb⟩

theorem wp_append_buf {P : Program} {o : Oper} {a : Act} {w : World} {K : Act → World → Prop} {Q : Exit → Act → World → Prop}
    (s x : Operand) (t u : TypeId) (hop : o.op = Op.call { callee := Callee.builtin Builtin.append, args := #[s, x], argTypes := #[t, u] })
    (v y v' : Value) (w' : World) (hs : a.eval s = v) (hx : a.eval x = y) (hrun : (Builtin.append_ #[t, u] o.type #[v, y]).run P w = .ok v' w')
    (hK : K (a.put o.dst v') w') : Oper.wp P o a w K Q := by
  unfold Oper.wp
  simp [execOp, hop, resolve, invoke, builtin, hs, hx, hrun, Result.andThen]
  exact hK

theorem any_same (Z : List (List Value × PO)) (n : Nat) (hz : Z.length = n) (p : PO → Bool) : (List.range n).any (fun k => (Z[k]?.map fun z => p z.2).getD false) = (Z.map (·.2)).any p := by
  rw [Bool.eq_iff_iff, List.any_eq_true, List.any_eq_true]
  constructor
  · rintro ⟨k, hk, h⟩
    have hk' : k < Z.length := by rw [hz]; exact List.mem_range.1 hk
    rw [List.getElem?_eq_getElem hk'] at h
    exact ⟨_, List.mem_map_of_mem (List.getElem_mem hk'), h⟩
  · rintro ⟨y, hy, h⟩
    obtain ⟨z, hz', rfl⟩ := List.mem_map.1 hy
    obtain ⟨k, hk, rfl⟩ := List.mem_iff_getElem.1 hz'
    exact ⟨k, List.mem_range.2 (by rw [← hz]; exact hk), by rw [List.getElem?_eq_getElem hk]; exact h⟩

set_option maxRecDepth 100000 in
set_option maxHeartbeats 4000000 in
theorem offer_no (ah aw : Option Addr) (nh ch nw cw : Nat) (H : List Int) (Z : List (List Value × PO)) (x : PO) (da va oa : Option Addr) (dc vc oc : Nat) (w : World) (hn : H.length = nh) (hl : nh ≤ 65536) (h64 : All64 H) (hr : RdI .i64 w ah H) (hnil : ah = none → H = [] ∧ ch = 0) (hz : Z.length = nw) (h4 : nw ≤ 300) (hc : RdC w aw (Z.map (·.1))) (hwn : aw = none → Z = [] ∧ cw = 0) (hw : ∀ z ∈ Z, LiesX (fun _ => False) w z.1 z.2) (h : LiesO w x da va oa dc vc oc) (hi : I64O x) (hk : chkB H (Z.map (·.2)) ≠ 0) :
    Calls Try.prog 6 #[.slice ah nh ch, .slice aw nw cw, .agg (cellsO x da va oa dc vc oc)] w fun e w' => GivesBuf w w' e ([], [], chkB H (Z.map (·.2))) := by
  have B1 := alloc_below w (.cells (cellsO x da va oa dc vc oc) 32)
  have HK : Hid (CellsAt (w.alloc (.cells (cellsO x da va oa dc vc oc) 32)) w.heap.size (cellsO x da va oa dc vc oc) 32) := CellsAt.made rfl
  have HB : Hid (Below w.heap.size w (w.alloc (.cells (cellsO x da va oa dc vc oc) 32))) := B1
  have C0 := bcheck_any ah aw nh ch nw cw H (Z.map (·.2)) (w.alloc (.cells (cellsO x da va oa dc vc oc) 32)) hn hl (hr.later B1) (by rw [List.length_map]; exact hz) (by omega)
  have C1 := fun V (hb : Below w.heap.size w V) => dotHas ah nh ch x.dp x.dn H V hn hl h64 hi.dp hi.dn (hr.later hb)
  have C2 := fun V (hb : Below (w.alloc (.cells (cellsO x da va oa dc vc oc) 32)).heap.size (w.alloc (.cells (cellsO x da va oa dc vc oc) 32)) V) => containsFunc_any aw nw cw 15 #[.pointer (some ⟨w.heap.size, 0, none⟩)] (Z.map (·.1)) (fun k => (Z[k]?.map fun z => sameDot x z.2).getD false) V (by rw [List.length_map]; exact hz) (by omega) (LiesX.dozen hw) (hc.later (chain B1 hb)) (enters 15 Try.func15 (by kernel_rfl) rfl) (fun k hk V' hb' => by
    have hk' : k < Z.length := by rw [List.length_map] at hk; exact hk
    have hbV := chain B1 (chain hb hb')
    have hKV := (HK.out.later (chain hb hb'))
    have := offer1_any w.heap.size Z[k].1 Z[k].2 x.dp x.dn V' ((hw _ (List.getElem_mem hk')).later hbV) (hKV.cell 0) (hKV.cell 1)
    rw [List.getElem_map, List.getElem?_eq_getElem hk']
    exact this)
  simp only [any_same Z nw hz (sameDot x)] at C2
  have C3 := fun V (hb : Below w.heap.size w V) => can_any ah nh ch H x da va oa dc vc oc V hn hl h64 (hr.later hb) (h.later hb) hi
  clear C1 C2 C3 hr hc hw h hi h64 hnil hwn hn hz
  generalize chkB H (Z.map (·.2)) = c at *
  have hcb : (c != 0) = true := by simpa using hk
  obtain ⟨dp, dn, deps, sp, sl, sq, kind, table, key, col, vals, dots⟩ := x
  simp only [cellsO] at *
  generalize deps.length = m at *
  generalize vals.length = nv at *
  generalize dots.length = no at *
  go_enter Try.func6, Try.ntmps6
  go_wp2_with fail
  refine C0.mono ?_
  rintro e w1 ⟨rfl, hw1⟩
  subst w1
  clear C0
  clear hk
  go_wp2
  go_ret3
  exact GivesBuf.of_no rfl HB.out

set_option maxRecDepth 100000 in
set_option maxHeartbeats 4000000 in
theorem offer_had (ah aw : Option Addr) (nh ch nw cw : Nat) (H : List Int) (Z : List (List Value × PO)) (x : PO) (da va oa : Option Addr) (dc vc oc : Nat) (w : World) (hn : H.length = nh) (hl : nh ≤ 65536) (h64 : All64 H) (hr : RdI .i64 w ah H) (hnil : ah = none → H = [] ∧ ch = 0) (hz : Z.length = nw) (h4 : nw ≤ 300) (hc : RdC w aw (Z.map (·.1))) (hwn : aw = none → Z = [] ∧ cw = 0) (hw : ∀ z ∈ Z, LiesX (fun _ => False) w z.1 z.2) (h : LiesO w x da va oa dc vc oc) (hi : I64O x) (hk : chkB H (Z.map (·.2)) = 0) (hh : hasD H x.dp x.dn = true) :
    Calls Try.prog 6 #[.slice ah nh ch, .slice aw nw cw, .agg (cellsO x da va oa dc vc oc)] w fun e w' => GivesBuf w w' e ([], [], 8) := by
  have B1 := alloc_below w (.cells (cellsO x da va oa dc vc oc) 32)
  have HK : Hid (CellsAt (w.alloc (.cells (cellsO x da va oa dc vc oc) 32)) w.heap.size (cellsO x da va oa dc vc oc) 32) := CellsAt.made rfl
  have HB : Hid (Below w.heap.size w (w.alloc (.cells (cellsO x da va oa dc vc oc) 32))) := B1
  have C0 := bcheck_any ah aw nh ch nw cw H (Z.map (·.2)) (w.alloc (.cells (cellsO x da va oa dc vc oc) 32)) hn hl (hr.later B1) (by rw [List.length_map]; exact hz) (by omega)
  have C1 := fun V (hb : Below w.heap.size w V) => dotHas ah nh ch x.dp x.dn H V hn hl h64 hi.dp hi.dn (hr.later hb)
  have C2 := fun V (hb : Below (w.alloc (.cells (cellsO x da va oa dc vc oc) 32)).heap.size (w.alloc (.cells (cellsO x da va oa dc vc oc) 32)) V) => containsFunc_any aw nw cw 15 #[.pointer (some ⟨w.heap.size, 0, none⟩)] (Z.map (·.1)) (fun k => (Z[k]?.map fun z => sameDot x z.2).getD false) V (by rw [List.length_map]; exact hz) (by omega) (LiesX.dozen hw) (hc.later (chain B1 hb)) (enters 15 Try.func15 (by kernel_rfl) rfl) (fun k hk V' hb' => by
    have hk' : k < Z.length := by rw [List.length_map] at hk; exact hk
    have hbV := chain B1 (chain hb hb')
    have hKV := (HK.out.later (chain hb hb'))
    have := offer1_any w.heap.size Z[k].1 Z[k].2 x.dp x.dn V' ((hw _ (List.getElem_mem hk')).later hbV) (hKV.cell 0) (hKV.cell 1)
    rw [List.getElem_map, List.getElem?_eq_getElem hk']
    exact this)
  simp only [any_same Z nw hz (sameDot x)] at C2
  have C3 := fun V (hb : Below w.heap.size w V) => can_any ah nh ch H x da va oa dc vc oc V hn hl h64 (hr.later hb) (h.later hb) hi
  have hk' : chkB H (Z.map (·.2)) = 0 := hk
  rw [hk] at C0
  rw [hh] at C1
  clear C2 C3 hr hc hw h hi h64 hnil hwn hn hz hk hk' hh
  obtain ⟨dp, dn, deps, sp, sl, sq, kind, table, key, col, vals, dots⟩ := x
  simp only [cellsO] at *
  generalize deps.length = m at *
  generalize vals.length = nv at *
  generalize dots.length = no at *
  go_enter Try.func6, Try.ntmps6
  go_wp2_with fail
  refine C0.mono ?_
  rintro e w1 ⟨rfl, hw1⟩
  subst w1
  clear C0
  go_wp2_with fail
  refine (C1 _ HB.out).mono ?_
  rintro e w1 ⟨rfl, hb1⟩
  have HB1 : Hid (Below w.heap.size w w1) := chain HB.out hb1
  clear C1 hb1 HB HK
  go_wp2
  go_ret3
  exact GivesBuf.of_no rfl HB1.out

set_option maxRecDepth 100000 in
set_option maxHeartbeats 4000000 in
theorem offer_twice (ah aw : Option Addr) (nh ch nw cw : Nat) (H : List Int) (Z : List (List Value × PO)) (x : PO) (da va oa : Option Addr) (dc vc oc : Nat) (w : World) (hn : H.length = nh) (hl : nh ≤ 65536) (h64 : All64 H) (hr : RdI .i64 w ah H) (hnil : ah = none → H = [] ∧ ch = 0) (hz : Z.length = nw) (h4 : nw ≤ 300) (hc : RdC w aw (Z.map (·.1))) (hwn : aw = none → Z = [] ∧ cw = 0) (hw : ∀ z ∈ Z, LiesX (fun _ => False) w z.1 z.2) (h : LiesO w x da va oa dc vc oc) (hi : I64O x) (hk : chkB H (Z.map (·.2)) = 0) (hh : hasD H x.dp x.dn = false) (ht : (Z.map (·.2)).any (sameDot x) = true) :
    Calls Try.prog 6 #[.slice ah nh ch, .slice aw nw cw, .agg (cellsO x da va oa dc vc oc)] w fun e w' => GivesBuf w w' e ([], [], 8) := by
  have B1 := alloc_below w (.cells (cellsO x da va oa dc vc oc) 32)
  have HK : Hid (CellsAt (w.alloc (.cells (cellsO x da va oa dc vc oc) 32)) w.heap.size (cellsO x da va oa dc vc oc) 32) := CellsAt.made rfl
  have HB : Hid (Below w.heap.size w (w.alloc (.cells (cellsO x da va oa dc vc oc) 32))) := B1
  have C0 := bcheck_any ah aw nh ch nw cw H (Z.map (·.2)) (w.alloc (.cells (cellsO x da va oa dc vc oc) 32)) hn hl (hr.later B1) (by rw [List.length_map]; exact hz) (by omega)
  have C1 := fun V (hb : Below w.heap.size w V) => dotHas ah nh ch x.dp x.dn H V hn hl h64 hi.dp hi.dn (hr.later hb)
  have C2 := fun V (hb : Below (w.alloc (.cells (cellsO x da va oa dc vc oc) 32)).heap.size (w.alloc (.cells (cellsO x da va oa dc vc oc) 32)) V) => containsFunc_any aw nw cw 15 #[.pointer (some ⟨w.heap.size, 0, none⟩)] (Z.map (·.1)) (fun k => (Z[k]?.map fun z => sameDot x z.2).getD false) V (by rw [List.length_map]; exact hz) (by omega) (LiesX.dozen hw) (hc.later (chain B1 hb)) (enters 15 Try.func15 (by kernel_rfl) rfl) (fun k hk V' hb' => by
    have hk' : k < Z.length := by rw [List.length_map] at hk; exact hk
    have hbV := chain B1 (chain hb hb')
    have hKV := (HK.out.later (chain hb hb'))
    have := offer1_any w.heap.size Z[k].1 Z[k].2 x.dp x.dn V' ((hw _ (List.getElem_mem hk')).later hbV) (hKV.cell 0) (hKV.cell 1)
    rw [List.getElem_map, List.getElem?_eq_getElem hk']
    exact this)
  simp only [any_same Z nw hz (sameDot x)] at C2
  have C3 := fun V (hb : Below w.heap.size w V) => can_any ah nh ch H x da va oa dc vc oc V hn hl h64 (hr.later hb) (h.later hb) hi
  have hk' : chkB H (Z.map (·.2)) = 0 := hk
  rw [hk] at C0
  rw [hh] at C1
  rw [ht] at C2
  clear C3 hr hc hw h hi h64 hnil hwn hn hz hk hk' hh ht
  obtain ⟨dp, dn, deps, sp, sl, sq, kind, table, key, col, vals, dots⟩ := x
  simp only [cellsO] at *
  generalize deps.length = m at *
  generalize vals.length = nv at *
  generalize dots.length = no at *
  go_enter Try.func6, Try.ntmps6
  go_wp2_with fail
  refine C0.mono ?_
  rintro e w1 ⟨rfl, hw1⟩
  subst w1
  clear C0
  go_wp2_with fail
  refine (C1 _ HB.out).mono ?_
  rintro e w1 ⟨rfl, hb1⟩
  have HB1 : Hid (Below w.heap.size w w1) := chain HB.out hb1
  have HK1 : Hid (CellsAt w1 w.heap.size #[.int .i64 dp, .int .i64 dn, .slice da m dc, .int .i64 sp, .int .i64 sl, .int .i64 sq, .int .i64 kind, .int .i64 table, .string key, .int .i64 col, .slice va nv vc, .slice oa no oc] 32) := HK.out.later hb1
  go_wp2_with fail
  refine (C2 _ hb1).mono ?_
  rintro e w2 ⟨rfl, hb2⟩
  have HB2 : Hid (Below w.heap.size w w2) := chain HB1.out hb2
  have HK2 : Hid (CellsAt w2 w.heap.size #[.int .i64 dp, .int .i64 dn, .slice da m dc, .int .i64 sp, .int .i64 sl, .int .i64 sq, .int .i64 kind, .int .i64 table, .string key, .int .i64 col, .slice va nv vc, .slice oa no oc] 32) := HK1.out.later hb2
  clear C1 C2 hb1 hb2 HB1 HK1 HK HB
  go_wp2
  go_ret3
  exact GivesBuf.of_no rfl HB2.out

set_option maxRecDepth 100000 in
set_option maxHeartbeats 4000000 in
theorem offer_full (ah aw : Option Addr) (nh ch nw cw : Nat) (H : List Int) (Z : List (List Value × PO)) (x : PO) (da va oa : Option Addr) (dc vc oc : Nat) (w : World) (hn : H.length = nh) (hl : nh ≤ 65536) (h64 : All64 H) (hr : RdI .i64 w ah H) (hnil : ah = none → H = [] ∧ ch = 0) (hz : Z.length = nw) (h4 : nw ≤ 300) (hc : RdC w aw (Z.map (·.1))) (hwn : aw = none → Z = [] ∧ cw = 0) (hw : ∀ z ∈ Z, LiesX (fun _ => False) w z.1 z.2) (h : LiesO w x da va oa dc vc oc) (hi : I64O x) (hk : chkB H (Z.map (·.2)) = 0) (hh : hasD H x.dp x.dn = false) (ht : (Z.map (·.2)).any (sameDot x) = false) (hcan : canP H x = false) (h40 : nw = 40) :
    Calls Try.prog 6 #[.slice ah nh ch, .slice aw nw cw, .agg (cellsO x da va oa dc vc oc)] w fun e w' => GivesBuf w w' e ([], [], 6) := by
  have B1 := alloc_below w (.cells (cellsO x da va oa dc vc oc) 32)
  have HK : Hid (CellsAt (w.alloc (.cells (cellsO x da va oa dc vc oc) 32)) w.heap.size (cellsO x da va oa dc vc oc) 32) := CellsAt.made rfl
  have HB : Hid (Below w.heap.size w (w.alloc (.cells (cellsO x da va oa dc vc oc) 32))) := B1
  have C0 := bcheck_any ah aw nh ch nw cw H (Z.map (·.2)) (w.alloc (.cells (cellsO x da va oa dc vc oc) 32)) hn hl (hr.later B1) (by rw [List.length_map]; exact hz) (by omega)
  have C1 := fun V (hb : Below w.heap.size w V) => dotHas ah nh ch x.dp x.dn H V hn hl h64 hi.dp hi.dn (hr.later hb)
  have C2 := fun V (hb : Below (w.alloc (.cells (cellsO x da va oa dc vc oc) 32)).heap.size (w.alloc (.cells (cellsO x da va oa dc vc oc) 32)) V) => containsFunc_any aw nw cw 15 #[.pointer (some ⟨w.heap.size, 0, none⟩)] (Z.map (·.1)) (fun k => (Z[k]?.map fun z => sameDot x z.2).getD false) V (by rw [List.length_map]; exact hz) (by omega) (LiesX.dozen hw) (hc.later (chain B1 hb)) (enters 15 Try.func15 (by kernel_rfl) rfl) (fun k hk V' hb' => by
    have hk' : k < Z.length := by rw [List.length_map] at hk; exact hk
    have hbV := chain B1 (chain hb hb')
    have hKV := (HK.out.later (chain hb hb'))
    have := offer1_any w.heap.size Z[k].1 Z[k].2 x.dp x.dn V' ((hw _ (List.getElem_mem hk')).later hbV) (hKV.cell 0) (hKV.cell 1)
    rw [List.getElem_map, List.getElem?_eq_getElem hk']
    exact this)
  simp only [any_same Z nw hz (sameDot x)] at C2
  have C3 := fun V (hb : Below w.heap.size w V) => can_any ah nh ch H x da va oa dc vc oc V hn hl h64 (hr.later hb) (h.later hb) hi
  have hk' : chkB H (Z.map (·.2)) = 0 := hk
  rw [hk] at C0
  rw [hh] at C1
  rw [ht] at C2
  rw [hcan] at C3
  subst h40
  clear hr hc hw h hi h64 hnil hwn hn hz hk hk' hh ht hcan
  obtain ⟨dp, dn, deps, sp, sl, sq, kind, table, key, col, vals, dots⟩ := x
  simp only [cellsO] at *
  generalize deps.length = m at *
  generalize vals.length = nv at *
  generalize dots.length = no at *
  go_enter Try.func6, Try.ntmps6
  go_wp2_with fail
  refine C0.mono ?_
  rintro e w1 ⟨rfl, hw1⟩
  subst w1
  clear C0
  go_wp2_with fail
  refine (C1 _ HB.out).mono ?_
  rintro e w1 ⟨rfl, hb1⟩
  have HB1 : Hid (Below w.heap.size w w1) := chain HB.out hb1
  have HK1 : Hid (CellsAt w1 w.heap.size #[.int .i64 dp, .int .i64 dn, .slice da m dc, .int .i64 sp, .int .i64 sl, .int .i64 sq, .int .i64 kind, .int .i64 table, .string key, .int .i64 col, .slice va nv vc, .slice oa no oc] 32) := HK.out.later hb1
  go_wp2_with fail
  refine (C2 _ hb1).mono ?_
  rintro e w2 ⟨rfl, hb2⟩
  have HB2 : Hid (Below w.heap.size w w2) := chain HB1.out hb2
  have HK2 : Hid (CellsAt w2 w.heap.size #[.int .i64 dp, .int .i64 dn, .slice da m dc, .int .i64 sp, .int .i64 sl, .int .i64 sq, .int .i64 kind, .int .i64 table, .string key, .int .i64 col, .slice va nv vc, .slice oa no oc] 32) := HK1.out.later hb2
  clear C1 C2 hb1 hb2 HB1 HK1 HK HB
  obtain ⟨k0, k1, k2, k3, k4, k5, k6, k7, k8, k9, k10, k11⟩ := cells12 HK2.out
  go_wp2_with fail
  refine (C3 _ HB2.out).mono ?_
  rintro e w3 ⟨rfl, hb3⟩
  have HB3 : Hid (Below w.heap.size w w3) := chain HB2.out hb3
  have HK3 : Hid (CellsAt w3 w.heap.size #[.int .i64 dp, .int .i64 dn, .slice da m dc, .int .i64 sp, .int .i64 sl, .int .i64 sq, .int .i64 kind, .int .i64 table, .string key, .int .i64 col, .slice va nv vc, .slice oa no oc] 32) := HK2.out.later hb3
  clear C3 hb3 HB2 HK2 k0 k1 k2 k3 k4 k5 k6 k7 k8 k9 k10 k11
  go_wp2
  go_ret3
  exact GivesBuf.of_no rfl HB3.out

set_option maxRecDepth 100000 in
set_option maxHeartbeats 4000000 in
theorem offer_can (ah aw : Option Addr) (nh ch nw cw : Nat) (H : List Int) (Z : List (List Value × PO)) (x : PO) (da va oa : Option Addr) (dc vc oc : Nat) (w : World) (hn : H.length = nh) (hl : nh ≤ 65536) (h64 : All64 H) (hr : RdI .i64 w ah H) (hnil : ah = none → H = [] ∧ ch = 0) (hz : Z.length = nw) (h4 : nw ≤ 300) (hc : RdC w aw (Z.map (·.1))) (hwn : aw = none → Z = [] ∧ cw = 0) (hw : ∀ z ∈ Z, LiesX (fun _ => False) w z.1 z.2) (h : LiesO w x da va oa dc vc oc) (hi : I64O x) (hk : chkB H (Z.map (·.2)) = 0) (hh : hasD H x.dp x.dn = false) (ht : (Z.map (·.2)).any (sameDot x) = false) (hcan : canP H x = true) :
    Calls Try.prog 6 #[.slice ah nh ch, .slice aw nw cw, .agg (cellsO x da va oa dc vc oc)] w fun e w' => GivesBuf w w' e ((takeF H (x :: Z.map (·.2))).1, (takeF H (x :: Z.map (·.2))).2, 0) := by
  have B1 := alloc_below w (.cells (cellsO x da va oa dc vc oc) 32)
  have HK : Hid (CellsAt (w.alloc (.cells (cellsO x da va oa dc vc oc) 32)) w.heap.size (cellsO x da va oa dc vc oc) 32) := CellsAt.made rfl
  have HB : Hid (Below w.heap.size w (w.alloc (.cells (cellsO x da va oa dc vc oc) 32))) := B1
  have C0 := bcheck_any ah aw nh ch nw cw H (Z.map (·.2)) (w.alloc (.cells (cellsO x da va oa dc vc oc) 32)) hn hl (hr.later B1) (by rw [List.length_map]; exact hz) (by omega)
  have C1 := fun V (hb : Below w.heap.size w V) => dotHas ah nh ch x.dp x.dn H V hn hl h64 hi.dp hi.dn (hr.later hb)
  have C2 := fun V (hb : Below (w.alloc (.cells (cellsO x da va oa dc vc oc) 32)).heap.size (w.alloc (.cells (cellsO x da va oa dc vc oc) 32)) V) => containsFunc_any aw nw cw 15 #[.pointer (some ⟨w.heap.size, 0, none⟩)] (Z.map (·.1)) (fun k => (Z[k]?.map fun z => sameDot x z.2).getD false) V (by rw [List.length_map]; exact hz) (by omega) (LiesX.dozen hw) (hc.later (chain B1 hb)) (enters 15 Try.func15 (by kernel_rfl) rfl) (fun k hk V' hb' => by
    have hk' : k < Z.length := by rw [List.length_map] at hk; exact hk
    have hbV := chain B1 (chain hb hb')
    have hKV := (HK.out.later (chain hb hb'))
    have := offer1_any w.heap.size Z[k].1 Z[k].2 x.dp x.dn V' ((hw _ (List.getElem_mem hk')).later hbV) (hKV.cell 0) (hKV.cell 1)
    rw [List.getElem_map, List.getElem?_eq_getElem hk']
    exact this)
  simp only [any_same Z nw hz (sameDot x)] at C2
  have C3 := fun V (hb : Below w.heap.size w V) => can_any ah nh ch H x da va oa dc vc oc V hn hl h64 (hr.later hb) (h.later hb) hi
  have hk' : chkB H (Z.map (·.2)) = 0 := hk
  rw [hk] at C0
  rw [hh] at C1
  rw [ht] at C2
  rw [hcan] at C3
  have hchk : chkD H = 0 := by
    unfold chkB at hk
    by_cases h0 : chkD H = 0
    · exact h0
    · rw [if_pos h0] at hk
      exact absurd hk h0
  obtain ⟨q1, q5, _⟩ := chkD_ok.1 hchk
  rw [hn] at q1 q5
  have HLX : Hid (LiesX (fun _ => False) w (cellsO x da va oa dc vc oc).toList x) := ⟨da, va, oa, dc, vc, oc, rfl, h, hi, fun _ _ _ _ _ k => k, fun _ _ _ _ _ k => k, fun _ _ _ _ _ k => k⟩
  have C5 := fun V (a5 : Option Addr) (c5 : Nat) (hb : Below w.heap.size w V) (hr5 : RdC V a5 ((cellsO x da va oa dc vc oc).toList :: Z.map (·.1))) => take_any ah a5 nh ch (nw + 1) c5 H (((cellsO x da va oa dc vc oc).toList, x) :: Z) V hn q1 q5 h64 (hr.later hb) hnil (by rw [List.length_cons, hz]) (by omega) hr5 (fun z hz => by
    rcases List.mem_cons.1 hz with rfl | hz
    · exact HLX.out.later hb
    · exact (hw z hz).later hb)
  have C4 := fun V (b : Nat) (hb : Below w.heap.size w V) (hr1 : RdC V (some ⟨b, 0, none⟩) [(cellsO x da va oa dc vc oc).toList]) (b2 : Nat) (hk2 : CellsAt V b2 #[.slice (some ⟨b, 0, none⟩) 1 1, .slice aw nw cw] 22) => concat_any b2 1 nw 1 cw (some ⟨b, 0, none⟩) aw [(cellsO x da va oa dc vc oc).toList] (Z.map (·.1)) V (by omega) rfl (by rw [List.length_map]; exact hz) (by omega) (by omega) (fun c hc => by simp only [List.mem_singleton] at hc; subst hc; exact HLX.out.shape.dozen) (LiesX.dozen hw) hr1 (hc.later hb) (fun h => by cases h) (fun h => by obtain ⟨h1, h2⟩ := hwn h; exact ⟨by rw [h1]; rfl, h2⟩) hk2
  have HZL : Hid ((Z.map (·.1)).length = nw) := by show _ = _; rw [List.length_map]; exact hz
  have HTF : Hid (takeF H ((((cellsO x da va oa dc vc oc).toList, x) :: Z).map (·.2)) = takeF H (x :: Z.map (·.2))) := rfl
  obtain ⟨TF, hTF⟩ : ∃ TF, TF = takeF H (x :: Z.map (·.2)) := ⟨_, rfl⟩
  rw [← hTF]
  rw [← hTF] at HTF
  simp only [show takeF H ((((cellsO x da va oa dc vc oc).toList, x) :: Z).map (·.2)) = TF from HTF.out] at C5
  clear hr hc hw h hi h64 hnil hwn hn hz hk hk' hh ht hcan hchk HLX HTF hTF q1 q5
  obtain ⟨dp, dn, deps, sp, sl, sq, kind, table, key, col, vals, dots⟩ := x
  simp only [cellsO] at *
  generalize deps.length = m at *
  generalize vals.length = nv at *
  generalize dots.length = no at *
  go_enter Try.func6, Try.ntmps6
  go_wp2_with fail
  refine C0.mono ?_
  rintro e w1 ⟨rfl, hw1⟩
  subst w1
  clear C0
  go_wp2_with fail
  refine (C1 _ HB.out).mono ?_
  rintro e w1 ⟨rfl, hb1⟩
  have HB1 : Hid (Below w.heap.size w w1) := chain HB.out hb1
  have HK1 : Hid (CellsAt w1 w.heap.size #[.int .i64 dp, .int .i64 dn, .slice da m dc, .int .i64 sp, .int .i64 sl, .int .i64 sq, .int .i64 kind, .int .i64 table, .string key, .int .i64 col, .slice va nv vc, .slice oa no oc] 32) := HK.out.later hb1
  go_wp2_with fail
  refine (C2 _ hb1).mono ?_
  rintro e w2 ⟨rfl, hb2⟩
  have HB2 : Hid (Below w.heap.size w w2) := chain HB1.out hb2
  have HK2 : Hid (CellsAt w2 w.heap.size #[.int .i64 dp, .int .i64 dn, .slice da m dc, .int .i64 sp, .int .i64 sl, .int .i64 sq, .int .i64 kind, .int .i64 table, .string key, .int .i64 col, .slice va nv vc, .slice oa no oc] 32) := HK1.out.later hb2
  clear C1 C2 hb1 hb2 HB1 HK1 HK HB
  obtain ⟨k0, k1, k2, k3, k4, k5, k6, k7, k8, k9, k10, k11⟩ := cells12 HK2.out
  go_wp2_with fail
  refine (C3 _ HB2.out).mono ?_
  rintro e w3 ⟨rfl, hb3⟩
  have HB3 : Hid (Below w.heap.size w w3) := chain HB2.out hb3
  have HK3 : Hid (CellsAt w3 w.heap.size #[.int .i64 dp, .int .i64 dn, .slice da m dc, .int .i64 sp, .int .i64 sl, .int .i64 sq, .int .i64 kind, .int .i64 table, .string key, .int .i64 col, .slice va nv vc, .slice oa no oc] 32) := HK2.out.later hb3
  clear C3 hb3 HB2 HK2 k0 k1 k2 k3 k4 k5 k6 k7 k8 k9 k10 k11
  obtain ⟨k0, k1, k2, k3, k4, k5, k6, k7, k8, k9, k10, k11⟩ := cells12 HK3.out
  have hb4 := alloc_below w3 (.cells #[.int .i64 dp, .int .i64 dn, .slice da m dc, .int .i64 sp, .int .i64 sl, .int .i64 sq, .int .i64 kind, .int .i64 table, .string key, .int .i64 col, .slice va nv vc, .slice oa no oc] 32)
  have hb5 := alloc_below (w3.alloc (.cells #[.int .i64 dp, .int .i64 dn, .slice da m dc, .int .i64 sp, .int .i64 sl, .int .i64 sq, .int .i64 kind, .int .i64 table, .string key, .int .i64 col, .slice va nv vc, .slice oa no oc] 32)) (.cells #[.slice (some ⟨w3.heap.size, 0, none⟩) 1 1, .slice aw nw cw] 22)
  have hk4 : CellsAt ((w3.alloc (.cells #[.int .i64 dp, .int .i64 dn, .slice da m dc, .int .i64 sp, .int .i64 sl, .int .i64 sq, .int .i64 kind, .int .i64 table, .string key, .int .i64 col, .slice va nv vc, .slice oa no oc] 32)).alloc (.cells #[.slice (some ⟨w3.heap.size, 0, none⟩) 1 1, .slice aw nw cw] 22)) w3.heap.size #[.int .i64 dp, .int .i64 dn, .slice da m dc, .int .i64 sp, .int .i64 sl, .int .i64 sq, .int .i64 kind, .int .i64 table, .string key, .int .i64 col, .slice va nv vc, .slice oa no oc] 32 := (CellsAt.made rfl).later hb5
  have hk5 : CellsAt ((w3.alloc (.cells #[.int .i64 dp, .int .i64 dn, .slice da m dc, .int .i64 sp, .int .i64 sl, .int .i64 sq, .int .i64 kind, .int .i64 table, .string key, .int .i64 col, .slice va nv vc, .slice oa no oc] 32)).alloc (.cells #[.slice (some ⟨w3.heap.size, 0, none⟩) 1 1, .slice aw nw cw] 22)) (w3.heap.size + 1) #[.slice (some ⟨w3.heap.size, 0, none⟩) 1 1, .slice aw nw cw] 22 := CellsAt.made (by simp)
  have CC := C4 _ w3.heap.size (chain HB3.out (chain hb4 hb5)) (fun _ => ⟨w3.heap.size, 0, rfl, fun i hi j v hj => by
    have hi0 : i = 0 := by simpa using hi
    subst hi0
    simp only [List.getElem_cons_zero] at hj
    rw [Nat.zero_mul, Nat.add_zero, Nat.zero_add, hk4.cell j]
    simpa using hj⟩) (w3.heap.size + 1) hk5
  have HB5 : Hid (Below w.heap.size w ((w3.alloc (.cells #[.int .i64 dp, .int .i64 dn, .slice da m dc, .int .i64 sp, .int .i64 sl, .int .i64 sq, .int .i64 kind, .int .i64 table, .string key, .int .i64 col, .slice va nv vc, .slice oa no oc] 32)).alloc (.cells #[.slice (some ⟨w3.heap.size, 0, none⟩) 1 1, .slice aw nw cw] 22))) := chain HB3.out (chain hb4 hb5)
  clear C4 hb4 hb5 hk4 hk5 HB3
  go_wp2_with fail
  refine CC.mono ?_
  rintro e w6 ⟨v6, rfl, ho6, hb6⟩
  obtain ⟨a6, c6, e6, _, _, r6, _⟩ := ho6.form
  rw [List.length_append, HZL.out, List.length_singleton, Nat.add_comm] at e6
  subst e6
  have CT := C5 w6 a6 c6 (chain HB5.out hb6) r6
  have HB6 : Hid (Below w.heap.size w w6) := chain HB5.out hb6
  clear CC C5 ho6 r6 hb6 HB5 k0 k1 k2 k3 k4 k5 k6 k7 k8 k9 k10 k11
  go_wp2_with fail
  refine CT.mono ?_
  rintro e w7 ⟨a1, n1, c1, a2, n2, c2, rfl, g1, g2, g3, g4, g5, g6, g7, g8, g9⟩
  have HR : Hid (GivesBuf w w7 (.returned (.tuple #[.slice a1 n1 c1, .slice a2 n2 c2, .int .i64 0])) (TF.1, TF.2, 0)) := ⟨a1, n1, c1, a2, n2, c2, rfl, g1, g2, g3, g4, g5, g6, g7.mono HB6.out.size, g8.mono HB6.out.size, chain HB6.out g9⟩
  clear CT g1 g2 g3 g4 g5 g6 g7 g8 g9 HB6
  go_wp2
  go_ret3
  exact HR.out

set_option maxRecDepth 100000 in
set_option maxHeartbeats 4000000 in
theorem offer_early (ah aw : Option Addr) (nh ch nw cw : Nat) (H : List Int) (Z : List (List Value × PO)) (x : PO) (da va oa : Option Addr) (dc vc oc : Nat) (w : World) (hn : H.length = nh) (hl : nh ≤ 65536) (h64 : All64 H) (hr : RdI .i64 w ah H) (hnil : ah = none → H = [] ∧ ch = 0) (hz : Z.length = nw) (h4 : nw ≤ 300) (hc : RdC w aw (Z.map (·.1))) (hwn : aw = none → Z = [] ∧ cw = 0) (hw : ∀ z ∈ Z, LiesX (fun _ => False) w z.1 z.2) (h : LiesO w x da va oa dc vc oc) (hi : I64O x) (hk : chkB H (Z.map (·.2)) = 0) (hh : hasD H x.dp x.dn = false) (ht : (Z.map (·.2)).any (sameDot x) = false) (hcan : canP H x = false) (h40 : nw ≠ 40) :
    Calls Try.prog 6 #[.slice ah nh ch, .slice aw nw cw, .agg (cellsO x da va oa dc vc oc)] w fun e w' => GivesBuf w w' e ([], Z.map (·.2) ++ [x], 9) := by
  have B1 := alloc_below w (.cells (cellsO x da va oa dc vc oc) 32)
  have HK : Hid (CellsAt (w.alloc (.cells (cellsO x da va oa dc vc oc) 32)) w.heap.size (cellsO x da va oa dc vc oc) 32) := CellsAt.made rfl
  have HB : Hid (Below w.heap.size w (w.alloc (.cells (cellsO x da va oa dc vc oc) 32))) := B1
  have C0 := bcheck_any ah aw nh ch nw cw H (Z.map (·.2)) (w.alloc (.cells (cellsO x da va oa dc vc oc) 32)) hn hl (hr.later B1) (by rw [List.length_map]; exact hz) (by omega)
  have C1 := fun V (hb : Below w.heap.size w V) => dotHas ah nh ch x.dp x.dn H V hn hl h64 hi.dp hi.dn (hr.later hb)
  have C2 := fun V (hb : Below (w.alloc (.cells (cellsO x da va oa dc vc oc) 32)).heap.size (w.alloc (.cells (cellsO x da va oa dc vc oc) 32)) V) => containsFunc_any aw nw cw 15 #[.pointer (some ⟨w.heap.size, 0, none⟩)] (Z.map (·.1)) (fun k => (Z[k]?.map fun z => sameDot x z.2).getD false) V (by rw [List.length_map]; exact hz) (by omega) (LiesX.dozen hw) (hc.later (chain B1 hb)) (enters 15 Try.func15 (by kernel_rfl) rfl) (fun k hk V' hb' => by
    have hk' : k < Z.length := by rw [List.length_map] at hk; exact hk
    have hbV := chain B1 (chain hb hb')
    have hKV := (HK.out.later (chain hb hb'))
    have := offer1_any w.heap.size Z[k].1 Z[k].2 x.dp x.dn V' ((hw _ (List.getElem_mem hk')).later hbV) (hKV.cell 0) (hKV.cell 1)
    rw [List.getElem_map, List.getElem?_eq_getElem hk']
    exact this)
  simp only [any_same Z nw hz (sameDot x)] at C2
  have C3 := fun V (hb : Below w.heap.size w V) => can_any ah nh ch H x da va oa dc vc oc V hn hl h64 (hr.later hb) (h.later hb) hi
  have hk' : chkB H (Z.map (·.2)) = 0 := hk
  rw [hk] at C0
  rw [hh] at C1
  rw [ht] at C2
  rw [hcan] at C3
  have q40 : ((nw : Int) == 40) = false := by rw [beq_eq_false_iff_ne]; omega
  have C6 := fun V (hb : Below w.heap.size w V) => cloneAll_any aw nw cw Z V hz (by omega) (hc.later hb) (fun z hz => (hw z hz).later hb)
  have C7 := fun V (hb : Below w.heap.size w V) => opClone_any x da va oa dc vc oc V (h.later hb)
  have HX7 := fun (V : World) (r : Nat) (da' va' oa' : Option Addr) (dc' vc' oc' B : Nat) (h1 : LiesO V x da' va' oa' dc' vc' oc') (h2 : FarO B da' va' oa') (h3 : r < B) => LiesX.far (E := fun b => b ≤ r) h1 hi h2 (fun b hb hb' => by omega)
  have HZL : Hid (Z.length = nw) := hz
  clear hr hc hw h hi h64 hnil hwn hn hz hk hk' hh ht hcan
  obtain ⟨dp, dn, deps, sp, sl, sq, kind, table, key, col, vals, dots⟩ := x
  simp only [cellsO] at *
  generalize deps.length = m at *
  generalize vals.length = nv at *
  generalize dots.length = no at *
  have HX7 : Hid (∀ (V : World) (r : Nat) (da' va' oa' : Option Addr) (dc' vc' oc' B : Nat) (h1 : LiesO V (⟨dp, dn, deps, sp, sl, sq, kind, table, key, col, vals, dots⟩ : PO) da' va' oa' dc' vc' oc') (h2 : FarO B da' va' oa') (h3 : r < B), LiesX (fun b => b ≤ r) V [.int .i64 dp, .int .i64 dn, .slice da' m dc', .int .i64 sp, .int .i64 sl, .int .i64 sq, .int .i64 kind, .int .i64 table, .string key, .int .i64 col, .slice va' nv vc', .slice oa' no oc'] (⟨dp, dn, deps, sp, sl, sq, kind, table, key, col, vals, dots⟩ : PO)) := HX7
  go_enter Try.func6, Try.ntmps6
  go_wp2_with fail
  refine C0.mono ?_
  rintro e w1 ⟨rfl, hw1⟩
  subst w1
  clear C0
  go_wp2_with fail
  refine (C1 _ HB.out).mono ?_
  rintro e w1 ⟨rfl, hb1⟩
  have HB1 : Hid (Below w.heap.size w w1) := chain HB.out hb1
  have HK1 : Hid (CellsAt w1 w.heap.size #[.int .i64 dp, .int .i64 dn, .slice da m dc, .int .i64 sp, .int .i64 sl, .int .i64 sq, .int .i64 kind, .int .i64 table, .string key, .int .i64 col, .slice va nv vc, .slice oa no oc] 32) := HK.out.later hb1
  go_wp2_with fail
  refine (C2 _ hb1).mono ?_
  rintro e w2 ⟨rfl, hb2⟩
  have HB2 : Hid (Below w.heap.size w w2) := chain HB1.out hb2
  have HK2 : Hid (CellsAt w2 w.heap.size #[.int .i64 dp, .int .i64 dn, .slice da m dc, .int .i64 sp, .int .i64 sl, .int .i64 sq, .int .i64 kind, .int .i64 table, .string key, .int .i64 col, .slice va nv vc, .slice oa no oc] 32) := HK1.out.later hb2
  clear C1 C2 hb1 hb2 HB1 HK1 HK HB
  obtain ⟨k0, k1, k2, k3, k4, k5, k6, k7, k8, k9, k10, k11⟩ := cells12 HK2.out
  go_wp2_with fail
  refine (C3 _ HB2.out).mono ?_
  rintro e w3 ⟨rfl, hb3⟩
  have HB3 : Hid (Below w.heap.size w w3) := chain HB2.out hb3
  have HK3 : Hid (CellsAt w3 w.heap.size #[.int .i64 dp, .int .i64 dn, .slice da m dc, .int .i64 sp, .int .i64 sl, .int .i64 sq, .int .i64 kind, .int .i64 table, .string key, .int .i64 col, .slice va nv vc, .slice oa no oc] 32) := HK2.out.later hb3
  clear C3 hb3 HB2 HK2 k0 k1 k2 k3 k4 k5 k6 k7 k8 k9 k10 k11
  go_wp2_with fail
  have HKlt : Hid (w.heap.size < w3.drew.heap.size) := HK3.out.lt
  replace HK3 := (show Hid (CellsAt w3.drew w.heap.size #[.int .i64 dp, .int .i64 dn, .slice da m dc, .int .i64 sp, .int .i64 sl, .int .i64 sq, .int .i64 kind, .int .i64 table, .string key, .int .i64 col, .slice va nv vc, .slice oa no oc] 32) from HK3.out.later (Below.refl _ _).drew)
  replace HB3 := (show Hid (Below w.heap.size w w3.drew) from chain HB3.out (Below.refl _ _).drew)
  refine wp_region_held_drew (S := (fun w' => w'.cell? ⟨w.heap.size, 0, none⟩ = some (.int .i64 dp) ∧ w'.cell? ⟨w.heap.size, 1, none⟩ = some (.int .i64 dn) ∧ w'.cell? ⟨w.heap.size, 2, none⟩ = some (.slice da m dc) ∧ w'.cell? ⟨w.heap.size, 3, none⟩ = some (.int .i64 sp) ∧ w'.cell? ⟨w.heap.size, 4, none⟩ = some (.int .i64 sl) ∧ w'.cell? ⟨w.heap.size, 5, none⟩ = some (.int .i64 sq) ∧ w'.cell? ⟨w.heap.size, 6, none⟩ = some (.int .i64 kind) ∧ w'.cell? ⟨w.heap.size, 7, none⟩ = some (.int .i64 table) ∧ w'.cell? ⟨w.heap.size, 8, none⟩ = some (.string key) ∧ w'.cell? ⟨w.heap.size, 9, none⟩ = some (.int .i64 col) ∧ w'.cell? ⟨w.heap.size, 10, none⟩ = some (.slice va nv vc) ∧ w'.cell? ⟨w.heap.size, 11, none⟩ = some (.slice oa no oc))) (by kernel_rfl) (by obtain ⟨k0, k1, k2, k3, k4, k5, k6, k7, k8, k9, k10, k11⟩ := cells12 HK3.out; exact ⟨k0, k1, k2, k3, k4, k5, k6, k7, k8, k9, k10, k11⟩) (fun hHeld => ?_)
  generalize w3.drew = wq at *
  refine heldTake (v := ?_) 0 43 rfl rfl (by kernel_rfl) (by kernel_rfl) (by kernel_rfl) (fun _ _ _ h => h) (by rfl) (fun w hSw => ?_) (by assumption) ?_
  rotate_left
  · (try dsimp only at hSw); first | (go_simp; done) | (go_simp; with_reducible rfl)
  simp only [List.setIfInBounds_toArray, List.set_cons_zero, List.set_cons_succ]
  refine heldTake (v := ?_) 2 45 rfl rfl (by kernel_rfl) (by kernel_rfl) (by kernel_rfl) (fun _ _ _ h => h) (by rfl) (fun w hSw => ?_) (by assumption) ?_
  rotate_left
  · (try dsimp only at hSw); first | (go_simp; done) | (go_simp; with_reducible rfl)
  simp only [List.setIfInBounds_toArray, List.set_cons_zero, List.set_cons_succ]
  refine heldOne 1 rfl (by kernel_rfl) (by rfl) (fun K2 hK => ?_)
  go_simp
  refine (C6 _ HB3.out).mono ?_
  rintro e wa ⟨rfl, hba, Y, hY, hOY, hLY⟩
  obtain ⟨r, hr⟩ : ∃ r, wq.heap.size = r := ⟨_, rfl⟩
  rw [hr] at hOY hLY ⊢
  have HRw : Hid (w.heap.size ≤ r) := by show _ ≤ _; rw [← hr]; exact HB3.out.size
  have HYY : Hid (Y.map (·.2) = Z.map (·.2)) := hY
  have HOY : Hid (OwnC wa r (.slice (some ⟨r, 0, none⟩) nw nw) (Y.map (·.1))) := hOY
  have HLY : Hid (∀ z ∈ Y, LiesX (fun b => b ≤ r) wa z.1 z.2) := hLY
  replace HB3 := (show Hid (Below w.heap.size w wa) from chain HB3.out hba)
  replace HK3 := (show Hid (CellsAt wa w.heap.size #[.int .i64 dp, .int .i64 dn, .slice da m dc, .int .i64 sp, .int .i64 sl, .int .i64 sq, .int .i64 kind, .int .i64 table, .string key, .int .i64 col, .slice va nv vc, .slice oa no oc] 32) from HK3.out.later hba)
  have HRa : Hid (r < wa.heap.size) := (World.ownsRow.lt hOY.2 r rfl).2
  have HRw2 : Hid (w.heap.size < r) := by show _ < _; rw [← hr]; exact HKlt.out
  have HRa0 : Hid (r < wa.heap.size) := HRa
  clear hba hY hOY hLY hr
  simp only []
  refine hK.out _ _ ?_ (fun hHeld => ?_)
  · exact (by obtain ⟨k0, k1, k2, k3, k4, k5, k6, k7, k8, k9, k10, k11⟩ := cells12 HK3.out; exact ⟨k0, k1, k2, k3, k4, k5, k6, k7, k8, k9, k10, k11⟩)
  clear hK K2
  try simp only [List.setIfInBounds_toArray, List.set_cons_zero, List.set_cons_succ]
  refine heldOne 3 rfl (by kernel_rfl) (by rfl) (fun K2 hK => ?_)
  go_simp
  refine (C7 _ HB3.out).mono ?_
  rintro e wb ⟨da', va', oa', dc', vc', oc', rfl, hlo', hfar, hbb⟩
  replace HB3 := (show Hid (Below w.heap.size w wb) from chain HB3.out hbb)
  replace HK3 := (show Hid (CellsAt wb w.heap.size #[.int .i64 dp, .int .i64 dn, .slice da m dc, .int .i64 sp, .int .i64 sl, .int .i64 sq, .int .i64 kind, .int .i64 table, .string key, .int .i64 col, .slice va nv vc, .slice oa no oc] 32) from HK3.out.later hbb)
  replace HOY := (show Hid (OwnC wb r (.slice (some ⟨r, 0, none⟩) nw nw) (Y.map (·.1))) from HOY.out.later hbb)
  replace HLY := (show Hid (∀ z ∈ Y, LiesX (fun b => b ≤ r) wb z.1 z.2) from fun z hz => (HLY.out z hz).later hbb)
  replace HRa := (show Hid (r < wb.heap.size) from Nat.lt_of_lt_of_le HRa.out hbb.size)
  have HLX : Hid (LiesX (fun b => b ≤ r) wb [.int .i64 dp, .int .i64 dn, .slice da' m dc', .int .i64 sp, .int .i64 sl, .int .i64 sq, .int .i64 kind, .int .i64 table, .string key, .int .i64 col, .slice va' nv vc', .slice oa' no oc'] (⟨dp, dn, deps, sp, sl, sq, kind, table, key, col, vals, dots⟩ : PO)) := HX7.out wb r _ _ _ _ _ _ _ hlo' hfar (by have := hbb.size; have := HRa0.out; omega)
  clear hbb hlo' hfar
  simp only []
  refine hK.out _ _ ?_ (fun hHeld => ?_)
  · exact (by obtain ⟨k0, k1, k2, k3, k4, k5, k6, k7, k8, k9, k10, k11⟩ := cells12 HK3.out; exact ⟨k0, k1, k2, k3, k4, k5, k6, k7, k8, k9, k10, k11⟩)
  clear hK K2
  try simp only [List.setIfInBounds_toArray, List.set_cons_zero, List.set_cons_succ]
  refine heldOne 4 rfl (by kernel_rfl) (by rfl) (fun K2 hK => ?_)
  go_simp
  have hb4 := alloc_below wb (.cells #[.int .i64 dp, .int .i64 dn, .slice da' m dc', .int .i64 sp, .int .i64 sl, .int .i64 sq, .int .i64 kind, .int .i64 table, .string key, .int .i64 col, .slice va' nv vc', .slice oa' no oc'] 32)
  have hk4 : CellsAt (wb.alloc (.cells #[.int .i64 dp, .int .i64 dn, .slice da' m dc', .int .i64 sp, .int .i64 sl, .int .i64 sq, .int .i64 kind, .int .i64 table, .string key, .int .i64 col, .slice va' nv vc', .slice oa' no oc'] 32)) wb.heap.size #[.int .i64 dp, .int .i64 dn, .slice da' m dc', .int .i64 sp, .int .i64 sl, .int .i64 sq, .int .i64 kind, .int .i64 table, .string key, .int .i64 col, .slice va' nv vc', .slice oa' no oc'] 32 := CellsAt.made rfl
  obtain ⟨g4, hg4⟩ : ∃ g4, wb.heap.size = g4 := ⟨_, rfl⟩
  obtain ⟨wd, hwd⟩ : ∃ x, wb.alloc (.cells #[.int .i64 dp, .int .i64 dn, .slice da' m dc', .int .i64 sp, .int .i64 sl, .int .i64 sq, .int .i64 kind, .int .i64 table, .string key, .int .i64 col, .slice va' nv vc', .slice oa' no oc'] 32) = x := ⟨_, rfl⟩
  rw [hwd] at hb4 hk4 ⊢
  rw [hg4] at hk4 ⊢
  replace HB3 := (show Hid (Below w.heap.size w wd) from chain HB3.out hb4)
  replace HK3 := (show Hid (CellsAt wd w.heap.size #[.int .i64 dp, .int .i64 dn, .slice da m dc, .int .i64 sp, .int .i64 sl, .int .i64 sq, .int .i64 kind, .int .i64 table, .string key, .int .i64 col, .slice va nv vc, .slice oa no oc] 32) from HK3.out.later hb4)
  replace HOY := (show Hid (OwnC wd r (.slice (some ⟨r, 0, none⟩) nw nw) (Y.map (·.1))) from HOY.out.later hb4)
  replace HLY := (show Hid (∀ z ∈ Y, LiesX (fun b => b ≤ r) wd z.1 z.2) from fun z hz => (HLY.out z hz).later hb4)
  replace HLX := (show Hid (LiesX (fun b => b ≤ r) wd [.int .i64 dp, .int .i64 dn, .slice da' m dc', .int .i64 sp, .int .i64 sl, .int .i64 sq, .int .i64 kind, .int .i64 table, .string key, .int .i64 col, .slice va' nv vc', .slice oa' no oc'] (⟨dp, dn, deps, sp, sl, sq, kind, table, key, col, vals, dots⟩ : PO)) from HLX.out.later hb4)
  replace HRa := (show Hid (r < wd.heap.size) from Nat.lt_of_lt_of_le HRa.out hb4.size)
  have HRD : Hid (RdC wd (some ⟨g4, 0, none⟩) [[.int .i64 dp, .int .i64 dn, .slice da' m dc', .int .i64 sp, .int .i64 sl, .int .i64 sq, .int .i64 kind, .int .i64 table, .string key, .int .i64 col, .slice va' nv vc', .slice oa' no oc']]) := fun _ => ⟨g4, 0, rfl, fun i hi j v hj => by
    have hi0 : i = 0 := by simpa using hi
    subst hi0
    simp only [List.getElem_cons_zero] at hj
    rw [Nat.zero_mul, Nat.add_zero, Nat.zero_add, hk4.cell j]
    simpa using hj⟩
  clear hb4 hk4 hwd hg4
  refine hK.out _ _ ?_ (fun hHeld => ?_)
  · exact (by obtain ⟨k0, k1, k2, k3, k4, k5, k6, k7, k8, k9, k10, k11⟩ := cells12 HK3.out; exact ⟨k0, k1, k2, k3, k4, k5, k6, k7, k8, k9, k10, k11⟩)
  clear hK K2
  try simp only [List.setIfInBounds_toArray, List.set_cons_zero, List.set_cons_succ]
  refine heldOne 5 rfl (by kernel_rfl) (by rfl) (fun K2 hK => ?_)
  obtain ⟨v5, we, hrun, ho5, hg5, _⟩ := run_append_ops (ty := 22) (cap := 1) HOY.out (n := nw) (by have := congrArg List.length HYY.out; rw [List.length_map, List.length_map, HZL.out] at this; rw [List.length_map]; exact this) (m := 1) rfl (fun c hc => by simp only [List.mem_singleton] at hc; subst hc; exact HLX.out.shape.dozen) HRD.out (fun h => by cases h) (by omega) (by omega) (Nat.le_of_lt HRa.out)
  have hsv := Sv.of_grown (E := fun b => b ≤ r) hg5 (Nat.le_refl _)
  obtain ⟨a5, c5, e5, h5, _, r5, n5⟩ := ho5.form
  rw [List.length_append, List.length_map, List.length_singleton] at e5 h5
  subst e5
  have HR : Hid (GivesBuf w we (.returned (.tuple #[.slice none 0 0, .slice a5 (Y.length + 1) c5, .int .i64 9])) ([], Z.map (·.2) ++ [(⟨dp, dn, deps, sp, sl, sq, kind, table, key, col, vals, dots⟩ : PO)], 9)) := by
    have eZ : (Y ++ [(([.int .i64 dp, .int .i64 dn, .slice da' m dc', .int .i64 sp, .int .i64 sl, .int .i64 sq, .int .i64 kind, .int .i64 table, .string key, .int .i64 col, .slice va' nv vc', .slice oa' no oc'] : List Value), (⟨dp, dn, deps, sp, sl, sq, kind, table, key, col, vals, dots⟩ : PO))]).map (·.2) = Z.map (·.2) ++ [(⟨dp, dn, deps, sp, sl, sq, kind, table, key, col, vals, dots⟩ : PO)] := by rw [List.map_append, HYY.out]; rfl
    have eL : (Z.map (·.2) ++ [(⟨dp, dn, deps, sp, sl, sq, kind, table, key, col, vals, dots⟩ : PO)]).length = Y.length + 1 := by rw [← HYY.out]; simp
    refine ⟨none, 0, 0, a5, _, c5, rfl, rfl, eL, Nat.le_refl _, h5, fun _ => ⟨rfl, rfl⟩, fun h => ?_, RdF.nil _ _, ⟨Y ++ [(([.int .i64 dp, .int .i64 dn, .slice da' m dc', .int .i64 sp, .int .i64 sl, .int .i64 sq, .int .i64 kind, .int .i64 table, .string key, .int .i64 col, .slice va' nv vc', .slice oa' no oc'] : List Value), (⟨dp, dn, deps, sp, sl, sq, kind, table, key, col, vals, dots⟩ : PO))], eZ, by rw [List.map_append]; exact r5, fun b o s ea => Nat.le_trans HRw.out (World.ownsRow.lt ho5.2 b (by rw [ea]; rfl)).1, fun z hz => ?_⟩, HB3.out.grown hg5 HB3.out.size (fun j hj => by cases hj; exact HRw.out)⟩
    · obtain ⟨h1, h2⟩ := n5 h
      exact absurd h1 (by simp)
    · rcases List.mem_append.1 hz with hz | hz
      · exact ((HLY.out z hz).sv hsv).less (fun b k => Nat.le_of_lt (Nat.lt_of_lt_of_le k HRw.out))
      · simp only [List.mem_singleton] at hz
        subst hz
        exact (HLX.out.sv hsv).less (fun b k => Nat.le_of_lt (Nat.lt_of_lt_of_le k HRw.out))
  have HK5 : Hid (CellsAt we w.heap.size #[.int .i64 dp, .int .i64 dn, .slice da m dc, .int .i64 sp, .int .i64 sl, .int .i64 sq, .int .i64 kind, .int .i64 table, .string key, .int .i64 col, .slice va nv vc, .slice oa no oc] 32) := (hg5.block _ HK3.out.lt (fun e => by have h1 := HRw2.out; simp only [Value.ownBlock, Option.some.injEq] at e; omega)).trans HK3.out
  clear ho5 hg5 hsv r5 n5 h5
  refine wp_append_buf _ _ 22 22 rfl _ _ _ _ rfl rfl hrun ?_
  go_simp
  refine hK.out _ _ ?_ (fun hHeld => ?_)
  · exact (by obtain ⟨k0, k1, k2, k3, k4, k5, k6, k7, k8, k9, k10, k11⟩ := cells12 HK5.out; exact ⟨k0, k1, k2, k3, k4, k5, k6, k7, k8, k9, k10, k11⟩)
  clear hK K2
  try simp only [List.setIfInBounds_toArray, List.set_cons_zero, List.set_cons_succ]
  refine heldTake (v := ?_) 6 6 rfl rfl (by kernel_rfl) (by kernel_rfl) (by kernel_rfl) (fun _ _ _ h => h) (by rfl) (fun w hSw => ?_) (by assumption) ?_
  rotate_left
  · (try dsimp only at hSw); first | (go_simp; done) | (go_simp; with_reducible rfl)
  simp only [List.setIfInBounds_toArray, List.set_cons_zero, List.set_cons_succ]
  refine heldTake (v := ?_) 7 7 rfl rfl (by kernel_rfl) (by kernel_rfl) (by kernel_rfl) (fun _ _ _ h => h) (by rfl) (fun w hSw => ?_) (by assumption) ?_
  rotate_left
  · (try dsimp only at hSw); first | (go_simp; done) | (go_simp; with_reducible rfl)
  simp only [List.setIfInBounds_toArray, List.set_cons_zero, List.set_cons_succ]
  refine heldTake (v := ?_) 8 8 rfl rfl (by kernel_rfl) (by kernel_rfl) (by kernel_rfl) (fun _ _ _ h => h) (by rfl) (fun w hSw => ?_) (by assumption) ?_
  rotate_left
  · (try dsimp only at hSw); first | (go_simp; done) | (go_simp; with_reducible rfl)
  simp only [List.setIfInBounds_toArray, List.set_cons_zero, List.set_cons_succ]
  refine wpAnyH_done (by kernel_rfl) ?_ _
  go_wp2
  go_ret3
  exact HR.out

end Go.Proofs.Ytjddkodcbpnilaa

namespace Go.Proofs.Ytjddkodcbpnilaa
open Go.RowKit Go.Lib
set_option linter.unusedVariables false

theorem offer_any (ah aw : Option Addr) (nh ch nw cw : Nat) (H : List Int) (X : List PO) (x : PO) (da va oa : Option Addr) (dc vc oc : Nat) (w : World) (hn : H.length = nh) (hl : nh ≤ 65536) (h64 : All64 H) (hr : RdI .i64 w ah H) (hnil : ah = none → H = [] ∧ ch = 0) (hz : X.length = nw) (h4 : nw ≤ 300) (hX : RdL w aw X) (hwn : aw = none → X = [] ∧ cw = 0) (h : LiesO w x da va oa dc vc oc) (hi : I64O x) :
    Calls Try.prog 6 #[.slice ah nh ch, .slice aw nw cw, .agg (cellsO x da va oa dc vc oc)] w fun e w' => GivesBuf w w' e (offerF H X x) := by
  obtain ⟨Z, rfl, hc, hw⟩ := hX
  rw [List.length_map] at hz
  have hwn' : aw = none → Z = [] ∧ cw = 0 := fun h => by obtain ⟨h1, h2⟩ := hwn h; exact ⟨by simpa using h1, h2⟩
  unfold offerF
  by_cases hk : chkB H (Z.map (·.2)) ≠ 0
  · rw [if_pos hk]
    exact offer_no ah aw nh ch nw cw H Z x da va oa dc vc oc w hn hl h64 hr hnil hz h4 hc hwn' hw h hi hk
  rw [if_neg hk]
  have hk' : chkB H (Z.map (·.2)) = 0 := Decidable.not_not.1 hk
  cases hh : hasD H x.dp x.dn with
  | true =>
    rw [Bool.true_or, if_pos rfl]
    exact offer_had ah aw nh ch nw cw H Z x da va oa dc vc oc w hn hl h64 hr hnil hz h4 hc hwn' hw h hi hk' hh
  | false =>
    rw [Bool.false_or]
    cases ht : (Z.map (·.2)).any (sameDot x) with
    | true =>
      rw [if_pos rfl]
      exact offer_twice ah aw nh ch nw cw H Z x da va oa dc vc oc w hn hl h64 hr hnil hz h4 hc hwn' hw h hi hk' hh ht
    | false =>
      rw [if_neg (by simp)]
      cases hcan : canP H x with
      | true =>
        rw [if_pos rfl]
        exact offer_can ah aw nh ch nw cw H Z x da va oa dc vc oc w hn hl h64 hr hnil hz h4 hc hwn' hw h hi hk' hh ht hcan
      | false =>
        rw [if_neg (by simp), List.length_map, hz]
        by_cases h40 : nw = 40
        · rw [if_pos h40]
          exact offer_full ah aw nh ch nw cw H Z x da va oa dc vc oc w hn hl h64 hr hnil hz h4 hc hwn' hw h hi hk' hh ht hcan h40
        · rw [if_neg h40]
          exact offer_early ah aw nh ch nw cw H Z x da va oa dc vc oc w hn hl h64 hr hnil hz h4 hc hwn' hw h hi hk' hh ht hcan h40

end Go.Proofs.Ytjddkodcbpnilaa

namespace Go.Proofs.Ytjddkodcbpnilaa
open Go.RowKit Go.Lib
set_option linter.unusedVariables false

/-- A row of operations of the call's own, their lists in other blocks. -/
def RowO (w : World) (B : Nat) (v : Value) (Z : List (List Value × PO)) : Prop := OwnC w B v (Z.map (·.1)) ∧ ∀ z ∈ Z, LiesX (fun b => v.ownBlock = some b) w z.1 z.2

theorem RowO.nought (w : World) (B : Nat) : RowO w B (.slice none 0 0) [] := ⟨OwnC.nought _ _, fun z hz => by cases hz⟩

theorem RowO.later {w w' : World} {B : Nat} {v : Value} {Z : List (List Value × PO)} (h : RowO w B v Z) (hb : Below w.heap.size w w') : RowO w' B v Z := ⟨h.1.later hb, fun z hz => (h.2 z hz).later hb⟩

theorem RowO.grow {w w' : World} {B : Nat} {v v' : Value} {Z Y : List (List Value × PO)} (h : RowO w B v Z) (hY : ∀ z ∈ Y, LiesX (fun b => v.ownBlock = some b) w z.1 z.2) (ho : OwnC w' B v' (Z.map (·.1) ++ Y.map (·.1))) (hg : w.grownBy w' v.ownBlock) (hl : v'.ownBlock = v.ownBlock ∨ v'.ownBlock = some w.heap.size) : RowO w' B v' (Z ++ Y) := by
  refine ⟨by rw [List.map_append]; exact ho, fun z hz => ?_⟩
  have hz' : LiesX (fun b => v.ownBlock = some b) w z.1 z.2 := by
    rcases List.mem_append.1 hz with hz | hz
    · exact h.2 z hz
    · exact hY z hz
  have hsv : Sv (fun b => v.ownBlock = some b ∨ w.heap.size ≤ b) w w' := ⟨hg.os, hg.tape, hg.output, hg.size, fun b hb => hg.block b hb.1 (fun e => hb.2 (.inl e.symm))⟩
  refine (hz'.now.sv hsv).less fun b hb => ?_
  rcases hl with hl | hl
  · exact .inl (by rw [← hl]; exact hb)
  · rw [hl] at hb
    cases hb
    exact .inr (Nat.le_refl _)

theorem RowO.rdL {w : World} {B : Nat} {v : Value} {Z : List (List Value × PO)} (h : RowO w B v Z) : ∃ a cap, v = .slice a Z.length cap ∧ Z.length ≤ cap ∧ RdL w a (Z.map (·.2)) ∧ (a = none → Z.map (·.2) = [] ∧ cap = 0) := by
  obtain ⟨a, cap, e, h1, _, hr, hn⟩ := h.1.form
  rw [List.length_map] at e h1
  refine ⟨a, cap, e, h1, ⟨Z, rfl, hr, fun z hz => (h.2 z hz).less fun _ k => k.elim⟩, fun hh => ?_⟩
  obtain ⟨h1, h2⟩ := hn hh
  exact ⟨by rw [List.map_eq_nil_iff] at h1 ⊢; exact h1, h2⟩

theorem RdL.at_ {w : World} {a : Option Addr} {X : List PO} (h : RdL w a X) {i : Nat} (hi : i < X.length) : ∃ b off da va oa dc vc oc, a = some ⟨b, off, none⟩ ∧ (∀ j v, (cellsO X[i] da va oa dc vc oc)[j]? = some v → w.cell? ⟨b, off + i * 12 + j, none⟩ = some v) ∧ LiesO w X[i] da va oa dc vc oc ∧ I64O X[i] := by
  obtain ⟨Z, rfl, hc, hl⟩ := h
  have hi' : i < Z.length := by rw [List.length_map] at hi; exact hi
  obtain ⟨b, off, e, hk⟩ := hc (by rw [List.length_map]; omega)
  obtain ⟨da, va, oa, dc, vc, oc, hcs, hlo, h64, _⟩ := hl _ (List.getElem_mem hi')
  refine ⟨b, off, da, va, oa, dc, vc, oc, e, fun j v hj => ?_, ?_, ?_⟩
  · refine hk i (by rw [List.length_map]; exact hi') j v ?_
    rw [List.getElem_map, hcs]
    rw [List.getElem_map] at hj
    simpa using hj
  · rw [List.getElem_map]; exact hlo
  · rw [List.getElem_map]; exact h64

/-- The i-th operation of a peer, with all its own ahead of it. -/
def chX (n p i : Nat) : PO := ⟨p, (i : Int) + 1, (List.replicate n 0).set p (i : Int), 0, 0, 0, 1, 0, ⟨#[107]⟩, 0, [], []⟩

def chL (n p c : Nat) : List PO := (List.range c).map (chX n p)

theorem chL_length (n p c : Nat) : (chL n p c).length = c := by simp [chL]
theorem chL_at {n p c i : Nat} (h : i < (chL n p c).length) : (chL n p c)[i] = chX n p i := by simp [chL]

theorem in64_nat {k : Nat} (h : k ≤ 4294967296) : In64 (k : Int) := by unfold In64; omega

theorem chX_64 {n p i : Nat} (hn : n ≤ 5) (hp : p < n) (hi : i ≤ 65536) : I64O (chX n p i) := by
  refine ⟨fun x hx => ?_, in64_nat (by show p ≤ _; omega), (by show In64 ((i : Int) + 1); unfold In64; omega), ?_, (fun d hd => by cases hd), by show In64 0; unfold In64; omega, by show In64 0; unfold In64; omega⟩
  · rcases List.mem_or_eq_of_mem_set hx with hx | rfl
    · rw [List.eq_of_mem_replicate hx]; unfold In64; omega
    · exact in64_nat (by omega)
  · unfold S64 In64; simp [chX]

end Go.Proofs.Ytjddkodcbpnilaa

namespace Go.Proofs.Ytjddkodcbpnilaa
open Go.RowKit Go.Lib
set_option linter.unusedVariables false

/-- An operation that has nothing but a dot, and what was had. -/
def bareX (p d : Int) (H : List Int) : PO := ⟨p, d, H, 0, 0, 0, 0, 0, ⟨#[]⟩, 0, [], []⟩

theorem bare_lies {W : World} {b n c : Nat} {p d : Int} {H : List Int} (hn : H.length = n) (hc : n ≤ c) (hl : n ≤ 65536) (h : RdI .i64 W (some ⟨b, 0, none⟩) H) : LiesO W (bareX p d H) (some ⟨b, 0, none⟩) none none c 0 0 :=
  ⟨h, RdV.nil _ _, RdD.nil _ _, by show H.length ≤ _; omega, Nat.zero_le _, Nat.zero_le _, by show H.length ≤ _; omega, Nat.le_refl _, Nat.le_refl _, (fun h => by cases h), fun _ => ⟨rfl, rfl⟩, fun _ => ⟨rfl, rfl⟩, Nat.zero_le _⟩

theorem bare_64 {p d : Int} {H : List Int} (hp : In64 p) (hd : In64 d) (h : All64 H) : I64O (bareX p d H) :=
  ⟨h, hp, hd, by unfold S64 In64; simp [bareX], (fun d hd => by cases hd), by show In64 0; unfold In64; omega, by show In64 0; unfold In64; omega⟩

theorem rdI_lit1 {W : World} {b : Nat} {x : Int} (h : CellsAt W b #[.int .i64 x] 3) : RdI .i64 W (some ⟨b, 0, none⟩) [x] := fun _ => ⟨b, 0, rfl, fun i hi => by
  have : i = 0 := by simpa using hi
  subst this
  rw [h.cell]
  rfl⟩

theorem rdI_lit2 {W : World} {b : Nat} {x y : Int} (h : CellsAt W b #[.int .i64 x, .int .i64 y] 3) : RdI .i64 W (some ⟨b, 0, none⟩) [x, y] := fun _ => ⟨b, 0, rfl, fun i hi => by
  have : i = 0 ∨ i = 1 := by simp at hi; omega
  rcases this with rfl | rfl <;> (rw [h.cell]; rfl)⟩

theorem all64_small {H : List Int} (h : ∀ x ∈ H, -4294967296 ≤ x ∧ x ≤ 4294967296) : All64 H := fun x hx => in64 (h x hx)

/-- A slice's length is that of the list. -/
theorem GivesBuf.parts {w w' : World} {e : Ending} {r : List PO × List PO × Int} (h : GivesBuf w w' e r) :
    ∃ a1 c1 a2 c2, e = .returned (.tuple #[.slice a1 r.1.length c1, .slice a2 r.2.1.length c2, .int .i64 r.2.2]) ∧ r.1.length ≤ c1 ∧ r.2.1.length ≤ c2 ∧ Hid ((a1 = none → r.1 = [] ∧ c1 = 0) ∧ (a2 = none → r.2.1 = [] ∧ c2 = 0) ∧ RdL w' a1 r.1 ∧ RdL w' a2 r.2.1 ∧ Below w.heap.size w w') := by
  obtain ⟨a1, n1, c1, a2, n2, c2, he, rfl, rfl, h1, h2, h3⟩ := h
  exact ⟨a1, c1, a2, c2, he, h1, h2, h3.1, h3.2.1, h3.2.2.1.rdL, h3.2.2.2.1.rdL, h3.2.2.2.2⟩

theorem GivesBuf.partsF {w w' : World} {e : Ending} {r : List PO × List PO × Int} (h : GivesBuf w w' e r) :
    ∃ a1 c1 a2 c2, e = .returned (.tuple #[.slice a1 r.1.length c1, .slice a2 r.2.1.length c2, .int .i64 r.2.2]) ∧ r.1.length ≤ c1 ∧ r.2.1.length ≤ c2 ∧ Hid ((a1 = none → r.1 = [] ∧ c1 = 0) ∧ (a2 = none → r.2.1 = [] ∧ c2 = 0) ∧ RdF w.heap.size w' a1 r.1 ∧ RdF w.heap.size w' a2 r.2.1 ∧ Below w.heap.size w w') := by
  obtain ⟨a1, n1, c1, a2, n2, c2, he, rfl, rfl, h1, h2, h3⟩ := h
  exact ⟨a1, c1, a2, c2, he, h1, h2, h3⟩

set_option maxRecDepth 100000 in
set_option maxHeartbeats 4000000 in
theorem bwakes_any (w : World) : Calls Try.prog 8 #[] w fun e w' => e = .returned (.bool true) ∧ Below w.heap.size w w' := by
  obtain ⟨W5, hW5⟩ : ∃ W5, W5 = (((((w.alloc (.cells #[.int .i64 0] 3)).alloc (.cells #[.int .i64 1] 3)).alloc (.cells #[.int .i64 0, .int .i64 1, .slice (some ⟨w.heap.size, 0, none⟩) 1 1, .int .i64 0, .int .i64 0, .int .i64 0, .int .i64 0, .int .i64 0, .string ⟨#[]⟩, .int .i64 0, .slice none 0 0, .slice none 0 0] 32)).alloc (.cells #[.int .i64 0, .int .i64 2, .slice (some ⟨w.heap.size + 1, 0, none⟩) 1 1, .int .i64 0, .int .i64 0, .int .i64 0, .int .i64 0, .int .i64 0, .string ⟨#[]⟩, .int .i64 0, .slice none 0 0, .slice none 0 0] 32)).alloc (.cells #[.int .i64 0] 3)) := ⟨_, rfl⟩
  have k1 : CellsAt W5 w.heap.size #[.int .i64 0] 3 := by
    rw [hW5]
    exact ((((CellsAt.made rfl).later (alloc_below _ _)).later (alloc_below _ _)).later (alloc_below _ _)).later (alloc_below _ _)
  have k2 : CellsAt W5 (w.heap.size + 1) #[.int .i64 1] 3 := by
    rw [hW5]
    exact (((CellsAt.made (by simp)).later (alloc_below _ _)).later (alloc_below _ _)).later (alloc_below _ _)
  have k3 : CellsAt W5 (w.heap.size + 1 + 1) #[.int .i64 0, .int .i64 1, .slice (some ⟨w.heap.size, 0, none⟩) 1 1, .int .i64 0, .int .i64 0, .int .i64 0, .int .i64 0, .int .i64 0, .string ⟨#[]⟩, .int .i64 0, .slice none 0 0, .slice none 0 0] 32 := by
    rw [hW5]
    exact ((CellsAt.made (by simp)).later (alloc_below _ _)).later (alloc_below _ _)
  have k5 : CellsAt W5 (w.heap.size + 1 + 1 + 1 + 1) #[.int .i64 0] 3 := by
    rw [hW5]
    exact CellsAt.made (by simp)
  have hb : Below w.heap.size w W5 := by
    rw [hW5]
    exact chain (alloc_below _ _) (chain (alloc_below _ _) (chain (alloc_below _ _) (chain (alloc_below _ _) (alloc_below _ _))))
  have C1 := offer_any (some ⟨w.heap.size + 1 + 1 + 1 + 1, 0, none⟩) none 1 1 0 0 [0] [] (bareX 0 2 [1]) (some ⟨w.heap.size + 1, 0, none⟩) none none 1 0 0 W5 rfl (by omega) (all64_small (by simp)) (rdI_lit1 k5) (fun h => by cases h) rfl (by omega) (RdL.nil _ _) (fun _ => ⟨rfl, rfl⟩) (bare_lies rfl (by simp) (by simp) (rdI_lit1 k2)) (bare_64 (by unfold In64; omega) (by unfold In64; omega) (all64_small (by simp)))
  rw [show offerF [0] [] (bareX 0 2 [1]) = ([], [bareX 0 2 [1]], 9) from by rfl] at C1
  have HK1 : Hid (CellsAt W5 w.heap.size #[.int .i64 0] 3) := k1
  have HK3 : Hid (CellsAt W5 (w.heap.size + 1 + 1) #[.int .i64 0, .int .i64 1, .slice (some ⟨w.heap.size, 0, none⟩) 1 1, .int .i64 0, .int .i64 0, .int .i64 0, .int .i64 0, .int .i64 0, .string ⟨#[]⟩, .int .i64 0, .slice none 0 0, .slice none 0 0] 32) := k3
  have HB : Hid (Below w.heap.size w W5) := hb
  have HW : Hid (W5 = _) := hW5
  simp only [cellsO, bareX, List.length_cons, List.length_nil, Nat.zero_add] at C1
  clear k1 k2 k3 k5 hb hW5
  go_enter Try.func8, Try.ntmps8
  go_wp2_with fail
  rw [← HW.out]
  refine C1.mono ?_
  rintro e w6 h6
  obtain ⟨a1, c1, a2, c2, rfl, l1, l2, h6⟩ := h6.parts
  simp only [List.length_cons, List.length_nil, Nat.zero_add]
  have B6 : Hid (Below w.heap.size w w6) := chain HB.out h6.out.2.2.2.2
  have hb7 := alloc_below w6 (.cells #[.int .i64 0] 3)
  have HK1' := HK1.out.later (chain h6.out.2.2.2.2 hb7)
  obtain ⟨y0, y1, y2, y3, y4, y5, y6, y7, y8, y9, y10, y11⟩ := cells12 (HK3.out.later (chain h6.out.2.2.2.2 hb7))
  have C2 := offer_any (some ⟨w6.heap.size, 0, none⟩) a2 1 1 1 c2 [0] [bareX 0 2 [1]] (bareX 0 1 [0]) (some ⟨w.heap.size, 0, none⟩) none none 1 0 0 (w6.alloc (.cells #[.int .i64 0] 3)) rfl (by omega) (all64_small (by simp)) (rdI_lit1 (CellsAt.made rfl)) (fun h => by cases h) rfl (by omega) (h6.out.2.2.2.1.later hb7) h6.out.2.1 (bare_lies rfl (by simp) (by simp) (rdI_lit1 HK1')) (bare_64 (by unfold In64; omega) (by unfold In64; omega) (all64_small (by simp)))
  rw [show offerF [0] [bareX 0 2 [1]] (bareX 0 1 [0]) = ([bareX 0 1 [0], bareX 0 2 [1]], [], 0) from by rfl] at C2
  simp only [cellsO, bareX, List.length_cons, List.length_nil, Nat.zero_add] at C2
  have B7 : Hid (Below w.heap.size w (w6.alloc (.cells #[.int .i64 0] 3))) := chain B6.out hb7
  clear C1 HK1 HK3 HK1' h6 hb7 B6 HB HW
  go_wp2_with fail
  refine C2.mono ?_
  rintro e w7 h7
  obtain ⟨a3, c3, a4, c4, rfl, l3, l4, h7⟩ := h7.parts
  simp only [List.length_cons, List.length_nil, Nat.zero_add]
  have B8 : Hid (Below w.heap.size w w7) := chain B7.out h7.out.2.2.2.2
  obtain ⟨b, off, da, va, oa, dc, vc, oc, rfl, hcs, _⟩ := h7.out.2.2.1.at_ (i := 1) (by simp)
  have z1 := hcs 1 _ rfl
  clear C2 h7 hcs B7 y0 y1 y2 y3 y4 y5 y6 y7 y8 y9 y10 y11
  go_wp2
  go_ret
  exact ⟨rfl, B8.out⟩

end Go.Proofs.Ytjddkodcbpnilaa

namespace Go.Proofs.Ytjddkodcbpnilaa
set_option linter.unusedVariables false

theorem tkL_mid {m : Nat} {H : List Int} {A B : List PO} {x : PO} (hA : ∀ y ∈ A, canP H y = false) (hx : canP H x = true) :
    tkL (m + 1) H (A ++ x :: B) = (x :: (tkL m (H.set x.dp.toNat x.dn) (A ++ B)).1, (tkL m (H.set x.dp.toNat x.dn) (A ++ B)).2) := by
  have hl : A.length < (A ++ x :: B).length := by simp
  have hg : (A ++ x :: B)[A.length]? = some x := by simp
  have hf : (List.range (A ++ x :: B).length).find? (fun k => ((A ++ x :: B)[k]?.map (canP H)).getD false) = some A.length := by
    refine find_range_some hl ?_ fun i hi => ?_
    · rw [hg]; simpa using hx
    · rw [List.getElem?_append_left hi, List.getElem?_eq_getElem hi]
      simpa using hA _ (List.getElem_mem hi)
  rw [tkL, hf]
  simp only [hg]
  have e : (A ++ x :: B).take A.length ++ (A ++ x :: B).drop (A.length + 1) = A ++ B := by
    rw [List.take_left, List.drop_append, List.drop_of_length_le (by omega)]
    simp
  rw [e]

theorem tkL_none {m : Nat} {H : List Int} {X : List PO} (h : ∀ y ∈ X, canP H y = false) : tkL m H X = ([], H, X) := by
  cases m with
  | zero => rfl
  | succ m =>
    have hf : (List.range X.length).find? (fun k => (X[k]?.map (canP H)).getD false) = none := find_range_no fun i hi => by
      rw [List.getElem?_eq_getElem hi]
      simpa using h _ (List.getElem_mem hi)
    rw [tkL, hf]

/-- What is had of one peer alone. -/
def hv (n p j : Nat) : List Int := (List.replicate n 0).set p (j : Int)

theorem hv_length (n p j : Nat) : (hv n p j).length = n := by simp [hv]

theorem hv_at {n p j : Nat} (hp : p < n) : atD (hv n p j) (p : Int) = j := by
  unfold atD hv
  rw [Int.toNat_natCast, List.getElem?_set_self (by simpa using hp)]
  rfl

theorem hv_place {n p j : Nat} (hp : p < n) : placeD (hv n p j) (p : Int) = true := by
  unfold placeD
  rw [hv_length]
  simp
  omega

theorem hv_le {n p i j : Nat} (hp : p < n) : leD (hv n p i) (hv n p j) = decide (i ≤ j) := by
  rw [Bool.eq_iff_iff, leD_iff, decide_eq_true_eq]
  constructor
  · rintro ⟨_, h⟩
    have := h p (by rw [hv_length]; exact hp) (by rw [hv_length]; exact hp)
    simp [hv] at this
    exact this
  · intro h
    refine ⟨by rw [hv_length, hv_length], fun q h1 h2 => ?_⟩
    rw [hv_length] at h1
    by_cases e : p = q
    · subst e; simp [hv]; exact h
    · simp [hv, e]

theorem canP_ch {n p i j : Nat} (hp : p < n) : canP (hv n p j) (chX n p i) = decide (i = j) := by
  unfold canP
  show (nextD (hv n p j) (p : Int) ((i : Int) + 1) && leD (hv n p i) (hv n p j)) = _
  unfold nextD
  rw [hv_place hp, hv_at hp, hv_le hp, Bool.true_and, Bool.eq_iff_iff]
  simp
  omega

theorem hasD_ch {n p i j : Nat} (hp : p < n) : hasD (hv n p j) (chX n p i).dp (chX n p i).dn = decide (i < j) := by
  show hasD (hv n p j) (p : Int) ((i : Int) + 1) = _
  unfold hasD
  rw [hv_place hp, hv_at hp, Bool.true_and, Bool.eq_iff_iff]
  simp
  omega

theorem sameDot_ch {n p i k : Nat} : sameDot (chX n p i) (chX n p k) = decide (k = i) := by
  unfold sameDot chX
  rw [Bool.eq_iff_iff]
  simp
  omega

theorem hv_set {n p j k : Nat} : (hv n p j).set (chX n p k).dp.toNat (chX n p k).dn = hv n p (k + 1) := by
  show ((List.replicate n 0).set p (j : Int)).set ((p : Int)).toNat ((k : Int) + 1) = (List.replicate n 0).set p ((k + 1 : Nat) : Int)
  rw [Int.toNat_natCast, List.set_set]
  congr 1

theorem hv_64 {n p j : Nat} (hj : j ≤ 65536) : All64 (hv n p j) := fun x hx => by
  rcases List.mem_or_eq_of_mem_set hx with hx | rfl
  · rw [List.eq_of_mem_replicate hx]; unfold In64; omega
  · exact in64_nat (by omega)

theorem hv_chk {n p j : Nat} (h1 : 1 ≤ n) (h5 : n ≤ 5) (hj : j ≤ 65536) : chkD (hv n p j) = 0 := by
  rw [chkD_ok]
  refine ⟨by rw [hv_length]; exact h1, by rw [hv_length]; exact h5, ?_⟩
  unfold rightD
  rw [List.all_eq_true]
  intro x hx
  rcases List.mem_or_eq_of_mem_set hx with hx | rfl
  · rw [List.eq_of_mem_replicate hx]; simp
  · simp; omega

theorem hv_zero {n p : Nat} : List.replicate n (0 : Int) = hv n p 0 := by
  unfold hv
  apply List.ext_getElem
  · simp
  · intro i h1 h2
    by_cases e : p = i
    · subst e; simp
    · simp

/-- Those from c on, counted down, that wait. -/
def dnL (n p : Nat) : Nat → Nat → List PO
  | _, 0 => []
  | j, m + 1 => dnL n p (j + 1) m ++ [chX n p j]

theorem dnL_length (n p : Nat) : ∀ m j, (dnL n p j m).length = m
  | 0, _ => rfl
  | m + 1, j => by rw [dnL, List.length_append, dnL_length n p m]; rfl

theorem dnL_mem {n p : Nat} : ∀ {m j : Nat} {y : PO}, y ∈ dnL n p j m → ∃ i, j ≤ i ∧ i < j + m ∧ y = chX n p i
  | 0, _, _, h => by cases h
  | m + 1, j, y, h => by
    rw [dnL, List.mem_append] at h
    rcases h with h | h
    · obtain ⟨i, h1, h2, h3⟩ := dnL_mem h
      exact ⟨i, by omega, by omega, h3⟩
    · simp only [List.mem_singleton] at h
      exact ⟨j, Nat.le_refl _, by omega, h⟩

/-- All that wait go, one behind the other. -/
theorem tkL_dn {n p : Nat} (hp : p < n) : ∀ (m j : Nat), tkL m (hv n p j) (dnL n p j m) = ((List.range' j m).map (chX n p), hv n p (j + m), [])
  | 0, j => by simp [dnL, tkL]
  | m + 1, j => by
    rw [dnL, tkL_mid (B := []) (fun y hy => ?_) (by rw [canP_ch hp]; simp), hv_set, List.append_nil, tkL_dn hp m (j + 1), List.range'_succ, List.map_cons, show j + 1 + m = j + (m + 1) by omega]
    obtain ⟨i, h1, _, rfl⟩ := dnL_mem hy
    rw [canP_ch hp]
    simp
    omega

/-- An offer of one that has to wait. -/
theorem offer_waits {n p i : Nat} {W : List PO} (h1 : 1 ≤ n) (h5 : n ≤ 5) (hp : p < n) (hi : 1 ≤ i) (hW : ∀ y ∈ W, ∃ k, k ≠ i ∧ y = chX n p k) (hl : W.length < 40) : offerF (hv n p 0) W (chX n p i) = ([], W ++ [chX n p i], 9) := by
  unfold offerF
  have hc : chkB (hv n p 0) W = 0 := by unfold chkB; rw [if_neg (by rw [hv_chk h1 h5 (by omega)]; simp), if_neg (by omega)]
  have hs : W.any (sameDot (chX n p i)) = false := by
    rw [List.any_eq_false]
    intro y hy
    obtain ⟨k, hk, rfl⟩ := hW y hy
    rw [sameDot_ch]
    simpa using hk
  rw [if_neg (by rw [hc]; simp), hasD_ch hp, hs, if_neg (by simp), canP_ch hp, if_neg (by simp; omega), if_neg (by omega)]

/-- The first one comes last. -/
theorem offer_first {n p m : Nat} (h1 : 1 ≤ n) (h5 : n ≤ 5) (hp : p < n) (hm : m ≤ 40) : offerF (hv n p 0) (dnL n p 1 m) (chX n p 0) = (chL n p (m + 1), [], 0) := by
  unfold offerF
  have hc : chkB (hv n p 0) (dnL n p 1 m) = 0 := by unfold chkB; rw [if_neg (by rw [hv_chk h1 h5 (by omega)]; simp), if_neg (by rw [dnL_length]; omega)]
  have hs : (dnL n p 1 m).any (sameDot (chX n p 0)) = false := by
    rw [List.any_eq_false]
    intro y hy
    obtain ⟨k, hk, _, rfl⟩ := dnL_mem hy
    rw [sameDot_ch]
    simp
    omega
  have ht : tkL (chX n p 0 :: dnL n p 1 m).length (hv n p 0) (chX n p 0 :: dnL n p 1 m) = (chL n p (m + 1), hv n p (1 + m), []) := by
    rw [List.length_cons, dnL_length]
    have := tkL_mid (m := m) (A := []) (B := dnL n p 1 m) (H := hv n p 0) (x := chX n p 0) (fun y hy => by cases hy) (by rw [canP_ch hp]; rfl)
    rw [List.nil_append, List.nil_append] at this
    rw [this, hv_set, tkL_dn hp m 1]
    have e : chL n p (m + 1) = chX n p 0 :: (List.range' 1 m).map (chX n p) := by
      unfold chL
      rw [List.range_eq_range', List.range'_succ, List.map_cons]
    rw [e]
  rw [if_neg (by rw [hc]; simp), hasD_ch hp, hs, if_neg (by simp), canP_ch hp, if_pos (by simp)]
  unfold takeF
  rw [ht]
  rfl

end Go.Proofs.Ytjddkodcbpnilaa

namespace Go.Proofs.Ytjddkodcbpnilaa
set_option linter.unusedVariables false

def setP (H : List Int) (x : PO) : List Int := H.set x.dp.toNat x.dn
def finP (H : List Int) (L : List PO) : List Int := L.foldl setP H

/-- Each may be taken behind those ahead of it. -/
def closedP : List Int → List PO → Prop
  | _, [] => True
  | H, x :: L => canP H x = true ∧ closedP (setP H x) L

theorem can_at {H : List Int} {x : PO} (h : canP H x = true) : ∃ (q : Nat) (hq : q < H.length), x.dp = q ∧ x.dn = H[q] + 1 ∧ leD x.deps H = true ∧ setP H x = H.set q (H[q] + 1) := by
  unfold canP nextD at h
  simp only [Bool.and_eq_true, decide_eq_true_eq] at h
  obtain ⟨⟨hp, hn⟩, hl⟩ := h
  obtain ⟨q, hq, e, ea⟩ := atD_at hp
  rw [ea] at hn
  refine ⟨q, hq, e, hn, hl, ?_⟩
  unfold setP
  rw [hn, e, Int.toNat_natCast]

theorem setP_len (H : List Int) (x : PO) : (setP H x).length = H.length := by unfold setP; exact List.length_set

theorem finP_len : ∀ (L : List PO) (H : List Int), (finP H L).length = H.length
  | [], H => rfl
  | x :: L, H => (finP_len L (setP H x)).trans (setP_len H x)

theorem setP_le {H : List Int} {x : PO} (h : canP H x = true) : leD H (setP H x) = true := by
  obtain ⟨q, hq, e, hn, hl, hs⟩ := can_at h
  rw [hs]
  refine leD_of List.length_set.symm fun i h1 h2 => ?_
  rw [List.getElem_set]
  by_cases hi : q = i
  · subst hi
    rw [if_pos rfl]
    omega
  · rw [if_neg hi]
    exact Int.le_refl _

theorem finP_le : ∀ {L : List PO} {H : List Int}, closedP H L → leD H (finP H L) = true
  | [], H, _ => leD_refl H
  | x :: L, H, h => leD_trans (setP_le h.1) (finP_le h.2)

theorem atD_nat {H : List Int} {q : Nat} (hq : q < H.length) : atD H (q : Int) = H[q] := by
  unfold atD
  rw [Int.toNat_natCast, List.getElem?_eq_getElem hq, Option.getD_some]

theorem hasD_nat {H : List Int} {p k : Int} (h : hasD H p k = true) : ∃ (q : Nat) (hq : q < H.length), p = q ∧ 1 ≤ k ∧ k ≤ H[q] := by
  unfold hasD at h
  simp only [Bool.and_eq_true, decide_eq_true_eq] at h
  obtain ⟨q, hq, e, ea⟩ := atD_at h.1
  rw [ea] at h
  exact ⟨q, hq, e, h.2.1, h.2.2⟩

theorem hasD_of {H : List Int} {q : Nat} {k : Int} (hq : q < H.length) (h1 : 1 ≤ k) (h2 : k ≤ H[q]) : hasD H (q : Int) k = true := by
  unfold hasD placeD
  rw [atD_nat hq, decide_eq_true (by omega), decide_eq_true ⟨h1, h2⟩]
  rfl

theorem has_set {H : List Int} {x : PO} (h : canP H x = true) {p k : Int} (hh : hasD (setP H x) p k = true) : hasD H p k = true ∨ (p = x.dp ∧ k = x.dn) := by
  obtain ⟨q, hq, e, hn, hl, hs⟩ := can_at h
  rw [hs] at hh
  obtain ⟨r, hr, e2, h1, h2⟩ := hasD_nat hh
  have hr' : r < H.length := by rwa [List.length_set] at hr
  rw [List.getElem_set] at h2
  subst e2
  by_cases hi : q = r
  · subst hi
    rw [if_pos rfl] at h2
    by_cases hk : k = H[q] + 1
    · exact .inr ⟨e.symm, by rw [hk, hn]⟩
    · exact .inl (hasD_of hq h1 (by omega))
  · rw [if_neg hi] at h2
    exact .inl (hasD_of hr' h1 h2)

/-- No number is below nought. -/
def nnP (H : List Int) : Prop := ∀ i (h : i < H.length), 0 ≤ H[i]

theorem nn_set {H : List Int} {x : PO} (h : canP H x = true) (hz : nnP H) : nnP (setP H x) := by
  obtain ⟨q, hq, e, hn, hl, hs⟩ := can_at h
  rw [hs]
  intro i hi
  rw [List.getElem_set]
  have := hz q hq
  by_cases h : q = i
  · rw [if_pos h]
    omega
  · rw [if_neg h]
    exact hz i (by rwa [List.length_set] at hi)

theorem nn_fin : ∀ {L : List PO} {H : List Int}, closedP H L → nnP H → nnP (finP H L)
  | [], H, _, hz => hz
  | x :: L, H, h, hz => show nnP (finP (setP H x) L) from nn_fin h.2 (nn_set h.1 hz)

theorem set_has {H : List Int} {x : PO} (h : canP H x = true) (hz : nnP H) : hasD (setP H x) x.dp x.dn = true := by
  obtain ⟨q, hq, e, hn, hl, hs⟩ := can_at h
  rw [hs, e, hn]
  have := hz q hq
  exact hasD_of (by rw [List.length_set]; exact hq) (by omega) (by rw [List.getElem_set, if_pos rfl]; omega)

theorem can_not_had {H : List Int} {x : PO} (h : canP H x = true) : hasD H x.dp x.dn = false := by
  cases hh : hasD H x.dp x.dn with
  | false => rfl
  | true =>
    obtain ⟨q, hq, e, hn, hl, hs⟩ := can_at h
    obtain ⟨r, hr, e2, h1, h2⟩ := hasD_nat hh
    have : r = q := by omega
    subst this
    omega

theorem mem_has : ∀ {L : List PO} {H : List Int}, closedP H L → nnP H → ∀ x ∈ L, hasD (finP H L) x.dp x.dn = true
  | y :: L, H, h, hz, x, hx => by
    rcases List.mem_cons.1 hx with rfl | hx
    · exact has_le (finP_le h.2) (set_has h.1 hz)
    · exact mem_has h.2 (nn_set h.1 hz) x hx

theorem has_fin : ∀ {L : List PO} {H : List Int}, closedP H L → ∀ {p k : Int}, hasD (finP H L) p k = true → hasD H p k = true ∨ ∃ r ∈ L, p = r.dp ∧ k = r.dn
  | [], H, _, p, k, hh => .inl hh
  | y :: L, H, h, p, k, hh => by
    rcases has_fin h.2 hh with h1 | ⟨r, hr, h1⟩
    · rcases has_set h.1 h1 with h2 | h2
      · exact .inl h2
      · exact .inr ⟨y, List.mem_cons_self, h2⟩
    · exact .inr ⟨r, List.mem_cons_of_mem _ hr, h1⟩

theorem mem_not : ∀ {L : List PO} {H : List Int}, closedP H L → ∀ x ∈ L, hasD H x.dp x.dn = false
  | y :: L, H, h, x, hx => by
    rcases List.mem_cons.1 hx with rfl | hx
    · exact can_not_had h.1
    · have := mem_not h.2 x hx
      cases hh : hasD H x.dp x.dn with
      | false => rfl
      | true =>
        rw [has_le (setP_le h.1) hh] at this
        cases this

theorem sameDot_iff {x y : PO} : sameDot x y = true ↔ y.dp = x.dp ∧ y.dn = x.dn := by
  unfold sameDot
  simp

theorem closed_pair : ∀ {L : List PO} {H : List Int}, closedP H L → nnP H → L.Pairwise (fun x y => sameDot x y = false)
  | [], _, _, _ => List.Pairwise.nil
  | x :: L, H, h, hz => by
    refine List.Pairwise.cons (fun y hy => ?_) (closed_pair h.2 (nn_set h.1 hz))
    cases hs : sameDot x y with
    | false => rfl
    | true =>
      obtain ⟨e1, e2⟩ := sameDot_iff.1 hs
      have := mem_not h.2 y hy
      rw [e1, e2, set_has h.1 hz] at this
      cases this

theorem all_had : ∀ {L : List PO} {K H : List Int}, closedP K L → nnP K → leD K H = true → (∀ y ∈ L, hasD H y.dp y.dn = true ∨ canP H y = false) → (∀ y ∈ L, hasD H y.dp y.dn = true) ∧ leD (finP K L) H = true
  | [], K, H, _, _, hl, _ => ⟨fun y hy => (by cases hy), hl⟩
  | x :: L, K, H, h, hz, hl, hy => by
    obtain ⟨q, hq, e, hn, hd, hs⟩ := can_at h.1
    obtain ⟨hlen, hle⟩ := leD_iff.1 hl
    have hqH : q < H.length := by omega
    have h0 := hle q hq hqH
    have hnn := hz q hq
    have hx : x.dn ≤ H[q] := by
      rcases hy x List.mem_cons_self with h1 | h1
      · obtain ⟨r, hr, e2, h2, h3⟩ := hasD_nat h1
        have : r = q := by omega
        subst this
        exact h3
      · have hd2 := leD_trans hd hl
        unfold canP at h1
        rw [hd2, Bool.and_true] at h1
        unfold nextD placeD at h1
        rw [e, atD_nat hqH, decide_eq_true (by omega), Bool.true_and] at h1
        have := of_decide_eq_false h1
        omega
    have hle2 : leD (setP K x) H = true := by
      rw [hs]
      refine leD_of (by rw [List.length_set]; exact hlen) fun i h1 h2 => ?_
      rw [List.getElem_set]
      by_cases hi : q = i
      · subst hi
        rw [if_pos rfl]
        omega
      · rw [if_neg hi]
        exact hle i (by rwa [List.length_set] at h1) h2
    obtain ⟨a, b⟩ := all_had h.2 (nn_set h.1 hz) hle2 (fun y hm => hy y (List.mem_cons_of_mem _ hm))
    refine ⟨fun y hm => ?_, b⟩
    rcases List.mem_cons.1 hm with rfl | hm
    · rw [e]
      exact hasD_of hqH (by omega) hx
    · exact a y hm

theorem closed_append : ∀ {R r : List PO} {H : List Int}, closedP H R → closedP (finP H R) r → closedP H (R ++ r)
  | [], r, H, _, h => h
  | x :: R, r, H, h, h' => ⟨h.1, closed_append h.2 h'⟩

theorem fin_append (H : List Int) (R r : List PO) : finP H (R ++ r) = finP (finP H R) r := List.foldl_append

theorem tk_gives : ∀ (m : Nat) (H : List Int) (X : List PO), X.length ≤ m → closedP H (tkL m H X).1 ∧ (tkL m H X).2.1 = finP H (tkL m H X).1 ∧ ((tkL m H X).1 ++ (tkL m H X).2.2).Perm X ∧ ∀ y ∈ (tkL m H X).2.2, canP (tkL m H X).2.1 y = false
  | 0, H, X, hm => by
    obtain rfl := List.eq_nil_of_length_eq_zero (Nat.le_zero.1 hm)
    exact ⟨trivial, rfl, List.Perm.refl _, fun y hy => (by cases hy)⟩
  | m + 1, H, X, hm => by
    cases hf : (List.range X.length).find? (fun k => (X[k]?.map (canP H)).getD false) with
    | none =>
      have e : tkL (m + 1) H X = ([], H, X) := by rw [tkL, hf]
      rw [e]
      refine ⟨trivial, rfl, List.Perm.refl _, fun y hy => ?_⟩
      obtain ⟨i, hi, rfl⟩ := List.mem_iff_getElem.1 hy
      have := List.find?_eq_none.1 hf i (List.mem_range.2 hi)
      rw [List.getElem?_eq_getElem hi] at this
      simpa using this
    | some k =>
      have hk : k < X.length := List.mem_range.1 (List.mem_of_find?_eq_some hf)
      have hc := List.find?_some hf
      rw [List.getElem?_eq_getElem hk] at hc
      have hc' : canP H X[k] = true := by simpa using hc
      have e : tkL (m + 1) H X = (X[k] :: (tkL m (H.set X[k].dp.toNat X[k].dn) (X.take k ++ X.drop (k + 1))).1, (tkL m (H.set X[k].dp.toNat X[k].dn) (X.take k ++ X.drop (k + 1))).2) := by
        rw [tkL, hf]
        simp only [List.getElem?_eq_getElem hk]
      rw [e]
      obtain ⟨a, b, c, d⟩ := tk_gives m (setP H X[k]) (X.take k ++ X.drop (k + 1)) (by rw [List.length_append, List.length_take, List.length_drop]; omega)
      refine ⟨⟨hc', a⟩, b, ?_, d⟩
      have hX : X = X.take k ++ X[k] :: X.drop (k + 1) := by rw [List.getElem_cons_drop, List.take_append_drop]
      have p1 : (X[k] :: ((tkL m (setP H X[k]) (X.take k ++ X.drop (k + 1))).1 ++ (tkL m (setP H X[k]) (X.take k ++ X.drop (k + 1))).2.2)).Perm (X[k] :: (X.take k ++ X.drop (k + 1))) := List.Perm.cons _ c
      exact p1.trans (List.perm_middle.symm.trans (by rw [← hX]))

theorem fin_most : ∀ {L : List PO} {H : List Int} {b : Int}, closedP H L → (∀ i (h : i < H.length), H[i] ≤ b) → ∀ i (h : i < (finP H L).length), (finP H L)[i] ≤ b + L.length
  | [], H, b, _, hb, i, h => by
    have := hb i h
    show H[i] ≤ b + 0
    omega
  | x :: L, H, b, h, hb, i, hi => by
    obtain ⟨q, hq, e, hn, hd, hs⟩ := can_at h.1
    have := fin_most (b := b + 1) h.2 (fun j hj => by
      have hj' : j < H.length := by rwa [setP_len] at hj
      have h1 := hb j hj'
      have h2 := hb q hq
      have e2 : (setP H x)[j] = (H.set q (H[q] + 1))[j]'(by rw [List.length_set]; exact hj') := by simp only [hs]
      rw [e2, List.getElem_set]
      split <;> omega) i hi
    have e3 : ((x :: L).length : Int) = (L.length : Int) + 1 := by rw [List.length_cons]; omega
    rw [e3]
    show (finP (setP H x) L)[i] ≤ _
    omega

def zerosP (n : Nat) : List Int := List.replicate n 0

theorem nn_zeros (n : Nat) : nnP (zerosP n) := fun i h => by simp [zerosP]

theorem zeros_not (n : Nat) (p k : Int) : hasD (zerosP n) p k = false := by
  cases h : hasD (zerosP n) p k with
  | false => rfl
  | true =>
    obtain ⟨q, hq, e, h1, h2⟩ := hasD_nat h
    simp [zerosP] at h2
    omega

/-- What stands when S were offered: R are ready, W wait. -/
structure OffSt (n : Nat) (S R W : List PO) (H : List Int) : Prop where
  clo : closedP (zerosP n) R
  fin : H = finP (zerosP n) R
  perm : (R ++ W).Perm S
  no : ∀ y ∈ W, canP H y = false

theorem OffSt.nought (n : Nat) : OffSt n [] [] [] (zerosP n) := ⟨trivial, rfl, List.Perm.refl _, fun y hy => by cases hy⟩

theorem OffSt.len {n : Nat} {S R W : List PO} {H : List Int} (s : OffSt n S R W H) : H.length = n := by rw [s.fin, finP_len]; simp [zerosP]

theorem OffSt.count {n : Nat} {S R W : List PO} {H : List Int} (s : OffSt n S R W H) : R.length + W.length = S.length := by rw [← List.length_append]; exact s.perm.length_eq

theorem OffSt.right {n : Nat} {S R W : List PO} {H : List Int} (s : OffSt n S R W H) (h1 : 1 ≤ n) (h5 : n ≤ 5) (hS : S.length ≤ 40) : chkD H = 0 := by
  refine chkD_ok.2 ⟨by rw [s.len]; exact h1, by rw [s.len]; exact h5, rightD_iff.2 fun i hi => ?_⟩
  have h := s.fin
  subst h
  refine ⟨nn_fin s.clo (nn_zeros n) i hi, ?_⟩
  have := fin_most (b := 0) s.clo (fun j hj => by simp [zerosP]) i hi
  have := s.count
  omega

theorem pair_perm {A B : List PO} (h : A.Perm B) (hp : B.Pairwise (fun x y => sameDot x y = false)) : A.Pairwise (fun x y => sameDot x y = false) :=
  h.symm.pairwise hp fun {x y} hxy => by
    cases hs : sameDot y x with
    | false => rfl
    | true =>
      obtain ⟨e1, e2⟩ := sameDot_iff.1 hs
      rw [sameDot_iff.2 ⟨e1.symm, e2.symm⟩] at hxy
      cases hxy

theorem OffSt.not_had {n : Nat} {S R W : List PO} {H : List Int} (s : OffSt n S R W H) {y : PO} (hy : ∀ r ∈ R, sameDot r y = false) : hasD H y.dp y.dn = false := by
  cases hh : hasD H y.dp y.dn with
  | false => rfl
  | true =>
    rw [s.fin] at hh
    rcases has_fin s.clo hh with h | ⟨r, hr, e1, e2⟩
    · rw [zeros_not] at h
      cases h
    · have := hy r hr
      rw [sameDot_iff.2 ⟨e1, e2⟩] at this
      cases this

theorem OffSt.wait_not {n : Nat} {S R W : List PO} {H : List Int} (s : OffSt n S R W H) (hp : S.Pairwise (fun x y => sameDot x y = false)) : ∀ y ∈ W, hasD H y.dp y.dn = false := by
  have := pair_perm s.perm hp
  rw [List.pairwise_append] at this
  exact fun y hy => s.not_had fun r hr => this.2.2 r hr y hy

theorem OffSt.step {n : Nat} {S R W : List PO} {H : List Int} {x : PO} (s : OffSt n S R W H) (h1 : 1 ≤ n) (h5 : n ≤ 5) (hp : (S ++ [x]).Pairwise (fun x y => sameDot x y = false)) (hS : S.length < 40) :
    ((offerF H W x).2.2 = 0 ∨ (offerF H W x).2.2 = 9) ∧ OffSt n (S ++ [x]) (R ++ (offerF H W x).1) (offerF H W x).2.1 (finP H (offerF H W x).1) := by
  have hc := s.count
  have hk : chkB H W = 0 := by
    unfold chkB
    rw [s.right h1 h5 (by omega), if_neg (by omega), if_neg (by omega)]
  have hpair := List.pairwise_append.1 hp
  have hx : ∀ y ∈ R ++ W, sameDot y x = false := fun y hy => hpair.2.2 y (s.perm.mem_iff.1 hy) x (by simp)
  have hn : hasD H x.dp x.dn = false := s.not_had fun r hr => hx r (List.mem_append_left _ hr)
  have ha : W.any (sameDot x) = false := by
    rw [List.any_eq_false]
    intro y hy
    have := hx y (List.mem_append_right _ hy)
    intro hs
    obtain ⟨e1, e2⟩ := sameDot_iff.1 hs
    rw [sameDot_iff.2 ⟨e1.symm, e2.symm⟩] at this
    cases this
  have hperm : (R ++ (x :: W)).Perm (S ++ [x]) := List.perm_middle.trans ((List.Perm.cons x s.perm).trans (List.perm_append_singleton x S).symm)
  unfold offerF
  rw [if_neg (by omega), hn, ha, if_neg (by simp)]
  cases hcan : canP H x with
  | true =>
    rw [if_pos rfl]
    refine ⟨.inl rfl, ?_⟩
    obtain ⟨a, b, c, d⟩ := tk_gives (x :: W).length H (x :: W) (Nat.le_refl _)
    have s2 : OffSt n (S ++ [x]) (R ++ (tkL (x :: W).length H (x :: W)).1) (tkL (x :: W).length H (x :: W)).2.2 (finP H (tkL (x :: W).length H (x :: W)).1) := by
      refine ⟨closed_append s.clo (by rw [← s.fin]; exact a), by rw [fin_append, ← s.fin], ?_, by rw [← b]; exact d⟩
      rw [List.append_assoc]
      exact ((List.Perm.refl R).append c).trans hperm
    have hw := s2.wait_not hp
    have e : (tkL (x :: W).length H (x :: W)).2.2.filter (fun y => !hasD (tkL (x :: W).length H (x :: W)).2.1 y.dp y.dn) = (tkL (x :: W).length H (x :: W)).2.2 := by
      refine List.filter_eq_self.2 fun y hy => ?_
      rw [b, hw y hy]
      rfl
    show OffSt n (S ++ [x]) (R ++ (takeF H (x :: W)).1) (takeF H (x :: W)).2 (finP H (takeF H (x :: W)).1)
    unfold takeF
    rw [e]
    exact s2
  | false =>
    rw [if_neg (by decide), if_neg (by omega)]
    refine ⟨.inr rfl, ?_⟩
    show OffSt n (S ++ [x]) (R ++ []) (W ++ [x]) (finP H [])
    rw [List.append_nil]
    refine ⟨s.clo, s.fin, ?_, fun y hy => ?_⟩
    · rw [← List.append_assoc]
      exact s.perm.append (List.Perm.refl _)
    · rcases List.mem_append.1 hy with h | h
      · exact s.no y h
      · rw [List.mem_singleton.1 h]
        exact hcan

theorem OffSt.end_ {n : Nat} {L S R W : List PO} {H : List Int} (s : OffSt n S R W H) (hS : S.Perm L) (hL : closedP (zerosP n) L) : W = [] ∧ R.length = L.length ∧ H = finP (zerosP n) L := by
  have hp : S.Pairwise (fun x y => sameDot x y = false) := pair_perm hS (closed_pair hL (nn_zeros n))
  have hRW : (R ++ W).Perm L := s.perm.trans hS
  have hz : leD (zerosP n) H = true := by rw [s.fin]; exact finP_le s.clo
  obtain ⟨h1, h2⟩ := all_had hL (nn_zeros n) hz (fun y hy => by
    rcases List.mem_append.1 (hRW.mem_iff.2 hy) with h | h
    · exact .inl (by rw [s.fin]; exact mem_has s.clo (nn_zeros n) y h)
    · exact .inr (s.no y h))
  have hW : W = [] := by
    cases W with
    | nil => rfl
    | cons y W =>
      have a := s.wait_not hp y List.mem_cons_self
      rw [h1 y (hRW.mem_iff.1 (by simp))] at a
      cases a
  subst hW
  rw [List.append_nil] at hRW
  refine ⟨rfl, hRW.length_eq, ?_⟩
  obtain ⟨-, h3⟩ := all_had (H := finP (zerosP n) L) s.clo (nn_zeros n) (finP_le hL) (fun y hy => .inl (mem_has hL (nn_zeros n) y (hRW.mem_iff.1 hy)))
  rw [← s.fin] at h3
  obtain ⟨l1, q1⟩ := leD_iff.1 h2
  obtain ⟨l2, q2⟩ := leD_iff.1 h3
  refine List.ext_getElem l2 fun i hi hj => ?_
  have := q1 i hj hi
  have := q2 i hi hj
  omega

/-- A row from somewhere backwards, round. -/
def backP (t : Nat) (L : List PO) : List PO := (L.take (t + 1)).reverse ++ (L.drop (t + 1)).reverse

theorem backP_perm (t : Nat) (L : List PO) : (backP t L).Perm L := by
  have h : ((L.take (t + 1)).reverse ++ (L.drop (t + 1)).reverse).Perm (L.take (t + 1) ++ L.drop (t + 1)) := (List.reverse_perm _).append (List.reverse_perm _)
  rw [List.take_append_drop] at h
  exact h

theorem backP_len (t : Nat) (L : List PO) : (backP t L).length = L.length := (backP_perm t L).length_eq

theorem backP_at {t i : Nat} {L : List PO} (ht : t < L.length) (hi : i < L.length) : (backP t L)[i]'(by rw [backP_len]; exact hi) = L[(t + L.length - i) % L.length]'(Nat.mod_lt _ (by omega)) := by
  unfold backP
  by_cases h : i ≤ t
  · rw [List.getElem_append_left (by rw [List.length_reverse, List.length_take]; omega), List.getElem_reverse, List.getElem_take]
    congr 1
    rw [List.length_take, show t + L.length - i = (t - i) + L.length by omega, Nat.add_mod_right, Nat.mod_eq_of_lt (by omega)]
    omega
  · rw [List.getElem_append_right (by rw [List.length_reverse, List.length_take]; omega), List.getElem_reverse, List.getElem_drop]
    congr 1
    rw [List.length_reverse, List.length_take, List.length_drop, Nat.mod_eq_of_lt (by omega)]
    omega

end Go.Proofs.Ytjddkodcbpnilaa

namespace Go.Proofs.Ytjddkodcbpnilaa
open Go.RowKit Go.Lib
set_option linter.unusedVariables false

end Go.Proofs.Ytjddkodcbpnilaa

namespace Go.Proofs.Ytjddkodcbpnilaa
open Go.RowKit Go.Lib
set_option linter.unusedVariables false

theorem modUp (k : Int) (m : Nat) (h1 : 1 ≤ m) (h2 : m ≤ 1000) : ∃ j : Nat, (1 ≤ j ∧ j ≤ m) ∧ wrap64 (1 + wrap64 ((IntKind.u64.wrap k).tmod (m : Int))) = (j : Int) := by
  obtain ⟨j, hj, e⟩ := modPlace k m h1 h2
  rw [e, IntWalk.wrap64_in _ ⟨by omega, by omega⟩]
  exact ⟨1 + j, by omega, by omega⟩

theorem chX_cells (n p i : Nat) (da va oa : Option Addr) (dc vc oc : Nat) : cellsO (chX n p i) da va oa dc vc oc = #[.int .i64 (p : Int), .int .i64 ((i : Int) + 1), .slice da n dc, .int .i64 0, .int .i64 0, .int .i64 0, .int .i64 1, .int .i64 0, .string ⟨#[107]⟩, .int .i64 0, .slice va 0 vc, .slice oa 0 oc] := by
  unfold cellsO chX
  simp

end Go.Proofs.Ytjddkodcbpnilaa

namespace Go.Proofs.Ytjddkodcbpnilaa
open Go.RowKit Go.Lib
set_option linter.unusedVariables false

set_option maxRecDepth 100000 in
set_option maxHeartbeats 2000000 in
theorem rCan_any (ah : Option Addr) (nh ch : Nat) (H : List Int) (x : PO) (da va oa : Option Addr) (dc vc oc : Nat) (w : World) (hn : H.length = nh) (hl : nh ≤ 65536) (h64 : All64 H) (hr : RdI .i64 w ah H) (h : LiesO w x da va oa dc vc oc) (hx : I64O x) :
    Calls Try.prog 5 #[.slice ah nh ch, .agg (cellsO x da va oa dc vc oc)] w fun e w' => e = .returned (.bool (canP H x)) ∧ Below w.heap.size w w' := by
  have B1 := alloc_below w (.cells (cellsO x da va oa dc vc oc) 32)
  have C1 := rNext_any ah nh ch x.dp x.dn H (w.alloc (.cells (cellsO x da va oa dc vc oc) 32)) hn hl h64 hx.dn (hr.later B1)
  have C2 := fun V (hb : Below w.heap.size w V) => rLe_any da ah x.deps.length nh dc ch x.deps H V rfl hn h.ld hl (h.deps.later hb) (hr.later hb)
  have HE : Hid (canP H x = (nextD H x.dp x.dn && leD x.deps H)) := rfl
  clear hn hl h64 hr h hx
  obtain ⟨dp, dn, deps, sp, sl, sq, kind, table, key, col, vals, dots⟩ := x
  simp only [cellsO] at *
  have HK : Hid (CellsAt (w.alloc (.cells #[.int .i64 dp, .int .i64 dn, .slice da deps.length dc, .int .i64 sp, .int .i64 sl, .int .i64 sq, .int .i64 kind, .int .i64 table, .string key, .int .i64 col, .slice va vals.length vc, .slice oa dots.length oc] 32)) w.heap.size #[.int .i64 dp, .int .i64 dn, .slice da deps.length dc, .int .i64 sp, .int .i64 sl, .int .i64 sq, .int .i64 kind, .int .i64 table, .string key, .int .i64 col, .slice va vals.length vc, .slice oa dots.length oc] 32) := CellsAt.made rfl
  have HB : Hid (Below w.heap.size w (w.alloc (.cells #[.int .i64 dp, .int .i64 dn, .slice da deps.length dc, .int .i64 sp, .int .i64 sl, .int .i64 sq, .int .i64 kind, .int .i64 table, .string key, .int .i64 col, .slice va vals.length vc, .slice oa dots.length oc] 32))) := B1
  clear B1
  generalize deps.length = m at *
  generalize vals.length = nv at *
  generalize dots.length = no at *
  generalize nextD H dp dn = q1 at *
  generalize leD deps H = q2 at *
  generalize canP H _ = res at *
  cases q1 with
  | false =>
    go_enter Try.func5, Try.ntmps5
    go_wp2_with fail
    refine C1.mono ?_
    rintro e w1 ⟨rfl, hb⟩
    have HB1 : Hid (Below w.heap.size w w1) := chain HB.out hb
    clear C1 C2 hb
    go_wp2
    go_ret
    exact ⟨by rw [HE.out]; rfl, HB1.out⟩
  | true =>
    go_enter Try.func5, Try.ntmps5
    go_wp2_with fail
    refine C1.mono ?_
    rintro e w1 ⟨rfl, hb⟩
    have HB1 : Hid (Below w.heap.size w w1) := chain HB.out hb
    obtain ⟨k0, k1, k2, k3, k4, k5, k6, k7, k8, k9, k10, k11⟩ := cells12 (HK.out.later hb)
    clear C1 hb
    go_wp2_with fail
    refine (C2 _ HB1.out).mono ?_
    rintro e w2 ⟨rfl, hb⟩
    have HB2 : Hid (Below w.heap.size w w2) := chain HB1.out hb
    clear C2 hb
    go_wp2
    go_ret
    exact ⟨by rw [HE.out]; rfl, HB2.out⟩

/-- A light row's operations. -/
theorem RdO.light {w : World} {a : Option Addr} {X : List PO} (h : RdO w a X) (hh : heavyOs X = false) (h0 : 0 < X.length) : ∃ b off, a = some ⟨b, off, none⟩ ∧ ∀ i (hi : i < X.length), ∃ da va oa dc vc oc, (∀ j v, (cellsO X[i] da va oa dc vc oc)[j]? = some v → w.cell? ⟨b, off + i * 12 + j, none⟩ = some v) ∧ LiesO w X[i] da va oa dc vc oc ∧ I64O X[i] ∧ X[i].deps.length ≤ 30 := by
  obtain ⟨b, off, e, hc⟩ := h h0
  refine ⟨b, off, e, fun i hi => ?_⟩
  obtain ⟨da, va, oa, dc, vc, oc, h1, h2⟩ := hc i hi
  have hl : heavyO X[i] = false := by
    unfold heavyOs at hh
    have := (Bool.or_eq_false_iff.1 hh).2
    rw [List.any_eq_false] at this
    simpa using this _ (List.getElem_mem hi)
  obtain ⟨l, l2, -⟩ := h2.of_light hl
  exact ⟨da, va, oa, dc, vc, oc, h1, l, h2.i64, l2⟩

theorem fin_64 {n : Nat} {R : List PO} (h : closedP (zerosP n) R) (hR : R.length ≤ 65536) : All64 (finP (zerosP n) R) := by
  intro z hz
  obtain ⟨i, hi, rfl⟩ := List.mem_iff_getElem.1 hz
  have h1 := nn_fin h (nn_zeros n) i hi
  have h2 := fin_most (b := 0) h (fun j hj => by simp [zerosP]) i hi
  exact ⟨by omega, by omega⟩

theorem closed_right : ∀ {R r : List PO} {H : List Int}, closedP H (R ++ r) → closedP (finP H R) r
  | [], r, H, h => h
  | x :: R, r, H, h => closed_right (R := R) (H := setP H x) h.2

theorem closed_at {L : List PO} {H : List Int} (h : closedP H L) (m : Nat) (hm : m < L.length) : canP (finP H (L.take m)) L[m] = true := by
  have e : L = L.take m ++ L.drop m := (List.take_append_drop m L).symm
  rw [e] at h
  have h2 := closed_right h
  rw [List.drop_eq_getElem_cons hm] at h2
  exact h2.1

theorem wrap64_id2 {n : Int} (h : -9223372036854775808 ≤ n) (h' : n ≤ 9223372036854775807) : wrap64 n = n := by
  unfold wrap64
  omega

theorem ne_own {h g b n m : Nat} (hl : h < g) (hb : (Value.slice (some ⟨h, 0, none⟩) n m).ownBlock = some b) : b ≠ g := by
  simp only [Value.ownBlock, Option.some.injEq] at hb
  omega

theorem fin_zlen {n : Nat} {R : List PO} : (finP (zerosP n) R).length = n := by rw [finP_len]; simp [zerosP]

theorem own_some {w : World} {B h n : Nat} {N : List Int} (hn : N.length = n) (ho : OwnI w B (.slice (some ⟨h, 0, none⟩) n n) N) : RdI .i64 w (some ⟨h, 0, none⟩) N := by
  obtain ⟨_, _, e1, _, r1, _⟩ := ho.form
  rw [hn] at e1
  cases e1
  exact r1

set_option maxRecDepth 100000 in
set_option maxHeartbeats 8000000 in
theorem ball_main (b off len cap n : Nat) (L : List PO) (turn : Int) (w : World) (hn : L.length = len) (h0 : 0 < len) (h40 : len ≤ 40) (n1 : 1 ≤ n) (n5 : n ≤ 5) (hO : heavyOs L = false) (hr : RdO w (some ⟨b, off, none⟩) L) (hd : (L[0]'(by omega)).deps.length = n) :
    Calls Try.prog 3 #[.slice (some ⟨b, off, none⟩) len cap, .int .i64 turn] w fun e w' => e = .returned (.bool true) ∧ Below w.heap.size w w' := by
  obtain ⟨b', off', eb, hat⟩ := hr.light hO (by omega)
  cases eb
  have HAT : Hid (∀ i (hi : i < L.length), ∃ da va oa dc vc oc, (∀ j v, (cellsO L[i] da va oa dc vc oc)[j]? = some v → w.cell? ⟨b, off + i * 12 + j, none⟩ = some v) ∧ LiesO w L[i] da va oa dc vc oc ∧ I64O L[i] ∧ L[i].deps.length ≤ 30) := hat
  have C0 := heavyO_any (some ⟨b, off, none⟩) len cap L w hn (by omega) hr
  rw [hO] at C0
  obtain ⟨da, va, oa, dc, vc, oc, hcs, hlo, h64, h30⟩ := hat 0 (by omega)
  have x2 := hcs 2 (.slice da n dc) (by show some (Value.slice da (L[0]'(by omega)).deps.length dc) = _; rw [hd])
  simp only [Nat.zero_mul, Nat.add_zero] at x2
  obtain ⟨w2, hmake, hO2, hB2⟩ := run_make_ints w n (by omega)
  obtain ⟨h, hh⟩ : ∃ h, w.heap.size = h := ⟨_, rfl⟩
  have HH : Hid (w.heap.size = h) := hh
  rw [hh] at hO2 hmake
  have HO2 : Hid (OwnI w2 h (.slice (some ⟨h, 0, none⟩) n n) (finP (zerosP n) (L.take 0))) := hO2
  have HB2 : Hid (Below w.heap.size w w2) := hB2
  have HN : Hid (L.length = len) := hn
  have nn1 : (1 : Int) ≤ (n : Int) := by omega
  have nn2 : ((n : Int) < 1) = False := by simp; omega
  have nn3 : ((5 : Int) < (n : Int)) = False := by simp; omega
  have ll1 : ((40 : Int) < (len : Int)) = False := by simp; omega
  have ll2 : ((len : Int) = 0) = False := by simp; omega
  have ll3 : (len = 0) = False := by simp; omega
  have ll4 : ((len : Int) == 0) = false := by simp; omega
  clear hat hcs hlo h64 h30 hO2 hB2 hn hr hO hd hh
  go_enter Try.func3, Try.ntmps3
  go_wp2_with fail
  refine C0.mono ?_
  rintro e w1 ⟨rfl, hw⟩
  subst w1
  clear C0
  go_wp2
  clear hmake x2
  go_loopw [7] (fun i wr => ∃ (k : Nat), k ≤ len ∧ i = .int .i64 k ∧ Hid (closedP (zerosP n) (L.take k)) ∧ Hid (OwnI wr h (.slice (some ⟨h, 0, none⟩) n n) (finP (zerosP n) (L.take k))) ∧ Hid (Below w.heap.size w wr)) (fun i _ => len - (RowKit.intOf i).toNat)
  case atStart => exact ⟨0, by omega, rfl, trivial, HO2.out, HB2.out⟩
  case round =>
    obtain ⟨k, hk, rfl, hcl, ho, hb⟩ := hrel
    by_cases hkl : k < len
    · obtain ⟨da, va, oa, dc, vc, oc, hcs, hlo, h64, h30⟩ := HAT.out k (by rw [HN.out]; exact hkl)
      obtain ⟨x, hx⟩ : ∃ x, x = L[k]'(by rw [HN.out]; exact hkl) := ⟨_, rfl⟩
      rw [← hx] at hcs hlo h64 h30
      have hcl' : closedP (zerosP n) (L.take k) := hcl.out
      have hcw : ∀ j v, (cellsO x da va oa dc vc oc)[j]? = some v → wr.cell? ⟨b, off + k * 12 + j, none⟩ = some v := fun j v hj => cell_later hb.out (hcs j v hj)
      have CC := rCan_any (some ⟨h, 0, none⟩) n n (finP (zerosP n) (L.take k)) x da va oa dc vc oc wr fin_zlen (by omega) (fin_64 hcl' (by rw [List.length_take]; omega)) (own_some fin_zlen ho.out) (hlo.later hb.out) h64
      have hT : L.take (k + 1) = L.take k ++ [x] := by rw [hx, List.take_succ_eq_append_getElem (by rw [HN.out]; exact hkl)]
      have x0 := hcw 0 (.int .i64 x.dp) rfl
      have x1 := hcw 1 (.int .i64 x.dn) rfl
      have x2 := hcw 2 (.slice da x.deps.length dc) rfl
      have x3 := hcw 3 (.int .i64 x.sp) rfl
      have x4 := hcw 4 (.int .i64 x.sl) rfl
      have x5 := hcw 5 (.int .i64 x.sq) rfl
      have x6 := hcw 6 (.int .i64 x.kind) rfl
      have x7 := hcw 7 (.int .i64 x.table) rfl
      have x8 := hcw 8 (.string x.key) rfl
      have x9 := hcw 9 (.int .i64 x.col) rfl
      have x10 := hcw 10 (.slice va x.vals.length vc) rfl
      have x11 := hcw 11 (.slice oa x.dots.length oc) rfl
      rw [Nat.add_zero] at x0
      simp only [cellsO] at CC
      have kk0 : (0 : Int) ≤ (k : Int) := by omega
      have kk1 : (k : Int) < (len : Int) := by omega
      have HB : Hid (Below w.heap.size w wr) := hb
      have HO : Hid (OwnI wr h (.slice (some ⟨h, 0, none⟩) n n) (finP (zerosP n) (L.take k))) := ho
      have HCW : Hid (∀ j v, (cellsO x da va oa dc vc oc)[j]? = some v → wr.cell? ⟨b, off + k * 12 + j, none⟩ = some v) := hcw
      have hxw : b < w.heap.size := cellO_lt (hcs 0 (.int .i64 x.dp) rfl)
      clear hcs hlo h64 h30 hb ho hcl hcw HO2 HB2
      cases hq : canP (finP (zerosP n) (L.take k)) x with
      | false =>
        rw [hq] at CC
        clear hq hT hcl' hx
        go_wp2_with fail
        refine CC.mono ?_
        rintro e w5 ⟨rfl, hb5⟩
        have HB5 : Hid (Below w.heap.size w w5) := chain HB.out hb5
        clear CC hb5 x0 x1 x2 x3 x4 x5 x6 x7 x8 x9 x10 x11
        go_wp2
        go_ret
        exact ⟨rfl, HB5.out⟩
      | true =>
        obtain ⟨q, hqn, e, hdn, -, hs⟩ := can_at hq
        rw [fin_zlen] at hqn
        rw [hq] at CC
        have HE : Hid (closedP (zerosP n) (L.take (k + 1)) ∧ finP (zerosP n) (L.take (k + 1)) = (finP (zerosP n) (L.take k)).set q x.dn) := by
          show _ ∧ _
          rw [hT]
          refine ⟨closed_append hcl' ⟨hq, trivial⟩, ?_⟩
          rw [fin_append]
          show setP _ x = _
          rw [hs, hdn]
        have HEQ : Hid (x.dp = (q : Int)) := e
        clear hq hT hcl' hx hdn hs e
        go_wp2_with fail
        refine CC.mono ?_
        rintro e w5 ⟨rfl, hb5⟩
        have HB5 : Hid (Below w.heap.size w w5) := chain HB.out hb5
        have ho5 := HO.out.later hb5
        obtain ⟨⟨u0, c0⟩, f0⟩ : (∃ u, w5.cell? ⟨h, q, none⟩ = some u) ∧ w5.frozen? ⟨h, q, none⟩ = false := ⟨⟨_, (ho5.at_ fin_zlen hqn).1⟩, (ho5.at_ fin_zlen hqn).2⟩
        obtain ⟨ho6, hb6, _⟩ := ho5.put fin_zlen q x.dn
        rw [← HE.out.2] at ho6
        have HO6 : Hid (OwnI (w5.setCell ⟨h, q, none⟩ (.int .i64 x.dn)) h (.slice (some ⟨h, 0, none⟩) n n) (finP (zerosP n) (L.take (k + 1)))) := ho6
        have HB6 : Hid (Below w.heap.size w (w5.setCell ⟨h, q, none⟩ (.int .i64 x.dn))) := HB5.out.setCell (p := ⟨h, q, none⟩) (by rw [HH.out]; exact Nat.le_refl _) _
        have y0 := cell_later hb5 (HCW.out 0 (.int .i64 x.dp) rfl)
        have y1 := cell_later hb5 (HCW.out 1 (.int .i64 x.dn) rfl)
        rw [HEQ.out, Nat.add_zero] at y0
        have qq0 : (0 : Int) ≤ (q : Int) := by omega
        have qq1 : (q : Int) < (n : Int) := by omega
        clear CC hb5 x0 x1 x2 x3 x4 x5 x6 x7 x8 x9 x10 x11 ho5 ho6 hb6 HO HCW HB HB5
        go_wp2_with fail
        go_region
        go_wp2
        go_roundw
        case rel => exact ⟨k + 1, by omega, by go_num, HE.out.1, HO6.out.later (Below.refl _ _).drew, HB6.out.drew⟩
        case measure => simp [RowKit.intOf]; omega
    · obtain rfl : k = len := by omega
      have hT : L.take k = L := List.take_of_length_le (by rw [HN.out]; exact Nat.le_refl _)
      rw [hT] at hcl ho
      have HC : Hid (closedP (zerosP n) L) := hcl.out
      have HB : Hid (Below w.heap.size w wr) := hb
      have HO : Hid (OwnI wr h (.slice (some ⟨h, 0, none⟩) n n) (finP (zerosP n) L)) := ho
      obtain ⟨w3, hmake, hO3, hB3⟩ := run_make_ints wr n (by omega)
      obtain ⟨g, hg⟩ : ∃ g, wr.heap.size = g := ⟨_, rfl⟩
      have HG : Hid (h < g) := by show h < g; rw [← hg]; exact (World.ownsRow.lt HO.out h rfl).2
      rw [hg] at hO3 hmake
      have HO3 : Hid (OwnI w3 g (.slice (some ⟨g, 0, none⟩) n n) (zerosP n)) := hO3
      have HB3 : Hid (Below w.heap.size w w3) := chain HB.out hB3
      have HO3h : Hid (OwnI w3 h (.slice (some ⟨h, 0, none⟩) n n) (finP (zerosP n) L)) := HO.out.later hB3
      have HG3 : Hid (g < w3.heap.size) := (World.ownsRow.lt hO3 g rfl).2
      obtain ⟨t, ht, hte⟩ := modPlace turn k h0 (by omega)
      have un : IntKind.u64.wrap (k : Int) = (k : Int) := by rw [IntKind.wrap_u64]; omega
      have kk : ((k : Int) < (k : Int)) = False := by simp
      clear hcl ho hb hO3 hB3 HO HB HO2 HB2 hT hg hkl hk nn2 nn3 ll1
      go_wp2
      clear hmake
      go_loopw [9, 10, 11] (fun ws ct i wq => ∃ (j : Nat) (R W : List PO) (H : List Int) (aw : Option Addr) (nw cw : Nat), j ≤ k ∧ i = .int .i64 j ∧ ct = .int .i64 (R.length : Nat) ∧ ws = .slice aw nw cw ∧ W.length = nw ∧ nw ≤ cw ∧ Hid (aw = none → W = [] ∧ cw = 0) ∧ Hid (RdF (g + 1) wq aw W) ∧ Hid (OffSt n ((backP t L).take j) R W H) ∧ Hid (OwnI wq g (.slice (some ⟨g, 0, none⟩) n n) H) ∧ Hid (OwnI wq h (.slice (some ⟨h, 0, none⟩) n n) (finP (zerosP n) L)) ∧ Hid (Below w.heap.size w wq)) (fun _ _ i _ => k - (RowKit.intOf i).toNat)
      case atStart => exact ⟨0, [], [], zerosP n, none, 0, 0, by omega, rfl, rfl, rfl, rfl, by omega, fun _ => ⟨rfl, rfl⟩, RdF.nil _ _, OffSt.nought n, HO3.out, HO3h.out, HB3.out⟩
      case round =>
        obtain ⟨j, R, W, H, aw, nw, cw, hj, rfl, rfl, rfl, hW, hnw, hnil, hF, hS, hoN, hoH, hb⟩ := hrel
        by_cases hjk : j < k
        · have jj1 : (j : Int) < (k : Int) := by omega
          have jj0 : (0 : Int) ≤ (j : Int) := by omega
          have hidx : (t + k - j) % k < k := Nat.mod_lt _ (by omega)
          obtain ⟨da, va, oa, dc, vc, oc, hcs, hlo, h64, h30⟩ := HAT.out ((t + k - j) % k) (by rw [HN.out]; exact hidx)
          obtain ⟨x, hx⟩ : ∃ x, x = L[(t + k - j) % k]'(by rw [HN.out]; exact hidx) := ⟨_, rfl⟩
          rw [← hx] at hcs hlo h64 h30
          have hbl : (backP t L).length = k := by rw [backP_len, HN.out]
          have hbx : (backP t L)[j]'(by rw [hbl]; exact hjk) = x := by
            have h1 := backP_at (t := t) (i := j) (L := L) (by rw [HN.out]; exact ht) (by rw [HN.out]; exact hjk)
            simp only [HN.out] at h1
            rw [h1, hx]
          have hT2 : (backP t L).take (j + 1) = (backP t L).take j ++ [x] := by rw [← hbx, List.take_succ_eq_append_getElem (by rw [hbl]; exact hjk)]
          have hcw : ∀ j1 v, (cellsO x da va oa dc vc oc)[j1]? = some v → wr.cell? ⟨b, off + (t + k - j) % k * 12 + j1, none⟩ = some v := fun j1 v hj1 => cell_later hb.out (hcs j1 v hj1)
          have hcnt := hS.out.count
          rw [List.length_take, hbl] at hcnt
          have hst := hS.out.step (x := x) n1 n5 (by rw [← hT2]; exact (pair_perm (backP_perm t L) (closed_pair HC.out (nn_zeros n))).sublist (List.take_sublist _ _)) (by rw [List.length_take, hbl]; omega)
          have CO := fun (V : World) (hV : Below wr.heap.size wr V) => offer_any (some ⟨g, 0, none⟩) aw n n nw cw H W x da va oa dc vc oc V hS.out.len (by omega) (by rw [hS.out.fin]; exact fin_64 hS.out.clo (by omega)) ((own_some hS.out.len hoN.out).later hV) (fun h => by cases h) hW (by omega) (hF.out.rdL.later hV) hnil.out ((hlo.later hb.out).later hV) h64
          have hcl2 : closedP (zerosP n) R ∧ H = finP (zerosP n) R := ⟨hS.out.clo, hS.out.fin⟩
          rw [← hT2] at hst
          obtain ⟨r, hr⟩ : ∃ r, r = offerF H W x := ⟨_, rfl⟩
          rw [← hr] at hst CO
          obtain ⟨r1, r2, r3⟩ := r
          simp only at hst
          obtain ⟨hr3, hst⟩ := hst
          have HST : Hid (OffSt n ((backP t L).take (j + 1)) (R ++ r1) r2 (finP H r1)) := hst
          have HCL : Hid (closedP (zerosP n) R ∧ H = finP (zerosP n) R) := hcl2
          have HX : Hid (OwnI wr g (.slice (some ⟨g, 0, none⟩) n n) H ∧ OwnI wr h (.slice (some ⟨h, 0, none⟩) n n) (finP (zerosP n) L) ∧ Below w.heap.size w wr) := ⟨hoN, hoH, hb⟩
          have hGw : g < wr.heap.size := (World.ownsRow.lt hoN.out g rfl).2
          have HGW : Hid (g < wr.heap.size) := hGw
          have HCT : Hid (R.length + W.length = min j k) := hcnt
          have x0 := hcw 0 (.int .i64 x.dp) rfl
          have x1 := hcw 1 (.int .i64 x.dn) rfl
          have x2 := hcw 2 (.slice da x.deps.length dc) rfl
          have x3 := hcw 3 (.int .i64 x.sp) rfl
          have x4 := hcw 4 (.int .i64 x.sl) rfl
          have x5 := hcw 5 (.int .i64 x.sq) rfl
          have x6 := hcw 6 (.int .i64 x.kind) rfl
          have x7 := hcw 7 (.int .i64 x.table) rfl
          have x8 := hcw 8 (.string x.key) rfl
          have x9 := hcw 9 (.int .i64 x.col) rfl
          have x10 := hcw 10 (.slice va x.vals.length vc) rfl
          have x11 := hcw 11 (.slice oa x.dots.length oc) rfl
          rw [Nat.add_zero] at x0
          simp only [cellsO] at CO
          have ix : (0 ≤ ((t : Int) + (k : Int) - (j : Int)) % (k : Int) ∧ ((t : Int) + (k : Int) - (j : Int)) % (k : Int) < (k : Int)) = True := eq_true ⟨Int.emod_nonneg _ (by omega), Int.emod_lt_of_pos _ (by omega)⟩
          have CO1 := CO _ (alloc_below wr (.cells #[.int .i64 x.dp, .int .i64 x.dn, .slice da x.deps.length dc, .int .i64 x.sp, .int .i64 x.sl, .int .i64 x.sq, .int .i64 x.kind, .int .i64 x.table, .string x.key, .int .i64 x.col, .slice va x.vals.length vc, .slice oa x.dots.length oc] 32))
          clear hcs hlo h64 h30 hbx hT2 hcw hcnt hst hcl2 hr hx hbl hW hnil hF hS hoN hoH hb hGw CO
          go_wp2_with fail
          refine CO1.mono ?_
          rintro e w6 h6
          obtain ⟨a1, c1, a2, c2, rfl, l1, l2, h6⟩ := h6.partsF
          simp only at l1 l2 h6 ⊢
          have HB6 : Hid (Below wr.heap.size wr w6) := chain (alloc_below _ _) h6.out.2.2.2.2
          have HR6 : Hid (RdF (g + 1) w6 a1 r1 ∧ (a1 = none → r1 = [] ∧ c1 = 0)) := ⟨h6.out.2.2.1.mono (by have := HGW.out; simp; omega), h6.out.1⟩
          have HW6 : Hid (RdF (g + 1) w6 a2 r2 ∧ (a2 = none → r2 = [] ∧ c2 = 0)) := ⟨h6.out.2.2.2.1.mono (by have := HGW.out; simp; omega), h6.out.2.1⟩
          have HX6 : Hid (OwnI w6 g (.slice (some ⟨g, 0, none⟩) n n) (finP H (r1.take 0)) ∧ OwnI w6 h (.slice (some ⟨h, 0, none⟩) n n) (finP (zerosP n) L) ∧ Below w.heap.size w w6) := ⟨HX.out.1.later HB6.out, HX.out.2.1.later HB6.out, chain HX.out.2.2 HB6.out⟩
          clear CO1 h6 x0 x1 x2 x3 x4 x5 x6 x7 x8 x9 x10 x11 HX ix HB6
          have HCL1 : Hid (closedP H r1) := by have h1 := HST.out.clo; rw [HCL.out.2]; exact closed_right h1
          have HLN : Hid (H.length = n) := by show _ = _; rw [HCL.out.2]; exact fin_zlen
          have HC2 : Hid (R.length + r1.length ≤ 40) := by have h1 := HST.out.count; rw [List.length_append, List.length_take] at h1; show _ ≤ _; omega
          have rl40 : R.length + r1.length ≤ 40 := HC2.out
          rcases hr3 with rfl | rfl
          · go_wp2
            go_loopw [16] (fun i wq => ∃ m : Nat, m ≤ r1.length ∧ i = .int .i64 m ∧ Hid (OwnI wq g (.slice (some ⟨g, 0, none⟩) n n) (finP H (r1.take m))) ∧ Hid (RdF (g + 1) wq a1 r1) ∧ Hid (RdF (g + 1) wq a2 r2) ∧ Hid (OwnI wq h (.slice (some ⟨h, 0, none⟩) n n) (finP (zerosP n) L)) ∧ Hid (Below w.heap.size w wq)) (fun i _ => r1.length - (RowKit.intOf i).toNat)
            case atStart => exact ⟨0, by omega, rfl, HX6.out.1, HR6.out.1, HW6.out.1, HX6.out.2.1, HX6.out.2.2⟩
            case round =>
              obtain ⟨m, hm, rfl, ho1, hf1, hf2, ho2, hb1⟩ := hrel
              by_cases hml : m < r1.length
              · obtain ⟨b2, off2, da, va, oa, dc, vc, oc, eA, hcs, hlo, h64⟩ := hf1.out.rdL.at_ (i := m) hml
                have hcan := closed_at HCL1.out m hml
                obtain ⟨q, hq, e, hdn, -, hs⟩ := can_at hcan
                have hlen : (finP H (r1.take m)).length = n := by rw [finP_len]; exact HLN.out
                rw [hlen] at hq
                have x0 := hcs 0 (.int .i64 (q : Int)) (by rw [← e]; rfl)
                have x1 := hcs 1 (.int .i64 r1[m].dn) rfl
                rw [Nat.add_zero] at x0
                have y := ho1.out.at_ (k := q) hlen hq
                obtain ⟨⟨u0, c0⟩, f0⟩ : (∃ u, wr.cell? ⟨g, q, none⟩ = some u) ∧ wr.frozen? ⟨g, q, none⟩ = false := ⟨⟨_, y.1⟩, y.2⟩
                obtain ⟨hp1, -, -⟩ := ho1.out.put hlen q r1[m].dn
                have hfe : (finP H (r1.take m)).set q r1[m].dn = finP H (r1.take (m + 1)) := by
                  rw [List.take_succ_eq_append_getElem hml, fin_append]
                  show _ = setP _ _
                  rw [hs, hdn]
                rw [hfe] at hp1
                have HN1 : Hid (OwnI (wr.setCell ⟨g, q, none⟩ (.int .i64 r1[m].dn)) g (.slice (some ⟨g, 0, none⟩) n n) (finP H (r1.take (m + 1))) ∧ RdF (g + 1) (wr.setCell ⟨g, q, none⟩ (.int .i64 r1[m].dn)) a1 r1 ∧ RdF (g + 1) (wr.setCell ⟨g, q, none⟩ (.int .i64 r1[m].dn)) a2 r2 ∧ OwnI (wr.setCell ⟨g, q, none⟩ (.int .i64 r1[m].dn)) h (.slice (some ⟨h, 0, none⟩) n n) (finP (zerosP n) L) ∧ Below w.heap.size w (wr.setCell ⟨g, q, none⟩ (.int .i64 r1[m].dn))) := ⟨hp1, hf1.out.set (Nat.lt_succ_self g) _, hf2.out.set (Nat.lt_succ_self g) _, own_same ho2.out (fun b hb => same_set b (ne_own HG.out hb)), hb1.out.setCell (p := ⟨g, q, none⟩) (by show w.heap.size ≤ g; have := HG.out; have := HH.out; omega) _⟩
                subst eA
                have qq0 : (0 : Int) ≤ (q : Int) := by omega
                have qq1 : (q : Int) < (n : Int) := by omega
                have qq2 : ((q : Int) < 0) = False := by simp
                have qq3 : ((n : Int) ≤ (q : Int)) = False := by simp; omega
                have mm0 : (0 : Int) ≤ (m : Int) := by omega
                have mm1 : (m : Int) < (r1.length : Int) := by omega
                clear hcs hlo h64 hcan e hdn hs hlen y hp1 hfe ho1 hf1 hf2 ho2 hb1
                go_wp2_with fail
                go_region
                go_wp2
                go_roundw
                case rel => exact ⟨m + 1, by omega, by go_num, HN1.out.1.later (Below.refl _ _).drew, HN1.out.2.1.later (Below.refl _ _).drew, HN1.out.2.2.1.later (Below.refl _ _).drew, HN1.out.2.2.2.1.later (Below.refl _ _).drew, HN1.out.2.2.2.2.drew⟩
                case measure => simp [RowKit.intOf]; omega
              · obtain rfl : m = r1.length := by omega
                have hT3 : r1.take r1.length = r1 := List.take_of_length_le (Nat.le_refl _)
                rw [hT3] at ho1
                have HE : Hid (OwnI wr g (.slice (some ⟨g, 0, none⟩) n n) (finP H r1) ∧ RdF (g + 1) wr a2 r2 ∧ OwnI wr h (.slice (some ⟨h, 0, none⟩) n n) (finP (zerosP n) L) ∧ Below w.heap.size w wr) := ⟨ho1, hf2, ho2, hb1⟩
                have mmn : ((r1.length : Int) < (r1.length : Int)) = False := by simp
                have hcw : wrap64 ((R.length : Int) + (r1.length : Int)) = ((R ++ r1).length : Int) := by rw [List.length_append, wrap64_id2 (by omega) (by have := HC2.out; omega)]; omega
                clear ho1 hf1 hf2 ho2 hb1 hT3
                go_wp2
                go_roundw
                case rel => exact ⟨j + 1, R ++ r1, r2, finP H r1, a2, r2.length, c2, by omega, by go_num, by rw [List.length_append, Int.natCast_add], rfl, rfl, l2, HW6.out.2, HE.out.2.1, HST.out, HE.out.1, HE.out.2.2.1, HE.out.2.2.2⟩
                case measure => simp [RowKit.intOf]; omega
          · go_wp2
            go_loopw [16] (fun i wq => ∃ m : Nat, m ≤ r1.length ∧ i = .int .i64 m ∧ Hid (OwnI wq g (.slice (some ⟨g, 0, none⟩) n n) (finP H (r1.take m))) ∧ Hid (RdF (g + 1) wq a1 r1) ∧ Hid (RdF (g + 1) wq a2 r2) ∧ Hid (OwnI wq h (.slice (some ⟨h, 0, none⟩) n n) (finP (zerosP n) L)) ∧ Hid (Below w.heap.size w wq)) (fun i _ => r1.length - (RowKit.intOf i).toNat)
            case atStart => exact ⟨0, by omega, rfl, HX6.out.1, HR6.out.1, HW6.out.1, HX6.out.2.1, HX6.out.2.2⟩
            case round =>
              obtain ⟨m, hm, rfl, ho1, hf1, hf2, ho2, hb1⟩ := hrel
              by_cases hml : m < r1.length
              · obtain ⟨b2, off2, da, va, oa, dc, vc, oc, eA, hcs, hlo, h64⟩ := hf1.out.rdL.at_ (i := m) hml
                have hcan := closed_at HCL1.out m hml
                obtain ⟨q, hq, e, hdn, -, hs⟩ := can_at hcan
                have hlen : (finP H (r1.take m)).length = n := by rw [finP_len]; exact HLN.out
                rw [hlen] at hq
                have x0 := hcs 0 (.int .i64 (q : Int)) (by rw [← e]; rfl)
                have x1 := hcs 1 (.int .i64 r1[m].dn) rfl
                rw [Nat.add_zero] at x0
                have y := ho1.out.at_ (k := q) hlen hq
                obtain ⟨⟨u0, c0⟩, f0⟩ : (∃ u, wr.cell? ⟨g, q, none⟩ = some u) ∧ wr.frozen? ⟨g, q, none⟩ = false := ⟨⟨_, y.1⟩, y.2⟩
                obtain ⟨hp1, -, -⟩ := ho1.out.put hlen q r1[m].dn
                have hfe : (finP H (r1.take m)).set q r1[m].dn = finP H (r1.take (m + 1)) := by
                  rw [List.take_succ_eq_append_getElem hml, fin_append]
                  show _ = setP _ _
                  rw [hs, hdn]
                rw [hfe] at hp1
                have HN1 : Hid (OwnI (wr.setCell ⟨g, q, none⟩ (.int .i64 r1[m].dn)) g (.slice (some ⟨g, 0, none⟩) n n) (finP H (r1.take (m + 1))) ∧ RdF (g + 1) (wr.setCell ⟨g, q, none⟩ (.int .i64 r1[m].dn)) a1 r1 ∧ RdF (g + 1) (wr.setCell ⟨g, q, none⟩ (.int .i64 r1[m].dn)) a2 r2 ∧ OwnI (wr.setCell ⟨g, q, none⟩ (.int .i64 r1[m].dn)) h (.slice (some ⟨h, 0, none⟩) n n) (finP (zerosP n) L) ∧ Below w.heap.size w (wr.setCell ⟨g, q, none⟩ (.int .i64 r1[m].dn))) := ⟨hp1, hf1.out.set (Nat.lt_succ_self g) _, hf2.out.set (Nat.lt_succ_self g) _, own_same ho2.out (fun b hb => same_set b (ne_own HG.out hb)), hb1.out.setCell (p := ⟨g, q, none⟩) (by show w.heap.size ≤ g; have := HG.out; have := HH.out; omega) _⟩
                subst eA
                have qq0 : (0 : Int) ≤ (q : Int) := by omega
                have qq1 : (q : Int) < (n : Int) := by omega
                have qq2 : ((q : Int) < 0) = False := by simp
                have qq3 : ((n : Int) ≤ (q : Int)) = False := by simp; omega
                have mm0 : (0 : Int) ≤ (m : Int) := by omega
                have mm1 : (m : Int) < (r1.length : Int) := by omega
                clear hcs hlo h64 hcan e hdn hs hlen y hp1 hfe ho1 hf1 hf2 ho2 hb1
                go_wp2_with fail
                go_region
                go_wp2
                go_roundw
                case rel => exact ⟨m + 1, by omega, by go_num, HN1.out.1.later (Below.refl _ _).drew, HN1.out.2.1.later (Below.refl _ _).drew, HN1.out.2.2.1.later (Below.refl _ _).drew, HN1.out.2.2.2.1.later (Below.refl _ _).drew, HN1.out.2.2.2.2.drew⟩
                case measure => simp [RowKit.intOf]; omega
              · obtain rfl : m = r1.length := by omega
                have hT3 : r1.take r1.length = r1 := List.take_of_length_le (Nat.le_refl _)
                rw [hT3] at ho1
                have HE : Hid (OwnI wr g (.slice (some ⟨g, 0, none⟩) n n) (finP H r1) ∧ RdF (g + 1) wr a2 r2 ∧ OwnI wr h (.slice (some ⟨h, 0, none⟩) n n) (finP (zerosP n) L) ∧ Below w.heap.size w wr) := ⟨ho1, hf2, ho2, hb1⟩
                have mmn : ((r1.length : Int) < (r1.length : Int)) = False := by simp
                have hcw : wrap64 ((R.length : Int) + (r1.length : Int)) = ((R ++ r1).length : Int) := by rw [List.length_append, wrap64_id2 (by omega) (by have := HC2.out; omega)]; omega
                clear ho1 hf1 hf2 ho2 hb1 hT3
                go_wp2
                go_roundw
                case rel => exact ⟨j + 1, R ++ r1, r2, finP H r1, a2, r2.length, c2, by omega, by go_num, by rw [List.length_append, Int.natCast_add], rfl, rfl, l2, HW6.out.2, HE.out.2.1, HST.out, HE.out.1, HE.out.2.2.1, HE.out.2.2.2⟩
                case measure => simp [RowKit.intOf]; omega
        · obtain rfl : j = k := by omega
          have hfull : (backP t L).take j = backP t L := List.take_of_length_le (by rw [backP_len, HN.out]; exact Nat.le_refl _)
          rw [hfull] at hS
          obtain ⟨e1, e2, e3⟩ := hS.out.end_ (backP_perm t L) HC.out
          subst e1
          have e4 : nw = 0 := by rw [← hW]; rfl
          subst e4
          have CI := keepInts_any (some ⟨g, 0, none⟩) (some ⟨h, 0, none⟩) n n n n H (finP (zerosP n) L) wr hS.out.len fin_zlen (by omega) (by omega) (own_some hS.out.len hoN.out) (own_some fin_zlen hoH.out)
          rw [e3, decide_eq_true rfl] at CI
          have HBZ : Hid (Below w.heap.size w wr) := hb
          have hRk : R.length = j := by rw [e2, HN.out]
          have qR : ((R.length : Int) == (j : Int)) = true := by rw [hRk]; simp
          have qR2 : ((R.length : Int) = (j : Int)) = True := by rw [hRk]; simp
          clear hfull hS e2 e3 hW hoN hoH hb hnil hF hRk
          go_wp2_with fail
          refine CI.mono ?_
          rintro e w6 ⟨rfl, hb6⟩
          have HB6 : Hid (Below w.heap.size w w6) := chain HBZ.out hb6
          clear CI hb6
          go_wp2_with fail
          refine (bwakes_any _).mono ?_
          rintro e w7 ⟨rfl, hb7⟩
          go_wp2
          go_ret
          exact ⟨by simp, chain HB6.out hb7⟩

end Go.Proofs.Ytjddkodcbpnilaa

namespace Go.Proofs.Ytjddkodcbpnilaa
open Go.ChangeShapes Go.WideShapes Go.ChangeAt Go.RowKit Go.Lib
set_option linter.unusedVariables false

/-- A slice of operations that came in. -/
theorem ops_of {H : Type} {enc : TypeId × Value → H} {w : World} {a : Option Addr} {len cap : Nat} {d : DataW H} {p : List MemPlace}
    (h : DataW.Trod enc Try.prog w 0 (fun _ => true) true 22 (Value.slice a len cap) d p) : ∃ X : List PO, X.length = len ∧ len ≤ 9223372036854775807 ∧ RdO w a X := by
  obtain ⟨fuel, hf⟩ := h
  have hc : Try.prog.cellsOf 32 = 12 := by kernel_rfl
  rcases DataW.trod_slice Try.underlying22 hf with ⟨hcs, _⟩ | ⟨x, l, c, elems, rest, n, _, hcs, _, _, hl, hm, hlen, hel, _, _⟩
  · simp [Value.cells] at hcs
    obtain ⟨rfl, rfl, rfl⟩ := hcs
    exact ⟨[], rfl, by omega, (fun h => absurd h (by simp))⟩
  · simp [Value.cells] at hcs
    obtain ⟨rfl, rfl, rfl⟩ := hcs
    have each : ∀ i, i < len → ∃ X : PO, ∃ da va oa dc vc oc, (∀ j v, (cellsO X da va oa dc vc oc)[j]? = some v → w.cell? ((x.add (i * 12)).add j) = some v) ∧ InO w X da va oa dc vc oc := by
      intro i hi
      have h1 := hel i hi
      rw [hc, List.getElem?_eq_getElem (by omega), Option.bind_eq_some_iff] at h1
      obtain ⟨cs, hcs, hy⟩ := h1
      obtain ⟨X, da, va, oa, dc, vc, oc, e, hin⟩ := op_in hy
      obtain ⟨_, hl12, hcell⟩ := World.cells?_some hcs
      refine ⟨X, da, va, oa, dc, vc, oc, fun j v hj => ?_, hin⟩
      have hj2 : cs[j]? = some v := by rw [e, Array.getElem?_toList]; exact hj
      have hjl : j < cs.length := by
        rcases Nat.lt_or_ge j cs.length with h | h
        · exact h
        · rw [List.getElem?_eq_none h] at hj2; cases hj2
      rw [hcell j (by omega), hj2]
    have hch : ∃ f : Nat → PO, ∀ i, i < len → ∃ da va oa dc vc oc, (∀ j v, (cellsO (f i) da va oa dc vc oc)[j]? = some v → w.cell? ((x.add (i * 12)).add j) = some v) ∧ InO w (f i) da va oa dc vc oc :=
      ⟨fun i => if h : i < len then (each i h).choose else ⟨0, 0, [], 0, 0, 0, 0, 0, ByteArray.empty, 0, [], []⟩, fun i hi => by simp only [dif_pos hi]; exact (each i hi).choose_spec⟩
    obtain ⟨f, hf2⟩ := hch
    clear each hel
    refine ⟨(List.range len).map f, by simp, by unfold maxLen at hm; omega, fun h0 => ?_⟩
    have h00 : 0 < len := by simpa using h0
    have hx : x.spot = none := by
      obtain ⟨da, va, oa, dc, vc, oc, hcs, _⟩ := hf2 0 h00
      have := World.cell?_spot (hcs 0 _ rfl)
      simpa [Addr.add] using this
    obtain ⟨b, off, sp⟩ := x
    simp only at hx
    subst hx
    refine ⟨b, off, rfl, fun i hi => ?_⟩
    have hi' : i < len := by simpa using hi
    obtain ⟨da, va, oa, dc, vc, oc, hcs, hin⟩ := hf2 i hi'
    simp only [List.getElem_map, List.getElem_range]
    refine ⟨da, va, oa, dc, vc, oc, fun j v hj => ?_, hin⟩
    have := hcs j v hj
    rw [add_plain3, add_plain3] at this
    exact this

set_option maxRecDepth 100000 in
set_option maxHeartbeats 2000000 in
theorem ball_any (a : Option Addr) (len cap : Nat) (L : List PO) (turn : Int) (w : World) (hn : L.length = len) (hl : len ≤ 9223372036854775807) (hr : RdO w a L) :
    Calls Try.prog 3 #[.slice a len cap, .int .i64 turn] w fun e w' => e = .returned (.bool true) ∧ Below w.heap.size w w' := by
  have C0 := heavyO_any a len cap L w hn hl hr
  cases hO : heavyOs L with
  | true =>
    rw [hO] at C0
    clear hn hr hO
    go_enter Try.func3, Try.ntmps3
    go_wp2_with fail
    refine C0.mono ?_
    rintro e w1 ⟨rfl, hw⟩
    subst w1
    clear C0
    go_wp2
    go_ret
    exact ⟨rfl, Below.refl _ _⟩
  | false =>
    by_cases h40' : 40 < len
    · rw [hO] at C0
      have ll1 : ((40 : Int) < (len : Int)) = True := by simp; omega
      clear hn hr hO h40'
      go_enter Try.func3, Try.ntmps3
      go_wp2_with fail
      refine C0.mono ?_
      rintro e w1 ⟨rfl, hw⟩
      subst w1
      clear C0
      go_wp2
      go_ret
      exact ⟨rfl, Below.refl _ _⟩
    have h40 : len ≤ 40 := by omega
    by_cases h0' : len = 0
    · subst h0'
      rw [hO] at C0
      clear hn hr hO
      go_enter Try.func3, Try.ntmps3
      go_wp2_with fail
      refine C0.mono ?_
      rintro e w1 ⟨rfl, hw⟩
      subst w1
      clear C0
      go_wp2
      go_ret
      exact ⟨rfl, Below.refl _ _⟩
    have h0 : 0 < len := by omega
    obtain ⟨b, off, rfl, hat⟩ := hr.light hO (by omega)
    by_cases hd : 1 ≤ (L[0]'(by omega)).deps.length ∧ (L[0]'(by omega)).deps.length ≤ 5
    · exact ball_main b off len cap _ L turn w hn h0 h40 hd.1 hd.2 hO hr rfl
    · rw [hO] at C0
      obtain ⟨da, va, oa, dc, vc, oc, hcs, hlo, h64, h30⟩ := hat 0 (by omega)
      have x2 := hcs 2 (.slice da (L[0]'(by omega)).deps.length dc) rfl
      generalize (L[0]'(by omega)).deps.length = n at *
      simp only [Nat.zero_mul, Nat.add_zero] at x2
      have ll1 : ((40 : Int) < (len : Int)) = False := by simp; omega
      have ll2 : ((len : Int) = 0) = False := by simp; omega
      have ll3 : (len = 0) = False := by simp; omega
      have ll4 : ((len : Int) == 0) = false := by simp; omega
      clear h0' h40' hat hcs hlo h64 hn hr hO
      rcases Nat.lt_or_ge n 1 with hn1 | hn1
      · obtain rfl : n = 0 := by omega
        clear hd
        go_enter Try.func3, Try.ntmps3
        go_wp2_with fail
        refine C0.mono ?_
        rintro e w1 ⟨rfl, hw⟩
        subst w1
        clear C0
        go_wp2
        go_ret
        exact ⟨rfl, Below.refl _ _⟩
      · have nn2 : ((n : Int) < 1) = False := by simp; omega
        have nn3 : ((5 : Int) < (n : Int)) = True := by simp; omega
        clear hd
        go_enter Try.func3, Try.ntmps3
        go_wp2_with fail
        refine C0.mono ?_
        rintro e w1 ⟨rfl, hw⟩
        subst w1
        clear C0
        go_wp2
        go_ret
        exact ⟨rfl, Below.refl _ _⟩

end Go.Proofs.Ytjddkodcbpnilaa
