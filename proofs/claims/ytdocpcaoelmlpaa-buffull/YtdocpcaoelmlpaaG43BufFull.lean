/-
  Texts of the proof of BufFull, one behind the other.
-/
import Derived.Test.YtdocpcaoelmlpaaRows
import Derived.Test.YtdocpcaoelmlpaaG41BufFull
import Derived.Test.YtdocpcaoelmlpaaG42BufFull
import Derived.Test.YtdocpcaoelmlpaaG34BufFull
import Derived.Test.YtdocpcaoelmlpaaG20BufFull
import Derived.Test.YtdocpcaoelmlpaaG31BufFull
import Derived.Test.YtdocpcaoelmlpaaG32BufFull
namespace Go.Proofs.Ytdocpcaoelmlpaa
open Go.RowKit Go.Lib
set_option linter.unusedVariables false

def sameDot (x y : PO) : Bool := decide (y.dp = x.dp) && decide (y.dn = x.dn)

def chkB (H : List Int) (W : List PO) : Int := if chkD H ≠ 0 then chkD H else if 40 < W.length then 2 else 0

def offerF (H : List Int) (W : List PO) (x : PO) : List PO × List PO × Int :=
  if chkB H W ≠ 0 then ([], [], chkB H W)
  else if (hasD H x.dp x.dn || W.any (sameDot x)) = true then ([], [], 8)
  else if canP H x = true then ((takeF H (x :: W)).1, (takeF H (x :: W)).2, 0)
  else if W.length = 40 then ([], [], 6) else ([], W ++ [x], 9)

def againF (H : List Int) (W : List PO) : List PO × List PO × Int :=
  if chkB H W ≠ 0 then ([], [], chkB H W) else ((takeF H W).1, (takeF H W).2, 0)

set_option maxHeartbeats 1000000 in
theorem bcheck_any (ah a : Option Addr) (nh ch n cap : Nat) (H : List Int) (X : List PO) (w : World) (hn : H.length = nh) (hl : nh ≤ 65536) (hr : RdI .i64 w ah H) (hx : X.length = n) (h4 : n ≤ 65536) :
    Calls Try.prog 18 #[.slice ah nh ch, .slice a n cap] w fun e w' => e = .returned (.int .i64 (chkB H X)) ∧ w' = w := by
  have C1 := dCheck_any ah nh ch H w hn hl hr
  unfold chkB
  rw [hx]
  clear hr hn
  generalize chkD H = c at *
  by_cases hc : c = 0
  · subst hc
    simp only [ne_eq, not_true_eq_false, if_false]
    by_cases h40 : 40 < n
    · rw [if_pos h40]
      go_enter Try.func18, Try.ntmps18
      go_wp2_with fail
      refine C1.mono ?_
      rintro e w1 ⟨rfl, hw⟩
      subst w1
      clear C1
      go_wp2
      go_ret
      exact ⟨rfl, rfl⟩
    · rw [if_neg h40]
      go_enter Try.func18, Try.ntmps18
      go_wp2_with fail
      refine C1.mono ?_
      rintro e w1 ⟨rfl, hw⟩
      subst w1
      clear C1
      go_wp2
      go_ret
      exact ⟨rfl, rfl⟩
  · rw [if_pos hc]
    have hb : (c != 0) = true := by simpa using hc
    go_enter Try.func18, Try.ntmps18
    go_wp2_with fail
    refine C1.mono ?_
    rintro e w1 ⟨rfl, hw⟩
    subst w1
    clear C1 hc
    go_wp2
    go_ret
    exact ⟨rfl, rfl⟩

set_option maxRecDepth 100000 in
set_option maxHeartbeats 1000000 in
theorem offer1_any (g : Nat) (c : List Value) (y : PO) (p k : Int) (w : World) {E : Nat → Prop} (h : LiesX E w c y) (x0 : w.cell? ⟨g, 0, none⟩ = some (.int .i64 p)) (x1 : w.cell? ⟨g, 1, none⟩ = some (.int .i64 k)) :
    Calls Try.prog 21 (#[.agg c.toArray] ++ #[.pointer (some ⟨g, 0, none⟩)]) w fun e w' => e = .returned (.bool (decide (y.dp = p) && decide (y.dn = k))) ∧ Below w.heap.size w w' := by
  obtain ⟨da, va, oa, dc, vc, oc, rfl, hlo, hi, _⟩ := h
  have B1 := alloc_below w (.cells (cellsO y da va oa dc vc oc) 32)
  have z0 := cell_later B1 x0
  have z1 := cell_later B1 x1
  have HB : Hid (Below w.heap.size w (w.alloc (.cells (cellsO y da va oa dc vc oc) 32))) := B1
  clear B1 hlo hi x0 x1
  obtain ⟨dp, dn, deps, sp, sl, sq, kind, table, key, col, vals, dots⟩ := y
  simp only [cellsO] at *
  generalize deps.length = m at *
  generalize vals.length = nv at *
  generalize dots.length = no at *
  show Calls Try.prog 21 #[.agg #[.int .i64 dp, .int .i64 dn, .slice da m dc, .int .i64 sp, .int .i64 sl, .int .i64 sq, .int .i64 kind, .int .i64 table, .string key, .int .i64 col, .slice va nv vc, .slice oa no oc], .pointer (some ⟨g, 0, none⟩)] w _
  by_cases h1 : dp = p
  · subst h1
    by_cases h2 : dn = k
    · subst h2
      go_enter Try.func21, Try.ntmps21
      go_wp2
      go_ret
      exact ⟨by simp, HB.out⟩
    · have q2 : (dn == k) = false := by simpa using h2
      go_enter Try.func21, Try.ntmps21
      go_wp2
      go_ret
      exact ⟨by simp [h2], HB.out⟩
  · have q1 : (dp == p) = false := by simpa using h1
    go_enter Try.func21, Try.ntmps21
    go_wp2
    go_ret
    exact ⟨by simp [h1], HB.out⟩

end Go.Proofs.Ytdocpcaoelmlpaa

namespace Go.Proofs.Ytdocpcaoelmlpaa
open Go.RowKit Go.Lib
set_option linter.unusedVariables false

/-- What Offer and Again answer. -/
def GivesBuf (w w' : World) (e : Ending) (r : List PO × List PO × Int) : Prop :=
  ∃ a1 n1 c1 a2 n2 c2, e = .returned (.tuple #[.slice a1 n1 c1, .slice a2 n2 c2, .int .i64 r.2.2]) ∧ r.1.length = n1 ∧ r.2.1.length = n2 ∧ n1 ≤ c1 ∧ n2 ≤ c2 ∧ (a1 = none → r.1 = [] ∧ c1 = 0) ∧ (a2 = none → r.2.1 = [] ∧ c2 = 0) ∧ RdF w.heap.size w' a1 r.1 ∧ RdF w.heap.size w' a2 r.2.1 ∧ Below w.heap.size w w'

theorem GivesBuf.of_no {w w' : World} {e : Ending} {k : Int} (h : e = .returned (.tuple #[.slice none 0 0, .slice none 0 0, .int .i64 k])) (hb : Below w.heap.size w w') : GivesBuf w w' e ([], [], k) :=
  ⟨none, 0, 0, none, 0, 0, h, rfl, rfl, Nat.le_refl _, Nat.le_refl _, fun _ => ⟨rfl, rfl⟩, fun _ => ⟨rfl, rfl⟩, RdF.nil _ _, RdF.nil _ _, hb⟩

theorem wp_append_buf {P : Program} {o : Oper} {a : Act} {w : World} {K : Act → World → Prop} {Q : Exit → Act → World → Prop}
    (s x : Operand) (t u : TypeId) (hop : o.op = Op.call { callee := Callee.builtin Builtin.append, args := #[s, x], argTypes := #[t, u] })
    (v y v' : Value) (w' : World) (hs : a.eval s = v) (hx : a.eval x = y) (hrun : (Builtin.append_ #[t, u] o.type #[v, y]).run P w = .ok v' w')
    (hK : K (a.put o.dst v') w') : Oper.wp P o a w K Q := by
  unfold Oper.wp
  simp [execOp, hop, resolve, invoke, builtin, hs, hx, hrun, Result.andThen]
  exact hK

theorem any_same (Z : List (List Value × PO)) (n : Nat) (hz : Z.length = n) (p : PO → Bool) : (List.range n).any (fun k => (Z[k]?.map fun z => p z.2).getD false) = (Z.map (·.2)).any p := by
  rw [Bool.eq_iff_iff, List.any_eq_true, List.any_eq_true]
  constructor
  · rintro ⟨k, hk, h⟩
    have hk' : k < Z.length := by rw [hz]; exact List.mem_range.1 hk
    rw [List.getElem?_eq_getElem hk'] at h
    exact ⟨_, List.mem_map_of_mem (List.getElem_mem hk'), h⟩
  · rintro ⟨y, hy, h⟩
    obtain ⟨z, hz', rfl⟩ := List.mem_map.1 hy
    obtain ⟨k, hk, rfl⟩ := List.mem_iff_getElem.1 hz'
    exact ⟨k, List.mem_range.2 (by rw [← hz]; exact hk), by rw [List.getElem?_eq_getElem hk]; exact h⟩

set_option maxRecDepth 100000 in
set_option maxHeartbeats 4000000 in
theorem offer_no (ah aw : Option Addr) (nh ch nw cw : Nat) (H : List Int) (Z : List (List Value × PO)) (x : PO) (da va oa : Option Addr) (dc vc oc : Nat) (w : World) (hn : H.length = nh) (hl : nh ≤ 65536) (h64 : All64 H) (hr : RdI .i64 w ah H) (hnil : ah = none → H = [] ∧ ch = 0) (hz : Z.length = nw) (h4 : nw ≤ 300) (hc : RdC w aw (Z.map (·.1))) (hwn : aw = none → Z = [] ∧ cw = 0) (hw : ∀ z ∈ Z, LiesX (fun _ => False) w z.1 z.2) (h : LiesO w x da va oa dc vc oc) (hi : I64O x) (hk : chkB H (Z.map (·.2)) ≠ 0) :
    Calls Try.prog 9 #[.slice ah nh ch, .slice aw nw cw, .agg (cellsO x da va oa dc vc oc)] w fun e w' => GivesBuf w w' e ([], [], chkB H (Z.map (·.2))) := by
  have B1 := alloc_below w (.cells (cellsO x da va oa dc vc oc) 32)
  have HK : Hid (CellsAt (w.alloc (.cells (cellsO x da va oa dc vc oc) 32)) w.heap.size (cellsO x da va oa dc vc oc) 32) := CellsAt.made rfl
  have HB : Hid (Below w.heap.size w (w.alloc (.cells (cellsO x da va oa dc vc oc) 32))) := B1
  have C0 := bcheck_any ah aw nh ch nw cw H (Z.map (·.2)) (w.alloc (.cells (cellsO x da va oa dc vc oc) 32)) hn hl (hr.later B1) (by rw [List.length_map]; exact hz) (by omega)
  have C1 := fun V (hb : Below w.heap.size w V) => dotHas ah nh ch x.dp x.dn H V hn hl h64 hi.dp hi.dn (hr.later hb)
  have C2 := fun V (hb : Below (w.alloc (.cells (cellsO x da va oa dc vc oc) 32)).heap.size (w.alloc (.cells (cellsO x da va oa dc vc oc) 32)) V) => containsFunc_any aw nw cw 21 #[.pointer (some ⟨w.heap.size, 0, none⟩)] (Z.map (·.1)) (fun k => (Z[k]?.map fun z => sameDot x z.2).getD false) V (by rw [List.length_map]; exact hz) (by omega) (LiesX.dozen hw) (hc.later (chain B1 hb)) (enters 21 Try.func21 (by kernel_rfl) rfl) (fun k hk V' hb' => by
    have hk' : k < Z.length := by rw [List.length_map] at hk; exact hk
    have hbV := chain B1 (chain hb hb')
    have hKV := (HK.out.later (chain hb hb'))
    have := offer1_any w.heap.size Z[k].1 Z[k].2 x.dp x.dn V' ((hw _ (List.getElem_mem hk')).later hbV) (hKV.cell 0) (hKV.cell 1)
    rw [List.getElem_map, List.getElem?_eq_getElem hk']
    exact this)
  simp only [any_same Z nw hz (sameDot x)] at C2
  have C3 := fun V (hb : Below w.heap.size w V) => can_any ah nh ch H x da va oa dc vc oc V hn hl h64 (hr.later hb) (h.later hb) hi
  clear C1 C2 C3 hr hc hw h hi h64 hnil hwn hn hz
  generalize chkB H (Z.map (·.2)) = c at *
  have hcb : (c != 0) = true := by simpa using hk
  obtain ⟨dp, dn, deps, sp, sl, sq, kind, table, key, col, vals, dots⟩ := x
  simp only [cellsO] at *
  generalize deps.length = m at *
  generalize vals.length = nv at *
  generalize dots.length = no at *
  go_enter Try.func9, Try.ntmps9
  go_wp2_with fail
  refine C0.mono ?_
  rintro e w1 ⟨rfl, hw1⟩
  subst w1
  clear C0
  clear hk
  go_wp2
  go_ret3
  exact GivesBuf.of_no rfl HB.out

set_option maxRecDepth 100000 in
set_option maxHeartbeats 4000000 in
theorem offer_had (ah aw : Option Addr) (nh ch nw cw : Nat) (H : List Int) (Z : List (List Value × PO)) (x : PO) (da va oa : Option Addr) (dc vc oc : Nat) (w : World) (hn : H.length = nh) (hl : nh ≤ 65536) (h64 : All64 H) (hr : RdI .i64 w ah H) (hnil : ah = none → H = [] ∧ ch = 0) (hz : Z.length = nw) (h4 : nw ≤ 300) (hc : RdC w aw (Z.map (·.1))) (hwn : aw = none → Z = [] ∧ cw = 0) (hw : ∀ z ∈ Z, LiesX (fun _ => False) w z.1 z.2) (h : LiesO w x da va oa dc vc oc) (hi : I64O x) (hk : chkB H (Z.map (·.2)) = 0) (hh : hasD H x.dp x.dn = true) :
    Calls Try.prog 9 #[.slice ah nh ch, .slice aw nw cw, .agg (cellsO x da va oa dc vc oc)] w fun e w' => GivesBuf w w' e ([], [], 8) := by
  have B1 := alloc_below w (.cells (cellsO x da va oa dc vc oc) 32)
  have HK : Hid (CellsAt (w.alloc (.cells (cellsO x da va oa dc vc oc) 32)) w.heap.size (cellsO x da va oa dc vc oc) 32) := CellsAt.made rfl
  have HB : Hid (Below w.heap.size w (w.alloc (.cells (cellsO x da va oa dc vc oc) 32))) := B1
  have C0 := bcheck_any ah aw nh ch nw cw H (Z.map (·.2)) (w.alloc (.cells (cellsO x da va oa dc vc oc) 32)) hn hl (hr.later B1) (by rw [List.length_map]; exact hz) (by omega)
  have C1 := fun V (hb : Below w.heap.size w V) => dotHas ah nh ch x.dp x.dn H V hn hl h64 hi.dp hi.dn (hr.later hb)
  have C2 := fun V (hb : Below (w.alloc (.cells (cellsO x da va oa dc vc oc) 32)).heap.size (w.alloc (.cells (cellsO x da va oa dc vc oc) 32)) V) => containsFunc_any aw nw cw 21 #[.pointer (some ⟨w.heap.size, 0, none⟩)] (Z.map (·.1)) (fun k => (Z[k]?.map fun z => sameDot x z.2).getD false) V (by rw [List.length_map]; exact hz) (by omega) (LiesX.dozen hw) (hc.later (chain B1 hb)) (enters 21 Try.func21 (by kernel_rfl) rfl) (fun k hk V' hb' => by
    have hk' : k < Z.length := by rw [List.length_map] at hk; exact hk
    have hbV := chain B1 (chain hb hb')
    have hKV := (HK.out.later (chain hb hb'))
    have := offer1_any w.heap.size Z[k].1 Z[k].2 x.dp x.dn V' ((hw _ (List.getElem_mem hk')).later hbV) (hKV.cell 0) (hKV.cell 1)
    rw [List.getElem_map, List.getElem?_eq_getElem hk']
    exact this)
  simp only [any_same Z nw hz (sameDot x)] at C2
  have C3 := fun V (hb : Below w.heap.size w V) => can_any ah nh ch H x da va oa dc vc oc V hn hl h64 (hr.later hb) (h.later hb) hi
  have hk' : chkB H (Z.map (·.2)) = 0 := hk
  rw [hk] at C0
  rw [hh] at C1
  clear C2 C3 hr hc hw h hi h64 hnil hwn hn hz hk hk' hh
  obtain ⟨dp, dn, deps, sp, sl, sq, kind, table, key, col, vals, dots⟩ := x
  simp only [cellsO] at *
  generalize deps.length = m at *
  generalize vals.length = nv at *
  generalize dots.length = no at *
  go_enter Try.func9, Try.ntmps9
  go_wp2_with fail
  refine C0.mono ?_
  rintro e w1 ⟨rfl, hw1⟩
  subst w1
  clear C0
  go_wp2_with fail
  refine (C1 _ HB.out).mono ?_
  rintro e w1 ⟨rfl, hb1⟩
  have HB1 : Hid (Below w.heap.size w w1) := chain HB.out hb1
  clear C1 hb1 HB HK
  go_wp2
  go_ret3
  exact GivesBuf.of_no rfl HB1.out

set_option maxRecDepth 100000 in
set_option maxHeartbeats 4000000 in
theorem offer_twice (ah aw : Option Addr) (nh ch nw cw : Nat) (H : List Int) (Z : List (List Value × PO)) (x : PO) (da va oa : Option Addr) (dc vc oc : Nat) (w : World) (hn : H.length = nh) (hl : nh ≤ 65536) (h64 : All64 H) (hr : RdI .i64 w ah H) (hnil : ah = none → H = [] ∧ ch = 0) (hz : Z.length = nw) (h4 : nw ≤ 300) (hc : RdC w aw (Z.map (·.1))) (hwn : aw = none → Z = [] ∧ cw = 0) (hw : ∀ z ∈ Z, LiesX (fun _ => False) w z.1 z.2) (h : LiesO w x da va oa dc vc oc) (hi : I64O x) (hk : chkB H (Z.map (·.2)) = 0) (hh : hasD H x.dp x.dn = false) (ht : (Z.map (·.2)).any (sameDot x) = true) :
    Calls Try.prog 9 #[.slice ah nh ch, .slice aw nw cw, .agg (cellsO x da va oa dc vc oc)] w fun e w' => GivesBuf w w' e ([], [], 8) := by
  have B1 := alloc_below w (.cells (cellsO x da va oa dc vc oc) 32)
  have HK : Hid (CellsAt (w.alloc (.cells (cellsO x da va oa dc vc oc) 32)) w.heap.size (cellsO x da va oa dc vc oc) 32) := CellsAt.made rfl
  have HB : Hid (Below w.heap.size w (w.alloc (.cells (cellsO x da va oa dc vc oc) 32))) := B1
  have C0 := bcheck_any ah aw nh ch nw cw H (Z.map (·.2)) (w.alloc (.cells (cellsO x da va oa dc vc oc) 32)) hn hl (hr.later B1) (by rw [List.length_map]; exact hz) (by omega)
  have C1 := fun V (hb : Below w.heap.size w V) => dotHas ah nh ch x.dp x.dn H V hn hl h64 hi.dp hi.dn (hr.later hb)
  have C2 := fun V (hb : Below (w.alloc (.cells (cellsO x da va oa dc vc oc) 32)).heap.size (w.alloc (.cells (cellsO x da va oa dc vc oc) 32)) V) => containsFunc_any aw nw cw 21 #[.pointer (some ⟨w.heap.size, 0, none⟩)] (Z.map (·.1)) (fun k => (Z[k]?.map fun z => sameDot x z.2).getD false) V (by rw [List.length_map]; exact hz) (by omega) (LiesX.dozen hw) (hc.later (chain B1 hb)) (enters 21 Try.func21 (by kernel_rfl) rfl) (fun k hk V' hb' => by
    have hk' : k < Z.length := by rw [List.length_map] at hk; exact hk
    have hbV := chain B1 (chain hb hb')
    have hKV := (HK.out.later (chain hb hb'))
    have := offer1_any w.heap.size Z[k].1 Z[k].2 x.dp x.dn V' ((hw _ (List.getElem_mem hk')).later hbV) (hKV.cell 0) (hKV.cell 1)
    rw [List.getElem_map, List.getElem?_eq_getElem hk']
    exact this)
  simp only [any_same Z nw hz (sameDot x)] at C2
  have C3 := fun V (hb : Below w.heap.size w V) => can_any ah nh ch H x da va oa dc vc oc V hn hl h64 (hr.later hb) (h.later hb) hi
  have hk' : chkB H (Z.map (·.2)) = 0 := hk
  rw [hk] at C0
  rw [hh] at C1
  rw [ht] at C2
  clear C3 hr hc hw h hi h64 hnil hwn hn hz hk hk' hh ht
  obtain ⟨dp, dn, deps, sp, sl, sq, kind, table, key, col, vals, dots⟩ := x
  simp only [cellsO] at *
  generalize deps.length = m at *
  generalize vals.length = nv at *
  generalize dots.length = no at *
  go_enter Try.func9, Try.ntmps9
  go_wp2_with fail
  refine C0.mono ?_
  rintro e w1 ⟨rfl, hw1⟩
  subst w1
  clear C0
  go_wp2_with fail
  refine (C1 _ HB.out).mono ?_
  rintro e w1 ⟨rfl, hb1⟩
  have HB1 : Hid (Below w.heap.size w w1) := chain HB.out hb1
  have HK1 : Hid (CellsAt w1 w.heap.size #[.int .i64 dp, .int .i64 dn, .slice da m dc, .int .i64 sp, .int .i64 sl, .int .i64 sq, .int .i64 kind, .int .i64 table, .string key, .int .i64 col, .slice va nv vc, .slice oa no oc] 32) := HK.out.later hb1
  go_wp2_with fail
  refine (C2 _ hb1).mono ?_
  rintro e w2 ⟨rfl, hb2⟩
  have HB2 : Hid (Below w.heap.size w w2) := chain HB1.out hb2
  have HK2 : Hid (CellsAt w2 w.heap.size #[.int .i64 dp, .int .i64 dn, .slice da m dc, .int .i64 sp, .int .i64 sl, .int .i64 sq, .int .i64 kind, .int .i64 table, .string key, .int .i64 col, .slice va nv vc, .slice oa no oc] 32) := HK1.out.later hb2
  clear C1 C2 hb1 hb2 HB1 HK1 HK HB
  go_wp2
  go_ret3
  exact GivesBuf.of_no rfl HB2.out

set_option maxRecDepth 100000 in
set_option maxHeartbeats 4000000 in
theorem offer_full (ah aw : Option Addr) (nh ch nw cw : Nat) (H : List Int) (Z : List (List Value × PO)) (x : PO) (da va oa : Option Addr) (dc vc oc : Nat) (w : World) (hn : H.length = nh) (hl : nh ≤ 65536) (h64 : All64 H) (hr : RdI .i64 w ah H) (hnil : ah = none → H = [] ∧ ch = 0) (hz : Z.length = nw) (h4 : nw ≤ 300) (hc : RdC w aw (Z.map (·.1))) (hwn : aw = none → Z = [] ∧ cw = 0) (hw : ∀ z ∈ Z, LiesX (fun _ => False) w z.1 z.2) (h : LiesO w x da va oa dc vc oc) (hi : I64O x) (hk : chkB H (Z.map (·.2)) = 0) (hh : hasD H x.dp x.dn = false) (ht : (Z.map (·.2)).any (sameDot x) = false) (hcan : canP H x = false) (h40 : nw = 40) :
    Calls Try.prog 9 #[.slice ah nh ch, .slice aw nw cw, .agg (cellsO x da va oa dc vc oc)] w fun e w' => GivesBuf w w' e ([], [], 6) := by
  have B1 := alloc_below w (.cells (cellsO x da va oa dc vc oc) 32)
  have HK : Hid (CellsAt (w.alloc (.cells (cellsO x da va oa dc vc oc) 32)) w.heap.size (cellsO x da va oa dc vc oc) 32) := CellsAt.made rfl
  have HB : Hid (Below w.heap.size w (w.alloc (.cells (cellsO x da va oa dc vc oc) 32))) := B1
  have C0 := bcheck_any ah aw nh ch nw cw H (Z.map (·.2)) (w.alloc (.cells (cellsO x da va oa dc vc oc) 32)) hn hl (hr.later B1) (by rw [List.length_map]; exact hz) (by omega)
  have C1 := fun V (hb : Below w.heap.size w V) => dotHas ah nh ch x.dp x.dn H V hn hl h64 hi.dp hi.dn (hr.later hb)
  have C2 := fun V (hb : Below (w.alloc (.cells (cellsO x da va oa dc vc oc) 32)).heap.size (w.alloc (.cells (cellsO x da va oa dc vc oc) 32)) V) => containsFunc_any aw nw cw 21 #[.pointer (some ⟨w.heap.size, 0, none⟩)] (Z.map (·.1)) (fun k => (Z[k]?.map fun z => sameDot x z.2).getD false) V (by rw [List.length_map]; exact hz) (by omega) (LiesX.dozen hw) (hc.later (chain B1 hb)) (enters 21 Try.func21 (by kernel_rfl) rfl) (fun k hk V' hb' => by
    have hk' : k < Z.length := by rw [List.length_map] at hk; exact hk
    have hbV := chain B1 (chain hb hb')
    have hKV := (HK.out.later (chain hb hb'))
    have := offer1_any w.heap.size Z[k].1 Z[k].2 x.dp x.dn V' ((hw _ (List.getElem_mem hk')).later hbV) (hKV.cell 0) (hKV.cell 1)
    rw [List.getElem_map, List.getElem?_eq_getElem hk']
    exact this)
  simp only [any_same Z nw hz (sameDot x)] at C2
  have C3 := fun V (hb : Below w.heap.size w V) => can_any ah nh ch H x da va oa dc vc oc V hn hl h64 (hr.later hb) (h.later hb) hi
  have hk' : chkB H (Z.map (·.2)) = 0 := hk
  rw [hk] at C0
  rw [hh] at C1
  rw [ht] at C2
  rw [hcan] at C3
  subst h40
  clear hr hc hw h hi h64 hnil hwn hn hz hk hk' hh ht hcan
  obtain ⟨dp, dn, deps, sp, sl, sq, kind, table, key, col, vals, dots⟩ := x
  simp only [cellsO] at *
  generalize deps.length = m at *
  generalize vals.length = nv at *
  generalize dots.length = no at *
  go_enter Try.func9, Try.ntmps9
  go_wp2_with fail
  refine C0.mono ?_
  rintro e w1 ⟨rfl, hw1⟩
  subst w1
  clear C0
  go_wp2_with fail
  refine (C1 _ HB.out).mono ?_
  rintro e w1 ⟨rfl, hb1⟩
  have HB1 : Hid (Below w.heap.size w w1) := chain HB.out hb1
  have HK1 : Hid (CellsAt w1 w.heap.size #[.int .i64 dp, .int .i64 dn, .slice da m dc, .int .i64 sp, .int .i64 sl, .int .i64 sq, .int .i64 kind, .int .i64 table, .string key, .int .i64 col, .slice va nv vc, .slice oa no oc] 32) := HK.out.later hb1
  go_wp2_with fail
  refine (C2 _ hb1).mono ?_
  rintro e w2 ⟨rfl, hb2⟩
  have HB2 : Hid (Below w.heap.size w w2) := chain HB1.out hb2
  have HK2 : Hid (CellsAt w2 w.heap.size #[.int .i64 dp, .int .i64 dn, .slice da m dc, .int .i64 sp, .int .i64 sl, .int .i64 sq, .int .i64 kind, .int .i64 table, .string key, .int .i64 col, .slice va nv vc, .slice oa no oc] 32) := HK1.out.later hb2
  clear C1 C2 hb1 hb2 HB1 HK1 HK HB
  obtain ⟨k0, k1, k2, k3, k4, k5, k6, k7, k8, k9, k10, k11⟩ := cells12 HK2.out
  go_wp2_with fail
  refine (C3 _ HB2.out).mono ?_
  rintro e w3 ⟨rfl, hb3⟩
  have HB3 : Hid (Below w.heap.size w w3) := chain HB2.out hb3
  have HK3 : Hid (CellsAt w3 w.heap.size #[.int .i64 dp, .int .i64 dn, .slice da m dc, .int .i64 sp, .int .i64 sl, .int .i64 sq, .int .i64 kind, .int .i64 table, .string key, .int .i64 col, .slice va nv vc, .slice oa no oc] 32) := HK2.out.later hb3
  clear C3 hb3 HB2 HK2 k0 k1 k2 k3 k4 k5 k6 k7 k8 k9 k10 k11
  go_wp2
  go_ret3
  exact GivesBuf.of_no rfl HB3.out

set_option maxRecDepth 100000 in
set_option maxHeartbeats 4000000 in
theorem offer_can (ah aw : Option Addr) (nh ch nw cw : Nat) (H : List Int) (Z : List (List Value × PO)) (x : PO) (da va oa : Option Addr) (dc vc oc : Nat) (w : World) (hn : H.length = nh) (hl : nh ≤ 65536) (h64 : All64 H) (hr : RdI .i64 w ah H) (hnil : ah = none → H = [] ∧ ch = 0) (hz : Z.length = nw) (h4 : nw ≤ 300) (hc : RdC w aw (Z.map (·.1))) (hwn : aw = none → Z = [] ∧ cw = 0) (hw : ∀ z ∈ Z, LiesX (fun _ => False) w z.1 z.2) (h : LiesO w x da va oa dc vc oc) (hi : I64O x) (hk : chkB H (Z.map (·.2)) = 0) (hh : hasD H x.dp x.dn = false) (ht : (Z.map (·.2)).any (sameDot x) = false) (hcan : canP H x = true) :
    Calls Try.prog 9 #[.slice ah nh ch, .slice aw nw cw, .agg (cellsO x da va oa dc vc oc)] w fun e w' => GivesBuf w w' e ((takeF H (x :: Z.map (·.2))).1, (takeF H (x :: Z.map (·.2))).2, 0) := by
  have B1 := alloc_below w (.cells (cellsO x da va oa dc vc oc) 32)
  have HK : Hid (CellsAt (w.alloc (.cells (cellsO x da va oa dc vc oc) 32)) w.heap.size (cellsO x da va oa dc vc oc) 32) := CellsAt.made rfl
  have HB : Hid (Below w.heap.size w (w.alloc (.cells (cellsO x da va oa dc vc oc) 32))) := B1
  have C0 := bcheck_any ah aw nh ch nw cw H (Z.map (·.2)) (w.alloc (.cells (cellsO x da va oa dc vc oc) 32)) hn hl (hr.later B1) (by rw [List.length_map]; exact hz) (by omega)
  have C1 := fun V (hb : Below w.heap.size w V) => dotHas ah nh ch x.dp x.dn H V hn hl h64 hi.dp hi.dn (hr.later hb)
  have C2 := fun V (hb : Below (w.alloc (.cells (cellsO x da va oa dc vc oc) 32)).heap.size (w.alloc (.cells (cellsO x da va oa dc vc oc) 32)) V) => containsFunc_any aw nw cw 21 #[.pointer (some ⟨w.heap.size, 0, none⟩)] (Z.map (·.1)) (fun k => (Z[k]?.map fun z => sameDot x z.2).getD false) V (by rw [List.length_map]; exact hz) (by omega) (LiesX.dozen hw) (hc.later (chain B1 hb)) (enters 21 Try.func21 (by kernel_rfl) rfl) (fun k hk V' hb' => by
    have hk' : k < Z.length := by rw [List.length_map] at hk; exact hk
    have hbV := chain B1 (chain hb hb')
    have hKV := (HK.out.later (chain hb hb'))
    have := offer1_any w.heap.size Z[k].1 Z[k].2 x.dp x.dn V' ((hw _ (List.getElem_mem hk')).later hbV) (hKV.cell 0) (hKV.cell 1)
    rw [List.getElem_map, List.getElem?_eq_getElem hk']
    exact this)
  simp only [any_same Z nw hz (sameDot x)] at C2
  have C3 := fun V (hb : Below w.heap.size w V) => can_any ah nh ch H x da va oa dc vc oc V hn hl h64 (hr.later hb) (h.later hb) hi
  have hk' : chkB H (Z.map (·.2)) = 0 := hk
  rw [hk] at C0
  rw [hh] at C1
  rw [ht] at C2
  rw [hcan] at C3
  have hchk : chkD H = 0 := by
    unfold chkB at hk
    by_cases h0 : chkD H = 0
    · exact h0
    · rw [if_pos h0] at hk
      exact absurd hk h0
  obtain ⟨q1, q5, _⟩ := chkD_ok.1 hchk
  rw [hn] at q1 q5
  have HLX : Hid (LiesX (fun _ => False) w (cellsO x da va oa dc vc oc).toList x) := ⟨da, va, oa, dc, vc, oc, rfl, h, hi, fun _ _ _ _ _ k => k, fun _ _ _ _ _ k => k, fun _ _ _ _ _ k => k⟩
  have C5 := fun V (a5 : Option Addr) (c5 : Nat) (hb : Below w.heap.size w V) (hr5 : RdC V a5 ((cellsO x da va oa dc vc oc).toList :: Z.map (·.1))) => take_any ah a5 nh ch (nw + 1) c5 H (((cellsO x da va oa dc vc oc).toList, x) :: Z) V hn q1 q5 h64 (hr.later hb) hnil (by rw [List.length_cons, hz]) (by omega) hr5 (fun z hz => by
    rcases List.mem_cons.1 hz with rfl | hz
    · exact HLX.out.later hb
    · exact (hw z hz).later hb)
  have C4 := fun V (b : Nat) (hb : Below w.heap.size w V) (hr1 : RdC V (some ⟨b, 0, none⟩) [(cellsO x da va oa dc vc oc).toList]) (b2 : Nat) (hk2 : CellsAt V b2 #[.slice (some ⟨b, 0, none⟩) 1 1, .slice aw nw cw] 22) => concat_any b2 1 nw 1 cw (some ⟨b, 0, none⟩) aw [(cellsO x da va oa dc vc oc).toList] (Z.map (·.1)) V (by omega) rfl (by rw [List.length_map]; exact hz) (by omega) (by omega) (fun c hc => by simp only [List.mem_singleton] at hc; subst hc; exact HLX.out.shape.dozen) (LiesX.dozen hw) hr1 (hc.later hb) (fun h => by cases h) (fun h => by obtain ⟨h1, h2⟩ := hwn h; exact ⟨by rw [h1]; rfl, h2⟩) hk2
  have HZL : Hid ((Z.map (·.1)).length = nw) := by show _ = _; rw [List.length_map]; exact hz
  have HTF : Hid (takeF H ((((cellsO x da va oa dc vc oc).toList, x) :: Z).map (·.2)) = takeF H (x :: Z.map (·.2))) := rfl
  obtain ⟨TF, hTF⟩ : ∃ TF, TF = takeF H (x :: Z.map (·.2)) := ⟨_, rfl⟩
  rw [← hTF]
  rw [← hTF] at HTF
  simp only [show takeF H ((((cellsO x da va oa dc vc oc).toList, x) :: Z).map (·.2)) = TF from HTF.out] at C5
  clear hr hc hw h hi h64 hnil hwn hn hz hk hk' hh ht hcan hchk HLX HTF hTF q1 q5
  obtain ⟨dp, dn, deps, sp, sl, sq, kind, table, key, col, vals, dots⟩ := x
  simp only [cellsO] at *
  generalize deps.length = m at *
  generalize vals.length = nv at *
  generalize dots.length = no at *
  go_enter Try.func9, Try.ntmps9
  go_wp2_with fail
  refine C0.mono ?_
  rintro e w1 ⟨rfl, hw1⟩
  subst w1
  clear C0
  go_wp2_with fail
  refine (C1 _ HB.out).mono ?_
  rintro e w1 ⟨rfl, hb1⟩
  have HB1 : Hid (Below w.heap.size w w1) := chain HB.out hb1
  have HK1 : Hid (CellsAt w1 w.heap.size #[.int .i64 dp, .int .i64 dn, .slice da m dc, .int .i64 sp, .int .i64 sl, .int .i64 sq, .int .i64 kind, .int .i64 table, .string key, .int .i64 col, .slice va nv vc, .slice oa no oc] 32) := HK.out.later hb1
  go_wp2_with fail
  refine (C2 _ hb1).mono ?_
  rintro e w2 ⟨rfl, hb2⟩
  have HB2 : Hid (Below w.heap.size w w2) := chain HB1.out hb2
  have HK2 : Hid (CellsAt w2 w.heap.size #[.int .i64 dp, .int .i64 dn, .slice da m dc, .int .i64 sp, .int .i64 sl, .int .i64 sq, .int .i64 kind, .int .i64 table, .string key, .int .i64 col, .slice va nv vc, .slice oa no oc] 32) := HK1.out.later hb2
  clear C1 C2 hb1 hb2 HB1 HK1 HK HB
  obtain ⟨k0, k1, k2, k3, k4, k5, k6, k7, k8, k9, k10, k11⟩ := cells12 HK2.out
  go_wp2_with fail
  refine (C3 _ HB2.out).mono ?_
  rintro e w3 ⟨rfl, hb3⟩
  have HB3 : Hid (Below w.heap.size w w3) := chain HB2.out hb3
  have HK3 : Hid (CellsAt w3 w.heap.size #[.int .i64 dp, .int .i64 dn, .slice da m dc, .int .i64 sp, .int .i64 sl, .int .i64 sq, .int .i64 kind, .int .i64 table, .string key, .int .i64 col, .slice va nv vc, .slice oa no oc] 32) := HK2.out.later hb3
  clear C3 hb3 HB2 HK2 k0 k1 k2 k3 k4 k5 k6 k7 k8 k9 k10 k11
  obtain ⟨k0, k1, k2, k3, k4, k5, k6, k7, k8, k9, k10, k11⟩ := cells12 HK3.out
  have hb4 := alloc_below w3 (.cells #[.int .i64 dp, .int .i64 dn, .slice da m dc, .int .i64 sp, .int .i64 sl, .int .i64 sq, .int .i64 kind, .int .i64 table, .string key, .int .i64 col, .slice va nv vc, .slice oa no oc] 32)
  have hb5 := alloc_below (w3.alloc (.cells #[.int .i64 dp, .int .i64 dn, .slice da m dc, .int .i64 sp, .int .i64 sl, .int .i64 sq, .int .i64 kind, .int .i64 table, .string key, .int .i64 col, .slice va nv vc, .slice oa no oc] 32)) (.cells #[.slice (some ⟨w3.heap.size, 0, none⟩) 1 1, .slice aw nw cw] 22)
  have hk4 : CellsAt ((w3.alloc (.cells #[.int .i64 dp, .int .i64 dn, .slice da m dc, .int .i64 sp, .int .i64 sl, .int .i64 sq, .int .i64 kind, .int .i64 table, .string key, .int .i64 col, .slice va nv vc, .slice oa no oc] 32)).alloc (.cells #[.slice (some ⟨w3.heap.size, 0, none⟩) 1 1, .slice aw nw cw] 22)) w3.heap.size #[.int .i64 dp, .int .i64 dn, .slice da m dc, .int .i64 sp, .int .i64 sl, .int .i64 sq, .int .i64 kind, .int .i64 table, .string key, .int .i64 col, .slice va nv vc, .slice oa no oc] 32 := (CellsAt.made rfl).later hb5
  have hk5 : CellsAt ((w3.alloc (.cells #[.int .i64 dp, .int .i64 dn, .slice da m dc, .int .i64 sp, .int .i64 sl, .int .i64 sq, .int .i64 kind, .int .i64 table, .string key, .int .i64 col, .slice va nv vc, .slice oa no oc] 32)).alloc (.cells #[.slice (some ⟨w3.heap.size, 0, none⟩) 1 1, .slice aw nw cw] 22)) (w3.heap.size + 1) #[.slice (some ⟨w3.heap.size, 0, none⟩) 1 1, .slice aw nw cw] 22 := CellsAt.made (by simp)
  have CC := C4 _ w3.heap.size (chain HB3.out (chain hb4 hb5)) (fun _ => ⟨w3.heap.size, 0, rfl, fun i hi j v hj => by
    have hi0 : i = 0 := by simpa using hi
    subst hi0
    simp only [List.getElem_cons_zero] at hj
    rw [Nat.zero_mul, Nat.add_zero, Nat.zero_add, hk4.cell j]
    simpa using hj⟩) (w3.heap.size + 1) hk5
  have HB5 : Hid (Below w.heap.size w ((w3.alloc (.cells #[.int .i64 dp, .int .i64 dn, .slice da m dc, .int .i64 sp, .int .i64 sl, .int .i64 sq, .int .i64 kind, .int .i64 table, .string key, .int .i64 col, .slice va nv vc, .slice oa no oc] 32)).alloc (.cells #[.slice (some ⟨w3.heap.size, 0, none⟩) 1 1, .slice aw nw cw] 22))) := chain HB3.out (chain hb4 hb5)
  clear C4 hb4 hb5 hk4 hk5 HB3
  go_wp2_with fail
  refine CC.mono ?_
  rintro e w6 ⟨v6, rfl, ho6, hb6⟩
  obtain ⟨a6, c6, e6, _, _, r6, _⟩ := ho6.form
  rw [List.length_append, HZL.out, List.length_singleton, Nat.add_comm] at e6
  subst e6
  have CT := C5 w6 a6 c6 (chain HB5.out hb6) r6
  have HB6 : Hid (Below w.heap.size w w6) := chain HB5.out hb6
  clear CC C5 ho6 r6 hb6 HB5 k0 k1 k2 k3 k4 k5 k6 k7 k8 k9 k10 k11
  go_wp2_with fail
  refine CT.mono ?_
  rintro e w7 ⟨a1, n1, c1, a2, n2, c2, rfl, g1, g2, g3, g4, g5, g6, g7, g8, g9⟩
  have HR : Hid (GivesBuf w w7 (.returned (.tuple #[.slice a1 n1 c1, .slice a2 n2 c2, .int .i64 0])) (TF.1, TF.2, 0)) := ⟨a1, n1, c1, a2, n2, c2, rfl, g1, g2, g3, g4, g5, g6, g7.mono HB6.out.size, g8.mono HB6.out.size, chain HB6.out g9⟩
  clear CT g1 g2 g3 g4 g5 g6 g7 g8 g9 HB6
  go_wp2
  go_ret3
  exact HR.out

set_option maxRecDepth 100000 in
set_option maxHeartbeats 4000000 in
theorem offer_early (ah aw : Option Addr) (nh ch nw cw : Nat) (H : List Int) (Z : List (List Value × PO)) (x : PO) (da va oa : Option Addr) (dc vc oc : Nat) (w : World) (hn : H.length = nh) (hl : nh ≤ 65536) (h64 : All64 H) (hr : RdI .i64 w ah H) (hnil : ah = none → H = [] ∧ ch = 0) (hz : Z.length = nw) (h4 : nw ≤ 300) (hc : RdC w aw (Z.map (·.1))) (hwn : aw = none → Z = [] ∧ cw = 0) (hw : ∀ z ∈ Z, LiesX (fun _ => False) w z.1 z.2) (h : LiesO w x da va oa dc vc oc) (hi : I64O x) (hk : chkB H (Z.map (·.2)) = 0) (hh : hasD H x.dp x.dn = false) (ht : (Z.map (·.2)).any (sameDot x) = false) (hcan : canP H x = false) (h40 : nw ≠ 40) :
    Calls Try.prog 9 #[.slice ah nh ch, .slice aw nw cw, .agg (cellsO x da va oa dc vc oc)] w fun e w' => GivesBuf w w' e ([], Z.map (·.2) ++ [x], 9) := by
  have B1 := alloc_below w (.cells (cellsO x da va oa dc vc oc) 32)
  have HK : Hid (CellsAt (w.alloc (.cells (cellsO x da va oa dc vc oc) 32)) w.heap.size (cellsO x da va oa dc vc oc) 32) := CellsAt.made rfl
  have HB : Hid (Below w.heap.size w (w.alloc (.cells (cellsO x da va oa dc vc oc) 32))) := B1
  have C0 := bcheck_any ah aw nh ch nw cw H (Z.map (·.2)) (w.alloc (.cells (cellsO x da va oa dc vc oc) 32)) hn hl (hr.later B1) (by rw [List.length_map]; exact hz) (by omega)
  have C1 := fun V (hb : Below w.heap.size w V) => dotHas ah nh ch x.dp x.dn H V hn hl h64 hi.dp hi.dn (hr.later hb)
  have C2 := fun V (hb : Below (w.alloc (.cells (cellsO x da va oa dc vc oc) 32)).heap.size (w.alloc (.cells (cellsO x da va oa dc vc oc) 32)) V) => containsFunc_any aw nw cw 21 #[.pointer (some ⟨w.heap.size, 0, none⟩)] (Z.map (·.1)) (fun k => (Z[k]?.map fun z => sameDot x z.2).getD false) V (by rw [List.length_map]; exact hz) (by omega) (LiesX.dozen hw) (hc.later (chain B1 hb)) (enters 21 Try.func21 (by kernel_rfl) rfl) (fun k hk V' hb' => by
    have hk' : k < Z.length := by rw [List.length_map] at hk; exact hk
    have hbV := chain B1 (chain hb hb')
    have hKV := (HK.out.later (chain hb hb'))
    have := offer1_any w.heap.size Z[k].1 Z[k].2 x.dp x.dn V' ((hw _ (List.getElem_mem hk')).later hbV) (hKV.cell 0) (hKV.cell 1)
    rw [List.getElem_map, List.getElem?_eq_getElem hk']
    exact this)
  simp only [any_same Z nw hz (sameDot x)] at C2
  have C3 := fun V (hb : Below w.heap.size w V) => can_any ah nh ch H x da va oa dc vc oc V hn hl h64 (hr.later hb) (h.later hb) hi
  have hk' : chkB H (Z.map (·.2)) = 0 := hk
  rw [hk] at C0
  rw [hh] at C1
  rw [ht] at C2
  rw [hcan] at C3
  have q40 : ((nw : Int) == 40) = false := by rw [beq_eq_false_iff_ne]; omega
  have C6 := fun V (hb : Below w.heap.size w V) => cloneAll_any aw nw cw Z V hz (by omega) (hc.later hb) (fun z hz => (hw z hz).later hb)
  have C7 := fun V (hb : Below w.heap.size w V) => opClone_any x da va oa dc vc oc V (h.later hb)
  have HX7 := fun (V : World) (r : Nat) (da' va' oa' : Option Addr) (dc' vc' oc' B : Nat) (h1 : LiesO V x da' va' oa' dc' vc' oc') (h2 : FarO B da' va' oa') (h3 : r < B) => LiesX.far (E := fun b => b ≤ r) h1 hi h2 (fun b hb hb' => by omega)
  have HZL : Hid (Z.length = nw) := hz
  clear hr hc hw h hi h64 hnil hwn hn hz hk hk' hh ht hcan
  obtain ⟨dp, dn, deps, sp, sl, sq, kind, table, key, col, vals, dots⟩ := x
  simp only [cellsO] at *
  generalize deps.length = m at *
  generalize vals.length = nv at *
  generalize dots.length = no at *
  have HX7 : Hid (∀ (V : World) (r : Nat) (da' va' oa' : Option Addr) (dc' vc' oc' B : Nat) (h1 : LiesO V (⟨dp, dn, deps, sp, sl, sq, kind, table, key, col, vals, dots⟩ : PO) da' va' oa' dc' vc' oc') (h2 : FarO B da' va' oa') (h3 : r < B), LiesX (fun b => b ≤ r) V [.int .i64 dp, .int .i64 dn, .slice da' m dc', .int .i64 sp, .int .i64 sl, .int .i64 sq, .int .i64 kind, .int .i64 table, .string key, .int .i64 col, .slice va' nv vc', .slice oa' no oc'] (⟨dp, dn, deps, sp, sl, sq, kind, table, key, col, vals, dots⟩ : PO)) := HX7
  go_enter Try.func9, Try.ntmps9
  go_wp2_with fail
  refine C0.mono ?_
  rintro e w1 ⟨rfl, hw1⟩
  subst w1
  clear C0
  go_wp2_with fail
  refine (C1 _ HB.out).mono ?_
  rintro e w1 ⟨rfl, hb1⟩
  have HB1 : Hid (Below w.heap.size w w1) := chain HB.out hb1
  have HK1 : Hid (CellsAt w1 w.heap.size #[.int .i64 dp, .int .i64 dn, .slice da m dc, .int .i64 sp, .int .i64 sl, .int .i64 sq, .int .i64 kind, .int .i64 table, .string key, .int .i64 col, .slice va nv vc, .slice oa no oc] 32) := HK.out.later hb1
  go_wp2_with fail
  refine (C2 _ hb1).mono ?_
  rintro e w2 ⟨rfl, hb2⟩
  have HB2 : Hid (Below w.heap.size w w2) := chain HB1.out hb2
  have HK2 : Hid (CellsAt w2 w.heap.size #[.int .i64 dp, .int .i64 dn, .slice da m dc, .int .i64 sp, .int .i64 sl, .int .i64 sq, .int .i64 kind, .int .i64 table, .string key, .int .i64 col, .slice va nv vc, .slice oa no oc] 32) := HK1.out.later hb2
  clear C1 C2 hb1 hb2 HB1 HK1 HK HB
  obtain ⟨k0, k1, k2, k3, k4, k5, k6, k7, k8, k9, k10, k11⟩ := cells12 HK2.out
  go_wp2_with fail
  refine (C3 _ HB2.out).mono ?_
  rintro e w3 ⟨rfl, hb3⟩
  have HB3 : Hid (Below w.heap.size w w3) := chain HB2.out hb3
  have HK3 : Hid (CellsAt w3 w.heap.size #[.int .i64 dp, .int .i64 dn, .slice da m dc, .int .i64 sp, .int .i64 sl, .int .i64 sq, .int .i64 kind, .int .i64 table, .string key, .int .i64 col, .slice va nv vc, .slice oa no oc] 32) := HK2.out.later hb3
  clear C3 hb3 HB2 HK2 k0 k1 k2 k3 k4 k5 k6 k7 k8 k9 k10 k11
  go_wp2_with fail
  have HKlt : Hid (w.heap.size < w3.drew.heap.size) := HK3.out.lt
  replace HK3 := (show Hid (CellsAt w3.drew w.heap.size #[.int .i64 dp, .int .i64 dn, .slice da m dc, .int .i64 sp, .int .i64 sl, .int .i64 sq, .int .i64 kind, .int .i64 table, .string key, .int .i64 col, .slice va nv vc, .slice oa no oc] 32) from HK3.out.later (Below.refl _ _).drew)
  replace HB3 := (show Hid (Below w.heap.size w w3.drew) from chain HB3.out (Below.refl _ _).drew)
  refine wp_region_held_drew (S := (fun w' => w'.cell? ⟨w.heap.size, 0, none⟩ = some (.int .i64 dp) ∧ w'.cell? ⟨w.heap.size, 1, none⟩ = some (.int .i64 dn) ∧ w'.cell? ⟨w.heap.size, 2, none⟩ = some (.slice da m dc) ∧ w'.cell? ⟨w.heap.size, 3, none⟩ = some (.int .i64 sp) ∧ w'.cell? ⟨w.heap.size, 4, none⟩ = some (.int .i64 sl) ∧ w'.cell? ⟨w.heap.size, 5, none⟩ = some (.int .i64 sq) ∧ w'.cell? ⟨w.heap.size, 6, none⟩ = some (.int .i64 kind) ∧ w'.cell? ⟨w.heap.size, 7, none⟩ = some (.int .i64 table) ∧ w'.cell? ⟨w.heap.size, 8, none⟩ = some (.string key) ∧ w'.cell? ⟨w.heap.size, 9, none⟩ = some (.int .i64 col) ∧ w'.cell? ⟨w.heap.size, 10, none⟩ = some (.slice va nv vc) ∧ w'.cell? ⟨w.heap.size, 11, none⟩ = some (.slice oa no oc))) (by kernel_rfl) (by obtain ⟨k0, k1, k2, k3, k4, k5, k6, k7, k8, k9, k10, k11⟩ := cells12 HK3.out; exact ⟨k0, k1, k2, k3, k4, k5, k6, k7, k8, k9, k10, k11⟩) (fun hHeld => ?_)
  generalize w3.drew = wq at *
  refine heldTake (v := ?_) 0 43 rfl rfl (by kernel_rfl) (by kernel_rfl) (by kernel_rfl) (fun _ _ _ h => h) (by rfl) (fun w hSw => ?_) (by assumption) ?_
  rotate_left
  · (try dsimp only at hSw); first | (go_simp; done) | (go_simp; with_reducible rfl)
  simp only [List.setIfInBounds_toArray, List.set_cons_zero, List.set_cons_succ]
  refine heldTake (v := ?_) 2 45 rfl rfl (by kernel_rfl) (by kernel_rfl) (by kernel_rfl) (fun _ _ _ h => h) (by rfl) (fun w hSw => ?_) (by assumption) ?_
  rotate_left
  · (try dsimp only at hSw); first | (go_simp; done) | (go_simp; with_reducible rfl)
  simp only [List.setIfInBounds_toArray, List.set_cons_zero, List.set_cons_succ]
  refine heldOne 1 rfl (by kernel_rfl) (by rfl) (fun K2 hK => ?_)
  go_simp
  refine (C6 _ HB3.out).mono ?_
  rintro e wa ⟨rfl, hba, Y, hY, hOY, hLY⟩
  obtain ⟨r, hr⟩ : ∃ r, wq.heap.size = r := ⟨_, rfl⟩
  rw [hr] at hOY hLY ⊢
  have HRw : Hid (w.heap.size ≤ r) := by show _ ≤ _; rw [← hr]; exact HB3.out.size
  have HYY : Hid (Y.map (·.2) = Z.map (·.2)) := hY
  have HOY : Hid (OwnC wa r (.slice (some ⟨r, 0, none⟩) nw nw) (Y.map (·.1))) := hOY
  have HLY : Hid (∀ z ∈ Y, LiesX (fun b => b ≤ r) wa z.1 z.2) := hLY
  replace HB3 := (show Hid (Below w.heap.size w wa) from chain HB3.out hba)
  replace HK3 := (show Hid (CellsAt wa w.heap.size #[.int .i64 dp, .int .i64 dn, .slice da m dc, .int .i64 sp, .int .i64 sl, .int .i64 sq, .int .i64 kind, .int .i64 table, .string key, .int .i64 col, .slice va nv vc, .slice oa no oc] 32) from HK3.out.later hba)
  have HRa : Hid (r < wa.heap.size) := (World.ownsRow.lt hOY.2 r rfl).2
  have HRw2 : Hid (w.heap.size < r) := by show _ < _; rw [← hr]; exact HKlt.out
  have HRa0 : Hid (r < wa.heap.size) := HRa
  clear hba hY hOY hLY hr
  simp only []
  refine hK.out _ _ ?_ (fun hHeld => ?_)
  · exact (by obtain ⟨k0, k1, k2, k3, k4, k5, k6, k7, k8, k9, k10, k11⟩ := cells12 HK3.out; exact ⟨k0, k1, k2, k3, k4, k5, k6, k7, k8, k9, k10, k11⟩)
  clear hK K2
  try simp only [List.setIfInBounds_toArray, List.set_cons_zero, List.set_cons_succ]
  refine heldOne 3 rfl (by kernel_rfl) (by rfl) (fun K2 hK => ?_)
  go_simp
  refine (C7 _ HB3.out).mono ?_
  rintro e wb ⟨da', va', oa', dc', vc', oc', rfl, hlo', hfar, hbb⟩
  replace HB3 := (show Hid (Below w.heap.size w wb) from chain HB3.out hbb)
  replace HK3 := (show Hid (CellsAt wb w.heap.size #[.int .i64 dp, .int .i64 dn, .slice da m dc, .int .i64 sp, .int .i64 sl, .int .i64 sq, .int .i64 kind, .int .i64 table, .string key, .int .i64 col, .slice va nv vc, .slice oa no oc] 32) from HK3.out.later hbb)
  replace HOY := (show Hid (OwnC wb r (.slice (some ⟨r, 0, none⟩) nw nw) (Y.map (·.1))) from HOY.out.later hbb)
  replace HLY := (show Hid (∀ z ∈ Y, LiesX (fun b => b ≤ r) wb z.1 z.2) from fun z hz => (HLY.out z hz).later hbb)
  replace HRa := (show Hid (r < wb.heap.size) from Nat.lt_of_lt_of_le HRa.out hbb.size)
  have HLX : Hid (LiesX (fun b => b ≤ r) wb [.int .i64 dp, .int .i64 dn, .slice da' m dc', .int .i64 sp, .int .i64 sl, .int .i64 sq, .int .i64 kind, .int .i64 table, .string key, .int .i64 col, .slice va' nv vc', .slice oa' no oc'] (⟨dp, dn, deps, sp, sl, sq, kind, table, key, col, vals, dots⟩ : PO)) := HX7.out wb r _ _ _ _ _ _ _ hlo' hfar (by have := hbb.size; have := HRa0.out; omega)
  clear hbb hlo' hfar
  simp only []
  refine hK.out _ _ ?_ (fun hHeld => ?_)
  · exact (by obtain ⟨k0, k1, k2, k3, k4, k5, k6, k7, k8, k9, k10, k11⟩ := cells12 HK3.out; exact ⟨k0, k1, k2, k3, k4, k5, k6, k7, k8, k9, k10, k11⟩)
  clear hK K2
  try simp only [List.setIfInBounds_toArray, List.set_cons_zero, List.set_cons_succ]
  refine heldOne 4 rfl (by kernel_rfl) (by rfl) (fun K2 hK => ?_)
  go_simp
  have hb4 := alloc_below wb (.cells #[.int .i64 dp, .int .i64 dn, .slice da' m dc', .int .i64 sp, .int .i64 sl, .int .i64 sq, .int .i64 kind, .int .i64 table, .string key, .int .i64 col, .slice va' nv vc', .slice oa' no oc'] 32)
  have hk4 : CellsAt (wb.alloc (.cells #[.int .i64 dp, .int .i64 dn, .slice da' m dc', .int .i64 sp, .int .i64 sl, .int .i64 sq, .int .i64 kind, .int .i64 table, .string key, .int .i64 col, .slice va' nv vc', .slice oa' no oc'] 32)) wb.heap.size #[.int .i64 dp, .int .i64 dn, .slice da' m dc', .int .i64 sp, .int .i64 sl, .int .i64 sq, .int .i64 kind, .int .i64 table, .string key, .int .i64 col, .slice va' nv vc', .slice oa' no oc'] 32 := CellsAt.made rfl
  obtain ⟨g4, hg4⟩ : ∃ g4, wb.heap.size = g4 := ⟨_, rfl⟩
  obtain ⟨wd, hwd⟩ : ∃ x, wb.alloc (.cells #[.int .i64 dp, .int .i64 dn, .slice da' m dc', .int .i64 sp, .int .i64 sl, .int .i64 sq, .int .i64 kind, .int .i64 table, .string key, .int .i64 col, .slice va' nv vc', .slice oa' no oc'] 32) = x := ⟨_, rfl⟩
  rw [hwd] at hb4 hk4 ⊢
  rw [hg4] at hk4 ⊢
  replace HB3 := (show Hid (Below w.heap.size w wd) from chain HB3.out hb4)
  replace HK3 := (show Hid (CellsAt wd w.heap.size #[.int .i64 dp, .int .i64 dn, .slice da m dc, .int .i64 sp, .int .i64 sl, .int .i64 sq, .int .i64 kind, .int .i64 table, .string key, .int .i64 col, .slice va nv vc, .slice oa no oc] 32) from HK3.out.later hb4)
  replace HOY := (show Hid (OwnC wd r (.slice (some ⟨r, 0, none⟩) nw nw) (Y.map (·.1))) from HOY.out.later hb4)
  replace HLY := (show Hid (∀ z ∈ Y, LiesX (fun b => b ≤ r) wd z.1 z.2) from fun z hz => (HLY.out z hz).later hb4)
  replace HLX := (show Hid (LiesX (fun b => b ≤ r) wd [.int .i64 dp, .int .i64 dn, .slice da' m dc', .int .i64 sp, .int .i64 sl, .int .i64 sq, .int .i64 kind, .int .i64 table, .string key, .int .i64 col, .slice va' nv vc', .slice oa' no oc'] (⟨dp, dn, deps, sp, sl, sq, kind, table, key, col, vals, dots⟩ : PO)) from HLX.out.later hb4)
  replace HRa := (show Hid (r < wd.heap.size) from Nat.lt_of_lt_of_le HRa.out hb4.size)
  have HRD : Hid (RdC wd (some ⟨g4, 0, none⟩) [[.int .i64 dp, .int .i64 dn, .slice da' m dc', .int .i64 sp, .int .i64 sl, .int .i64 sq, .int .i64 kind, .int .i64 table, .string key, .int .i64 col, .slice va' nv vc', .slice oa' no oc']]) := fun _ => ⟨g4, 0, rfl, fun i hi j v hj => by
    have hi0 : i = 0 := by simpa using hi
    subst hi0
    simp only [List.getElem_cons_zero] at hj
    rw [Nat.zero_mul, Nat.add_zero, Nat.zero_add, hk4.cell j]
    simpa using hj⟩
  clear hb4 hk4 hwd hg4
  refine hK.out _ _ ?_ (fun hHeld => ?_)
  · exact (by obtain ⟨k0, k1, k2, k3, k4, k5, k6, k7, k8, k9, k10, k11⟩ := cells12 HK3.out; exact ⟨k0, k1, k2, k3, k4, k5, k6, k7, k8, k9, k10, k11⟩)
  clear hK K2
  try simp only [List.setIfInBounds_toArray, List.set_cons_zero, List.set_cons_succ]
  refine heldOne 5 rfl (by kernel_rfl) (by rfl) (fun K2 hK => ?_)
  obtain ⟨v5, we, hrun, ho5, hg5, _⟩ := run_append_ops (ty := 22) (cap := 1) HOY.out (n := nw) (by have := congrArg List.length HYY.out; rw [List.length_map, List.length_map, HZL.out] at this; rw [List.length_map]; exact this) (m := 1) rfl (fun c hc => by simp only [List.mem_singleton] at hc; subst hc; exact HLX.out.shape.dozen) HRD.out (fun h => by cases h) (by omega) (by omega) (Nat.le_of_lt HRa.out)
  have hsv := Sv.of_grown (E := fun b => b ≤ r) hg5 (Nat.le_refl _)
  obtain ⟨a5, c5, e5, h5, _, r5, n5⟩ := ho5.form
  rw [List.length_append, List.length_map, List.length_singleton] at e5 h5
  subst e5
  have HR : Hid (GivesBuf w we (.returned (.tuple #[.slice none 0 0, .slice a5 (Y.length + 1) c5, .int .i64 9])) ([], Z.map (·.2) ++ [(⟨dp, dn, deps, sp, sl, sq, kind, table, key, col, vals, dots⟩ : PO)], 9)) := by
    have eZ : (Y ++ [(([.int .i64 dp, .int .i64 dn, .slice da' m dc', .int .i64 sp, .int .i64 sl, .int .i64 sq, .int .i64 kind, .int .i64 table, .string key, .int .i64 col, .slice va' nv vc', .slice oa' no oc'] : List Value), (⟨dp, dn, deps, sp, sl, sq, kind, table, key, col, vals, dots⟩ : PO))]).map (·.2) = Z.map (·.2) ++ [(⟨dp, dn, deps, sp, sl, sq, kind, table, key, col, vals, dots⟩ : PO)] := by rw [List.map_append, HYY.out]; rfl
    have eL : (Z.map (·.2) ++ [(⟨dp, dn, deps, sp, sl, sq, kind, table, key, col, vals, dots⟩ : PO)]).length = Y.length + 1 := by rw [← HYY.out]; simp
    refine ⟨none, 0, 0, a5, _, c5, rfl, rfl, eL, Nat.le_refl _, h5, fun _ => ⟨rfl, rfl⟩, fun h => ?_, RdF.nil _ _, ⟨Y ++ [(([.int .i64 dp, .int .i64 dn, .slice da' m dc', .int .i64 sp, .int .i64 sl, .int .i64 sq, .int .i64 kind, .int .i64 table, .string key, .int .i64 col, .slice va' nv vc', .slice oa' no oc'] : List Value), (⟨dp, dn, deps, sp, sl, sq, kind, table, key, col, vals, dots⟩ : PO))], eZ, by rw [List.map_append]; exact r5, fun b o s ea => Nat.le_trans HRw.out (World.ownsRow.lt ho5.2 b (by rw [ea]; rfl)).1, fun z hz => ?_⟩, HB3.out.grown hg5 HB3.out.size (fun j hj => by cases hj; exact HRw.out)⟩
    · obtain ⟨h1, h2⟩ := n5 h
      exact absurd h1 (by simp)
    · rcases List.mem_append.1 hz with hz | hz
      · exact ((HLY.out z hz).sv hsv).less (fun b k => Nat.le_of_lt (Nat.lt_of_lt_of_le k HRw.out))
      · simp only [List.mem_singleton] at hz
        subst hz
        exact (HLX.out.sv hsv).less (fun b k => Nat.le_of_lt (Nat.lt_of_lt_of_le k HRw.out))
  have HK5 : Hid (CellsAt we w.heap.size #[.int .i64 dp, .int .i64 dn, .slice da m dc, .int .i64 sp, .int .i64 sl, .int .i64 sq, .int .i64 kind, .int .i64 table, .string key, .int .i64 col, .slice va nv vc, .slice oa no oc] 32) := (hg5.block _ HK3.out.lt (fun e => by have h1 := HRw2.out; simp only [Value.ownBlock, Option.some.injEq] at e; omega)).trans HK3.out
  clear ho5 hg5 hsv r5 n5 h5
  refine wp_append_buf _ _ 22 22 rfl _ _ _ _ rfl rfl hrun ?_
  go_simp
  refine hK.out _ _ ?_ (fun hHeld => ?_)
  · exact (by obtain ⟨k0, k1, k2, k3, k4, k5, k6, k7, k8, k9, k10, k11⟩ := cells12 HK5.out; exact ⟨k0, k1, k2, k3, k4, k5, k6, k7, k8, k9, k10, k11⟩)
  clear hK K2
  try simp only [List.setIfInBounds_toArray, List.set_cons_zero, List.set_cons_succ]
  refine heldTake (v := ?_) 6 6 rfl rfl (by kernel_rfl) (by kernel_rfl) (by kernel_rfl) (fun _ _ _ h => h) (by rfl) (fun w hSw => ?_) (by assumption) ?_
  rotate_left
  · (try dsimp only at hSw); first | (go_simp; done) | (go_simp; with_reducible rfl)
  simp only [List.setIfInBounds_toArray, List.set_cons_zero, List.set_cons_succ]
  refine heldTake (v := ?_) 7 7 rfl rfl (by kernel_rfl) (by kernel_rfl) (by kernel_rfl) (fun _ _ _ h => h) (by rfl) (fun w hSw => ?_) (by assumption) ?_
  rotate_left
  · (try dsimp only at hSw); first | (go_simp; done) | (go_simp; with_reducible rfl)
  simp only [List.setIfInBounds_toArray, List.set_cons_zero, List.set_cons_succ]
  refine heldTake (v := ?_) 8 8 rfl rfl (by kernel_rfl) (by kernel_rfl) (by kernel_rfl) (fun _ _ _ h => h) (by rfl) (fun w hSw => ?_) (by assumption) ?_
  rotate_left
  · (try dsimp only at hSw); first | (go_simp; done) | (go_simp; with_reducible rfl)
  simp only [List.setIfInBounds_toArray, List.set_cons_zero, List.set_cons_succ]
  refine wpAnyH_done (by kernel_rfl) ?_ _
  go_wp2
  go_ret3
  exact HR.out

end Go.Proofs.Ytdocpcaoelmlpaa

namespace Go.Proofs.Ytdocpcaoelmlpaa
open Go.RowKit Go.Lib
set_option linter.unusedVariables false

theorem offer_any (ah aw : Option Addr) (nh ch nw cw : Nat) (H : List Int) (X : List PO) (x : PO) (da va oa : Option Addr) (dc vc oc : Nat) (w : World) (hn : H.length = nh) (hl : nh ≤ 65536) (h64 : All64 H) (hr : RdI .i64 w ah H) (hnil : ah = none → H = [] ∧ ch = 0) (hz : X.length = nw) (h4 : nw ≤ 300) (hX : RdL w aw X) (hwn : aw = none → X = [] ∧ cw = 0) (h : LiesO w x da va oa dc vc oc) (hi : I64O x) :
    Calls Try.prog 9 #[.slice ah nh ch, .slice aw nw cw, .agg (cellsO x da va oa dc vc oc)] w fun e w' => GivesBuf w w' e (offerF H X x) := by
  obtain ⟨Z, rfl, hc, hw⟩ := hX
  rw [List.length_map] at hz
  have hwn' : aw = none → Z = [] ∧ cw = 0 := fun h => by obtain ⟨h1, h2⟩ := hwn h; exact ⟨by simpa using h1, h2⟩
  unfold offerF
  by_cases hk : chkB H (Z.map (·.2)) ≠ 0
  · rw [if_pos hk]
    exact offer_no ah aw nh ch nw cw H Z x da va oa dc vc oc w hn hl h64 hr hnil hz h4 hc hwn' hw h hi hk
  rw [if_neg hk]
  have hk' : chkB H (Z.map (·.2)) = 0 := Decidable.not_not.1 hk
  cases hh : hasD H x.dp x.dn with
  | true =>
    rw [Bool.true_or, if_pos rfl]
    exact offer_had ah aw nh ch nw cw H Z x da va oa dc vc oc w hn hl h64 hr hnil hz h4 hc hwn' hw h hi hk' hh
  | false =>
    rw [Bool.false_or]
    cases ht : (Z.map (·.2)).any (sameDot x) with
    | true =>
      rw [if_pos rfl]
      exact offer_twice ah aw nh ch nw cw H Z x da va oa dc vc oc w hn hl h64 hr hnil hz h4 hc hwn' hw h hi hk' hh ht
    | false =>
      rw [if_neg (by simp)]
      cases hcan : canP H x with
      | true =>
        rw [if_pos rfl]
        exact offer_can ah aw nh ch nw cw H Z x da va oa dc vc oc w hn hl h64 hr hnil hz h4 hc hwn' hw h hi hk' hh ht hcan
      | false =>
        rw [if_neg (by simp), List.length_map, hz]
        by_cases h40 : nw = 40
        · rw [if_pos h40]
          exact offer_full ah aw nh ch nw cw H Z x da va oa dc vc oc w hn hl h64 hr hnil hz h4 hc hwn' hw h hi hk' hh ht hcan h40
        · rw [if_neg h40]
          exact offer_early ah aw nh ch nw cw H Z x da va oa dc vc oc w hn hl h64 hr hnil hz h4 hc hwn' hw h hi hk' hh ht hcan h40

set_option maxRecDepth 100000 in
set_option maxHeartbeats 1000000 in
theorem again_any (ah aw : Option Addr) (nh ch nw cw : Nat) (H : List Int) (X : List PO) (w : World) (hn : H.length = nh) (hl : nh ≤ 65536) (h64 : All64 H) (hr : RdI .i64 w ah H) (hnil : ah = none → H = [] ∧ ch = 0) (hz : X.length = nw) (h4 : nw ≤ 300) (hX : RdL w aw X) :
    Calls Try.prog 14 #[.slice ah nh ch, .slice aw nw cw] w fun e w' => GivesBuf w w' e (againF H X) := by
  have C0 := bcheck_any ah aw nh ch nw cw H X w hn hl hr hz (by omega)
  unfold againF
  by_cases hk : chkB H X = 0
  · rw [if_neg (by simpa using hk)]
    rw [hk] at C0
    have hchk : chkD H = 0 := by
      unfold chkB at hk
      by_cases h0 : chkD H = 0
      · exact h0
      · rw [if_pos h0] at hk
        exact absurd hk h0
    obtain ⟨q1, q5, _⟩ := chkD_ok.1 hchk
    rw [hn] at q1 q5
    obtain ⟨Z, rfl, hc, hw⟩ := hX
    rw [List.length_map] at hz
    have CT := take_any ah aw nh ch nw cw H Z w hn q1 q5 h64 hr hnil hz (by omega) hc hw
    obtain ⟨TF, hTF⟩ : ∃ TF, TF = takeF H (Z.map (·.2)) := ⟨_, rfl⟩
    rw [← hTF] at CT ⊢
    clear hr hc hw hnil hz hn hk hchk q1 q5 hTF
    go_enter Try.func14, Try.ntmps14
    go_wp2_with fail
    refine C0.mono ?_
    rintro e w1 ⟨rfl, hw1⟩
    subst w1
    clear C0
    go_wp2_with fail
    refine CT.mono ?_
    rintro e w7 ⟨a1, n1, c1, a2, n2, c2, rfl, g1, g2, g3, g4, g5, g6, g7, g8, g9⟩
    have HR : Hid (GivesBuf w w7 (.returned (.tuple #[.slice a1 n1 c1, .slice a2 n2 c2, .int .i64 0])) (TF.1, TF.2, 0)) := ⟨a1, n1, c1, a2, n2, c2, rfl, g1, g2, g3, g4, g5, g6, g7, g8, g9⟩
    clear CT g1 g2 g3 g4 g5 g6 g7 g8 g9
    go_wp2
    go_ret3
    exact HR.out
  · rw [if_pos hk]
    have hcb : (chkB H X != 0) = true := by simpa using hk
    clear hr hX hnil hz hn
    generalize chkB H X = c at *
    clear hk
    go_enter Try.func14, Try.ntmps14
    go_wp2_with fail
    refine C0.mono ?_
    rintro e w1 ⟨rfl, hw1⟩
    subst w1
    clear C0
    go_wp2
    go_ret3
    exact GivesBuf.of_no rfl (Below.refl _ _)

end Go.Proofs.Ytdocpcaoelmlpaa

namespace Go.Proofs.Ytdocpcaoelmlpaa
open Go.RowKit Go.Lib
set_option linter.unusedVariables false

/-- A row of operations of the call's own, their lists in other blocks. -/
def RowO (w : World) (B : Nat) (v : Value) (Z : List (List Value × PO)) : Prop := OwnC w B v (Z.map (·.1)) ∧ ∀ z ∈ Z, LiesX (fun b => v.ownBlock = some b) w z.1 z.2

theorem RowO.nought (w : World) (B : Nat) : RowO w B (.slice none 0 0) [] := ⟨OwnC.nought _ _, fun z hz => by cases hz⟩

theorem RowO.later {w w' : World} {B : Nat} {v : Value} {Z : List (List Value × PO)} (h : RowO w B v Z) (hb : Below w.heap.size w w') : RowO w' B v Z := ⟨h.1.later hb, fun z hz => (h.2 z hz).later hb⟩

theorem RowO.grow {w w' : World} {B : Nat} {v v' : Value} {Z Y : List (List Value × PO)} (h : RowO w B v Z) (hY : ∀ z ∈ Y, LiesX (fun b => v.ownBlock = some b) w z.1 z.2) (ho : OwnC w' B v' (Z.map (·.1) ++ Y.map (·.1))) (hg : w.grownBy w' v.ownBlock) (hl : v'.ownBlock = v.ownBlock ∨ v'.ownBlock = some w.heap.size) : RowO w' B v' (Z ++ Y) := by
  refine ⟨by rw [List.map_append]; exact ho, fun z hz => ?_⟩
  have hz' : LiesX (fun b => v.ownBlock = some b) w z.1 z.2 := by
    rcases List.mem_append.1 hz with hz | hz
    · exact h.2 z hz
    · exact hY z hz
  have hsv : Sv (fun b => v.ownBlock = some b ∨ w.heap.size ≤ b) w w' := ⟨hg.os, hg.tape, hg.output, hg.size, fun b hb => hg.block b hb.1 (fun e => hb.2 (.inl e.symm))⟩
  refine (hz'.now.sv hsv).less fun b hb => ?_
  rcases hl with hl | hl
  · exact .inl (by rw [← hl]; exact hb)
  · rw [hl] at hb
    cases hb
    exact .inr (Nat.le_refl _)

theorem RowO.rdL {w : World} {B : Nat} {v : Value} {Z : List (List Value × PO)} (h : RowO w B v Z) : ∃ a cap, v = .slice a Z.length cap ∧ Z.length ≤ cap ∧ RdL w a (Z.map (·.2)) ∧ (a = none → Z.map (·.2) = [] ∧ cap = 0) := by
  obtain ⟨a, cap, e, h1, _, hr, hn⟩ := h.1.form
  rw [List.length_map] at e h1
  refine ⟨a, cap, e, h1, ⟨Z, rfl, hr, fun z hz => (h.2 z hz).less fun _ k => k.elim⟩, fun hh => ?_⟩
  obtain ⟨h1, h2⟩ := hn hh
  exact ⟨by rw [List.map_eq_nil_iff] at h1 ⊢; exact h1, h2⟩

theorem RdL.at_ {w : World} {a : Option Addr} {X : List PO} (h : RdL w a X) {i : Nat} (hi : i < X.length) : ∃ b off da va oa dc vc oc, a = some ⟨b, off, none⟩ ∧ (∀ j v, (cellsO X[i] da va oa dc vc oc)[j]? = some v → w.cell? ⟨b, off + i * 12 + j, none⟩ = some v) ∧ LiesO w X[i] da va oa dc vc oc ∧ I64O X[i] := by
  obtain ⟨Z, rfl, hc, hl⟩ := h
  have hi' : i < Z.length := by rw [List.length_map] at hi; exact hi
  obtain ⟨b, off, e, hk⟩ := hc (by rw [List.length_map]; omega)
  obtain ⟨da, va, oa, dc, vc, oc, hcs, hlo, h64, _⟩ := hl _ (List.getElem_mem hi')
  refine ⟨b, off, da, va, oa, dc, vc, oc, e, fun j v hj => ?_, ?_, ?_⟩
  · refine hk i (by rw [List.length_map]; exact hi') j v ?_
    rw [List.getElem_map, hcs]
    rw [List.getElem_map] at hj
    simpa using hj
  · rw [List.getElem_map]; exact hlo
  · rw [List.getElem_map]; exact h64

/-- The i-th operation of a peer, with all its own ahead of it. -/
def chX (n p i : Nat) : PO := ⟨p, (i : Int) + 1, (List.replicate n 0).set p (i : Int), 0, 0, 0, 1, 0, ⟨#[107]⟩, 0, [], []⟩

def chL (n p c : Nat) : List PO := (List.range c).map (chX n p)

theorem chL_length (n p c : Nat) : (chL n p c).length = c := by simp [chL]
theorem chL_at {n p c i : Nat} (h : i < (chL n p c).length) : (chL n p c)[i] = chX n p i := by simp [chL]

theorem in64_nat {k : Nat} (h : k ≤ 4294967296) : In64 (k : Int) := by unfold In64; omega

theorem chX_64 {n p i : Nat} (hn : n ≤ 5) (hp : p < n) (hi : i ≤ 65536) : I64O (chX n p i) := by
  refine ⟨fun x hx => ?_, in64_nat (by show p ≤ _; omega), (by show In64 ((i : Int) + 1); unfold In64; omega), ?_, (fun d hd => by cases hd), by show In64 0; unfold In64; omega, by show In64 0; unfold In64; omega⟩
  · rcases List.mem_or_eq_of_mem_set hx with hx | rfl
    · rw [List.eq_of_mem_replicate hx]; unfold In64; omega
    · exact in64_nat (by omega)
  · unfold S64 In64; simp [chX]

set_option maxRecDepth 100000 in
set_option maxHeartbeats 4000000 in
theorem chain_any (n p c : Nat) (w : World) (hn : n ≤ 5) (hp : p < n) (hc : c ≤ 300) :
    Calls Try.prog 12 #[.int .i64 (n : Int), .int .i64 (p : Int), .int .i64 (c : Int)] w fun e w' => ∃ a cap, e = .returned (.slice a c cap) ∧ c ≤ cap ∧ RdL w' a (chL n p c) ∧ (a = none → chL n p c = [] ∧ cap = 0) ∧ Below w.heap.size w w' := by
  go_enter Try.func12, Try.ntmps12
  go_wp2
  go_loopw [7, 8] (fun v i wr => ∃ (k : Nat) (Z : List (List Value × PO)) (a : Option Addr) (cap : Nat), k ≤ c ∧ v = .slice a k cap ∧ i = .int .i64 k ∧ Hid (Z.map (·.2) = chL n p k) ∧ Hid (RowO wr w.heap.size (.slice a k cap) Z) ∧ Hid (Below w.heap.size w wr)) (fun _ i _ => c - (RowKit.intOf i).toNat)
  case atStart => exact ⟨0, [], none, 0, Nat.zero_le _, rfl, rfl, rfl, RowO.nought _ _, Below.refl _ _⟩
  case round =>
    obtain ⟨k, Z, a, cap, hk, rfl, rfl, hZ, hR, hB⟩ := hrel
    have HZl : Hid (Z.length = k) := by
      have := congrArg List.length hZ.out
      rw [List.length_map, chL_length] at this
      exact this
    by_cases hlt : k < c
    · obtain ⟨w1, hmake, hO1, hB1⟩ := run_make_ints wr n (by omega)
      obtain ⟨c0, f0⟩ := hO1.at_ (k := p) (by rw [List.length_replicate]) hp
      obtain ⟨hO2, hB2, hge⟩ := hO1.put (by rw [List.length_replicate]) p (k : Int)
      have HO2 : Hid (OwnI (w1.setCell ⟨wr.heap.size, p, none⟩ (.int .i64 (k : Int))) wr.heap.size (.slice (some ⟨wr.heap.size, 0, none⟩) n n) ((List.replicate n 0).set p (k : Int))) := hO2
      have HB2 : Hid (Below wr.heap.size wr (w1.setCell ⟨wr.heap.size, p, none⟩ (.int .i64 (k : Int)))) := hB1.trans hB2
      generalize (List.replicate n (0 : Int))[p]'_ = u0 at c0
      clear hO1 hB1 hO2 hB2 hge
      obtain ⟨w2, hw2⟩ : ∃ x, w1.setCell ⟨wr.heap.size, p, none⟩ (.int .i64 (k : Int)) = x := ⟨_, rfl⟩
      have hb3 := alloc_below w2 (.cells #[.int .i64 (p : Int), .int .i64 ((k : Int) + 1), .slice (some ⟨wr.heap.size, 0, none⟩) n n, .int .i64 0, .int .i64 0, .int .i64 0, .int .i64 1, .int .i64 0, .string ⟨#[107]⟩, .int .i64 0, .slice none 0 0, .slice none 0 0] 32)
      rw [hw2] at HO2 HB2
      have hs2 : w2.heap.size = w1.heap.size := by rw [← hw2]; simp [World.setCell]
      have HK3 : CellsAt (w2.alloc (.cells #[.int .i64 (p : Int), .int .i64 ((k : Int) + 1), .slice (some ⟨wr.heap.size, 0, none⟩) n n, .int .i64 0, .int .i64 0, .int .i64 0, .int .i64 1, .int .i64 0, .string ⟨#[107]⟩, .int .i64 0, .slice none 0 0, .slice none 0 0] 32)) w1.heap.size #[.int .i64 (p : Int), .int .i64 ((k : Int) + 1), .slice (some ⟨wr.heap.size, 0, none⟩) n n, .int .i64 0, .int .i64 0, .int .i64 0, .int .i64 1, .int .i64 0, .string ⟨#[107]⟩, .int .i64 0, .slice none 0 0, .slice none 0 0] 32   := CellsAt.made hs2
      have HR3 := (hR.out.later HB2.out).later hb3
      have hlx : LiesX (fun b => (Value.slice a k cap).ownBlock = some b) (w2.alloc (.cells #[.int .i64 (p : Int), .int .i64 ((k : Int) + 1), .slice (some ⟨wr.heap.size, 0, none⟩) n n, .int .i64 0, .int .i64 0, .int .i64 0, .int .i64 1, .int .i64 0, .string ⟨#[107]⟩, .int .i64 0, .slice none 0 0, .slice none 0 0] 32)) [.int .i64 (p : Int), .int .i64 ((k : Int) + 1), .slice (some ⟨wr.heap.size, 0, none⟩) n n, .int .i64 0, .int .i64 0, .int .i64 0, .int .i64 1, .int .i64 0, .string ⟨#[107]⟩, .int .i64 0, .slice none 0 0, .slice none 0 0] (chX n p k) := by
        obtain ⟨_, _, e1, _, r1, _⟩ := HO2.out.form
        simp only [List.length_set, List.length_replicate, Value.slice.injEq] at e1
        obtain ⟨rfl, _, _⟩ := e1
        have hl : (chX n p k).deps.length = n := by simp [chX]
        refine ⟨some ⟨wr.heap.size, 0, none⟩, none, none, n, 0, 0, by rw [cellsO, hl]; rfl, ⟨r1.later hb3, RdV.nil _ _, RdD.nil _ _, by rw [hl]; omega, by simp [chX], by simp [chX], by rw [hl]; exact Nat.le_refl _, by simp [chX], by simp [chX], (fun h => by cases h), fun _ => ⟨rfl, rfl⟩, fun _ => ⟨rfl, rfl⟩, by show (1 : Nat) ≤ _; omega⟩, chX_64 hn hp (by omega), fun _ b o s e h => ?_, (fun h => by simp [chX] at h), (fun h => by simp [chX] at h)⟩
        cases e
        have := World.ownsRow.lt hR.out.1.2 _ h
        omega
      have hd : Dozen [[.int .i64 (p : Int), .int .i64 ((k : Int) + 1), .slice (some ⟨wr.heap.size, 0, none⟩) n n, .int .i64 0, .int .i64 0, .int .i64 0, .int .i64 1, .int .i64 0, .string ⟨#[107]⟩, .int .i64 0, .slice none 0 0, .slice none 0 0]] := fun u hu => by
        simp only [List.mem_singleton] at hu
        subst hu
        exact hlx.shape.dozen
      obtain ⟨v5, w5, hrun, ho5, hg5, hl5⟩ := run_append_ops (ty := 22) (cap := 1) (a := some ⟨w1.heap.size, 0, none⟩) HR3.1 (n := k) (by rw [List.length_map]; exact HZl.out) (m := 1) (N := [[.int .i64 (p : Int), .int .i64 ((k : Int) + 1), .slice (some ⟨wr.heap.size, 0, none⟩) n n, .int .i64 0, .int .i64 0, .int .i64 0, .int .i64 1, .int .i64 0, .string ⟨#[107]⟩, .int .i64 0, .slice none 0 0, .slice none 0 0]]) rfl hd (fun _ => ⟨w1.heap.size, 0, rfl, fun i hi j v hj => by
        have hi0 : i = 0 := by simpa using hi
        subst hi0
        simp only [List.getElem_cons_zero] at hj
        rw [Nat.zero_mul, Nat.add_zero, Nat.zero_add, HK3.cell j]
        simpa using hj⟩) (fun h => by cases h) (by omega) (by omega) (Nat.le_trans hB.out.size (Nat.le_trans HB2.out.size hb3.size))
      have hrow := HR3.grow (Y := [([.int .i64 (p : Int), .int .i64 ((k : Int) + 1), .slice (some ⟨wr.heap.size, 0, none⟩) n n, .int .i64 0, .int .i64 0, .int .i64 0, .int .i64 1, .int .i64 0, .string ⟨#[107]⟩, .int .i64 0, .slice none 0 0, .slice none 0 0], chX n p k)]) (fun z hz => by
        simp only [List.mem_singleton] at hz
        subst hz
        exact hlx) ho5 hg5 hl5
      obtain ⟨a5, c5, e5, h5, _, _⟩ := hrow.rdL
      rw [List.length_append, List.length_singleton, HZl.out] at e5
      subst e5
      have HR5 : Hid (RowO w5 w.heap.size (.slice a5 (k + 1) c5) (Z ++ [([.int .i64 (p : Int), .int .i64 ((k : Int) + 1), .slice (some ⟨wr.heap.size, 0, none⟩) n n, .int .i64 0, .int .i64 0, .int .i64 0, .int .i64 1, .int .i64 0, .string ⟨#[107]⟩, .int .i64 0, .slice none 0 0, .slice none 0 0], chX n p k)])) := hrow
      have HZ5 : Hid ((Z ++ [(([.int .i64 (p : Int), .int .i64 ((k : Int) + 1), .slice (some ⟨wr.heap.size, 0, none⟩) n n, .int .i64 0, .int .i64 0, .int .i64 0, .int .i64 1, .int .i64 0, .string ⟨#[107]⟩, .int .i64 0, .slice none 0 0, .slice none 0 0] : List Value), chX n p k)]).map (·.2) = chL n p (k + 1)) := by
        show _ = _
        rw [List.map_append, hZ.out]
        unfold chL
        rw [List.range_succ, List.map_append]
        rfl
      have HB5 : Hid (Below w.heap.size w w5) := (hB.out.trans ((HB2.out.trans (hb3.mono HB2.out.size)).mono hB.out.size)).grown hg5 (Nat.le_trans hB.out.size (Nat.le_trans HB2.out.size hb3.size)) (fun j hj => (World.ownsRow.lt HR3.1.2 j hj).1)
      clear HR3 hlx hd ho5 hg5 hl5 hrow hb3 HK3 hR hB hZ h5 hs2
      subst hw2
      have pp0 : (0 : Int) ≤ (p : Int) := by omega
      have pp1 : (p : Int) < (n : Int) := by omega
      go_wp2_with (at_builtin; refine wpList_append_run rfl _ _ 22 22 rfl _ _ _ _ rfl rfl hrun ?_)
      go_roundw
      case rel => exact ⟨k + 1, _, a5, c5, by omega, rfl, by go_num, HZ5, HR5, HB5⟩
      case measure => simp [RowKit.intOf]; omega
    · obtain rfl : k = c := by omega
      obtain ⟨a9, c9, e9, h9, r9, n9⟩ := hR.out.rdL
      rw [HZl.out] at e9 h9
      cases e9
      rw [hZ.out] at r9 n9
      have H9 : Hid (RdL wr a (chL n p k) ∧ (a = none → chL n p k = [] ∧ cap = 0)) := ⟨r9, n9⟩
      clear r9 n9 hR hZ
      go_wp2
      go_ret
      exact ⟨a, cap, rfl, h9, H9.out.1, H9.out.2, hB.out⟩

end Go.Proofs.Ytdocpcaoelmlpaa

namespace Go.Proofs.Ytdocpcaoelmlpaa
open Go.RowKit Go.Lib
set_option linter.unusedVariables false

/-- An operation that has nothing but a dot, and what was had. -/
def bareX (p d : Int) (H : List Int) : PO := ⟨p, d, H, 0, 0, 0, 0, 0, ⟨#[]⟩, 0, [], []⟩

theorem bare_lies {W : World} {b n c : Nat} {p d : Int} {H : List Int} (hn : H.length = n) (hc : n ≤ c) (hl : n ≤ 65536) (h : RdI .i64 W (some ⟨b, 0, none⟩) H) : LiesO W (bareX p d H) (some ⟨b, 0, none⟩) none none c 0 0 :=
  ⟨h, RdV.nil _ _, RdD.nil _ _, by show H.length ≤ _; omega, Nat.zero_le _, Nat.zero_le _, by show H.length ≤ _; omega, Nat.le_refl _, Nat.le_refl _, (fun h => by cases h), fun _ => ⟨rfl, rfl⟩, fun _ => ⟨rfl, rfl⟩, Nat.zero_le _⟩

theorem bare_64 {p d : Int} {H : List Int} (hp : In64 p) (hd : In64 d) (h : All64 H) : I64O (bareX p d H) :=
  ⟨h, hp, hd, by unfold S64 In64; simp [bareX], (fun d hd => by cases hd), by show In64 0; unfold In64; omega, by show In64 0; unfold In64; omega⟩

theorem rdI_lit1 {W : World} {b : Nat} {x : Int} (h : CellsAt W b #[.int .i64 x] 3) : RdI .i64 W (some ⟨b, 0, none⟩) [x] := fun _ => ⟨b, 0, rfl, fun i hi => by
  have : i = 0 := by simpa using hi
  subst this
  rw [h.cell]
  rfl⟩

theorem rdI_lit2 {W : World} {b : Nat} {x y : Int} (h : CellsAt W b #[.int .i64 x, .int .i64 y] 3) : RdI .i64 W (some ⟨b, 0, none⟩) [x, y] := fun _ => ⟨b, 0, rfl, fun i hi => by
  have : i = 0 ∨ i = 1 := by simp at hi; omega
  rcases this with rfl | rfl <;> (rw [h.cell]; rfl)⟩

theorem all64_small {H : List Int} (h : ∀ x ∈ H, -4294967296 ≤ x ∧ x ≤ 4294967296) : All64 H := fun x hx => in64 (h x hx)

/-- A slice's length is that of the list. -/
theorem GivesBuf.parts {w w' : World} {e : Ending} {r : List PO × List PO × Int} (h : GivesBuf w w' e r) :
    ∃ a1 c1 a2 c2, e = .returned (.tuple #[.slice a1 r.1.length c1, .slice a2 r.2.1.length c2, .int .i64 r.2.2]) ∧ r.1.length ≤ c1 ∧ r.2.1.length ≤ c2 ∧ Hid ((a1 = none → r.1 = [] ∧ c1 = 0) ∧ (a2 = none → r.2.1 = [] ∧ c2 = 0) ∧ RdL w' a1 r.1 ∧ RdL w' a2 r.2.1 ∧ Below w.heap.size w w') := by
  obtain ⟨a1, n1, c1, a2, n2, c2, he, rfl, rfl, h1, h2, h3⟩ := h
  exact ⟨a1, c1, a2, c2, he, h1, h2, h3.1, h3.2.1, h3.2.2.1.rdL, h3.2.2.2.1.rdL, h3.2.2.2.2⟩

theorem GivesBuf.partsF {w w' : World} {e : Ending} {r : List PO × List PO × Int} (h : GivesBuf w w' e r) :
    ∃ a1 c1 a2 c2, e = .returned (.tuple #[.slice a1 r.1.length c1, .slice a2 r.2.1.length c2, .int .i64 r.2.2]) ∧ r.1.length ≤ c1 ∧ r.2.1.length ≤ c2 ∧ Hid ((a1 = none → r.1 = [] ∧ c1 = 0) ∧ (a2 = none → r.2.1 = [] ∧ c2 = 0) ∧ RdF w.heap.size w' a1 r.1 ∧ RdF w.heap.size w' a2 r.2.1 ∧ Below w.heap.size w w') := by
  obtain ⟨a1, n1, c1, a2, n2, c2, he, rfl, rfl, h1, h2, h3⟩ := h
  exact ⟨a1, c1, a2, c2, he, h1, h2, h3⟩

set_option maxRecDepth 100000 in
set_option maxHeartbeats 4000000 in
theorem bwakes_any (w : World) : Calls Try.prog 11 #[] w fun e w' => e = .returned (.bool true) ∧ Below w.heap.size w w' := by
  obtain ⟨W5, hW5⟩ : ∃ W5, W5 = (((((w.alloc (.cells #[.int .i64 0] 3)).alloc (.cells #[.int .i64 1] 3)).alloc (.cells #[.int .i64 0, .int .i64 1, .slice (some ⟨w.heap.size, 0, none⟩) 1 1, .int .i64 0, .int .i64 0, .int .i64 0, .int .i64 0, .int .i64 0, .string ⟨#[]⟩, .int .i64 0, .slice none 0 0, .slice none 0 0] 32)).alloc (.cells #[.int .i64 0, .int .i64 2, .slice (some ⟨w.heap.size + 1, 0, none⟩) 1 1, .int .i64 0, .int .i64 0, .int .i64 0, .int .i64 0, .int .i64 0, .string ⟨#[]⟩, .int .i64 0, .slice none 0 0, .slice none 0 0] 32)).alloc (.cells #[.int .i64 0] 3)) := ⟨_, rfl⟩
  have k1 : CellsAt W5 w.heap.size #[.int .i64 0] 3 := by
    rw [hW5]
    exact ((((CellsAt.made rfl).later (alloc_below _ _)).later (alloc_below _ _)).later (alloc_below _ _)).later (alloc_below _ _)
  have k2 : CellsAt W5 (w.heap.size + 1) #[.int .i64 1] 3 := by
    rw [hW5]
    exact (((CellsAt.made (by simp)).later (alloc_below _ _)).later (alloc_below _ _)).later (alloc_below _ _)
  have k3 : CellsAt W5 (w.heap.size + 1 + 1) #[.int .i64 0, .int .i64 1, .slice (some ⟨w.heap.size, 0, none⟩) 1 1, .int .i64 0, .int .i64 0, .int .i64 0, .int .i64 0, .int .i64 0, .string ⟨#[]⟩, .int .i64 0, .slice none 0 0, .slice none 0 0] 32 := by
    rw [hW5]
    exact ((CellsAt.made (by simp)).later (alloc_below _ _)).later (alloc_below _ _)
  have k5 : CellsAt W5 (w.heap.size + 1 + 1 + 1 + 1) #[.int .i64 0] 3 := by
    rw [hW5]
    exact CellsAt.made (by simp)
  have hb : Below w.heap.size w W5 := by
    rw [hW5]
    exact chain (alloc_below _ _) (chain (alloc_below _ _) (chain (alloc_below _ _) (chain (alloc_below _ _) (alloc_below _ _))))
  have C1 := offer_any (some ⟨w.heap.size + 1 + 1 + 1 + 1, 0, none⟩) none 1 1 0 0 [0] [] (bareX 0 2 [1]) (some ⟨w.heap.size + 1, 0, none⟩) none none 1 0 0 W5 rfl (by omega) (all64_small (by simp)) (rdI_lit1 k5) (fun h => by cases h) rfl (by omega) (RdL.nil _ _) (fun _ => ⟨rfl, rfl⟩) (bare_lies rfl (by simp) (by simp) (rdI_lit1 k2)) (bare_64 (by unfold In64; omega) (by unfold In64; omega) (all64_small (by simp)))
  rw [show offerF [0] [] (bareX 0 2 [1]) = ([], [bareX 0 2 [1]], 9) from by rfl] at C1
  have HK1 : Hid (CellsAt W5 w.heap.size #[.int .i64 0] 3) := k1
  have HK3 : Hid (CellsAt W5 (w.heap.size + 1 + 1) #[.int .i64 0, .int .i64 1, .slice (some ⟨w.heap.size, 0, none⟩) 1 1, .int .i64 0, .int .i64 0, .int .i64 0, .int .i64 0, .int .i64 0, .string ⟨#[]⟩, .int .i64 0, .slice none 0 0, .slice none 0 0] 32) := k3
  have HB : Hid (Below w.heap.size w W5) := hb
  have HW : Hid (W5 = _) := hW5
  simp only [cellsO, bareX, List.length_cons, List.length_nil, Nat.zero_add] at C1
  clear k1 k2 k3 k5 hb hW5
  go_enter Try.func11, Try.ntmps11
  go_wp2_with fail
  rw [← HW.out]
  refine C1.mono ?_
  rintro e w6 h6
  obtain ⟨a1, c1, a2, c2, rfl, l1, l2, h6⟩ := h6.parts
  simp only [List.length_cons, List.length_nil, Nat.zero_add]
  have B6 : Hid (Below w.heap.size w w6) := chain HB.out h6.out.2.2.2.2
  have hb7 := alloc_below w6 (.cells #[.int .i64 0] 3)
  have HK1' := HK1.out.later (chain h6.out.2.2.2.2 hb7)
  obtain ⟨y0, y1, y2, y3, y4, y5, y6, y7, y8, y9, y10, y11⟩ := cells12 (HK3.out.later (chain h6.out.2.2.2.2 hb7))
  have C2 := offer_any (some ⟨w6.heap.size, 0, none⟩) a2 1 1 1 c2 [0] [bareX 0 2 [1]] (bareX 0 1 [0]) (some ⟨w.heap.size, 0, none⟩) none none 1 0 0 (w6.alloc (.cells #[.int .i64 0] 3)) rfl (by omega) (all64_small (by simp)) (rdI_lit1 (CellsAt.made rfl)) (fun h => by cases h) rfl (by omega) (h6.out.2.2.2.1.later hb7) h6.out.2.1 (bare_lies rfl (by simp) (by simp) (rdI_lit1 HK1')) (bare_64 (by unfold In64; omega) (by unfold In64; omega) (all64_small (by simp)))
  rw [show offerF [0] [bareX 0 2 [1]] (bareX 0 1 [0]) = ([bareX 0 1 [0], bareX 0 2 [1]], [], 0) from by rfl] at C2
  simp only [cellsO, bareX, List.length_cons, List.length_nil, Nat.zero_add] at C2
  have B7 : Hid (Below w.heap.size w (w6.alloc (.cells #[.int .i64 0] 3))) := chain B6.out hb7
  clear C1 HK1 HK3 HK1' h6 hb7 B6 HB HW
  go_wp2_with fail
  refine C2.mono ?_
  rintro e w7 h7
  obtain ⟨a3, c3, a4, c4, rfl, l3, l4, h7⟩ := h7.parts
  simp only [List.length_cons, List.length_nil, Nat.zero_add]
  have B8 : Hid (Below w.heap.size w w7) := chain B7.out h7.out.2.2.2.2
  obtain ⟨b, off, da, va, oa, dc, vc, oc, rfl, hcs, _⟩ := h7.out.2.2.1.at_ (i := 1) (by simp)
  have z1 := hcs 1 _ rfl
  clear C2 h7 hcs B7 y0 y1 y2 y3 y4 y5 y6 y7 y8 y9 y10 y11
  go_wp2
  go_ret
  exact ⟨rfl, B8.out⟩

end Go.Proofs.Ytdocpcaoelmlpaa

namespace Go.Proofs.Ytdocpcaoelmlpaa
set_option linter.unusedVariables false

theorem tkL_mid {m : Nat} {H : List Int} {A B : List PO} {x : PO} (hA : ∀ y ∈ A, canP H y = false) (hx : canP H x = true) :
    tkL (m + 1) H (A ++ x :: B) = (x :: (tkL m (H.set x.dp.toNat x.dn) (A ++ B)).1, (tkL m (H.set x.dp.toNat x.dn) (A ++ B)).2) := by
  have hl : A.length < (A ++ x :: B).length := by simp
  have hg : (A ++ x :: B)[A.length]? = some x := by simp
  have hf : (List.range (A ++ x :: B).length).find? (fun k => ((A ++ x :: B)[k]?.map (canP H)).getD false) = some A.length := by
    refine find_range_some hl ?_ fun i hi => ?_
    · rw [hg]; simpa using hx
    · rw [List.getElem?_append_left hi, List.getElem?_eq_getElem hi]
      simpa using hA _ (List.getElem_mem hi)
  rw [tkL, hf]
  simp only [hg]
  have e : (A ++ x :: B).take A.length ++ (A ++ x :: B).drop (A.length + 1) = A ++ B := by
    rw [List.take_left, List.drop_append, List.drop_of_length_le (by omega)]
    simp
  rw [e]

theorem tkL_none {m : Nat} {H : List Int} {X : List PO} (h : ∀ y ∈ X, canP H y = false) : tkL m H X = ([], H, X) := by
  cases m with
  | zero => rfl
  | succ m =>
    have hf : (List.range X.length).find? (fun k => (X[k]?.map (canP H)).getD false) = none := find_range_no fun i hi => by
      rw [List.getElem?_eq_getElem hi]
      simpa using h _ (List.getElem_mem hi)
    rw [tkL, hf]

/-- What is had of one peer alone. -/
def hv (n p j : Nat) : List Int := (List.replicate n 0).set p (j : Int)

theorem hv_length (n p j : Nat) : (hv n p j).length = n := by simp [hv]

theorem hv_at {n p j : Nat} (hp : p < n) : atD (hv n p j) (p : Int) = j := by
  unfold atD hv
  rw [Int.toNat_natCast, List.getElem?_set_self (by simpa using hp)]
  rfl

theorem hv_place {n p j : Nat} (hp : p < n) : placeD (hv n p j) (p : Int) = true := by
  unfold placeD
  rw [hv_length]
  simp
  omega

theorem hv_le {n p i j : Nat} (hp : p < n) : leD (hv n p i) (hv n p j) = decide (i ≤ j) := by
  rw [Bool.eq_iff_iff, leD_iff, decide_eq_true_eq]
  constructor
  · rintro ⟨_, h⟩
    have := h p (by rw [hv_length]; exact hp) (by rw [hv_length]; exact hp)
    simp [hv] at this
    exact this
  · intro h
    refine ⟨by rw [hv_length, hv_length], fun q h1 h2 => ?_⟩
    rw [hv_length] at h1
    by_cases e : p = q
    · subst e; simp [hv]; exact h
    · simp [hv, e]

theorem canP_ch {n p i j : Nat} (hp : p < n) : canP (hv n p j) (chX n p i) = decide (i = j) := by
  unfold canP
  show (nextD (hv n p j) (p : Int) ((i : Int) + 1) && leD (hv n p i) (hv n p j)) = _
  unfold nextD
  rw [hv_place hp, hv_at hp, hv_le hp, Bool.true_and, Bool.eq_iff_iff]
  simp
  omega

theorem hasD_ch {n p i j : Nat} (hp : p < n) : hasD (hv n p j) (chX n p i).dp (chX n p i).dn = decide (i < j) := by
  show hasD (hv n p j) (p : Int) ((i : Int) + 1) = _
  unfold hasD
  rw [hv_place hp, hv_at hp, Bool.true_and, Bool.eq_iff_iff]
  simp
  omega

theorem sameDot_ch {n p i k : Nat} : sameDot (chX n p i) (chX n p k) = decide (k = i) := by
  unfold sameDot chX
  rw [Bool.eq_iff_iff]
  simp
  omega

theorem hv_set {n p j k : Nat} : (hv n p j).set (chX n p k).dp.toNat (chX n p k).dn = hv n p (k + 1) := by
  show ((List.replicate n 0).set p (j : Int)).set ((p : Int)).toNat ((k : Int) + 1) = (List.replicate n 0).set p ((k + 1 : Nat) : Int)
  rw [Int.toNat_natCast, List.set_set]
  congr 1

theorem hv_64 {n p j : Nat} (hj : j ≤ 65536) : All64 (hv n p j) := fun x hx => by
  rcases List.mem_or_eq_of_mem_set hx with hx | rfl
  · rw [List.eq_of_mem_replicate hx]; unfold In64; omega
  · exact in64_nat (by omega)

theorem hv_chk {n p j : Nat} (h1 : 1 ≤ n) (h5 : n ≤ 5) (hj : j ≤ 65536) : chkD (hv n p j) = 0 := by
  rw [chkD_ok]
  refine ⟨by rw [hv_length]; exact h1, by rw [hv_length]; exact h5, ?_⟩
  unfold rightD
  rw [List.all_eq_true]
  intro x hx
  rcases List.mem_or_eq_of_mem_set hx with hx | rfl
  · rw [List.eq_of_mem_replicate hx]; simp
  · simp; omega

theorem hv_zero {n p : Nat} : List.replicate n (0 : Int) = hv n p 0 := by
  unfold hv
  apply List.ext_getElem
  · simp
  · intro i h1 h2
    by_cases e : p = i
    · subst e; simp
    · simp

/-- Those from c on, counted down, that wait. -/
def dnL (n p : Nat) : Nat → Nat → List PO
  | _, 0 => []
  | j, m + 1 => dnL n p (j + 1) m ++ [chX n p j]

theorem dnL_length (n p : Nat) : ∀ m j, (dnL n p j m).length = m
  | 0, _ => rfl
  | m + 1, j => by rw [dnL, List.length_append, dnL_length n p m]; rfl

theorem dnL_mem {n p : Nat} : ∀ {m j : Nat} {y : PO}, y ∈ dnL n p j m → ∃ i, j ≤ i ∧ i < j + m ∧ y = chX n p i
  | 0, _, _, h => by cases h
  | m + 1, j, y, h => by
    rw [dnL, List.mem_append] at h
    rcases h with h | h
    · obtain ⟨i, h1, h2, h3⟩ := dnL_mem h
      exact ⟨i, by omega, by omega, h3⟩
    · simp only [List.mem_singleton] at h
      exact ⟨j, Nat.le_refl _, by omega, h⟩

/-- All that wait go, one behind the other. -/
theorem tkL_dn {n p : Nat} (hp : p < n) : ∀ (m j : Nat), tkL m (hv n p j) (dnL n p j m) = ((List.range' j m).map (chX n p), hv n p (j + m), [])
  | 0, j => by simp [dnL, tkL]
  | m + 1, j => by
    rw [dnL, tkL_mid (B := []) (fun y hy => ?_) (by rw [canP_ch hp]; simp), hv_set, List.append_nil, tkL_dn hp m (j + 1), List.range'_succ, List.map_cons, show j + 1 + m = j + (m + 1) by omega]
    obtain ⟨i, h1, _, rfl⟩ := dnL_mem hy
    rw [canP_ch hp]
    simp
    omega

/-- An offer of one that has to wait. -/
theorem offer_waits {n p i : Nat} {W : List PO} (h1 : 1 ≤ n) (h5 : n ≤ 5) (hp : p < n) (hi : 1 ≤ i) (hW : ∀ y ∈ W, ∃ k, k ≠ i ∧ y = chX n p k) (hl : W.length < 40) : offerF (hv n p 0) W (chX n p i) = ([], W ++ [chX n p i], 9) := by
  unfold offerF
  have hc : chkB (hv n p 0) W = 0 := by unfold chkB; rw [if_neg (by rw [hv_chk h1 h5 (by omega)]; simp), if_neg (by omega)]
  have hs : W.any (sameDot (chX n p i)) = false := by
    rw [List.any_eq_false]
    intro y hy
    obtain ⟨k, hk, rfl⟩ := hW y hy
    rw [sameDot_ch]
    simpa using hk
  rw [if_neg (by rw [hc]; simp), hasD_ch hp, hs, if_neg (by simp), canP_ch hp, if_neg (by simp; omega), if_neg (by omega)]

/-- The first one comes last. -/
theorem offer_first {n p m : Nat} (h1 : 1 ≤ n) (h5 : n ≤ 5) (hp : p < n) (hm : m ≤ 40) : offerF (hv n p 0) (dnL n p 1 m) (chX n p 0) = (chL n p (m + 1), [], 0) := by
  unfold offerF
  have hc : chkB (hv n p 0) (dnL n p 1 m) = 0 := by unfold chkB; rw [if_neg (by rw [hv_chk h1 h5 (by omega)]; simp), if_neg (by rw [dnL_length]; omega)]
  have hs : (dnL n p 1 m).any (sameDot (chX n p 0)) = false := by
    rw [List.any_eq_false]
    intro y hy
    obtain ⟨k, hk, _, rfl⟩ := dnL_mem hy
    rw [sameDot_ch]
    simp
    omega
  have ht : tkL (chX n p 0 :: dnL n p 1 m).length (hv n p 0) (chX n p 0 :: dnL n p 1 m) = (chL n p (m + 1), hv n p (1 + m), []) := by
    rw [List.length_cons, dnL_length]
    have := tkL_mid (m := m) (A := []) (B := dnL n p 1 m) (H := hv n p 0) (x := chX n p 0) (fun y hy => by cases hy) (by rw [canP_ch hp]; rfl)
    rw [List.nil_append, List.nil_append] at this
    rw [this, hv_set, tkL_dn hp m 1]
    have e : chL n p (m + 1) = chX n p 0 :: (List.range' 1 m).map (chX n p) := by
      unfold chL
      rw [List.range_eq_range', List.range'_succ, List.map_cons]
    rw [e]
  rw [if_neg (by rw [hc]; simp), hasD_ch hp, hs, if_neg (by simp), canP_ch hp, if_pos (by simp)]
  unfold takeF
  rw [ht]
  rfl

end Go.Proofs.Ytdocpcaoelmlpaa

namespace Go.Proofs.Ytdocpcaoelmlpaa
set_option linter.unusedVariables false

/-- Those from j on, in their order. -/
def upL (n p j m : Nat) : List PO := (List.range' j m).map (chX n p)

theorem upL_length (n p j m : Nat) : (upL n p j m).length = m := by simp [upL]

theorem upL_mem {n p j m : Nat} {y : PO} (h : y ∈ upL n p j m) : ∃ i, j ≤ i ∧ i < j + m ∧ y = chX n p i := by
  unfold upL at h
  obtain ⟨i, hi, rfl⟩ := List.mem_map.1 h
  rw [List.mem_range'_1] at hi
  exact ⟨i, hi.1, hi.2, rfl⟩

theorem upL_snoc (n p j m : Nat) : upL n p j m ++ [chX n p (j + m)] = upL n p j (m + 1) := by
  unfold upL
  rw [List.range'_concat, List.map_append]
  simp

theorem upL_cons (n p j m : Nat) : chX n p j :: upL n p (j + 1) m = upL n p j (m + 1) := by
  unfold upL
  rw [List.range'_succ, List.map_cons]

theorem tkL_up {n p : Nat} (hp : p < n) : ∀ (m j : Nat), tkL m (hv n p j) (upL n p j m) = (upL n p j m, hv n p (j + m), [])
  | 0, j => by simp [upL, tkL]
  | m + 1, j => by
    rw [← upL_cons]
    have := tkL_mid (m := m) (A := []) (B := upL n p (j + 1) m) (H := hv n p j) (x := chX n p j) (fun y hy => by cases hy) (by rw [canP_ch hp]; simp)
    rw [List.nil_append, List.nil_append] at this
    rw [this, hv_set, tkL_up hp m (j + 1), show j + 1 + m = j + (m + 1) by omega]

theorem chkB_hv {n p j : Nat} {W : List PO} (h1 : 1 ≤ n) (h5 : n ≤ 5) (hj : j ≤ 65536) (hl : W.length ≤ 40) : chkB (hv n p j) W = 0 := by
  unfold chkB
  rw [if_neg (by rw [hv_chk h1 h5 hj]; simp), if_neg (by omega)]

theorem full_six {n p : Nat} (h1 : 1 ≤ n) (h5 : n ≤ 5) (hp : p < n) : offerF (hv n p 0) (upL n p 2 40) (chX n p 42) = ([], [], 6) := by
  have hs : (upL n p 2 40).any (sameDot (chX n p 42)) = false := by
    rw [List.any_eq_false]
    intro y hy
    obtain ⟨k, _, hk, rfl⟩ := upL_mem hy
    rw [sameDot_ch]
    simp
    omega
  unfold offerF
  rw [if_neg (by rw [chkB_hv h1 h5 (by omega) (by rw [upL_length]; omega)]; simp), hasD_ch hp, hs, if_neg (by simp), canP_ch hp, if_neg (by simp), if_pos (upL_length _ _ _ _)]

theorem full_eight {n p : Nat} (h1 : 1 ≤ n) (h5 : n ≤ 5) (hp : p < n) : offerF (hv n p 0) (upL n p 2 40) (chX n p 5) = ([], [], 8) := by
  have hs : (upL n p 2 40).any (sameDot (chX n p 5)) = true := by
    rw [List.any_eq_true]
    refine ⟨chX n p 5, List.mem_map.2 ⟨5, by simp [List.mem_range'_1], rfl⟩, by rw [sameDot_ch]; simp⟩
  unfold offerF
  rw [if_neg (by rw [chkB_hv h1 h5 (by omega) (by rw [upL_length]; omega)]; simp), hs, Bool.or_true, if_pos rfl]

theorem full_one {n p : Nat} (h1 : 1 ≤ n) (h5 : n ≤ 5) (hp : p < n) : offerF (hv n p 0) (upL n p 2 40) (chX n p 0) = ([chX n p 0], upL n p 2 40, 0) := by
  have hs : (upL n p 2 40).any (sameDot (chX n p 0)) = false := by
    rw [List.any_eq_false]
    intro y hy
    obtain ⟨k, hk, _, rfl⟩ := upL_mem hy
    rw [sameDot_ch]
    simp
    omega
  have h2 := tkL_mid (m := 40) (A := []) (B := upL n p 2 40) (H := hv n p 0) (x := chX n p 0) (fun y hy => by cases hy) (by rw [canP_ch hp]; simp)
  rw [List.nil_append, List.nil_append, hv_set, tkL_none (H := hv n p (0 + 1)) (X := upL n p 2 40) (fun y hy => by
    obtain ⟨k, hk, _, rfl⟩ := upL_mem hy
    rw [canP_ch hp]
    simp
    omega)] at h2
  have ht : takeF (hv n p 0) (chX n p 0 :: upL n p 2 40) = ([chX n p 0], upL n p 2 40) := by
    unfold takeF
    rw [List.length_cons, upL_length, h2]
    simp only [Prod.mk.injEq, true_and]
    rw [List.filter_eq_self]
    intro y hy
    obtain ⟨k, hk, _, rfl⟩ := upL_mem hy
    rw [hasD_ch hp]
    simp
    omega
  unfold offerF
  rw [if_neg (by rw [chkB_hv h1 h5 (by omega) (by rw [upL_length]; omega)]; simp), hasD_ch hp, hs, if_neg (by simp), canP_ch hp, if_pos (by simp), ht]

theorem full_all {n p : Nat} (h1 : 1 ≤ n) (h5 : n ≤ 5) (hp : p < n) : offerF (hv n p 1) (upL n p 2 40) (chX n p 1) = (upL n p 1 41, [], 0) := by
  have hs : (upL n p 2 40).any (sameDot (chX n p 1)) = false := by
    rw [List.any_eq_false]
    intro y hy
    obtain ⟨k, hk, _, rfl⟩ := upL_mem hy
    rw [sameDot_ch]
    simp
    omega
  have ht : takeF (hv n p 1) (chX n p 1 :: upL n p 2 40) = (upL n p 1 41, []) := by
    unfold takeF
    rw [show chX n p 1 :: upL n p 2 40 = upL n p 1 41 from upL_cons n p 1 40, upL_length, tkL_up hp]
    rfl
  unfold offerF
  rw [if_neg (by rw [chkB_hv h1 h5 (by omega) (by rw [upL_length]; omega)]; simp), hasD_ch hp, hs, if_neg (by simp), canP_ch hp, if_pos (by simp), ht]

end Go.Proofs.Ytdocpcaoelmlpaa

namespace Go.Proofs.Ytdocpcaoelmlpaa
open Go.RowKit Go.Lib
set_option linter.unusedVariables false

set_option maxRecDepth 100000 in
set_option maxHeartbeats 4000000 in
theorem keepOps_same (a a' : Option Addr) (n cap cap' : Nat) (X : List PO) (w : World) (hn : X.length = n) (h4 : n ≤ 1000) (h : RdL w a X) (h' : RdL w a' X) :
    Calls Try.prog 13 #[.slice a n cap, .slice a' n cap'] w fun e w' => e = .returned (.bool true) ∧ Below w.heap.size w w' := by
  have HN : Hid (X.length = n) := hn
  have H1 : Hid (RdL w a X) := h
  have H2 : Hid (RdL w a' X) := h'
  clear hn h h'
  go_enter Try.func13, Try.ntmps13
  go_wp2
  go_loopw [5] (fun i wr => ∃ k : Nat, k ≤ n ∧ i = .int .i64 k ∧ Hid (Below w.heap.size w wr)) (fun i _ => n - (RowKit.intOf i).toNat)
  case atStart => exact ⟨0, Nat.zero_le _, rfl, Below.refl _ _⟩
  case round =>
    obtain ⟨k, hk, rfl, hB⟩ := hrel
    by_cases hlt : k < n
    · have hkl : k < X.length := by rw [HN.out]; exact hlt
      obtain ⟨b1, o1, da, va, oa, dc, vc, oc, rfl, hc1, hl1, _⟩ := (H1.out.later hB.out).at_ hkl
      obtain ⟨b2, o2, da', va', oa', dc', vc', oc', rfl, hc2, hl2, _⟩ := (H2.out.later hB.out).at_ hkl
      have hs : sameO X[k] X[k] = true := (sameO_iff _ _).2 rfl
      have CK := fun V (hb : Below wr.heap.size wr V) => keepOp_any X[k] X[k] da va oa da' va' oa' dc vc oc dc' vc' oc' V (hl1.later hb) (hl2.later hb)
      rw [hs] at CK
      generalize X[k] = x at *
      obtain ⟨dp, dn, deps, sp, sl, sq, kind, table, key, col, vals, dots⟩ := x
      simp only [cellsO] at *
      have x0 := hc1 0 _ rfl
      have x1 := hc1 1 _ rfl
      have x2 := hc1 2 _ rfl
      have x3 := hc1 3 _ rfl
      have x4 := hc1 4 _ rfl
      have x5 := hc1 5 _ rfl
      have x6 := hc1 6 _ rfl
      have x7 := hc1 7 _ rfl
      have x8 := hc1 8 _ rfl
      have x9 := hc1 9 _ rfl
      have x10 := hc1 10 _ rfl
      have x11 := hc1 11 _ rfl
      have y0 := hc2 0 _ rfl
      have y1 := hc2 1 _ rfl
      have y2 := hc2 2 _ rfl
      have y3 := hc2 3 _ rfl
      have y4 := hc2 4 _ rfl
      have y5 := hc2 5 _ rfl
      have y6 := hc2 6 _ rfl
      have y7 := hc2 7 _ rfl
      have y8 := hc2 8 _ rfl
      have y9 := hc2 9 _ rfl
      have y10 := hc2 10 _ rfl
      have y11 := hc2 11 _ rfl
      rw [Nat.add_zero] at x0 y0
      have CK := fun (_ : Unit) => CK wr.drew (Below.refl _ _).drew
      have HBd : Hid (Below w.heap.size w wr.drew) := chain hB.out (Below.refl _ _).drew
      clear hc1 hc2 hl1 hl2 hs hB hkl
      generalize deps.length = m at *
      generalize vals.length = nv at *
      generalize dots.length = no at *
      have kk0 : (0 : Int) ≤ (k : Int) := by omega
      have kk1 : (k : Int) < (n : Int) := by omega
      go_wp2_with fail
      refine region_S (S := (fun w' => w'.cell? ⟨b1, o1 + k * 12, none⟩ = some (.int .i64 dp) ∧ w'.cell? ⟨b1, o1 + k * 12 + 1, none⟩ = some (.int .i64 dn) ∧ w'.cell? ⟨b1, o1 + k * 12 + 2, none⟩ = some (.slice da m dc) ∧ w'.cell? ⟨b1, o1 + k * 12 + 3, none⟩ = some (.int .i64 sp) ∧ w'.cell? ⟨b1, o1 + k * 12 + 4, none⟩ = some (.int .i64 sl) ∧ w'.cell? ⟨b1, o1 + k * 12 + 5, none⟩ = some (.int .i64 sq) ∧ w'.cell? ⟨b1, o1 + k * 12 + 6, none⟩ = some (.int .i64 kind) ∧ w'.cell? ⟨b1, o1 + k * 12 + 7, none⟩ = some (.int .i64 table) ∧ w'.cell? ⟨b1, o1 + k * 12 + 8, none⟩ = some (.string key) ∧ w'.cell? ⟨b1, o1 + k * 12 + 9, none⟩ = some (.int .i64 col) ∧ w'.cell? ⟨b1, o1 + k * 12 + 10, none⟩ = some (.slice va nv vc) ∧ w'.cell? ⟨b1, o1 + k * 12 + 11, none⟩ = some (.slice oa no oc) ∧ w'.cell? ⟨b2, o2 + k * 12, none⟩ = some (.int .i64 dp) ∧ w'.cell? ⟨b2, o2 + k * 12 + 1, none⟩ = some (.int .i64 dn) ∧ w'.cell? ⟨b2, o2 + k * 12 + 2, none⟩ = some (.slice da' m dc') ∧ w'.cell? ⟨b2, o2 + k * 12 + 3, none⟩ = some (.int .i64 sp) ∧ w'.cell? ⟨b2, o2 + k * 12 + 4, none⟩ = some (.int .i64 sl) ∧ w'.cell? ⟨b2, o2 + k * 12 + 5, none⟩ = some (.int .i64 sq) ∧ w'.cell? ⟨b2, o2 + k * 12 + 6, none⟩ = some (.int .i64 kind) ∧ w'.cell? ⟨b2, o2 + k * 12 + 7, none⟩ = some (.int .i64 table) ∧ w'.cell? ⟨b2, o2 + k * 12 + 8, none⟩ = some (.string key) ∧ w'.cell? ⟨b2, o2 + k * 12 + 9, none⟩ = some (.int .i64 col) ∧ w'.cell? ⟨b2, o2 + k * 12 + 10, none⟩ = some (.slice va' nv vc') ∧ w'.cell? ⟨b2, o2 + k * 12 + 11, none⟩ = some (.slice oa' no oc'))) 8 (by kernel_rfl) ⟨x0, x1, x2, x3, x4, x5, x6, x7, x8, x9, x10, x11, y0, y1, y2, y3, y4, y5, y6, y7, y8, y9, y10, y11⟩ (fun hHeld => ?_)
      refine sPure (v := ?_) 0 17 rfl rfl (by kernel_rfl) (by kernel_rfl) (by kernel_rfl) (by decide) (fun _ _ _ h => h) (by rfl) (fun w => ?_) (.inr (by assumption)) ?_
      rotate_left
      · first | (go_simp; done) | (go_simp; with_reducible rfl)
      simp only [List.setIfInBounds_toArray, List.set_cons_zero, List.set_cons_succ]
      refine sPure (v := ?_) 1 18 rfl rfl (by kernel_rfl) (by kernel_rfl) (by kernel_rfl) (by decide) (fun _ _ _ h => h) (by rfl) (fun w => ?_) (.inr (by assumption)) ?_
      rotate_left
      · first | (go_simp; done) | (go_simp; with_reducible rfl)
      simp only [List.setIfInBounds_toArray, List.set_cons_zero, List.set_cons_succ]
      refine sPure (v := ?_) 2 19 rfl rfl (by kernel_rfl) (by kernel_rfl) (by kernel_rfl) (by decide) (fun _ _ _ h => h) (by rfl) (fun w => ?_) (.inr (by assumption)) ?_
      rotate_left
      · first | (go_simp; done) | (go_simp; with_reducible rfl)
      simp only [List.setIfInBounds_toArray, List.set_cons_zero, List.set_cons_succ]
      refine sTake (v := ?_) 3 20 rfl rfl (by kernel_rfl) (by kernel_rfl) (by kernel_rfl) (by kernel_rfl) (by kernel_rfl) (fun _ _ _ h => h) (by rfl) (fun w hSw => ?_) (by assumption) ?_
      rotate_left
      · (try dsimp only at hSw); first | (go_simp; done) | (go_simp; with_reducible rfl)
      simp only [List.setIfInBounds_toArray, List.set_cons_zero, List.set_cons_succ]
      refine sPure (v := ?_) 4 21 rfl rfl (by kernel_rfl) (by kernel_rfl) (by kernel_rfl) (by decide) (fun _ _ _ h => h) (by rfl) (fun w => ?_) (.inr (by assumption)) ?_
      rotate_left
      · first | (go_simp; done) | (go_simp; with_reducible rfl)
      simp only [List.setIfInBounds_toArray, List.set_cons_zero, List.set_cons_succ]
      refine sPure (v := ?_) 5 22 rfl rfl (by kernel_rfl) (by kernel_rfl) (by kernel_rfl) (by decide) (fun _ _ _ h => h) (by rfl) (fun w => ?_) (.inr (by assumption)) ?_
      rotate_left
      · first | (go_simp; done) | (go_simp; with_reducible rfl)
      simp only [List.setIfInBounds_toArray, List.set_cons_zero, List.set_cons_succ]
      refine sPure (v := ?_) 6 23 rfl rfl (by kernel_rfl) (by kernel_rfl) (by kernel_rfl) (by decide) (fun _ _ _ h => h) (by rfl) (fun w => ?_) (.inr (by assumption)) ?_
      rotate_left
      · first | (go_simp; done) | (go_simp; with_reducible rfl)
      simp only [List.setIfInBounds_toArray, List.set_cons_zero, List.set_cons_succ]
      refine sTake (v := ?_) 7 24 rfl rfl (by kernel_rfl) (by kernel_rfl) (by kernel_rfl) (by kernel_rfl) (by kernel_rfl) (fun _ _ _ h => h) (by rfl) (fun w hSw => ?_) (by assumption) ?_
      rotate_left
      · (try dsimp only at hSw); first | (go_simp; done) | (go_simp; with_reducible rfl)
      simp only [List.setIfInBounds_toArray, List.set_cons_zero, List.set_cons_succ]
      refine sOne 8 rfl (by kernel_rfl) (by rfl) (fun K2 hK => ?_)
      go_simp
      refine (CK ()).mono ?_
      rintro e w2 ⟨rfl, hb2⟩
      have HB2 : Hid (Below w.heap.size w w2) := chain HBd.out hb2
      clear CK hb2
      simp only []
      refine hK.out _ _ ?_ (fun hHeld => ?_)
      · exact .inl (by rfl)
      clear hK K2 hHeld
      try simp only [List.setIfInBounds_toArray, List.set_cons_zero, List.set_cons_succ]
      refine sPure (v := ?_) 9 26 rfl rfl (by kernel_rfl) (by kernel_rfl) (by kernel_rfl) (by decide) (fun _ _ _ h => h) (by rfl) (fun w => ?_) (.inl (by rfl)) ?_
      rotate_left
      · first | (go_simp; done) | (go_simp; with_reducible rfl)
      simp only [List.setIfInBounds_toArray, List.set_cons_zero, List.set_cons_succ]
      refine sDone (by kernel_rfl) ?_ _
      go_wp2
      go_roundw
      case rel => exact ⟨k + 1, by omega, by go_num, HB2⟩
      case measure => simp [RowKit.intOf]; omega
    · obtain rfl : k = n := by omega
      go_wp2
      go_ret
      exact ⟨rfl, hB.out⟩

end Go.Proofs.Ytdocpcaoelmlpaa

namespace Go.Proofs.Ytdocpcaoelmlpaa
open Go.RowKit Go.Lib
set_option linter.unusedVariables false

theorem modUp (k : Int) (m : Nat) (h1 : 1 ≤ m) (h2 : m ≤ 1000) : ∃ j : Nat, (1 ≤ j ∧ j ≤ m) ∧ wrap64 (1 + wrap64 ((IntKind.u64.wrap k).tmod (m : Int))) = (j : Int) := by
  obtain ⟨j, hj, e⟩ := modPlace k m h1 h2
  rw [e, IntWalk.wrap64_in _ ⟨by omega, by omega⟩]
  exact ⟨1 + j, by omega, by omega⟩

theorem chX_cells (n p i : Nat) (da va oa : Option Addr) (dc vc oc : Nat) : cellsO (chX n p i) da va oa dc vc oc = #[.int .i64 (p : Int), .int .i64 ((i : Int) + 1), .slice da n dc, .int .i64 0, .int .i64 0, .int .i64 0, .int .i64 1, .int .i64 0, .string ⟨#[107]⟩, .int .i64 0, .slice va 0 vc, .slice oa 0 oc] := by
  unfold cellsO chX
  simp

set_option maxRecDepth 100000 in
set_option maxHeartbeats 8000000 in
theorem bback_walk (n0 p0 c0 : Int) (w : World) : Calls Try.prog 4 #[.int .i64 n0, .int .i64 p0, .int .i64 c0] w fun e w' => e = .returned (.bool true) ∧ Below w.heap.size w w' := by
  obtain ⟨n, ⟨n1, n5⟩, hne⟩ := modUp n0 5 (by omega) (by omega)
  obtain ⟨p, hp, hpe⟩ := modPlace p0 n n1 (by omega)
  obtain ⟨c, ⟨c1, c40⟩, hce⟩ := modUp c0 40 (by omega) (by omega)
  have un : IntKind.u64.wrap (n : Int) = (n : Int) := by rw [IntKind.wrap_u64]; omega
  have nz : ((n : Int) = 0) = False := by simp; omega
  have nz' : (n = 0) = False := by simp; omega
  have CC := chain_any n p c w n5 hp (by omega)
  have hne : wrap64 (1 + wrap64 ((IntKind.u64.wrap n0).tmod 5)) = (n : Int) := hne
  have hce : wrap64 (1 + wrap64 ((IntKind.u64.wrap c0).tmod 40)) = (c : Int) := hce
  go_enter Try.func4, Try.ntmps4
  go_wp2_with fail
  refine CC.mono ?_
  rintro e w1 ⟨a, cap, rfl, hcap, hl, hln, hb1⟩
  have HL : Hid (RdL w1 a (chL n p c)) := hl
  have HB1 : Hid (Below w.heap.size w w1) := hb1
  obtain ⟨w2, hmake, hO2, hB2⟩ := run_make_ints w1 n (by omega)
  rw [hv_zero (p := p)] at hO2
  have HH : Hid (RdI .i64 w2 (some ⟨w1.heap.size, 0, none⟩) (hv n p 0)) := by
    obtain ⟨_, _, e1, _, r1, _⟩ := hO2.form
    rw [hv_length] at e1
    cases e1
    exact r1
  have HB2 : Hid (Below w.heap.size w w2) := chain HB1.out hB2
  replace HL := (show Hid (RdL w2 a (chL n p c)) from HL.out.later hB2)
  clear CC hl hln hb1 hO2 hB2 HB1
  obtain ⟨h, hh⟩ : ∃ h, w1.heap.size = h := ⟨_, rfl⟩
  rw [hh] at HH hmake
  have ec : (c : Int) - 1 = ((c - 1 : Nat) : Int) := by omega
  go_wp2
  clear hne hce hpe un nz nz' hmake hh
  go_loopw [9, 10] (fun v i wr => ∃ (m : Nat) (aw : Option Addr) (cw : Nat), m ≤ c - 1 ∧ v = .slice aw (c - 1 - m) cw ∧ i = .int .i64 m ∧ c - 1 - m ≤ cw ∧ Hid (RdL wr aw (dnL n p (m + 1) (c - 1 - m))) ∧ Hid (aw = none → dnL n p (m + 1) (c - 1 - m) = [] ∧ cw = 0) ∧ Hid (Below w2.heap.size w2 wr)) (fun _ i _ => (RowKit.intOf i).toNat)
  case atStart => exact ⟨c - 1, none, 0, Nat.le_refl _, by rw [Nat.sub_self], rfl, by omega, by show RdL _ _ _; rw [Nat.sub_self]; exact RdL.nil _ _, by show _ → _; rw [Nat.sub_self]; exact fun _ => ⟨rfl, rfl⟩, Below.refl _ _⟩
  case round =>
    obtain ⟨m, aw, cw, hm, rfl, rfl, hcw, hR, hN, hB⟩ := hrel
    have hlen : (chL n p c).length = c := chL_length _ _ _
    by_cases h0 : 0 < m
    · obtain ⟨b, off, da, va, oa, dc, vc, oc, rfl, hcs, hlo, h64⟩ := (HL.out.later hB.out).at_ (i := m) (by rw [hlen]; omega)
      rw [chL_at] at hcs hlo h64
      have CO := offer_any (some ⟨h, 0, none⟩) aw n n (c - 1 - m) cw (hv n p 0) (dnL n p (m + 1) (c - 1 - m)) (chX n p m) da va oa dc vc oc wr (hv_length _ _ _) (by omega) (hv_64 (by omega)) (HH.out.later hB.out) (fun h => by cases h) (dnL_length _ _ _ _) (by omega) hR.out hN.out hlo h64
      rw [offer_waits n1 n5 hp h0 (fun y hy => by obtain ⟨k, h1, _, rfl⟩ := dnL_mem hy; exact ⟨k, by omega, rfl⟩) (by rw [dnL_length]; omega)] at CO
      rw [show dnL n p (m + 1) (c - 1 - m) ++ [chX n p m] = dnL n p m (c - m) from by rw [show c - m = (c - 1 - m) + 1 by omega]; rfl] at CO
      rw [chX_cells] at hcs CO
      have x0 := hcs 0 (.int .i64 (p : Int)) rfl
      have x1 := hcs 1 (.int .i64 ((m : Int) + 1)) rfl
      have x2 := hcs 2 (.slice da n dc) rfl
      have x3 := hcs 3 (.int .i64 0) rfl
      have x4 := hcs 4 (.int .i64 0) rfl
      have x5 := hcs 5 (.int .i64 0) rfl
      have x6 := hcs 6 (.int .i64 1) rfl
      have x7 := hcs 7 (.int .i64 0) rfl
      have x8 := hcs 8 (.string ⟨#[107]⟩) rfl
      have x9 := hcs 9 (.int .i64 0) rfl
      have x10 := hcs 10 (.slice va 0 vc) rfl
      have x11 := hcs 11 (.slice oa 0 oc) rfl
      rw [Nat.add_zero] at x0
      have HB : Hid (Below w2.heap.size w2 wr) := hB
      clear hcs hlo h64 hR hN hB hlen
      have mm0 : (0 : Int) ≤ (m : Int) := by omega
      have mm1 : (m : Int) < (c : Int) := by omega
      go_wp2_with fail
      refine CO.mono ?_
      rintro e w6 h6
      obtain ⟨a1, c1', a2, c2, rfl, l1, l2, h6⟩ := h6.parts
      simp only [List.length_nil, dnL_length] at l1 l2 ⊢
      have H6 : Hid (RdL w6 a2 (dnL n p m (c - m)) ∧ (a2 = none → dnL n p m (c - m) = [] ∧ c2 = 0) ∧ Below w2.heap.size w2 w6) := ⟨h6.out.2.2.2.1, h6.out.2.1, chain HB.out h6.out.2.2.2.2⟩
      have q1 : (((c - m : Nat) : Int) != (c : Int) - (m : Int)) = false := by rw [bne_eq_false_iff_eq]; omega
      have em : (m : Int) - 1 = ((m - 1 : Nat) : Int) := by omega
      clear CO h6 HB x0 x1 x2 x3 x4 x5 x6 x7 x8 x9 x10 x11
      go_wp2
      go_roundw
      case rel => exact ⟨m - 1, a2, c2, by omega, by rw [show c - 1 - (m - 1) = c - m by omega], by first | rfl | (rw [em]) | go_num, by omega, by rw [show m - 1 + 1 = m by omega, show c - 1 - (m - 1) = c - m by omega]; exact H6.out.1, by rw [show m - 1 + 1 = m by omega, show c - 1 - (m - 1) = c - m by omega]; exact H6.out.2.1, H6.out.2.2⟩
      case measure => simp [RowKit.intOf]; omega
    · obtain rfl : m = 0 := by omega
      obtain ⟨b, off, da, va, oa, dc, vc, oc, rfl, hcs, hlo, h64⟩ := (HL.out.later hB.out).at_ (i := 0) (by rw [hlen]; omega)
      rw [chL_at] at hcs hlo h64
      have CO := offer_any (some ⟨h, 0, none⟩) aw n n (c - 1 - 0) cw (hv n p 0) (dnL n p (0 + 1) (c - 1 - 0)) (chX n p 0) da va oa dc vc oc wr (hv_length _ _ _) (by omega) (hv_64 (by omega)) (HH.out.later hB.out) (fun h => by cases h) (dnL_length _ _ _ _) (by omega) hR.out hN.out hlo h64
      rw [Nat.zero_add, Nat.sub_zero, offer_first n1 n5 hp (by omega), show c - 1 + 1 = c by omega, chX_cells, show (((0 : Nat) : Int) + 1) = 1 from rfl] at CO
      rw [chX_cells] at hcs
      have x0 := hcs 0 (.int .i64 (p : Int)) rfl
      have x1 := hcs 1 (.int .i64 1) rfl
      have x2 := hcs 2 (.slice da n dc) rfl
      have x3 := hcs 3 (.int .i64 0) rfl
      have x4 := hcs 4 (.int .i64 0) rfl
      have x5 := hcs 5 (.int .i64 0) rfl
      have x6 := hcs 6 (.int .i64 1) rfl
      have x7 := hcs 7 (.int .i64 0) rfl
      have x8 := hcs 8 (.string ⟨#[107]⟩) rfl
      have x9 := hcs 9 (.int .i64 0) rfl
      have x10 := hcs 10 (.slice va 0 vc) rfl
      have x11 := hcs 11 (.slice oa 0 oc) rfl
      simp only [Nat.zero_mul, Nat.add_zero] at x0 x1 x2 x3 x4 x5 x6 x7 x8 x9 x10 x11
      have HB : Hid (Below w2.heap.size w2 wr) := hB
      rw [Nat.sub_zero]
      clear hcs hlo h64 hR hN hB hlen
      go_wp2_with fail
      refine CO.mono ?_
      rintro e w6 h6
      obtain ⟨a1, c1', a2, c2, rfl, l1, l2, h6⟩ := h6.parts
      simp only [List.length_nil, chL_length] at l1 l2 ⊢
      have HB6 : Hid (Below w2.heap.size w2 w6) := chain HB.out h6.out.2.2.2.2
      have CK := keepOps_same a1 (some ⟨b, off, none⟩) c c1' cap (chL n p c) w6 (chL_length _ _ _) (by omega) h6.out.2.2.1 (HL.out.later HB6.out)
      clear CO h6 x0 x1 x2 x3 x4 x5 x6 x7 x8 x9 x10 x11
      go_wp2_with fail
      refine CK.mono ?_
      rintro e w7 ⟨rfl, hb7⟩
      have CW := bwakes_any w7
      have HB7 : Hid (Below w.heap.size w w7) := chain HB2.out (chain HB6.out hb7)
      clear CK hb7
      go_wp2_with fail
      refine CW.mono ?_
      rintro e w8 ⟨rfl, hb8⟩
      have HB8 : Hid (Below w.heap.size w w8) := chain HB7.out hb8
      clear CW hb8
      go_wp2
      go_ret
      exact ⟨rfl, HB8.out⟩

end Go.Proofs.Ytdocpcaoelmlpaa

namespace Go.Proofs.Ytdocpcaoelmlpaa
open Go.RowKit Go.Lib
set_option linter.unusedVariables false

theorem own_hv {w : World} {B h n p j : Nat} (ho : OwnI w B (.slice (some ⟨h, 0, none⟩) n n) (hv n p j)) : RdI .i64 w (some ⟨h, 0, none⟩) (hv n p j) := by
  obtain ⟨_, _, e1, _, r1, _⟩ := ho.form
  rw [hv_length] at e1
  cases e1
  exact r1

set_option maxRecDepth 100000 in
set_option maxHeartbeats 8000000 in
theorem bfull_walk (n0 p0 : Int) (w : World) : Calls Try.prog 5 #[.int .i64 n0, .int .i64 p0] w fun e w' => e = .returned (.bool true) ∧ Below w.heap.size w w' := by
  obtain ⟨n, ⟨n1, n5⟩, hne⟩ := modUp n0 5 (by omega) (by omega)
  obtain ⟨p, hp, hpe⟩ := modPlace p0 n n1 (by omega)
  have un : IntKind.u64.wrap (n : Int) = (n : Int) := by rw [IntKind.wrap_u64]; omega
  have nz : ((n : Int) = 0) = False := by simp; omega
  have nz' : (n = 0) = False := by simp; omega
  have CC : Calls Try.prog 12 #[.int .i64 (n : Int), .int .i64 (p : Int), .int .i64 43] w _ := chain_any n p 43 w n5 hp (by omega)
  have hne : wrap64 (1 + wrap64 ((IntKind.u64.wrap n0).tmod 5)) = (n : Int) := hne
  go_enter Try.func5, Try.ntmps5
  go_wp2_with fail
  refine CC.mono ?_
  rintro e w1 ⟨a, cap, rfl, hcap, hl, hln, hb1⟩
  obtain ⟨w2, hmake, hO2, hB2⟩ := run_make_ints w1 n (by omega)
  rw [hv_zero (p := p)] at hO2
  have HL : Hid (RdL w2 a (chL n p 43)) := hl.later hB2
  have HB2 : Hid (Below w.heap.size w w2) := chain hb1 hB2
  have HB9x : Hid (w.heap.size ≤ w1.heap.size) := hb1.size
  obtain ⟨h, hh⟩ : ∃ h, w1.heap.size = h := ⟨_, rfl⟩
  rw [hh] at hO2 hmake
  have HO2 : Hid (OwnI w2 h (.slice (some ⟨h, 0, none⟩) n n) (hv n p 0)) := hO2
  have HS : Hid (h < w2.heap.size) := (World.ownsRow.lt hO2 h rfl).2
  have HL1 : Hid (RdL w1 a (chL n p 43) ∧ w1.heap.size = h ∧ Below w1.heap.size w1 w2) := ⟨hl, hh, hB2⟩
  obtain ⟨b, off, _, _, _, _, _, _, rfl, _⟩ := hl.at_ (i := 0) (by rw [chL_length]; omega)
  clear CC hl hln hb1 hO2 hB2
  go_wp2
  clear hne hpe un nz nz' hmake hh
  go_loopw [7, 8] (fun v i wr => ∃ (m : Nat) (aw : Option Addr) (cw : Nat), m ≤ 40 ∧ v = .slice aw m cw ∧ i = .int .i64 ((m : Int) + 2) ∧ m ≤ cw ∧ Hid (RdL wr aw (upL n p 2 m)) ∧ Hid (aw = none → upL n p 2 m = [] ∧ cw = 0) ∧ Hid (Below w2.heap.size w2 wr)) (fun _ i _ => 42 - (RowKit.intOf i).toNat)
  case atStart => exact ⟨0, none, 0, by omega, rfl, rfl, by omega, RdL.nil _ _, fun _ => ⟨rfl, rfl⟩, Below.refl _ _⟩
  case round =>
  obtain ⟨m, aw, cw, hm, rfl, rfl, hcw, hR, hN, hB⟩ := hrel
  by_cases h0 : m < 40
  · obtain ⟨b', off', da, va, oa, dc, vc, oc, eA, hcs, hlo, h64⟩ := (HL.out.later hB.out).at_ (i := m + 2) (by rw [chL_length]; omega)
    cases eA
    rw [chL_at] at hcs hlo h64
    have CO := offer_any (some ⟨h, 0, none⟩) aw n n m cw (hv n p 0) (upL n p 2 m) (chX n p (m + 2)) da va oa dc vc oc wr (hv_length _ _ _) (by omega) (hv_64 (by omega)) ((own_hv HO2.out).later hB.out) (fun h => by cases h) (upL_length _ _ _ _) (by omega) hR.out hN.out hlo h64
    rw [offer_waits n1 n5 hp (by omega) (fun y hy => by obtain ⟨k, _, h1, rfl⟩ := upL_mem hy; exact ⟨k, by omega, rfl⟩) (by rw [upL_length]; omega), show m + 2 = 2 + m by omega, upL_snoc, show 2 + m = m + 2 by omega, chX_cells, show (((m + 2 : Nat) : Int) + 1) = (m : Int) + 3 by omega] at CO
    rw [chX_cells] at hcs
    have x0 := hcs 0 (.int .i64 (p : Int)) rfl
    have x1 := hcs 1 (.int .i64 ((m : Int) + 3)) (by show some (Value.int .i64 (((m + 2 : Nat) : Int) + 1)) = _; rw [show (((m + 2 : Nat) : Int) + 1) = (m : Int) + 3 by omega])
    have x2 := hcs 2 (.slice da n dc) rfl
    have x3 := hcs 3 (.int .i64 0) rfl
    have x4 := hcs 4 (.int .i64 0) rfl
    have x5 := hcs 5 (.int .i64 0) rfl
    have x6 := hcs 6 (.int .i64 1) rfl
    have x7 := hcs 7 (.int .i64 0) rfl
    have x8 := hcs 8 (.string ⟨#[107]⟩) rfl
    have x9 := hcs 9 (.int .i64 0) rfl
    have x10 := hcs 10 (.slice va 0 vc) rfl
    have x11 := hcs 11 (.slice oa 0 oc) rfl
    rw [Nat.add_zero] at x0
    have HB : Hid (Below w2.heap.size w2 wr) := hB
    have mm0 : (0 : Int) ≤ (m : Int) + 2 := by omega
    have mm1 : (m : Int) + 2 < 43 := by omega
    have mm2 : ((m : Int) + 2).toNat = m + 2 := by omega
    clear hcs hlo h64 hR hN hB
    go_wp2_with fail
    refine CO.mono ?_
    rintro e w6 h6
    obtain ⟨a1, c1', a2, c2, rfl, l1, l2, h6⟩ := h6.parts
    simp only [List.length_nil, upL_length] at l1 l2 ⊢
    have H6 : Hid (RdL w6 a2 (upL n p 2 (m + 1)) ∧ (a2 = none → upL n p 2 (m + 1) = [] ∧ c2 = 0) ∧ Below w2.heap.size w2 w6) := ⟨h6.out.2.2.2.1, h6.out.2.1, chain HB.out h6.out.2.2.2.2⟩
    clear CO h6 HB x0 x1 x2 x3 x4 x5 x6 x7 x8 x9 x10 x11
    go_wp2
    go_roundw
    case rel => exact ⟨m + 1, a2, c2, by omega, rfl, by go_num, l2, H6.out.1, H6.out.2.1, H6.out.2.2⟩
    case measure => simp [RowKit.intOf]; omega
  obtain rfl : m = 40 := by omega
  have HB : Hid (Below w2.heap.size w2 wr) := hB
  have HR : Hid (RdL wr aw (upL n p 2 40) ∧ (aw = none → upL n p 2 40 = [] ∧ cw = 0)) := ⟨hR, hN⟩
  clear hR hN hB h0
  obtain ⟨b, off, da, va, oa, dc, vc, oc, eA, hcs, hlo, h64⟩ := (HL.out.later HB.out).at_ (i := 42) (by rw [chL_length]; omega)
  cases eA
  rw [chL_at] at hcs hlo h64
  have CO := offer_any (some ⟨h, 0, none⟩) aw n n 40 cw (hv n p 0) (upL n p 2 40) (chX n p 42) da va oa dc vc oc wr (hv_length _ _ _) (by omega) (hv_64 (by omega)) ((own_hv HO2.out).later HB.out) (fun h => by cases h) (upL_length _ _ _ _) (by omega) HR.out.1 HR.out.2 hlo h64
  rw [full_six n1 n5 hp, chX_cells, show (((42 : Nat) : Int) + 1) = 43 from rfl] at CO
  rw [chX_cells] at hcs
  have x0 := hcs 0 (.int .i64 (p : Int)) rfl
  have x1 := hcs 1 (.int .i64 43) rfl
  have x2 := hcs 2 (.slice da n dc) rfl
  have x3 := hcs 3 (.int .i64 0) rfl
  have x4 := hcs 4 (.int .i64 0) rfl
  have x5 := hcs 5 (.int .i64 0) rfl
  have x6 := hcs 6 (.int .i64 1) rfl
  have x7 := hcs 7 (.int .i64 0) rfl
  have x8 := hcs 8 (.string ⟨#[107]⟩) rfl
  have x9 := hcs 9 (.int .i64 0) rfl
  have x10 := hcs 10 (.slice va 0 vc) rfl
  have x11 := hcs 11 (.slice oa 0 oc) rfl
  rw [Nat.add_zero] at x0
  clear hcs hlo h64
  go_wp2_with fail
  refine CO.mono ?_
  rintro e w6 h6
  obtain ⟨a1, c1, a2, c2, rfl, l1, l2, h6⟩ := h6.parts
  simp only [List.length_nil]
  have HB6 : Hid (Below wr.heap.size wr w6) := h6.out.2.2.2.2
  clear CO h6 x0 x1 x2 x3 x4 x5 x6 x7 x8 x9 x10 x11 l1 l2
  obtain ⟨b, off, da, va, oa, dc, vc, oc, eA, hcs, hlo, h64⟩ := (HL.out.later (chain HB.out HB6.out)).at_ (i := 5) (by rw [chL_length]; omega)
  cases eA
  rw [chL_at] at hcs hlo h64
  have CO := offer_any (some ⟨h, 0, none⟩) aw n n 40 cw (hv n p 0) (upL n p 2 40) (chX n p 5) da va oa dc vc oc w6 (hv_length _ _ _) (by omega) (hv_64 (by omega)) ((own_hv HO2.out).later (chain HB.out HB6.out)) (fun h => by cases h) (upL_length _ _ _ _) (by omega) (HR.out.1.later HB6.out) HR.out.2 hlo h64
  rw [full_eight n1 n5 hp, chX_cells, show (((5 : Nat) : Int) + 1) = 6 from rfl] at CO
  rw [chX_cells] at hcs
  have x0 := hcs 0 (.int .i64 (p : Int)) rfl
  have x1 := hcs 1 (.int .i64 6) rfl
  have x2 := hcs 2 (.slice da n dc) rfl
  have x3 := hcs 3 (.int .i64 0) rfl
  have x4 := hcs 4 (.int .i64 0) rfl
  have x5 := hcs 5 (.int .i64 0) rfl
  have x6 := hcs 6 (.int .i64 1) rfl
  have x7 := hcs 7 (.int .i64 0) rfl
  have x8 := hcs 8 (.string ⟨#[107]⟩) rfl
  have x9 := hcs 9 (.int .i64 0) rfl
  have x10 := hcs 10 (.slice va 0 vc) rfl
  have x11 := hcs 11 (.slice oa 0 oc) rfl
  rw [Nat.add_zero] at x0
  clear hcs hlo h64
  go_wp2_with fail
  refine CO.mono ?_
  rintro e w7 h7
  obtain ⟨a3, c3, a4, c4, rfl, l3, l4, h7⟩ := h7.parts
  simp only [List.length_nil]
  have HB7 : Hid (Below wr.heap.size wr w7) := chain HB6.out h7.out.2.2.2.2
  clear CO h7 x0 x1 x2 x3 x4 x5 x6 x7 x8 x9 x10 x11 l3 l4 HB6
  obtain ⟨b, off, da, va, oa, dc, vc, oc, eA, hcs, hlo, h64⟩ := (HL.out.later (chain HB.out HB7.out)).at_ (i := 0) (by rw [chL_length]; omega)
  cases eA
  rw [chL_at] at hcs hlo h64
  have CO := offer_any (some ⟨h, 0, none⟩) aw n n 40 cw (hv n p 0) (upL n p 2 40) (chX n p 0) da va oa dc vc oc w7 (hv_length _ _ _) (by omega) (hv_64 (by omega)) ((own_hv HO2.out).later (chain HB.out HB7.out)) (fun h => by cases h) (upL_length _ _ _ _) (by omega) (HR.out.1.later HB7.out) HR.out.2 hlo h64
  rw [full_one n1 n5 hp, chX_cells, show (((0 : Nat) : Int) + 1) = 1 from rfl] at CO
  rw [chX_cells] at hcs
  have x0 := hcs 0 (.int .i64 (p : Int)) rfl
  have x1 := hcs 1 (.int .i64 1) rfl
  have x2 := hcs 2 (.slice da n dc) rfl
  have x3 := hcs 3 (.int .i64 0) rfl
  have x4 := hcs 4 (.int .i64 0) rfl
  have x5 := hcs 5 (.int .i64 0) rfl
  have x6 := hcs 6 (.int .i64 1) rfl
  have x7 := hcs 7 (.int .i64 0) rfl
  have x8 := hcs 8 (.string ⟨#[107]⟩) rfl
  have x9 := hcs 9 (.int .i64 0) rfl
  have x10 := hcs 10 (.slice va 0 vc) rfl
  have x11 := hcs 11 (.slice oa 0 oc) rfl
  simp only [Nat.zero_mul, Nat.add_zero] at x0 x1 x2 x3 x4 x5 x6 x7 x8 x9 x10 x11
  clear hcs hlo h64
  go_wp2_with fail
  refine CO.mono ?_
  rintro e w8 h8
  obtain ⟨a5, c5, a6, c6, rfl, l5, l6, h8⟩ := h8.partsF
  simp only [List.length_cons, List.length_nil, upL_length, Nat.zero_add] at l6 ⊢
  have hb8 := chain HB.out (chain HB7.out h8.out.2.2.2.2)
  have ho8 := HO2.out.later hb8
  obtain ⟨⟨u0, y0⟩, fy0⟩ : (∃ u, w8.cell? ⟨h, p, none⟩ = some u) ∧ w8.frozen? ⟨h, p, none⟩ = false := ⟨⟨_, (ho8.at_ (hv_length _ _ _) hp).1⟩, (ho8.at_ (hv_length _ _ _) hp).2⟩
  obtain ⟨ho9, hb9, _⟩ := ho8.put (hv_length _ _ _) p 1
  have HO9 : Hid (OwnI (w8.setCell ⟨h, p, none⟩ (.int .i64 1)) h (.slice (some ⟨h, 0, none⟩) n n) (hv n p 1)) := by
    have e : (hv n p 0).set p 1 = hv n p 1 := by unfold hv; rw [List.set_set]; rfl
    rw [← e]
    exact ho9
  have HL9 : Hid (RdL (w8.setCell ⟨h, p, none⟩ (.int .i64 1)) (some ⟨b, off, none⟩) (chL n p 43)) := HL1.out.1.later (by
    have h1 : Below w1.heap.size w1 w8 := HL1.out.2.2.trans (hb8.mono HL1.out.2.2.size)
    exact h1.setCell (p := ⟨h, p, none⟩) (by rw [HL1.out.2.1]; exact Nat.le_refl _) _)
  have HB9 : Hid (Below w.heap.size w (w8.setCell ⟨h, p, none⟩ (.int .i64 1))) := (chain HB2.out hb8).setCell (p := ⟨h, p, none⟩) (by show w.heap.size ≤ h; have h1 := HL1.out.2.1; have h2 := HB9x.out; omega) _
  have HR9 : Hid (RdL (w8.setCell ⟨h, p, none⟩ (.int .i64 1)) a6 (upL n p 2 40) ∧ (a6 = none → upL n p 2 40 = [] ∧ c6 = 0)) := ⟨(h8.out.2.2.2.1.set (by have h1 := HS.out; have h2 := HB.out.size; have h3 := HB7.out.size; omega) _).rdL, h8.out.2.1⟩
  have pp0 : (0 : Int) ≤ (p : Int) := by omega
  have pp1 : (p : Int) < (n : Int) := by omega
  obtain ⟨b', off', da, va, oa, dc, vc, oc, eA, hcs, hlo, h64⟩ := HL9.out.at_ (i := 1) (by rw [chL_length]; omega)
  cases eA
  rw [chL_at] at hcs hlo h64
  have CP := offer_any (some ⟨h, 0, none⟩) a6 n n 40 c6 (hv n p 1) (upL n p 2 40) (chX n p 1) da va oa dc vc oc (w8.setCell ⟨h, p, none⟩ (.int .i64 1)) (hv_length _ _ _) (by omega) (hv_64 (by omega)) (own_hv HO9.out) (fun h => by cases h) (upL_length _ _ _ _) (by omega) HR9.out.1 HR9.out.2 hlo h64
  rw [full_all n1 n5 hp, chX_cells, show (((1 : Nat) : Int) + 1) = 2 from rfl] at CP
  rw [chX_cells] at hcs
  clear CO x0 x1 x2 x3 x4 x5 x6 x7 x8 x9 x10 x11
  have x0 := hcs 0 (.int .i64 (p : Int)) rfl
  have x1 := hcs 1 (.int .i64 2) rfl
  have x2 := hcs 2 (.slice da n dc) rfl
  have x3 := hcs 3 (.int .i64 0) rfl
  have x4 := hcs 4 (.int .i64 0) rfl
  have x5 := hcs 5 (.int .i64 0) rfl
  have x6 := hcs 6 (.int .i64 1) rfl
  have x7 := hcs 7 (.int .i64 0) rfl
  have x8 := hcs 8 (.string ⟨#[107]⟩) rfl
  have x9 := hcs 9 (.int .i64 0) rfl
  have x10 := hcs 10 (.slice va 0 vc) rfl
  have x11 := hcs 11 (.slice oa 0 oc) rfl
  rw [Nat.add_zero] at x0
  clear hcs hlo h64 h8 hb8 ho8 ho9 hb9 HB7 HR HO2 HL HO9 HL9
  go_wp2_with fail
  refine CP.mono ?_
  rintro e w10 h10
  obtain ⟨a7, c7, a8, c8, rfl, l7, l8, h10⟩ := h10.parts
  simp only [List.length_nil, upL_length]
  have CW := bwakes_any w10
  have HB10 : Hid (Below w.heap.size w w10) := chain HB9.out h10.out.2.2.2.2
  clear CP h10 x0 x1 x2 x3 x4 x5 x6 x7 x8 x9 x10 x11 y0 fy0
  go_wp2_with fail
  refine CW.mono ?_
  rintro e w11 ⟨rfl, hb11⟩
  have HB11 : Hid (Below w.heap.size w w11) := chain HB10.out hb11
  clear CW hb11
  go_wp2
  go_ret
  exact ⟨rfl, HB11.out⟩

end Go.Proofs.Ytdocpcaoelmlpaa
