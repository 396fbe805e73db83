/-
  Texts of the proof of OpKinds, one behind the other.
-/
import Derived.Test.YtjpcljmlkgjbgaaRows
import Derived.Test.YtjpcljmlkgjbgaaG37OpKinds
import Derived.Test.YtjpcljmlkgjbgaaG45OpKinds
import Derived.Test.YtjpcljmlkgjbgaaG46OpKinds
import Derived.Test.YtjpcljmlkgjbgaaG47OpKinds
namespace Go.Proofs.Ytjpcljmlkgjbgaa
open Go.RowKit Go.Lib
set_option linter.unusedVariables false

set_option maxRecDepth 100000 in
set_option maxHeartbeats 16000000 in
theorem rOp_del (n : Int) (af : Option Addr) (nf fcap : Nat) (x : PO) (da va oa : Option Addr) (dc vc oc : Nat) (w : World) (hn1 : 1 ≤ n) (hn5 : n ≤ 5) (hnf : nf ≤ 3) (h : LiesO w x da va oa dc vc oc) (hx : I64O x) (HS9 : Hid True) (L : List (List Int)) (hL : L.length = nf) (hv : ∀ v ∈ L, v.length ≤ 65536) (hr : RdII w af L) (h1 : inF 0 (n - 1) x.dp = true) (h2 : inF 1 1073741824 x.dn = true) (h3 : decide ((x.deps.length : Int) = n) = true) (h4 : decide (chkD x.deps = 0) = true) (h5 : decide (atD x.deps x.dp = x.dn - 1) = true) (h6 : okS ⟨x.sp, x.sl, x.sq⟩ = true) (h7 : decide (x.sq = x.dp) = true) (h8 : inF 0 ((nf : Int) - 1) x.table = true) (h9 : keyF x.key = true) (hk : x.kind = 3) :
    Calls Try.prog 53 #[.int .i64 n, .slice af nf fcap, .agg (cellsO x da va oa dc vc oc)] w fun e w' => e = .returned (.bool ((remF x.deps x.dots && decide (x.col = 0)) && decide (x.vals.length = 0))) ∧ Below w.heap.size w w' := by
  obtain ⟨res, hres⟩ : ∃ res, ((remF x.deps x.dots && decide (x.col = 0)) && decide (x.vals.length = 0)) = res := ⟨_, rfl⟩
  rw [hres]
  have hdn := hx.dn
  obtain ⟨dp, dn, deps, sp, sl, sq, kind, table, key, col, vals, dots⟩ := x
  simp only [cellsO] at h hdn HS9 h8 hk hres ⊢
  have hkey : key.size ≤ 9223372036854775807 := h.key
  have HL : Hid (LiesO w ⟨dp, dn, deps, sp, sl, sq, kind, table, key, col, vals, dots⟩ da va oa dc vc oc) := h
  obtain ⟨B, hBB⟩ : ∃ B : World, B = w.alloc (.cells #[.int .i64 dp, .int .i64 dn, .slice da deps.length dc, .int .i64 sp, .int .i64 sl, .int .i64 sq, .int .i64 kind, .int .i64 table, .string key, .int .i64 col, .slice va vals.length vc, .slice oa dots.length oc] 32) := ⟨_, rfl⟩
  have HK : Hid (CellsAt B w.heap.size #[.int .i64 dp, .int .i64 dn, .slice da deps.length dc, .int .i64 sp, .int .i64 sl, .int .i64 sq, .int .i64 kind, .int .i64 table, .string key, .int .i64 col, .slice va vals.length vc, .slice oa dots.length oc] 32) := by rw [hBB]; exact CellsAt.made rfl
  have HB0 : Hid (Below w.heap.size w B) := by rw [hBB]; exact alloc_below _ _
  have HBB : Hid (B = w.alloc (.cells #[.int .i64 dp, .int .i64 dn, .slice da deps.length dc, .int .i64 sp, .int .i64 sl, .int .i64 sq, .int .i64 kind, .int .i64 table, .string key, .int .i64 col, .slice va vals.length vc, .slice oa dots.length oc] 32)) := hBB
  have hld : deps.length ≤ 65536 := h.ld
  clear hBB h
  have D1 := fun V => in_any dp 0 (n - 1) V
  have D2 := fun V => in_any dn 1 1073741824 V
  have D4 := fun (V : World) (hb : Below B.heap.size B V) => rVector_any da deps.length dc deps V rfl (by omega) (HL.out.deps.later (chain HB0.out hb))
  have D6 := fun V => rStamp_any sp sl sq V
  have D8 := fun V => in_any table 0 ((nf : Int) - 1) V
  have D9 := fun V => rKey_any key V hkey
  have HAT : Hid (∀ q : Nat, dp = q → q < deps.length → ∃ b o, da = some ⟨b, o, none⟩ ∧ B.cell? ⟨b, o + q, none⟩ = some (.int .i64 (atD deps dp))) := fun q hq hql => by
    obtain ⟨b, o, e, hc⟩ := (HL.out.deps.later HB0.out) (by show 0 < deps.length; omega)
    refine ⟨b, o, e, ?_⟩
    rw [hc q hql]
    have e2 : atD deps dp = deps[q] := by
      unfold atD
      rw [hq, Int.toNat_natCast, List.getElem?_eq_getElem hql, Option.getD_some]
    rw [e2]
  have w1 : IntKind.i64.wrap (n - 1) = n - 1 := by rw [IntKind.wrap_i64]; omega
  have w3 : IntKind.i64.wrap ((nf : Int) - 1) = (nf : Int) - 1 := by rw [IntKind.wrap_i64]; omega
  have hz : 0 ≤ table ∧ table ≤ (nf : Int) - 1 := of_decide_eq_true h8
  obtain ⟨z, rfl⟩ : ∃ z : Nat, table = z := ⟨table.toNat, by omega⟩
  have hzl : z < L.length := by omega
  have HFT : Hid (∃ bf o2, af = some ⟨bf, o2, none⟩ ∧ ∀ V, Below B.heap.size B V → ∃ ac cc, V.cell? ⟨bf, o2 + z, none⟩ = some (.slice ac L[z].length cc) ∧ L[z].length ≤ cc ∧ RdI .i64 V ac L[z]) := by
    obtain ⟨bf, o2, rfl, hc⟩ := hr (by omega)
    refine ⟨bf, o2, rfl, fun V hb => ?_⟩
    obtain ⟨u, hu, ac, cc, rfl, hcc, hrc, _⟩ := hc z hzl
    exact ⟨ac, cc, cell_later (chain HB0.out hb) hu, hcc, hrc.later (chain HB0.out hb)⟩
  obtain ⟨bf, o2, rfl, hFT⟩ := HFT.out
  have HFV : Hid (∀ V, Below B.heap.size B V → ∃ ac cc, V.cell? ⟨bf, o2 + z, none⟩ = some (.slice ac L[z].length cc) ∧ L[z].length ≤ cc ∧ RdI .i64 V ac L[z]) := hFT
  have kz0 : (0 : Int) ≤ (z : Int) := by omega
  have kz1 : (z : Int) < (nf : Int) := by omega
  clear HFT hFT hr
  have HCO : Hid (colsF L (z : Int) = L[z]) := by show _ = _; unfold colsF; rw [Int.toNat_natCast, List.getElem?_eq_getElem hzl, Option.getD_some]
  have hm65 : L[z].length ≤ 65536 := hv _ (List.getElem_mem hzl)
  generalize L[z] = cols at *
  clear hzl hz
  subst hk
  generalize hnd : deps.length = nd at *
  generalize hnv : vals.length = nv at *
  have HNV : Hid (vals.length = nv) := hnv
  clear hnv
  generalize hno : dots.length = no at *
  have HNO : Hid (dots.length = no) := hno
  clear hno
  generalize atD deps dp = at0 at *
  have hb1 : inF 0 (n - 1) dp = true → 0 ≤ dp ∧ dp ≤ n - 1 := fun h => of_decide_eq_true h
  have hb2 : inF 1 1073741824 dn = true → 1 ≤ dn ∧ dn ≤ 1073741824 := fun h => of_decide_eq_true h
  generalize inF 0 (n - 1) dp = b1 at *
  generalize inF 1 1073741824 dn = b2 at *
  generalize okS ⟨sp, sl, sq⟩ = b6 at *
  generalize inF 0 ((nf : Int) - 1) (z : Int) = b8 at *
  generalize keyF key = b9 at *
  generalize chkD deps = ck at *
  obtain ⟨f0, f1, f2, f3, f4, f5, f6, f7, f8, f9, f10, f11⟩ := cellsO_at HK.out
  obtain rfl : b1 = true := h1
  obtain ⟨q, rfl⟩ : ∃ q : Nat, dp = q := ⟨dp.toNat, by have := hb1 rfl; omega⟩
  obtain rfl : b2 = true := h2
  have w2 : IntKind.i64.wrap (dn - 1) = dn - 1 := by have := hb2 rfl; rw [IntKind.wrap_i64]; omega
  have c3 := of_decide_eq_true h3
  have q3 : ((nd : Int) != n) = false := by simpa using c3
  have C3 : Hid ((nd : Int) = n) := c3
  clear c3 h3
  have c4 := of_decide_eq_true h4
  have q4 : (ck != 0) = false := by simpa using c4
  clear c4 h4
  have hq : q < nd := by have := hb1 rfl; have := C3.out; omega
  obtain ⟨bd, od, rfl, fd⟩ := HAT.out q rfl hq
  have k0 : (0 : Int) ≤ (q : Int) := by omega
  have k1 : (q : Int) < (nd : Int) := by omega
  have c5 := of_decide_eq_true h5
  have q5 : (at0 != dn - 1) = false := by simpa using c5
  clear c5 h5
  obtain rfl : b6 = true := h6
  have c7 := of_decide_eq_true h7
  have q7 : (sq != (q : Int)) = false := by simpa using c7
  clear c7 h7
  obtain rfl : b8 = true := h8
  obtain rfl : b9 = true := h9
  have HP : ∀ a b : World, Below a.heap.size a b → (fun w' : World => (w'.cell? ⟨w.heap.size, 0, none⟩ = some (.int .i64 (q : Int)) ∧ w'.cell? ⟨w.heap.size, 1, none⟩ = some (.int .i64 dn) ∧ w'.cell? ⟨w.heap.size, 2, none⟩ = some (.slice (some ⟨bd, od, none⟩) nd dc) ∧ w'.cell? ⟨w.heap.size, 3, none⟩ = some (.int .i64 sp) ∧ w'.cell? ⟨w.heap.size, 4, none⟩ = some (.int .i64 sl) ∧ w'.cell? ⟨w.heap.size, 5, none⟩ = some (.int .i64 sq) ∧ w'.cell? ⟨w.heap.size, 6, none⟩ = some (.int .i64 3) ∧ w'.cell? ⟨w.heap.size, 7, none⟩ = some (.int .i64 (z : Int)) ∧ w'.cell? ⟨w.heap.size, 8, none⟩ = some (.string key) ∧ w'.cell? ⟨w.heap.size, 9, none⟩ = some (.int .i64 col) ∧ w'.cell? ⟨w.heap.size, 10, none⟩ = some (.slice va nv vc) ∧ w'.cell? ⟨w.heap.size, 11, none⟩ = some (.slice oa no oc) ∧ w'.cell? ⟨bd, od + q, none⟩ = some (.int .i64 at0))) a → (fun w' : World => (w'.cell? ⟨w.heap.size, 0, none⟩ = some (.int .i64 (q : Int)) ∧ w'.cell? ⟨w.heap.size, 1, none⟩ = some (.int .i64 dn) ∧ w'.cell? ⟨w.heap.size, 2, none⟩ = some (.slice (some ⟨bd, od, none⟩) nd dc) ∧ w'.cell? ⟨w.heap.size, 3, none⟩ = some (.int .i64 sp) ∧ w'.cell? ⟨w.heap.size, 4, none⟩ = some (.int .i64 sl) ∧ w'.cell? ⟨w.heap.size, 5, none⟩ = some (.int .i64 sq) ∧ w'.cell? ⟨w.heap.size, 6, none⟩ = some (.int .i64 3) ∧ w'.cell? ⟨w.heap.size, 7, none⟩ = some (.int .i64 (z : Int)) ∧ w'.cell? ⟨w.heap.size, 8, none⟩ = some (.string key) ∧ w'.cell? ⟨w.heap.size, 9, none⟩ = some (.int .i64 col) ∧ w'.cell? ⟨w.heap.size, 10, none⟩ = some (.slice va nv vc) ∧ w'.cell? ⟨w.heap.size, 11, none⟩ = some (.slice oa no oc) ∧ w'.cell? ⟨bd, od + q, none⟩ = some (.int .i64 at0))) b := fun a b hb h => ⟨cell_later hb h.1, cell_later hb h.2.1, cell_later hb h.2.2.1, cell_later hb h.2.2.2.1, cell_later hb h.2.2.2.2.1, cell_later hb h.2.2.2.2.2.1, cell_later hb h.2.2.2.2.2.2.1, cell_later hb h.2.2.2.2.2.2.2.1, cell_later hb h.2.2.2.2.2.2.2.2.1, cell_later hb h.2.2.2.2.2.2.2.2.2.1, cell_later hb h.2.2.2.2.2.2.2.2.2.2.1, cell_later hb h.2.2.2.2.2.2.2.2.2.2.2.1, cell_later hb h.2.2.2.2.2.2.2.2.2.2.2.2⟩
  have HS := (And.intro (show (B.cell? ⟨w.heap.size, 0, none⟩ = some (.int .i64 (q : Int)) ∧ B.cell? ⟨w.heap.size, 1, none⟩ = some (.int .i64 dn) ∧ B.cell? ⟨w.heap.size, 2, none⟩ = some (.slice (some ⟨bd, od, none⟩) nd dc) ∧ B.cell? ⟨w.heap.size, 3, none⟩ = some (.int .i64 sp) ∧ B.cell? ⟨w.heap.size, 4, none⟩ = some (.int .i64 sl) ∧ B.cell? ⟨w.heap.size, 5, none⟩ = some (.int .i64 sq) ∧ B.cell? ⟨w.heap.size, 6, none⟩ = some (.int .i64 3) ∧ B.cell? ⟨w.heap.size, 7, none⟩ = some (.int .i64 (z : Int)) ∧ B.cell? ⟨w.heap.size, 8, none⟩ = some (.string key) ∧ B.cell? ⟨w.heap.size, 9, none⟩ = some (.int .i64 col) ∧ B.cell? ⟨w.heap.size, 10, none⟩ = some (.slice va nv vc) ∧ B.cell? ⟨w.heap.size, 11, none⟩ = some (.slice oa no oc) ∧ B.cell? ⟨bd, od + q, none⟩ = some (.int .i64 at0)) from ⟨f0, f1, f2, f3, f4, f5, f6, f7, f8, f9, f10, f11, fd⟩) (show Hid (Below B.heap.size B B) from Below.refl _ _))
  clear HS9
  go_enter Try.func53, Try.ntmps53
  go_wp2_with fail
  rw [← HBB.out]
  refine wp_region_held_drew (S := (fun w' => (w'.cell? ⟨w.heap.size, 0, none⟩ = some (.int .i64 (q : Int)) ∧ w'.cell? ⟨w.heap.size, 1, none⟩ = some (.int .i64 dn) ∧ w'.cell? ⟨w.heap.size, 2, none⟩ = some (.slice (some ⟨bd, od, none⟩) nd dc) ∧ w'.cell? ⟨w.heap.size, 3, none⟩ = some (.int .i64 sp) ∧ w'.cell? ⟨w.heap.size, 4, none⟩ = some (.int .i64 sl) ∧ w'.cell? ⟨w.heap.size, 5, none⟩ = some (.int .i64 sq) ∧ w'.cell? ⟨w.heap.size, 6, none⟩ = some (.int .i64 3) ∧ w'.cell? ⟨w.heap.size, 7, none⟩ = some (.int .i64 (z : Int)) ∧ w'.cell? ⟨w.heap.size, 8, none⟩ = some (.string key) ∧ w'.cell? ⟨w.heap.size, 9, none⟩ = some (.int .i64 col) ∧ w'.cell? ⟨w.heap.size, 10, none⟩ = some (.slice va nv vc) ∧ w'.cell? ⟨w.heap.size, 11, none⟩ = some (.slice oa no oc) ∧ w'.cell? ⟨bd, od + q, none⟩ = some (.int .i64 at0)) ∧ Hid (Below B.heap.size B w'))) (by kernel_rfl) (keepH (P := fun w' : World => (w'.cell? ⟨w.heap.size, 0, none⟩ = some (.int .i64 (q : Int)) ∧ w'.cell? ⟨w.heap.size, 1, none⟩ = some (.int .i64 dn) ∧ w'.cell? ⟨w.heap.size, 2, none⟩ = some (.slice (some ⟨bd, od, none⟩) nd dc) ∧ w'.cell? ⟨w.heap.size, 3, none⟩ = some (.int .i64 sp) ∧ w'.cell? ⟨w.heap.size, 4, none⟩ = some (.int .i64 sl) ∧ w'.cell? ⟨w.heap.size, 5, none⟩ = some (.int .i64 sq) ∧ w'.cell? ⟨w.heap.size, 6, none⟩ = some (.int .i64 3) ∧ w'.cell? ⟨w.heap.size, 7, none⟩ = some (.int .i64 (z : Int)) ∧ w'.cell? ⟨w.heap.size, 8, none⟩ = some (.string key) ∧ w'.cell? ⟨w.heap.size, 9, none⟩ = some (.int .i64 col) ∧ w'.cell? ⟨w.heap.size, 10, none⟩ = some (.slice va nv vc) ∧ w'.cell? ⟨w.heap.size, 11, none⟩ = some (.slice oa no oc) ∧ w'.cell? ⟨bd, od + q, none⟩ = some (.int .i64 at0))) HP (Below.refl _ _).drew HS) (fun hHeld => ?_)
  refine heldTake (v := ?_) 0 10 rfl rfl (by kernel_rfl) (by kernel_rfl) (by kernel_rfl) (fun _ _ _ h => h) (by rfl) (fun w hSw => ?_) (by assumption) ?_
  rotate_left
  · (try dsimp only at hSw); first | (go_simp; done) | (go_simp; with_reducible rfl)
  simp only [List.setIfInBounds_toArray, List.set_cons_zero, List.set_cons_succ]
  refine heldTake (v := ?_) 1 11 rfl rfl (by kernel_rfl) (by kernel_rfl) (by kernel_rfl) (fun _ _ _ h => h) (by rfl) (fun w hSw => ?_) (by assumption) ?_
  rotate_left
  · (try dsimp only at hSw); first | (go_simp; done) | (go_simp; with_reducible rfl)
  simp only [List.setIfInBounds_toArray, List.set_cons_zero, List.set_cons_succ]
  refine heldTake (v := ?_) 2 12 rfl rfl (by kernel_rfl) (by kernel_rfl) (by kernel_rfl) (fun _ _ _ h => h) (by rfl) (fun w hSw => ?_) (by assumption) ?_
  rotate_left
  · (try dsimp only at hSw); first | (go_simp; done) | (go_simp; with_reducible rfl)
  simp only [List.setIfInBounds_toArray, List.set_cons_zero, List.set_cons_succ]
  refine heldTake (v := ?_) 3 13 rfl rfl (by kernel_rfl) (by kernel_rfl) (by kernel_rfl) (fun _ _ _ h => h) (by rfl) (fun w hSw => ?_) (by assumption) ?_
  rotate_left
  · (try dsimp only at hSw); first | (go_simp; done) | (go_simp; with_reducible rfl)
  simp only [List.setIfInBounds_toArray, List.set_cons_zero, List.set_cons_succ]
  refine heldTake (v := ?_) 4 14 rfl rfl (by kernel_rfl) (by kernel_rfl) (by kernel_rfl) (fun _ _ _ h => h) (by rfl) (fun w hSw => ?_) (by assumption) ?_
  rotate_left
  · (try dsimp only at hSw); first | (go_simp; done) | (go_simp; with_reducible rfl)
  simp only [List.setIfInBounds_toArray, List.set_cons_zero, List.set_cons_succ]
  refine heldOne 5 rfl (by kernel_rfl) (by rfl) (fun K2 hK => ?_)
  go_simp
  refine (D1 _).mono ?_
  rintro e wz ⟨rfl, hw⟩
  simp only []
  subst hw
  refine hK.out _ _ ?_ (fun hHeld => ?_)
  · (first | exact hHeld | assumption)
  clear hK K2
  try simp only [List.setIfInBounds_toArray, List.set_cons_zero, List.set_cons_succ]
  refine heldTake (v := ?_) 6 16 rfl rfl (by kernel_rfl) (by kernel_rfl) (by kernel_rfl) (fun _ _ _ h => h) (by rfl) (fun w hSw => ?_) (by assumption) ?_
  rotate_left
  · (try dsimp only at hSw); first | (go_simp; done) | (go_simp; with_reducible rfl)
  simp only [List.setIfInBounds_toArray, List.set_cons_zero, List.set_cons_succ]
  refine heldTake (v := ?_) 7 17 rfl rfl (by kernel_rfl) (by kernel_rfl) (by kernel_rfl) (fun _ _ _ h => h) (by rfl) (fun w hSw => ?_) (by assumption) ?_
  rotate_left
  · (try dsimp only at hSw); first | (go_simp; done) | (go_simp; with_reducible rfl)
  simp only [List.setIfInBounds_toArray, List.set_cons_zero, List.set_cons_succ]
  refine heldTake (v := ?_) 8 18 rfl rfl (by kernel_rfl) (by kernel_rfl) (by kernel_rfl) (fun _ _ _ h => h) (by rfl) (fun w hSw => ?_) (by assumption) ?_
  rotate_left
  · (try dsimp only at hSw); first | (go_simp; done) | (go_simp; with_reducible rfl)
  simp only [List.setIfInBounds_toArray, List.set_cons_zero, List.set_cons_succ]
  refine heldTake (v := ?_) 9 19 rfl rfl (by kernel_rfl) (by kernel_rfl) (by kernel_rfl) (fun _ _ _ h => h) (by rfl) (fun w hSw => ?_) (by assumption) ?_
  rotate_left
  · (try dsimp only at hSw); first | (go_simp; done) | (go_simp; with_reducible rfl)
  simp only [List.setIfInBounds_toArray, List.set_cons_zero, List.set_cons_succ]
  refine heldTake (v := ?_) 10 20 rfl rfl (by kernel_rfl) (by kernel_rfl) (by kernel_rfl) (fun _ _ _ h => h) (by rfl) (fun w hSw => ?_) (by assumption) ?_
  rotate_left
  · (try dsimp only at hSw); first | (go_simp; done) | (go_simp; with_reducible rfl)
  simp only [List.setIfInBounds_toArray, List.set_cons_zero, List.set_cons_succ]
  refine heldOne 11 rfl (by kernel_rfl) (by rfl) (fun K2 hK => ?_)
  go_simp
  refine (D2 _).mono ?_
  rintro e wz ⟨rfl, hw⟩
  simp only []
  subst hw
  refine hK.out _ _ ?_ (fun hHeld => ?_)
  · (first | exact hHeld | assumption)
  clear hK K2
  try simp only [List.setIfInBounds_toArray, List.set_cons_zero, List.set_cons_succ]
  refine heldTake (v := ?_) 12 22 rfl rfl (by kernel_rfl) (by kernel_rfl) (by kernel_rfl) (fun _ _ _ h => h) (by rfl) (fun w hSw => ?_) (by assumption) ?_
  rotate_left
  · (try dsimp only at hSw); first | (go_simp; done) | (go_simp; with_reducible rfl)
  simp only [List.setIfInBounds_toArray, List.set_cons_zero, List.set_cons_succ]
  refine heldTake (v := ?_) 13 23 rfl rfl (by kernel_rfl) (by kernel_rfl) (by kernel_rfl) (fun _ _ _ h => h) (by rfl) (fun w hSw => ?_) (by assumption) ?_
  rotate_left
  · (try dsimp only at hSw); first | (go_simp; done) | (go_simp; with_reducible rfl)
  simp only [List.setIfInBounds_toArray, List.set_cons_zero, List.set_cons_succ]
  refine heldTake (v := ?_) 14 24 rfl rfl (by kernel_rfl) (by kernel_rfl) (by kernel_rfl) (fun _ _ _ h => h) (by rfl) (fun w hSw => ?_) (by assumption) ?_
  rotate_left
  · (try dsimp only at hSw); first | (go_simp; done) | (go_simp; with_reducible rfl)
  simp only [List.setIfInBounds_toArray, List.set_cons_zero, List.set_cons_succ]
  refine heldTake (v := ?_) 15 25 rfl rfl (by kernel_rfl) (by kernel_rfl) (by kernel_rfl) (fun _ _ _ h => h) (by rfl) (fun w hSw => ?_) (by assumption) ?_
  rotate_left
  · (try dsimp only at hSw); first | (go_simp; done) | (go_simp; with_reducible rfl)
  simp only [List.setIfInBounds_toArray, List.set_cons_zero, List.set_cons_succ]
  refine heldTake (v := ?_) 16 26 rfl rfl (by kernel_rfl) (by kernel_rfl) (by kernel_rfl) (fun _ _ _ h => h) (by rfl) (fun w hSw => ?_) (by assumption) ?_
  rotate_left
  · (try dsimp only at hSw); first | (go_simp; done) | (go_simp; with_reducible rfl)
  simp only [List.setIfInBounds_toArray, List.set_cons_zero, List.set_cons_succ]
  refine heldTake (v := ?_) 17 27 rfl rfl (by kernel_rfl) (by kernel_rfl) (by kernel_rfl) (fun _ _ _ h => h) (by rfl) (fun w hSw => ?_) (by assumption) ?_
  rotate_left
  · (try dsimp only at hSw); first | (go_simp; done) | (go_simp; with_reducible rfl)
  simp only [List.setIfInBounds_toArray, List.set_cons_zero, List.set_cons_succ]
  refine heldTake (v := ?_) 18 28 rfl rfl (by kernel_rfl) (by kernel_rfl) (by kernel_rfl) (fun _ _ _ h => h) (by rfl) (fun w hSw => ?_) (by assumption) ?_
  rotate_left
  · (try dsimp only at hSw); first | (go_simp; done) | (go_simp; with_reducible rfl)
  simp only [List.setIfInBounds_toArray, List.set_cons_zero, List.set_cons_succ]
  refine heldTake (v := ?_) 19 29 rfl rfl (by kernel_rfl) (by kernel_rfl) (by kernel_rfl) (fun _ _ _ h => h) (by rfl) (fun w hSw => ?_) (by assumption) ?_
  rotate_left
  · (try dsimp only at hSw); first | (go_simp; done) | (go_simp; with_reducible rfl)
  simp only [List.setIfInBounds_toArray, List.set_cons_zero, List.set_cons_succ]
  refine heldTake (v := ?_) 20 30 rfl rfl (by kernel_rfl) (by kernel_rfl) (by kernel_rfl) (fun _ _ _ h => h) (by rfl) (fun w hSw => ?_) (by assumption) ?_
  rotate_left
  · (try dsimp only at hSw); first | (go_simp; done) | (go_simp; with_reducible rfl)
  simp only [List.setIfInBounds_toArray, List.set_cons_zero, List.set_cons_succ]
  refine heldTake (v := ?_) 21 31 rfl rfl (by kernel_rfl) (by kernel_rfl) (by kernel_rfl) (fun _ _ _ h => h) (by rfl) (fun w hSw => ?_) (by assumption) ?_
  rotate_left
  · (try dsimp only at hSw); first | (go_simp; done) | (go_simp; with_reducible rfl)
  simp only [List.setIfInBounds_toArray, List.set_cons_zero, List.set_cons_succ]
  refine heldTake (v := ?_) 22 32 rfl rfl (by kernel_rfl) (by kernel_rfl) (by kernel_rfl) (fun _ _ _ h => h) (by rfl) (fun w hSw => ?_) (by assumption) ?_
  rotate_left
  · (try dsimp only at hSw); first | (go_simp; done) | (go_simp; with_reducible rfl)
  simp only [List.setIfInBounds_toArray, List.set_cons_zero, List.set_cons_succ]
  refine heldTake (v := ?_) 23 33 rfl rfl (by kernel_rfl) (by kernel_rfl) (by kernel_rfl) (fun _ _ _ h => h) (by rfl) (fun w hSw => ?_) (by assumption) ?_
  rotate_left
  · (try dsimp only at hSw); first | (go_simp; done) | (go_simp; with_reducible rfl)
  simp only [List.setIfInBounds_toArray, List.set_cons_zero, List.set_cons_succ]
  refine heldOne 24 rfl (by kernel_rfl) (by rfl) (fun K2 hK => ?_)
  go_simp
  refine (D4 _ hHeld.2.out).mono ?_
  rintro e wz ⟨rfl, hw⟩
  simp only []
  subst hw
  refine hK.out _ _ ?_ (fun hHeld => ?_)
  · (first | exact hHeld | assumption)
  clear hK K2
  try simp only [List.setIfInBounds_toArray, List.set_cons_zero, List.set_cons_succ]
  refine heldTake (v := ?_) 25 35 rfl rfl (by kernel_rfl) (by kernel_rfl) (by kernel_rfl) (fun _ _ _ h => h) (by rfl) (fun w hSw => ?_) (by assumption) ?_
  rotate_left
  · (try dsimp only at hSw); first | (go_simp; done) | (go_simp; with_reducible rfl)
  simp only [List.setIfInBounds_toArray, List.set_cons_zero, List.set_cons_succ]
  refine heldTake (v := ?_) 26 36 rfl rfl (by kernel_rfl) (by kernel_rfl) (by kernel_rfl) (fun _ _ _ h => h) (by rfl) (fun w hSw => ?_) (by assumption) ?_
  rotate_left
  · (try dsimp only at hSw); first | (go_simp; done) | (go_simp; with_reducible rfl)
  simp only [List.setIfInBounds_toArray, List.set_cons_zero, List.set_cons_succ]
  refine heldTake (v := ?_) 27 37 rfl rfl (by kernel_rfl) (by kernel_rfl) (by kernel_rfl) (fun _ _ _ h => h) (by rfl) (fun w hSw => ?_) (by assumption) ?_
  rotate_left
  · (try dsimp only at hSw); first | (go_simp; done) | (go_simp; with_reducible rfl)
  simp only [List.setIfInBounds_toArray, List.set_cons_zero, List.set_cons_succ]
  refine heldTake (v := ?_) 28 38 rfl rfl (by kernel_rfl) (by kernel_rfl) (by kernel_rfl) (fun _ _ _ h => h) (by rfl) (fun w hSw => ?_) (by assumption) ?_
  rotate_left
  · (try dsimp only at hSw); first | (go_simp; done) | (go_simp; with_reducible rfl)
  simp only [List.setIfInBounds_toArray, List.set_cons_zero, List.set_cons_succ]
  refine heldTake (v := ?_) 29 39 rfl rfl (by kernel_rfl) (by kernel_rfl) (by kernel_rfl) (fun _ _ _ h => h) (by rfl) (fun w hSw => ?_) (by assumption) ?_
  rotate_left
  · (try dsimp only at hSw); first | (go_simp; done) | (go_simp; with_reducible rfl)
  simp only [List.setIfInBounds_toArray, List.set_cons_zero, List.set_cons_succ]
  refine heldTake (v := ?_) 30 40 rfl rfl (by kernel_rfl) (by kernel_rfl) (by kernel_rfl) (fun _ _ _ h => h) (by rfl) (fun w hSw => ?_) (by assumption) ?_
  rotate_left
  · (try dsimp only at hSw); first | (go_simp; done) | (go_simp; with_reducible rfl)
  simp only [List.setIfInBounds_toArray, List.set_cons_zero, List.set_cons_succ]
  refine heldTake (v := ?_) 31 41 rfl rfl (by kernel_rfl) (by kernel_rfl) (by kernel_rfl) (fun _ _ _ h => h) (by rfl) (fun w hSw => ?_) (by assumption) ?_
  rotate_left
  · (try dsimp only at hSw); first | (go_simp; done) | (go_simp; with_reducible rfl)
  simp only [List.setIfInBounds_toArray, List.set_cons_zero, List.set_cons_succ]
  refine heldTake (v := ?_) 32 42 rfl rfl (by kernel_rfl) (by kernel_rfl) (by kernel_rfl) (fun _ _ _ h => h) (by rfl) (fun w hSw => ?_) (by assumption) ?_
  rotate_left
  · (try dsimp only at hSw); first | (go_simp; done) | (go_simp; with_reducible rfl)
  simp only [List.setIfInBounds_toArray, List.set_cons_zero, List.set_cons_succ]
  refine heldTake (v := ?_) 33 43 rfl rfl (by kernel_rfl) (by kernel_rfl) (by kernel_rfl) (fun _ _ _ h => h) (by rfl) (fun w hSw => ?_) (by assumption) ?_
  rotate_left
  · (try dsimp only at hSw); first | (go_simp; done) | (go_simp; with_reducible rfl)
  simp only [List.setIfInBounds_toArray, List.set_cons_zero, List.set_cons_succ]
  refine heldTake (v := ?_) 34 44 rfl rfl (by kernel_rfl) (by kernel_rfl) (by kernel_rfl) (fun _ _ _ h => h) (by rfl) (fun w hSw => ?_) (by assumption) ?_
  rotate_left
  · (try dsimp only at hSw); first | (go_simp; done) | (go_simp; with_reducible rfl)
  simp only [List.setIfInBounds_toArray, List.set_cons_zero, List.set_cons_succ]
  refine heldTake (v := ?_) 35 45 rfl rfl (by kernel_rfl) (by kernel_rfl) (by kernel_rfl) (fun _ _ _ h => h) (by rfl) (fun w hSw => ?_) (by assumption) ?_
  rotate_left
  · (try dsimp only at hSw); first | (go_simp; done) | (go_simp; with_reducible rfl)
  simp only [List.setIfInBounds_toArray, List.set_cons_zero, List.set_cons_succ]
  refine heldTake (v := ?_) 36 46 rfl rfl (by kernel_rfl) (by kernel_rfl) (by kernel_rfl) (fun _ _ _ h => h) (by rfl) (fun w hSw => ?_) (by assumption) ?_
  rotate_left
  · (try dsimp only at hSw); first | (go_simp; done) | (go_simp; with_reducible rfl)
  simp only [List.setIfInBounds_toArray, List.set_cons_zero, List.set_cons_succ]
  refine heldTake (v := ?_) 37 47 rfl rfl (by kernel_rfl) (by kernel_rfl) (by kernel_rfl) (fun _ _ _ h => h) (by rfl) (fun w hSw => ?_) (by assumption) ?_
  rotate_left
  · (try dsimp only at hSw); first | (go_simp; done) | (go_simp; with_reducible rfl)
  simp only [List.setIfInBounds_toArray, List.set_cons_zero, List.set_cons_succ]
  refine heldTake (v := ?_) 38 48 rfl rfl (by kernel_rfl) (by kernel_rfl) (by kernel_rfl) (fun _ _ _ h => h) (by rfl) (fun w hSw => ?_) (by assumption) ?_
  rotate_left
  · (try dsimp only at hSw); first | (go_simp; done) | (go_simp; with_reducible rfl)
  simp only [List.setIfInBounds_toArray, List.set_cons_zero, List.set_cons_succ]
  refine heldTake (v := ?_) 39 49 rfl rfl (by kernel_rfl) (by kernel_rfl) (by kernel_rfl) (fun _ _ _ h => h) (by rfl) (fun w hSw => ?_) (by assumption) ?_
  rotate_left
  · (try dsimp only at hSw); first | (go_simp; done) | (go_simp; with_reducible rfl)
  simp only [List.setIfInBounds_toArray, List.set_cons_zero, List.set_cons_succ]
  refine heldTake (v := ?_) 40 50 rfl rfl (by kernel_rfl) (by kernel_rfl) (by kernel_rfl) (fun _ _ _ h => h) (by rfl) (fun w hSw => ?_) (by assumption) ?_
  rotate_left
  · (try dsimp only at hSw); first | (go_simp; done) | (go_simp; with_reducible rfl)
  simp only [List.setIfInBounds_toArray, List.set_cons_zero, List.set_cons_succ]
  refine heldTake (v := ?_) 41 51 rfl rfl (by kernel_rfl) (by kernel_rfl) (by kernel_rfl) (fun _ _ _ h => h) (by rfl) (fun w hSw => ?_) (by assumption) ?_
  rotate_left
  · (try dsimp only at hSw); first | (go_simp; done) | (go_simp; with_reducible rfl)
  simp only [List.setIfInBounds_toArray, List.set_cons_zero, List.set_cons_succ]
  refine heldTake (v := ?_) 42 52 rfl rfl (by kernel_rfl) (by kernel_rfl) (by kernel_rfl) (fun _ _ _ h => h) (by rfl) (fun w hSw => ?_) (by assumption) ?_
  rotate_left
  · (try dsimp only at hSw); first | (go_simp; done) | (go_simp; with_reducible rfl)
  simp only [List.setIfInBounds_toArray, List.set_cons_zero, List.set_cons_succ]
  refine heldTake (v := ?_) 43 53 rfl rfl (by kernel_rfl) (by kernel_rfl) (by kernel_rfl) (fun _ _ _ h => h) (by rfl) (fun w hSw => ?_) (by assumption) ?_
  rotate_left
  · (try dsimp only at hSw); first | (go_simp; done) | (go_simp; with_reducible rfl)
  simp only [List.setIfInBounds_toArray, List.set_cons_zero, List.set_cons_succ]
  refine heldOne 44 rfl (by kernel_rfl) (by rfl) (fun K2 hK => ?_)
  go_simp
  refine (D6 _).mono ?_
  rintro e wz ⟨rfl, hb⟩
  simp only []
  refine hK.out _ _ ?_ (fun hHeld => ?_)
  · exact keepH (P := fun w' : World => (w'.cell? ⟨w.heap.size, 0, none⟩ = some (.int .i64 (q : Int)) ∧ w'.cell? ⟨w.heap.size, 1, none⟩ = some (.int .i64 dn) ∧ w'.cell? ⟨w.heap.size, 2, none⟩ = some (.slice (some ⟨bd, od, none⟩) nd dc) ∧ w'.cell? ⟨w.heap.size, 3, none⟩ = some (.int .i64 sp) ∧ w'.cell? ⟨w.heap.size, 4, none⟩ = some (.int .i64 sl) ∧ w'.cell? ⟨w.heap.size, 5, none⟩ = some (.int .i64 sq) ∧ w'.cell? ⟨w.heap.size, 6, none⟩ = some (.int .i64 3) ∧ w'.cell? ⟨w.heap.size, 7, none⟩ = some (.int .i64 (z : Int)) ∧ w'.cell? ⟨w.heap.size, 8, none⟩ = some (.string key) ∧ w'.cell? ⟨w.heap.size, 9, none⟩ = some (.int .i64 col) ∧ w'.cell? ⟨w.heap.size, 10, none⟩ = some (.slice va nv vc) ∧ w'.cell? ⟨w.heap.size, 11, none⟩ = some (.slice oa no oc) ∧ w'.cell? ⟨bd, od + q, none⟩ = some (.int .i64 at0))) HP hb (by assumption)
  clear hK K2
  try simp only [List.setIfInBounds_toArray, List.set_cons_zero, List.set_cons_succ]
  refine heldTake (v := ?_) 45 55 rfl rfl (by kernel_rfl) (by kernel_rfl) (by kernel_rfl) (fun _ _ _ h => h) (by rfl) (fun w hSw => ?_) (by assumption) ?_
  rotate_left
  · (try dsimp only at hSw); first | (go_simp; done) | (go_simp; with_reducible rfl)
  simp only [List.setIfInBounds_toArray, List.set_cons_zero, List.set_cons_succ]
  refine heldTake (v := ?_) 46 56 rfl rfl (by kernel_rfl) (by kernel_rfl) (by kernel_rfl) (fun _ _ _ h => h) (by rfl) (fun w hSw => ?_) (by assumption) ?_
  rotate_left
  · (try dsimp only at hSw); first | (go_simp; done) | (go_simp; with_reducible rfl)
  simp only [List.setIfInBounds_toArray, List.set_cons_zero, List.set_cons_succ]
  refine heldTake (v := ?_) 47 57 rfl rfl (by kernel_rfl) (by kernel_rfl) (by kernel_rfl) (fun _ _ _ h => h) (by rfl) (fun w hSw => ?_) (by assumption) ?_
  rotate_left
  · (try dsimp only at hSw); first | (go_simp; done) | (go_simp; with_reducible rfl)
  simp only [List.setIfInBounds_toArray, List.set_cons_zero, List.set_cons_succ]
  refine heldTake (v := ?_) 48 58 rfl rfl (by kernel_rfl) (by kernel_rfl) (by kernel_rfl) (fun _ _ _ h => h) (by rfl) (fun w hSw => ?_) (by assumption) ?_
  rotate_left
  · (try dsimp only at hSw); first | (go_simp; done) | (go_simp; with_reducible rfl)
  simp only [List.setIfInBounds_toArray, List.set_cons_zero, List.set_cons_succ]
  refine heldTake (v := ?_) 49 59 rfl rfl (by kernel_rfl) (by kernel_rfl) (by kernel_rfl) (fun _ _ _ h => h) (by rfl) (fun w hSw => ?_) (by assumption) ?_
  rotate_left
  · (try dsimp only at hSw); first | (go_simp; done) | (go_simp; with_reducible rfl)
  simp only [List.setIfInBounds_toArray, List.set_cons_zero, List.set_cons_succ]
  refine heldTake (v := ?_) 50 60 rfl rfl (by kernel_rfl) (by kernel_rfl) (by kernel_rfl) (fun _ _ _ h => h) (by rfl) (fun w hSw => ?_) (by assumption) ?_
  rotate_left
  · (try dsimp only at hSw); first | (go_simp; done) | (go_simp; with_reducible rfl)
  simp only [List.setIfInBounds_toArray, List.set_cons_zero, List.set_cons_succ]
  refine heldTake (v := ?_) 51 61 rfl rfl (by kernel_rfl) (by kernel_rfl) (by kernel_rfl) (fun _ _ _ h => h) (by rfl) (fun w hSw => ?_) (by assumption) ?_
  rotate_left
  · (try dsimp only at hSw); first | (go_simp; done) | (go_simp; with_reducible rfl)
  simp only [List.setIfInBounds_toArray, List.set_cons_zero, List.set_cons_succ]
  refine heldTake (v := ?_) 52 62 rfl rfl (by kernel_rfl) (by kernel_rfl) (by kernel_rfl) (fun _ _ _ h => h) (by rfl) (fun w hSw => ?_) (by assumption) ?_
  rotate_left
  · (try dsimp only at hSw); first | (go_simp; done) | (go_simp; with_reducible rfl)
  simp only [List.setIfInBounds_toArray, List.set_cons_zero, List.set_cons_succ]
  refine heldTake (v := ?_) 53 63 rfl rfl (by kernel_rfl) (by kernel_rfl) (by kernel_rfl) (fun _ _ _ h => h) (by rfl) (fun w hSw => ?_) (by assumption) ?_
  rotate_left
  · (try dsimp only at hSw); first | (go_simp; done) | (go_simp; with_reducible rfl)
  simp only [List.setIfInBounds_toArray, List.set_cons_zero, List.set_cons_succ]
  refine heldTake (v := ?_) 54 64 rfl rfl (by kernel_rfl) (by kernel_rfl) (by kernel_rfl) (fun _ _ _ h => h) (by rfl) (fun w hSw => ?_) (by assumption) ?_
  rotate_left
  · (try dsimp only at hSw); first | (go_simp; done) | (go_simp; with_reducible rfl)
  simp only [List.setIfInBounds_toArray, List.set_cons_zero, List.set_cons_succ]
  refine heldTake (v := ?_) 55 65 rfl rfl (by kernel_rfl) (by kernel_rfl) (by kernel_rfl) (fun _ _ _ h => h) (by rfl) (fun w hSw => ?_) (by assumption) ?_
  rotate_left
  · (try dsimp only at hSw); first | (go_simp; done) | (go_simp; with_reducible rfl)
  simp only [List.setIfInBounds_toArray, List.set_cons_zero, List.set_cons_succ]
  refine heldTake (v := ?_) 56 66 rfl rfl (by kernel_rfl) (by kernel_rfl) (by kernel_rfl) (fun _ _ _ h => h) (by rfl) (fun w hSw => ?_) (by assumption) ?_
  rotate_left
  · (try dsimp only at hSw); first | (go_simp; done) | (go_simp; with_reducible rfl)
  simp only [List.setIfInBounds_toArray, List.set_cons_zero, List.set_cons_succ]
  refine heldTake (v := ?_) 57 67 rfl rfl (by kernel_rfl) (by kernel_rfl) (by kernel_rfl) (fun _ _ _ h => h) (by rfl) (fun w hSw => ?_) (by assumption) ?_
  rotate_left
  · (try dsimp only at hSw); first | (go_simp; done) | (go_simp; with_reducible rfl)
  simp only [List.setIfInBounds_toArray, List.set_cons_zero, List.set_cons_succ]
  refine heldTake (v := ?_) 58 68 rfl rfl (by kernel_rfl) (by kernel_rfl) (by kernel_rfl) (fun _ _ _ h => h) (by rfl) (fun w hSw => ?_) (by assumption) ?_
  rotate_left
  · (try dsimp only at hSw); first | (go_simp; done) | (go_simp; with_reducible rfl)
  simp only [List.setIfInBounds_toArray, List.set_cons_zero, List.set_cons_succ]
  refine heldTake (v := ?_) 59 69 rfl rfl (by kernel_rfl) (by kernel_rfl) (by kernel_rfl) (fun _ _ _ h => h) (by rfl) (fun w hSw => ?_) (by assumption) ?_
  rotate_left
  · (try dsimp only at hSw); first | (go_simp; done) | (go_simp; with_reducible rfl)
  simp only [List.setIfInBounds_toArray, List.set_cons_zero, List.set_cons_succ]
  refine heldTake (v := ?_) 60 70 rfl rfl (by kernel_rfl) (by kernel_rfl) (by kernel_rfl) (fun _ _ _ h => h) (by rfl) (fun w hSw => ?_) (by assumption) ?_
  rotate_left
  · (try dsimp only at hSw); first | (go_simp; done) | (go_simp; with_reducible rfl)
  simp only [List.setIfInBounds_toArray, List.set_cons_zero, List.set_cons_succ]
  refine heldTake (v := ?_) 61 71 rfl rfl (by kernel_rfl) (by kernel_rfl) (by kernel_rfl) (fun _ _ _ h => h) (by rfl) (fun w hSw => ?_) (by assumption) ?_
  rotate_left
  · (try dsimp only at hSw); first | (go_simp; done) | (go_simp; with_reducible rfl)
  simp only [List.setIfInBounds_toArray, List.set_cons_zero, List.set_cons_succ]
  refine heldOne 62 rfl (by kernel_rfl) (by rfl) (fun K2 hK => ?_)
  go_simp
  refine (D8 _).mono ?_
  rintro e wz ⟨rfl, hw⟩
  simp only []
  subst hw
  refine hK.out _ _ ?_ (fun hHeld => ?_)
  · (first | exact hHeld | assumption)
  clear hK K2
  try simp only [List.setIfInBounds_toArray, List.set_cons_zero, List.set_cons_succ]
  refine heldTake (v := ?_) 63 73 rfl rfl (by kernel_rfl) (by kernel_rfl) (by kernel_rfl) (fun _ _ _ h => h) (by rfl) (fun w hSw => ?_) (by assumption) ?_
  rotate_left
  · (try dsimp only at hSw); first | (go_simp; done) | (go_simp; with_reducible rfl)
  simp only [List.setIfInBounds_toArray, List.set_cons_zero, List.set_cons_succ]
  refine heldTake (v := ?_) 64 74 rfl rfl (by kernel_rfl) (by kernel_rfl) (by kernel_rfl) (fun _ _ _ h => h) (by rfl) (fun w hSw => ?_) (by assumption) ?_
  rotate_left
  · (try dsimp only at hSw); first | (go_simp; done) | (go_simp; with_reducible rfl)
  simp only [List.setIfInBounds_toArray, List.set_cons_zero, List.set_cons_succ]
  refine heldTake (v := ?_) 65 75 rfl rfl (by kernel_rfl) (by kernel_rfl) (by kernel_rfl) (fun _ _ _ h => h) (by rfl) (fun w hSw => ?_) (by assumption) ?_
  rotate_left
  · (try dsimp only at hSw); first | (go_simp; done) | (go_simp; with_reducible rfl)
  simp only [List.setIfInBounds_toArray, List.set_cons_zero, List.set_cons_succ]
  refine heldTake (v := ?_) 66 76 rfl rfl (by kernel_rfl) (by kernel_rfl) (by kernel_rfl) (fun _ _ _ h => h) (by rfl) (fun w hSw => ?_) (by assumption) ?_
  rotate_left
  · (try dsimp only at hSw); first | (go_simp; done) | (go_simp; with_reducible rfl)
  simp only [List.setIfInBounds_toArray, List.set_cons_zero, List.set_cons_succ]
  refine heldTake (v := ?_) 67 77 rfl rfl (by kernel_rfl) (by kernel_rfl) (by kernel_rfl) (fun _ _ _ h => h) (by rfl) (fun w hSw => ?_) (by assumption) ?_
  rotate_left
  · (try dsimp only at hSw); first | (go_simp; done) | (go_simp; with_reducible rfl)
  simp only [List.setIfInBounds_toArray, List.set_cons_zero, List.set_cons_succ]
  refine heldOne 68 rfl (by kernel_rfl) (by rfl) (fun K2 hK => ?_)
  go_simp
  refine (D9 _).mono ?_
  rintro e wz ⟨rfl, hw⟩
  simp only []
  subst hw
  refine hK.out _ _ ?_ (fun hHeld => ?_)
  · (first | exact hHeld | assumption)
  clear hK K2
  try simp only [List.setIfInBounds_toArray, List.set_cons_zero, List.set_cons_succ]
  refine heldTake (v := ?_) 69 79 rfl rfl (by kernel_rfl) (by kernel_rfl) (by kernel_rfl) (fun _ _ _ h => h) (by rfl) (fun w hSw => ?_) (by assumption) ?_
  rotate_left
  · (try dsimp only at hSw); first | (go_simp; done) | (go_simp; with_reducible rfl)
  simp only [List.setIfInBounds_toArray, List.set_cons_zero, List.set_cons_succ]
  refine heldTake (v := ?_) 70 80 rfl rfl (by kernel_rfl) (by kernel_rfl) (by kernel_rfl) (fun _ _ _ h => h) (by rfl) (fun w hSw => ?_) (by assumption) ?_
  rotate_left
  · (try dsimp only at hSw); first | (go_simp; done) | (go_simp; with_reducible rfl)
  simp only [List.setIfInBounds_toArray, List.set_cons_zero, List.set_cons_succ]
  refine wpAnyH_done (by kernel_rfl) ?_ _
  obtain ⟨⟨s0, s1, s2, s3, s4, s5, s6, s7, s8, s9, s10, s11, s12⟩, HB9⟩ := hHeld
  obtain ⟨ac, cc, y0, hcc, hrc⟩ := HFV.out _ HB9.out
  rename World => wh
  clear s0 s1 s3 s4 s5 s6 s7 s8 s12 hrc
  have E1 := fun V => in_any (no : Int) 1 64 V
  by_cases i1 : 1 ≤ no ∧ no ≤ 64
  case neg =>
    rw [show inF 1 64 (no : Int) = false from decide_eq_false (by omega)] at E1
    have HRS : Hid (res = false) := by show _ = _; rw [← hres, show remF deps dots = false from by unfold remF; rw [HNO.out, decide_eq_false i1]; rfl]; rfl
    go_wp2_with fail
    refine (E1 _).mono ?_
    rintro e w8 ⟨rfl, hw⟩
    subst w8
    go_wp2
    go_ret
    exact ⟨by rw [HRS.out]; rfl, chain HB0.out HB9.out⟩
  rw [show inF 1 64 (no : Int) = true from decide_eq_true (by omega)] at E1
  by_cases i2 : col = 0
  case neg =>
    have q9 : (col != 0) = true := by simpa using i2
    have HRS : Hid (res = false) := by show _ = _; rw [← hres, decide_eq_false i2]; simp
    go_wp2_with fail
    refine (E1 _).mono ?_
    rintro e w8 ⟨rfl, hw⟩
    subst w8
    go_wp2
    go_ret
    exact ⟨by rw [HRS.out]; rfl, chain HB0.out HB9.out⟩
  subst i2
  by_cases i3 : nv = 0
  case neg =>
    have q10 : decide ((0 : Int) < (nv : Int)) = true := by simp; omega
    have q11 : 0 < nv := by omega
    have HRS : Hid (res = false) := by show _ = _; rw [← hres, decide_eq_false i3]; simp
    go_wp2_with fail
    refine (E1 _).mono ?_
    rintro e w8 ⟨rfl, hw⟩
    subst w8
    go_wp2
    go_ret
    exact ⟨by rw [HRS.out]; rfl, chain HB0.out HB9.out⟩
  subst i3
  have HRP : Hid (res = (List.range no).all (stepF deps dots)) := by
    show _ = _
    rw [← hres]
    unfold remF
    rw [HNO.out, decide_eq_true i1]
    simp
  have HDD : Hid (RdD wh oa dots) := HL.out.dots.later (chain HB0.out HB9.out)
  have HDP : Hid (RdI .i64 wh (some ⟨bd, od, none⟩) deps) := HL.out.deps.later (chain HB0.out HB9.out)
  clear hres
  go_wp2_with fail
  refine (E1 _).mono ?_
  rintro e w8 ⟨rfl, hw⟩
  subst w8
  clear E1
  go_wp2
  go_loopw [9] (fun i wr => ∃ k : Nat, k ≤ no ∧ i = .int .i64 k ∧ Hid ((List.range k).all (stepF deps dots) = true) ∧ Hid (Below wh.heap.size wh wr)) (fun i _ => no - (RowKit.intOf i).toNat)
  case atStart => exact ⟨0, Nat.zero_le _, rfl, rfl, Below.refl _ _⟩
  case round =>
  obtain ⟨k, hk9, rfl, hT, hB⟩ := hrel
  have t2 := cell_later hB.out s2
  have t11 := cell_later hB.out s11
  by_cases hlt : k < no
  case neg =>
    have hkn : k = no := by omega
    have HRS : Hid (res = true) := by show _ = _; rw [HRP.out, ← hkn]; exact hT.out
    subst k
    clear hlt
    go_wp2
    go_ret
    exact ⟨by rw [HRS.out]; rfl, chain HB0.out (chain HB9.out hB.out)⟩
  have hkl : k < dots.length := by rw [HNO.out]; exact hlt
  obtain ⟨ob, oo, rfl, hc⟩ := (HDD.out.later hB.out) (by omega)
  obtain ⟨x0, x1⟩ := hc k hkl
  have HS : Hid ((List.range (k + 1)).all (stepF deps dots) = stepF deps dots k) := range_step hT.out
  have HX : Hid (stepF deps dots k = false → res = false) := fun h => by rw [HRP.out]; exact range_no hlt h
  have HST : Hid (stepF deps dots k = (hasD deps dots[k].1 dots[k].2 && (k == 0 || lessD (dots[k - 1]?.getD (0, 0)).1 (dots[k - 1]?.getD (0, 0)).2 dots[k].1 dots[k].2))) := by
    show _ = _
    unfold stepF
    rw [List.getElem?_eq_getElem hkl]
    rfl
  have Hc : Hid (∀ i (hi : i < dots.length), wr.cell? ⟨ob, oo + i * 2, none⟩ = some (.int .i64 dots[i].1) ∧ wr.cell? ⟨ob, oo + i * 2 + 1, none⟩ = some (.int .i64 dots[i].2)) := hc
  clear hc hT
  generalize dots[k] = d at *
  clear hkl
  obtain ⟨pp, pn⟩ := d
  simp only at x0 x1 HST
  have E2 := fun (V : World) (h : Below wr.heap.size wr V) => rHas_any (some ⟨bd, od, none⟩) nd dc pp pn deps V hnd hld (HDP.out.later (chain hB.out h))
  have kk0 : (0 : Int) ≤ (k : Int) := by omega
  have kk1 : (k : Int) < (no : Int) := by omega
  generalize hasD deps pp pn = g1 at *
  cases g1 with
  | false =>
    have HRS : Hid (res = false) := HX.out (by rw [HST.out]; rfl)
    have HP9 : ∀ a b : World, Below a.heap.size a b → (fun w' : World => (w'.cell? ⟨w.heap.size, 2, none⟩ = some (.slice (some ⟨bd, od, none⟩) nd dc) ∧ w'.cell? ⟨w.heap.size, 11, none⟩ = some (.slice (some ⟨ob, oo, none⟩) no oc) ∧ w'.cell? ⟨ob, oo + k * 2, none⟩ = some (.int .i64 pp) ∧ w'.cell? ⟨ob, oo + k * 2 + 1, none⟩ = some (.int .i64 pn))) a → (fun w' : World => (w'.cell? ⟨w.heap.size, 2, none⟩ = some (.slice (some ⟨bd, od, none⟩) nd dc) ∧ w'.cell? ⟨w.heap.size, 11, none⟩ = some (.slice (some ⟨ob, oo, none⟩) no oc) ∧ w'.cell? ⟨ob, oo + k * 2, none⟩ = some (.int .i64 pp) ∧ w'.cell? ⟨ob, oo + k * 2 + 1, none⟩ = some (.int .i64 pn))) b := fun a b hb h => ⟨cell_later hb h.1, cell_later hb h.2.1, cell_later hb h.2.2.1, cell_later hb h.2.2.2⟩
    have HS9 := (And.intro (show (wr.cell? ⟨w.heap.size, 2, none⟩ = some (.slice (some ⟨bd, od, none⟩) nd dc) ∧ wr.cell? ⟨w.heap.size, 11, none⟩ = some (.slice (some ⟨ob, oo, none⟩) no oc) ∧ wr.cell? ⟨ob, oo + k * 2, none⟩ = some (.int .i64 pp) ∧ wr.cell? ⟨ob, oo + k * 2 + 1, none⟩ = some (.int .i64 pn)) from ⟨t2, t11, x0, x1⟩) (show Hid (Below wr.heap.size wr wr) from Below.refl _ _))
    go_wp2_with fail
    refine wp_region_held_drew (S := (fun w' => (w'.cell? ⟨w.heap.size, 2, none⟩ = some (.slice (some ⟨bd, od, none⟩) nd dc) ∧ w'.cell? ⟨w.heap.size, 11, none⟩ = some (.slice (some ⟨ob, oo, none⟩) no oc) ∧ w'.cell? ⟨ob, oo + k * 2, none⟩ = some (.int .i64 pp) ∧ w'.cell? ⟨ob, oo + k * 2 + 1, none⟩ = some (.int .i64 pn)) ∧ Hid (Below wr.heap.size wr w'))) (by kernel_rfl) (keepH (P := fun w' : World => (w'.cell? ⟨w.heap.size, 2, none⟩ = some (.slice (some ⟨bd, od, none⟩) nd dc) ∧ w'.cell? ⟨w.heap.size, 11, none⟩ = some (.slice (some ⟨ob, oo, none⟩) no oc) ∧ w'.cell? ⟨ob, oo + k * 2, none⟩ = some (.int .i64 pp) ∧ w'.cell? ⟨ob, oo + k * 2 + 1, none⟩ = some (.int .i64 pn))) HP9 (Below.refl _ _).drew HS9) (fun hHeld => ?_)
    refine heldTake (v := ?_) 0 198 rfl rfl (by kernel_rfl) (by kernel_rfl) (by kernel_rfl) (fun _ _ _ h => h) (by rfl) (fun w hSw => ?_) (by assumption) ?_
    rotate_left
    · (try dsimp only at hSw); first | (go_simp; done) | (go_simp; with_reducible rfl)
    simp only [List.setIfInBounds_toArray, List.set_cons_zero, List.set_cons_succ]
    refine heldTake (v := ?_) 1 199 rfl rfl (by kernel_rfl) (by kernel_rfl) (by kernel_rfl) (fun _ _ _ h => h) (by rfl) (fun w hSw => ?_) (by assumption) ?_
    rotate_left
    · (try dsimp only at hSw); first | (go_simp; done) | (go_simp; with_reducible rfl)
    simp only [List.setIfInBounds_toArray, List.set_cons_zero, List.set_cons_succ]
    refine heldTake (v := ?_) 2 200 rfl rfl (by kernel_rfl) (by kernel_rfl) (by kernel_rfl) (fun _ _ _ h => h) (by rfl) (fun w hSw => ?_) (by assumption) ?_
    rotate_left
    · (try dsimp only at hSw); first | (go_simp; done) | (go_simp; with_reducible rfl)
    simp only [List.setIfInBounds_toArray, List.set_cons_zero, List.set_cons_succ]
    refine heldTake (v := ?_) 3 201 rfl rfl (by kernel_rfl) (by kernel_rfl) (by kernel_rfl) (fun _ _ _ h => h) (by rfl) (fun w hSw => ?_) (by assumption) ?_
    rotate_left
    · (try dsimp only at hSw); first | (go_simp; done) | (go_simp; with_reducible rfl)
    simp only [List.setIfInBounds_toArray, List.set_cons_zero, List.set_cons_succ]
    refine heldTake (v := ?_) 4 202 rfl rfl (by kernel_rfl) (by kernel_rfl) (by kernel_rfl) (fun _ _ _ h => h) (by rfl) (fun w hSw => ?_) (by assumption) ?_
    rotate_left
    · (try dsimp only at hSw); first | (go_simp; done) | (go_simp; with_reducible rfl)
    simp only [List.setIfInBounds_toArray, List.set_cons_zero, List.set_cons_succ]
    refine heldTake (v := ?_) 5 203 rfl rfl (by kernel_rfl) (by kernel_rfl) (by kernel_rfl) (fun _ _ _ h => h) (by rfl) (fun w hSw => ?_) (by assumption) ?_
    rotate_left
    · (try dsimp only at hSw); first | (go_simp; done) | (go_simp; with_reducible rfl)
    simp only [List.setIfInBounds_toArray, List.set_cons_zero, List.set_cons_succ]
    refine heldTake (v := ?_) 6 204 rfl rfl (by kernel_rfl) (by kernel_rfl) (by kernel_rfl) (fun _ _ _ h => h) (by rfl) (fun w hSw => ?_) (by assumption) ?_
    rotate_left
    · (try dsimp only at hSw); first | (go_simp; done) | (go_simp; with_reducible rfl)
    simp only [List.setIfInBounds_toArray, List.set_cons_zero, List.set_cons_succ]
    refine heldOne 7 rfl (by kernel_rfl) (by rfl) (fun K2 hK => ?_)
    go_simp
    refine (E2 _ hHeld.2.out).mono ?_
    rintro e wz ⟨rfl, hb⟩
    simp only []
    refine hK.out _ _ ?_ (fun hHeld => ?_)
    · exact keepH (P := fun w' : World => (w'.cell? ⟨w.heap.size, 2, none⟩ = some (.slice (some ⟨bd, od, none⟩) nd dc) ∧ w'.cell? ⟨w.heap.size, 11, none⟩ = some (.slice (some ⟨ob, oo, none⟩) no oc) ∧ w'.cell? ⟨ob, oo + k * 2, none⟩ = some (.int .i64 pp) ∧ w'.cell? ⟨ob, oo + k * 2 + 1, none⟩ = some (.int .i64 pn))) HP9 hb (by assumption)
    clear hK K2
    try simp only [List.setIfInBounds_toArray, List.set_cons_zero, List.set_cons_succ]
    refine heldTake (v := ?_) 8 206 rfl rfl (by kernel_rfl) (by kernel_rfl) (by kernel_rfl) (fun _ _ _ h => h) (by rfl) (fun w hSw => ?_) (by assumption) ?_
    rotate_left
    · (try dsimp only at hSw); first | (go_simp; done) | (go_simp; with_reducible rfl)
    simp only [List.setIfInBounds_toArray, List.set_cons_zero, List.set_cons_succ]
    refine heldTake (v := ?_) 9 207 rfl rfl (by kernel_rfl) (by kernel_rfl) (by kernel_rfl) (fun _ _ _ h => h) (by rfl) (fun w hSw => ?_) (by assumption) ?_
    rotate_left
    · (try dsimp only at hSw); first | (go_simp; done) | (go_simp; with_reducible rfl)
    simp only [List.setIfInBounds_toArray, List.set_cons_zero, List.set_cons_succ]
    refine heldSkip 10 208 rfl rfl (by kernel_rfl) (by kernel_rfl) (by kernel_rfl) (fun _ _ _ h => h) (by rfl) (by assumption) ?_
    simp only [List.setIfInBounds_toArray, List.set_cons_zero, List.set_cons_succ]
    refine heldSkip 11 209 rfl rfl (by kernel_rfl) (by kernel_rfl) (by kernel_rfl) (fun _ _ _ h => h) (by rfl) (by assumption) ?_
    simp only [List.setIfInBounds_toArray, List.set_cons_zero, List.set_cons_succ]
    refine heldSkip 12 210 rfl rfl (by kernel_rfl) (by kernel_rfl) (by kernel_rfl) (fun _ _ _ h => h) (by rfl) (by assumption) ?_
    simp only [List.setIfInBounds_toArray, List.set_cons_zero, List.set_cons_succ]
    refine heldSkip 13 211 rfl rfl (by kernel_rfl) (by kernel_rfl) (by kernel_rfl) (fun _ _ _ h => h) (by rfl) (by assumption) ?_
    simp only [List.setIfInBounds_toArray, List.set_cons_zero, List.set_cons_succ]
    refine heldSkip 14 212 rfl rfl (by kernel_rfl) (by kernel_rfl) (by kernel_rfl) (fun _ _ _ h => h) (by rfl) (by assumption) ?_
    simp only [List.setIfInBounds_toArray, List.set_cons_zero, List.set_cons_succ]
    refine heldSkip 15 213 rfl rfl (by kernel_rfl) (by kernel_rfl) (by kernel_rfl) (fun _ _ _ h => h) (by rfl) (by assumption) ?_
    simp only [List.setIfInBounds_toArray, List.set_cons_zero, List.set_cons_succ]
    refine heldSkip 16 214 rfl rfl (by kernel_rfl) (by kernel_rfl) (by kernel_rfl) (fun _ _ _ h => h) (by rfl) (by assumption) ?_
    simp only [List.setIfInBounds_toArray, List.set_cons_zero, List.set_cons_succ]
    refine heldSkip 17 215 rfl rfl (by kernel_rfl) (by kernel_rfl) (by kernel_rfl) (fun _ _ _ h => h) (by rfl) (by assumption) ?_
    simp only [List.setIfInBounds_toArray, List.set_cons_zero, List.set_cons_succ]
    refine heldSkip 18 216 rfl rfl (by kernel_rfl) (by kernel_rfl) (by kernel_rfl) (fun _ _ _ h => h) (by rfl) (by assumption) ?_
    simp only [List.setIfInBounds_toArray, List.set_cons_zero, List.set_cons_succ]
    refine heldSkip 19 217 rfl rfl (by kernel_rfl) (by kernel_rfl) (by kernel_rfl) (fun _ _ _ h => h) (by rfl) (by assumption) ?_
    simp only [List.setIfInBounds_toArray, List.set_cons_zero, List.set_cons_succ]
    refine heldSkip 20 218 rfl rfl (by kernel_rfl) (by kernel_rfl) (by kernel_rfl) (fun _ _ _ h => h) (by rfl) (by assumption) ?_
    simp only [List.setIfInBounds_toArray, List.set_cons_zero, List.set_cons_succ]
    refine heldSkip 21 219 rfl rfl (by kernel_rfl) (by kernel_rfl) (by kernel_rfl) (fun _ _ _ h => h) (by rfl) (by assumption) ?_
    simp only [List.setIfInBounds_toArray, List.set_cons_zero, List.set_cons_succ]
    refine heldSkip 22 220 rfl rfl (by kernel_rfl) (by kernel_rfl) (by kernel_rfl) (fun _ _ _ h => h) (by rfl) (by assumption) ?_
    simp only [List.setIfInBounds_toArray, List.set_cons_zero, List.set_cons_succ]
    refine heldSkip 23 221 rfl rfl (by kernel_rfl) (by kernel_rfl) (by kernel_rfl) (fun _ _ _ h => h) (by rfl) (by assumption) ?_
    simp only [List.setIfInBounds_toArray, List.set_cons_zero, List.set_cons_succ]
    refine heldSkip 24 222 rfl rfl (by kernel_rfl) (by kernel_rfl) (by kernel_rfl) (fun _ _ _ h => h) (by rfl) (by assumption) ?_
    simp only [List.setIfInBounds_toArray, List.set_cons_zero, List.set_cons_succ]
    refine heldSkip 25 223 rfl rfl (by kernel_rfl) (by kernel_rfl) (by kernel_rfl) (fun _ _ _ h => h) (by rfl) (by assumption) ?_
    simp only [List.setIfInBounds_toArray, List.set_cons_zero, List.set_cons_succ]
    refine heldSkip 26 224 rfl rfl (by kernel_rfl) (by kernel_rfl) (by kernel_rfl) (fun _ _ _ h => h) (by rfl) (by assumption) ?_
    simp only [List.setIfInBounds_toArray, List.set_cons_zero, List.set_cons_succ]
    refine heldTake (v := ?_) 27 225 rfl rfl (by kernel_rfl) (by kernel_rfl) (by kernel_rfl) (fun _ _ _ h => h) (by rfl) (fun w hSw => ?_) (by assumption) ?_
    rotate_left
    · (try dsimp only at hSw); first | (go_simp; done) | (go_simp; with_reducible rfl)
    simp only [List.setIfInBounds_toArray, List.set_cons_zero, List.set_cons_succ]
    refine wpAnyH_done (by kernel_rfl) ?_ _
    have HB8 : Hid (Below wr.heap.size wr _) := hHeld.2
    clear hHeld
    go_wp2
    go_ret
    exact ⟨by rw [HRS.out]; rfl, chain HB0.out (chain HB9.out (chain hB.out HB8.out))⟩
  | true =>
  by_cases hk0 : k = 0
  case pos =>
    have HT' : Hid ((List.range (k + 1)).all (stepF deps dots) = true) := by show _ = _; rw [HS.out, HST.out, hk0]; rfl
    have q12 : decide ((0 : Int) < (k : Int)) = false := by simp; omega
    have q13 : (0 < k) = False := by simp; omega
    clear hk0
    have HP9 : ∀ a b : World, Below a.heap.size a b → (fun w' : World => (w'.cell? ⟨w.heap.size, 2, none⟩ = some (.slice (some ⟨bd, od, none⟩) nd dc) ∧ w'.cell? ⟨w.heap.size, 11, none⟩ = some (.slice (some ⟨ob, oo, none⟩) no oc) ∧ w'.cell? ⟨ob, oo + k * 2, none⟩ = some (.int .i64 pp) ∧ w'.cell? ⟨ob, oo + k * 2 + 1, none⟩ = some (.int .i64 pn))) a → (fun w' : World => (w'.cell? ⟨w.heap.size, 2, none⟩ = some (.slice (some ⟨bd, od, none⟩) nd dc) ∧ w'.cell? ⟨w.heap.size, 11, none⟩ = some (.slice (some ⟨ob, oo, none⟩) no oc) ∧ w'.cell? ⟨ob, oo + k * 2, none⟩ = some (.int .i64 pp) ∧ w'.cell? ⟨ob, oo + k * 2 + 1, none⟩ = some (.int .i64 pn))) b := fun a b hb h => ⟨cell_later hb h.1, cell_later hb h.2.1, cell_later hb h.2.2.1, cell_later hb h.2.2.2⟩
    have HS9 := (And.intro (show (wr.cell? ⟨w.heap.size, 2, none⟩ = some (.slice (some ⟨bd, od, none⟩) nd dc) ∧ wr.cell? ⟨w.heap.size, 11, none⟩ = some (.slice (some ⟨ob, oo, none⟩) no oc) ∧ wr.cell? ⟨ob, oo + k * 2, none⟩ = some (.int .i64 pp) ∧ wr.cell? ⟨ob, oo + k * 2 + 1, none⟩ = some (.int .i64 pn)) from ⟨t2, t11, x0, x1⟩) (show Hid (Below wr.heap.size wr wr) from Below.refl _ _))
    go_wp2_with fail
    refine wp_region_held_drew (S := (fun w' => (w'.cell? ⟨w.heap.size, 2, none⟩ = some (.slice (some ⟨bd, od, none⟩) nd dc) ∧ w'.cell? ⟨w.heap.size, 11, none⟩ = some (.slice (some ⟨ob, oo, none⟩) no oc) ∧ w'.cell? ⟨ob, oo + k * 2, none⟩ = some (.int .i64 pp) ∧ w'.cell? ⟨ob, oo + k * 2 + 1, none⟩ = some (.int .i64 pn)) ∧ Hid (Below wr.heap.size wr w'))) (by kernel_rfl) (keepH (P := fun w' : World => (w'.cell? ⟨w.heap.size, 2, none⟩ = some (.slice (some ⟨bd, od, none⟩) nd dc) ∧ w'.cell? ⟨w.heap.size, 11, none⟩ = some (.slice (some ⟨ob, oo, none⟩) no oc) ∧ w'.cell? ⟨ob, oo + k * 2, none⟩ = some (.int .i64 pp) ∧ w'.cell? ⟨ob, oo + k * 2 + 1, none⟩ = some (.int .i64 pn))) HP9 (Below.refl _ _).drew HS9) (fun hHeld => ?_)
    refine heldTake (v := ?_) 0 198 rfl rfl (by kernel_rfl) (by kernel_rfl) (by kernel_rfl) (fun _ _ _ h => h) (by rfl) (fun w hSw => ?_) (by assumption) ?_
    rotate_left
    · (try dsimp only at hSw); first | (go_simp; done) | (go_simp; with_reducible rfl)
    simp only [List.setIfInBounds_toArray, List.set_cons_zero, List.set_cons_succ]
    refine heldTake (v := ?_) 1 199 rfl rfl (by kernel_rfl) (by kernel_rfl) (by kernel_rfl) (fun _ _ _ h => h) (by rfl) (fun w hSw => ?_) (by assumption) ?_
    rotate_left
    · (try dsimp only at hSw); first | (go_simp; done) | (go_simp; with_reducible rfl)
    simp only [List.setIfInBounds_toArray, List.set_cons_zero, List.set_cons_succ]
    refine heldTake (v := ?_) 2 200 rfl rfl (by kernel_rfl) (by kernel_rfl) (by kernel_rfl) (fun _ _ _ h => h) (by rfl) (fun w hSw => ?_) (by assumption) ?_
    rotate_left
    · (try dsimp only at hSw); first | (go_simp; done) | (go_simp; with_reducible rfl)
    simp only [List.setIfInBounds_toArray, List.set_cons_zero, List.set_cons_succ]
    refine heldTake (v := ?_) 3 201 rfl rfl (by kernel_rfl) (by kernel_rfl) (by kernel_rfl) (fun _ _ _ h => h) (by rfl) (fun w hSw => ?_) (by assumption) ?_
    rotate_left
    · (try dsimp only at hSw); first | (go_simp; done) | (go_simp; with_reducible rfl)
    simp only [List.setIfInBounds_toArray, List.set_cons_zero, List.set_cons_succ]
    refine heldTake (v := ?_) 4 202 rfl rfl (by kernel_rfl) (by kernel_rfl) (by kernel_rfl) (fun _ _ _ h => h) (by rfl) (fun w hSw => ?_) (by assumption) ?_
    rotate_left
    · (try dsimp only at hSw); first | (go_simp; done) | (go_simp; with_reducible rfl)
    simp only [List.setIfInBounds_toArray, List.set_cons_zero, List.set_cons_succ]
    refine heldTake (v := ?_) 5 203 rfl rfl (by kernel_rfl) (by kernel_rfl) (by kernel_rfl) (fun _ _ _ h => h) (by rfl) (fun w hSw => ?_) (by assumption) ?_
    rotate_left
    · (try dsimp only at hSw); first | (go_simp; done) | (go_simp; with_reducible rfl)
    simp only [List.setIfInBounds_toArray, List.set_cons_zero, List.set_cons_succ]
    refine heldTake (v := ?_) 6 204 rfl rfl (by kernel_rfl) (by kernel_rfl) (by kernel_rfl) (fun _ _ _ h => h) (by rfl) (fun w hSw => ?_) (by assumption) ?_
    rotate_left
    · (try dsimp only at hSw); first | (go_simp; done) | (go_simp; with_reducible rfl)
    simp only [List.setIfInBounds_toArray, List.set_cons_zero, List.set_cons_succ]
    refine heldOne 7 rfl (by kernel_rfl) (by rfl) (fun K2 hK => ?_)
    go_simp
    refine (E2 _ hHeld.2.out).mono ?_
    rintro e wz ⟨rfl, hb⟩
    simp only []
    refine hK.out _ _ ?_ (fun hHeld => ?_)
    · exact keepH (P := fun w' : World => (w'.cell? ⟨w.heap.size, 2, none⟩ = some (.slice (some ⟨bd, od, none⟩) nd dc) ∧ w'.cell? ⟨w.heap.size, 11, none⟩ = some (.slice (some ⟨ob, oo, none⟩) no oc) ∧ w'.cell? ⟨ob, oo + k * 2, none⟩ = some (.int .i64 pp) ∧ w'.cell? ⟨ob, oo + k * 2 + 1, none⟩ = some (.int .i64 pn))) HP9 hb (by assumption)
    clear hK K2
    try simp only [List.setIfInBounds_toArray, List.set_cons_zero, List.set_cons_succ]
    refine heldTake (v := ?_) 8 206 rfl rfl (by kernel_rfl) (by kernel_rfl) (by kernel_rfl) (fun _ _ _ h => h) (by rfl) (fun w hSw => ?_) (by assumption) ?_
    rotate_left
    · (try dsimp only at hSw); first | (go_simp; done) | (go_simp; with_reducible rfl)
    simp only [List.setIfInBounds_toArray, List.set_cons_zero, List.set_cons_succ]
    refine heldTake (v := ?_) 9 207 rfl rfl (by kernel_rfl) (by kernel_rfl) (by kernel_rfl) (fun _ _ _ h => h) (by rfl) (fun w hSw => ?_) (by assumption) ?_
    rotate_left
    · (try dsimp only at hSw); first | (go_simp; done) | (go_simp; with_reducible rfl)
    simp only [List.setIfInBounds_toArray, List.set_cons_zero, List.set_cons_succ]
    refine heldTake (v := ?_) 10 208 rfl rfl (by kernel_rfl) (by kernel_rfl) (by kernel_rfl) (fun _ _ _ h => h) (by rfl) (fun w hSw => ?_) (by assumption) ?_
    rotate_left
    · (try dsimp only at hSw); first | (go_simp; done) | (go_simp; with_reducible rfl)
    simp only [List.setIfInBounds_toArray, List.set_cons_zero, List.set_cons_succ]
    refine heldTake (v := ?_) 11 209 rfl rfl (by kernel_rfl) (by kernel_rfl) (by kernel_rfl) (fun _ _ _ h => h) (by rfl) (fun w hSw => ?_) (by assumption) ?_
    rotate_left
    · (try dsimp only at hSw); first | (go_simp; done) | (go_simp; with_reducible rfl)
    simp only [List.setIfInBounds_toArray, List.set_cons_zero, List.set_cons_succ]
    refine heldTake (v := ?_) 12 210 rfl rfl (by kernel_rfl) (by kernel_rfl) (by kernel_rfl) (fun _ _ _ h => h) (by rfl) (fun w hSw => ?_) (by assumption) ?_
    rotate_left
    · (try dsimp only at hSw); first | (go_simp; done) | (go_simp; with_reducible rfl)
    simp only [List.setIfInBounds_toArray, List.set_cons_zero, List.set_cons_succ]
    refine heldSkip 13 211 rfl rfl (by kernel_rfl) (by kernel_rfl) (by kernel_rfl) (fun _ _ _ h => h) (by rfl) (by assumption) ?_
    simp only [List.setIfInBounds_toArray, List.set_cons_zero, List.set_cons_succ]
    refine heldSkip 14 212 rfl rfl (by kernel_rfl) (by kernel_rfl) (by kernel_rfl) (fun _ _ _ h => h) (by rfl) (by assumption) ?_
    simp only [List.setIfInBounds_toArray, List.set_cons_zero, List.set_cons_succ]
    refine heldSkip 15 213 rfl rfl (by kernel_rfl) (by kernel_rfl) (by kernel_rfl) (fun _ _ _ h => h) (by rfl) (by assumption) ?_
    simp only [List.setIfInBounds_toArray, List.set_cons_zero, List.set_cons_succ]
    refine heldSkip 16 214 rfl rfl (by kernel_rfl) (by kernel_rfl) (by kernel_rfl) (fun _ _ _ h => h) (by rfl) (by assumption) ?_
    simp only [List.setIfInBounds_toArray, List.set_cons_zero, List.set_cons_succ]
    refine heldSkip 17 215 rfl rfl (by kernel_rfl) (by kernel_rfl) (by kernel_rfl) (fun _ _ _ h => h) (by rfl) (by assumption) ?_
    simp only [List.setIfInBounds_toArray, List.set_cons_zero, List.set_cons_succ]
    refine heldSkip 18 216 rfl rfl (by kernel_rfl) (by kernel_rfl) (by kernel_rfl) (fun _ _ _ h => h) (by rfl) (by assumption) ?_
    simp only [List.setIfInBounds_toArray, List.set_cons_zero, List.set_cons_succ]
    refine heldSkip 19 217 rfl rfl (by kernel_rfl) (by kernel_rfl) (by kernel_rfl) (fun _ _ _ h => h) (by rfl) (by assumption) ?_
    simp only [List.setIfInBounds_toArray, List.set_cons_zero, List.set_cons_succ]
    refine heldSkip 20 218 rfl rfl (by kernel_rfl) (by kernel_rfl) (by kernel_rfl) (fun _ _ _ h => h) (by rfl) (by assumption) ?_
    simp only [List.setIfInBounds_toArray, List.set_cons_zero, List.set_cons_succ]
    refine heldSkip 21 219 rfl rfl (by kernel_rfl) (by kernel_rfl) (by kernel_rfl) (fun _ _ _ h => h) (by rfl) (by assumption) ?_
    simp only [List.setIfInBounds_toArray, List.set_cons_zero, List.set_cons_succ]
    refine heldSkip 22 220 rfl rfl (by kernel_rfl) (by kernel_rfl) (by kernel_rfl) (fun _ _ _ h => h) (by rfl) (by assumption) ?_
    simp only [List.setIfInBounds_toArray, List.set_cons_zero, List.set_cons_succ]
    refine heldSkip 23 221 rfl rfl (by kernel_rfl) (by kernel_rfl) (by kernel_rfl) (fun _ _ _ h => h) (by rfl) (by assumption) ?_
    simp only [List.setIfInBounds_toArray, List.set_cons_zero, List.set_cons_succ]
    refine heldSkip 24 222 rfl rfl (by kernel_rfl) (by kernel_rfl) (by kernel_rfl) (fun _ _ _ h => h) (by rfl) (by assumption) ?_
    simp only [List.setIfInBounds_toArray, List.set_cons_zero, List.set_cons_succ]
    refine heldSkip 25 223 rfl rfl (by kernel_rfl) (by kernel_rfl) (by kernel_rfl) (fun _ _ _ h => h) (by rfl) (by assumption) ?_
    simp only [List.setIfInBounds_toArray, List.set_cons_zero, List.set_cons_succ]
    refine heldTake (v := ?_) 26 224 rfl rfl (by kernel_rfl) (by kernel_rfl) (by kernel_rfl) (fun _ _ _ h => h) (by rfl) (fun w hSw => ?_) (by assumption) ?_
    rotate_left
    · (try dsimp only at hSw); first | (go_simp; done) | (go_simp; with_reducible rfl)
    simp only [List.setIfInBounds_toArray, List.set_cons_zero, List.set_cons_succ]
    refine heldTake (v := ?_) 27 225 rfl rfl (by kernel_rfl) (by kernel_rfl) (by kernel_rfl) (fun _ _ _ h => h) (by rfl) (fun w hSw => ?_) (by assumption) ?_
    rotate_left
    · (try dsimp only at hSw); first | (go_simp; done) | (go_simp; with_reducible rfl)
    simp only [List.setIfInBounds_toArray, List.set_cons_zero, List.set_cons_succ]
    refine wpAnyH_done (by kernel_rfl) ?_ _
    have HB8 : Hid (Below wh.heap.size wh _) := chain hB.out hHeld.2
    clear hHeld
    go_wp2
    go_roundw
    case rel => exact ⟨k + 1, by omega, by go_num, HT', HB8⟩
    case measure => simp [RowKit.intOf]; omega
  obtain ⟨j, hj⟩ : ∃ j, k = j + 1 := ⟨k - 1, by omega⟩
  have hjl : j < dots.length := by rw [HNO.out]; omega
  obtain ⟨y1, y2⟩ := Hc.out j hjl
  have HST2 : Hid (stepF deps dots k = lessD dots[j].1 dots[j].2 pp pn) := by
    show _ = _
    rw [HST.out, show dots[k - 1]?.getD (0, 0) = dots[j] from by rw [hj, Nat.add_sub_cancel, List.getElem?_eq_getElem hjl]; rfl, show (k == 0) = false from by simpa using hk0]
    simp
  have jw : IntKind.i64.wrap ((k : Int) - 1) = (j : Int) := by rw [IntKind.wrap_i64]; omega
  have jz : (0 : Int) ≤ (j : Int) := by omega
  have jn : (j : Int) < (no : Int) := by omega
  have q12 : decide ((0 : Int) < (k : Int)) = true := by simp; omega
  have q14 : 0 < k := by omega
  clear HST Hc hk0 hj
  generalize dots[j] = d' at *
  clear hjl
  obtain ⟨rp, rn⟩ := d'
  simp only at y1 y2 HST2
  have E3 := fun V => rLessDot_any rp rn pp pn V
  generalize lessD rp rn pp pn = g2 at *
  cases g2 with
  | false =>
    have HRS : Hid (res = false) := HX.out HST2.out
    have HP9 : ∀ a b : World, Below a.heap.size a b → (fun w' : World => (w'.cell? ⟨w.heap.size, 2, none⟩ = some (.slice (some ⟨bd, od, none⟩) nd dc) ∧ w'.cell? ⟨w.heap.size, 11, none⟩ = some (.slice (some ⟨ob, oo, none⟩) no oc) ∧ w'.cell? ⟨ob, oo + k * 2, none⟩ = some (.int .i64 pp) ∧ w'.cell? ⟨ob, oo + k * 2 + 1, none⟩ = some (.int .i64 pn) ∧ w'.cell? ⟨ob, oo + j * 2, none⟩ = some (.int .i64 rp) ∧ w'.cell? ⟨ob, oo + j * 2 + 1, none⟩ = some (.int .i64 rn))) a → (fun w' : World => (w'.cell? ⟨w.heap.size, 2, none⟩ = some (.slice (some ⟨bd, od, none⟩) nd dc) ∧ w'.cell? ⟨w.heap.size, 11, none⟩ = some (.slice (some ⟨ob, oo, none⟩) no oc) ∧ w'.cell? ⟨ob, oo + k * 2, none⟩ = some (.int .i64 pp) ∧ w'.cell? ⟨ob, oo + k * 2 + 1, none⟩ = some (.int .i64 pn) ∧ w'.cell? ⟨ob, oo + j * 2, none⟩ = some (.int .i64 rp) ∧ w'.cell? ⟨ob, oo + j * 2 + 1, none⟩ = some (.int .i64 rn))) b := fun a b hb h => ⟨cell_later hb h.1, cell_later hb h.2.1, cell_later hb h.2.2.1, cell_later hb h.2.2.2.1, cell_later hb h.2.2.2.2.1, cell_later hb h.2.2.2.2.2⟩
    have HS9 := (And.intro (show (wr.cell? ⟨w.heap.size, 2, none⟩ = some (.slice (some ⟨bd, od, none⟩) nd dc) ∧ wr.cell? ⟨w.heap.size, 11, none⟩ = some (.slice (some ⟨ob, oo, none⟩) no oc) ∧ wr.cell? ⟨ob, oo + k * 2, none⟩ = some (.int .i64 pp) ∧ wr.cell? ⟨ob, oo + k * 2 + 1, none⟩ = some (.int .i64 pn) ∧ wr.cell? ⟨ob, oo + j * 2, none⟩ = some (.int .i64 rp) ∧ wr.cell? ⟨ob, oo + j * 2 + 1, none⟩ = some (.int .i64 rn)) from ⟨t2, t11, x0, x1, y1, y2⟩) (show Hid (Below wr.heap.size wr wr) from Below.refl _ _))
    go_wp2_with fail
    refine wp_region_held_drew (S := (fun w' => (w'.cell? ⟨w.heap.size, 2, none⟩ = some (.slice (some ⟨bd, od, none⟩) nd dc) ∧ w'.cell? ⟨w.heap.size, 11, none⟩ = some (.slice (some ⟨ob, oo, none⟩) no oc) ∧ w'.cell? ⟨ob, oo + k * 2, none⟩ = some (.int .i64 pp) ∧ w'.cell? ⟨ob, oo + k * 2 + 1, none⟩ = some (.int .i64 pn) ∧ w'.cell? ⟨ob, oo + j * 2, none⟩ = some (.int .i64 rp) ∧ w'.cell? ⟨ob, oo + j * 2 + 1, none⟩ = some (.int .i64 rn)) ∧ Hid (Below wr.heap.size wr w'))) (by kernel_rfl) (keepH (P := fun w' : World => (w'.cell? ⟨w.heap.size, 2, none⟩ = some (.slice (some ⟨bd, od, none⟩) nd dc) ∧ w'.cell? ⟨w.heap.size, 11, none⟩ = some (.slice (some ⟨ob, oo, none⟩) no oc) ∧ w'.cell? ⟨ob, oo + k * 2, none⟩ = some (.int .i64 pp) ∧ w'.cell? ⟨ob, oo + k * 2 + 1, none⟩ = some (.int .i64 pn) ∧ w'.cell? ⟨ob, oo + j * 2, none⟩ = some (.int .i64 rp) ∧ w'.cell? ⟨ob, oo + j * 2 + 1, none⟩ = some (.int .i64 rn))) HP9 (Below.refl _ _).drew HS9) (fun hHeld => ?_)
    refine heldTake (v := ?_) 0 198 rfl rfl (by kernel_rfl) (by kernel_rfl) (by kernel_rfl) (fun _ _ _ h => h) (by rfl) (fun w hSw => ?_) (by assumption) ?_
    rotate_left
    · (try dsimp only at hSw); first | (go_simp; done) | (go_simp; with_reducible rfl)
    simp only [List.setIfInBounds_toArray, List.set_cons_zero, List.set_cons_succ]
    refine heldTake (v := ?_) 1 199 rfl rfl (by kernel_rfl) (by kernel_rfl) (by kernel_rfl) (fun _ _ _ h => h) (by rfl) (fun w hSw => ?_) (by assumption) ?_
    rotate_left
    · (try dsimp only at hSw); first | (go_simp; done) | (go_simp; with_reducible rfl)
    simp only [List.setIfInBounds_toArray, List.set_cons_zero, List.set_cons_succ]
    refine heldTake (v := ?_) 2 200 rfl rfl (by kernel_rfl) (by kernel_rfl) (by kernel_rfl) (fun _ _ _ h => h) (by rfl) (fun w hSw => ?_) (by assumption) ?_
    rotate_left
    · (try dsimp only at hSw); first | (go_simp; done) | (go_simp; with_reducible rfl)
    simp only [List.setIfInBounds_toArray, List.set_cons_zero, List.set_cons_succ]
    refine heldTake (v := ?_) 3 201 rfl rfl (by kernel_rfl) (by kernel_rfl) (by kernel_rfl) (fun _ _ _ h => h) (by rfl) (fun w hSw => ?_) (by assumption) ?_
    rotate_left
    · (try dsimp only at hSw); first | (go_simp; done) | (go_simp; with_reducible rfl)
    simp only [List.setIfInBounds_toArray, List.set_cons_zero, List.set_cons_succ]
    refine heldTake (v := ?_) 4 202 rfl rfl (by kernel_rfl) (by kernel_rfl) (by kernel_rfl) (fun _ _ _ h => h) (by rfl) (fun w hSw => ?_) (by assumption) ?_
    rotate_left
    · (try dsimp only at hSw); first | (go_simp; done) | (go_simp; with_reducible rfl)
    simp only [List.setIfInBounds_toArray, List.set_cons_zero, List.set_cons_succ]
    refine heldTake (v := ?_) 5 203 rfl rfl (by kernel_rfl) (by kernel_rfl) (by kernel_rfl) (fun _ _ _ h => h) (by rfl) (fun w hSw => ?_) (by assumption) ?_
    rotate_left
    · (try dsimp only at hSw); first | (go_simp; done) | (go_simp; with_reducible rfl)
    simp only [List.setIfInBounds_toArray, List.set_cons_zero, List.set_cons_succ]
    refine heldTake (v := ?_) 6 204 rfl rfl (by kernel_rfl) (by kernel_rfl) (by kernel_rfl) (fun _ _ _ h => h) (by rfl) (fun w hSw => ?_) (by assumption) ?_
    rotate_left
    · (try dsimp only at hSw); first | (go_simp; done) | (go_simp; with_reducible rfl)
    simp only [List.setIfInBounds_toArray, List.set_cons_zero, List.set_cons_succ]
    refine heldOne 7 rfl (by kernel_rfl) (by rfl) (fun K2 hK => ?_)
    go_simp
    refine (E2 _ hHeld.2.out).mono ?_
    rintro e wz ⟨rfl, hb⟩
    simp only []
    refine hK.out _ _ ?_ (fun hHeld => ?_)
    · exact keepH (P := fun w' : World => (w'.cell? ⟨w.heap.size, 2, none⟩ = some (.slice (some ⟨bd, od, none⟩) nd dc) ∧ w'.cell? ⟨w.heap.size, 11, none⟩ = some (.slice (some ⟨ob, oo, none⟩) no oc) ∧ w'.cell? ⟨ob, oo + k * 2, none⟩ = some (.int .i64 pp) ∧ w'.cell? ⟨ob, oo + k * 2 + 1, none⟩ = some (.int .i64 pn) ∧ w'.cell? ⟨ob, oo + j * 2, none⟩ = some (.int .i64 rp) ∧ w'.cell? ⟨ob, oo + j * 2 + 1, none⟩ = some (.int .i64 rn))) HP9 hb (by assumption)
    clear hK K2
    try simp only [List.setIfInBounds_toArray, List.set_cons_zero, List.set_cons_succ]
    refine heldTake (v := ?_) 8 206 rfl rfl (by kernel_rfl) (by kernel_rfl) (by kernel_rfl) (fun _ _ _ h => h) (by rfl) (fun w hSw => ?_) (by assumption) ?_
    rotate_left
    · (try dsimp only at hSw); first | (go_simp; done) | (go_simp; with_reducible rfl)
    simp only [List.setIfInBounds_toArray, List.set_cons_zero, List.set_cons_succ]
    refine heldTake (v := ?_) 9 207 rfl rfl (by kernel_rfl) (by kernel_rfl) (by kernel_rfl) (fun _ _ _ h => h) (by rfl) (fun w hSw => ?_) (by assumption) ?_
    rotate_left
    · (try dsimp only at hSw); first | (go_simp; done) | (go_simp; with_reducible rfl)
    simp only [List.setIfInBounds_toArray, List.set_cons_zero, List.set_cons_succ]
    refine heldTake (v := ?_) 10 208 rfl rfl (by kernel_rfl) (by kernel_rfl) (by kernel_rfl) (fun _ _ _ h => h) (by rfl) (fun w hSw => ?_) (by assumption) ?_
    rotate_left
    · (try dsimp only at hSw); first | (go_simp; done) | (go_simp; with_reducible rfl)
    simp only [List.setIfInBounds_toArray, List.set_cons_zero, List.set_cons_succ]
    refine heldTake (v := ?_) 11 209 rfl rfl (by kernel_rfl) (by kernel_rfl) (by kernel_rfl) (fun _ _ _ h => h) (by rfl) (fun w hSw => ?_) (by assumption) ?_
    rotate_left
    · (try dsimp only at hSw); first | (go_simp; done) | (go_simp; with_reducible rfl)
    simp only [List.setIfInBounds_toArray, List.set_cons_zero, List.set_cons_succ]
    refine heldTake (v := ?_) 12 210 rfl rfl (by kernel_rfl) (by kernel_rfl) (by kernel_rfl) (fun _ _ _ h => h) (by rfl) (fun w hSw => ?_) (by assumption) ?_
    rotate_left
    · (try dsimp only at hSw); first | (go_simp; done) | (go_simp; with_reducible rfl)
    simp only [List.setIfInBounds_toArray, List.set_cons_zero, List.set_cons_succ]
    refine heldTake (v := ?_) 13 211 rfl rfl (by kernel_rfl) (by kernel_rfl) (by kernel_rfl) (fun _ _ _ h => h) (by rfl) (fun w hSw => ?_) (by assumption) ?_
    rotate_left
    · (try dsimp only at hSw); first | (go_simp; done) | (go_simp; with_reducible rfl)
    simp only [List.setIfInBounds_toArray, List.set_cons_zero, List.set_cons_succ]
    refine heldTake (v := ?_) 14 212 rfl rfl (by kernel_rfl) (by kernel_rfl) (by kernel_rfl) (fun _ _ _ h => h) (by rfl) (fun w hSw => ?_) (by assumption) ?_
    rotate_left
    · (try dsimp only at hSw); first | (go_simp; done) | (go_simp; with_reducible rfl)
    simp only [List.setIfInBounds_toArray, List.set_cons_zero, List.set_cons_succ]
    refine heldTake (v := ?_) 15 213 rfl rfl (by kernel_rfl) (by kernel_rfl) (by kernel_rfl) (fun _ _ _ h => h) (by rfl) (fun w hSw => ?_) (by assumption) ?_
    rotate_left
    · (try dsimp only at hSw); first | (go_simp; done) | (go_simp; with_reducible rfl)
    simp only [List.setIfInBounds_toArray, List.set_cons_zero, List.set_cons_succ]
    refine heldTake (v := ?_) 16 214 rfl rfl (by kernel_rfl) (by kernel_rfl) (by kernel_rfl) (fun _ _ _ h => h) (by rfl) (fun w hSw => ?_) (by assumption) ?_
    rotate_left
    · (try dsimp only at hSw); first | (go_simp; done) | (go_simp; with_reducible rfl)
    simp only [List.setIfInBounds_toArray, List.set_cons_zero, List.set_cons_succ]
    refine heldTake (v := ?_) 17 215 rfl rfl (by kernel_rfl) (by kernel_rfl) (by kernel_rfl) (fun _ _ _ h => h) (by rfl) (fun w hSw => ?_) (by assumption) ?_
    rotate_left
    · (try dsimp only at hSw); first | (go_simp; done) | (go_simp; with_reducible rfl)
    simp only [List.setIfInBounds_toArray, List.set_cons_zero, List.set_cons_succ]
    refine heldTake (v := ?_) 18 216 rfl rfl (by kernel_rfl) (by kernel_rfl) (by kernel_rfl) (fun _ _ _ h => h) (by rfl) (fun w hSw => ?_) (by assumption) ?_
    rotate_left
    · (try dsimp only at hSw); first | (go_simp; done) | (go_simp; with_reducible rfl)
    simp only [List.setIfInBounds_toArray, List.set_cons_zero, List.set_cons_succ]
    refine heldTake (v := ?_) 19 217 rfl rfl (by kernel_rfl) (by kernel_rfl) (by kernel_rfl) (fun _ _ _ h => h) (by rfl) (fun w hSw => ?_) (by assumption) ?_
    rotate_left
    · (try dsimp only at hSw); first | (go_simp; done) | (go_simp; with_reducible rfl)
    simp only [List.setIfInBounds_toArray, List.set_cons_zero, List.set_cons_succ]
    refine heldTake (v := ?_) 20 218 rfl rfl (by kernel_rfl) (by kernel_rfl) (by kernel_rfl) (fun _ _ _ h => h) (by rfl) (fun w hSw => ?_) (by assumption) ?_
    rotate_left
    · (try dsimp only at hSw); first | (go_simp; done) | (go_simp; with_reducible rfl)
    simp only [List.setIfInBounds_toArray, List.set_cons_zero, List.set_cons_succ]
    refine heldTake (v := ?_) 21 219 rfl rfl (by kernel_rfl) (by kernel_rfl) (by kernel_rfl) (fun _ _ _ h => h) (by rfl) (fun w hSw => ?_) (by assumption) ?_
    rotate_left
    · (try dsimp only at hSw); first | (go_simp; done) | (go_simp; with_reducible rfl)
    simp only [List.setIfInBounds_toArray, List.set_cons_zero, List.set_cons_succ]
    refine heldTake (v := ?_) 22 220 rfl rfl (by kernel_rfl) (by kernel_rfl) (by kernel_rfl) (fun _ _ _ h => h) (by rfl) (fun w hSw => ?_) (by assumption) ?_
    rotate_left
    · (try dsimp only at hSw); first | (go_simp; done) | (go_simp; with_reducible rfl)
    simp only [List.setIfInBounds_toArray, List.set_cons_zero, List.set_cons_succ]
    refine heldTake (v := ?_) 23 221 rfl rfl (by kernel_rfl) (by kernel_rfl) (by kernel_rfl) (fun _ _ _ h => h) (by rfl) (fun w hSw => ?_) (by assumption) ?_
    rotate_left
    · (try dsimp only at hSw); first | (go_simp; done) | (go_simp; with_reducible rfl)
    simp only [List.setIfInBounds_toArray, List.set_cons_zero, List.set_cons_succ]
    refine heldOne 24 rfl (by kernel_rfl) (by rfl) (fun K2 hK => ?_)
    go_simp
    refine (E3 _).mono ?_
    rintro e wz ⟨rfl, hb⟩
    simp only []
    refine hK.out _ _ ?_ (fun hHeld => ?_)
    · exact keepH (P := fun w' : World => (w'.cell? ⟨w.heap.size, 2, none⟩ = some (.slice (some ⟨bd, od, none⟩) nd dc) ∧ w'.cell? ⟨w.heap.size, 11, none⟩ = some (.slice (some ⟨ob, oo, none⟩) no oc) ∧ w'.cell? ⟨ob, oo + k * 2, none⟩ = some (.int .i64 pp) ∧ w'.cell? ⟨ob, oo + k * 2 + 1, none⟩ = some (.int .i64 pn) ∧ w'.cell? ⟨ob, oo + j * 2, none⟩ = some (.int .i64 rp) ∧ w'.cell? ⟨ob, oo + j * 2 + 1, none⟩ = some (.int .i64 rn))) HP9 hb (by assumption)
    clear hK K2
    try simp only [List.setIfInBounds_toArray, List.set_cons_zero, List.set_cons_succ]
    refine heldTake (v := ?_) 25 223 rfl rfl (by kernel_rfl) (by kernel_rfl) (by kernel_rfl) (fun _ _ _ h => h) (by rfl) (fun w hSw => ?_) (by assumption) ?_
    rotate_left
    · (try dsimp only at hSw); first | (go_simp; done) | (go_simp; with_reducible rfl)
    simp only [List.setIfInBounds_toArray, List.set_cons_zero, List.set_cons_succ]
    refine heldTake (v := ?_) 26 224 rfl rfl (by kernel_rfl) (by kernel_rfl) (by kernel_rfl) (fun _ _ _ h => h) (by rfl) (fun w hSw => ?_) (by assumption) ?_
    rotate_left
    · (try dsimp only at hSw); first | (go_simp; done) | (go_simp; with_reducible rfl)
    simp only [List.setIfInBounds_toArray, List.set_cons_zero, List.set_cons_succ]
    refine heldTake (v := ?_) 27 225 rfl rfl (by kernel_rfl) (by kernel_rfl) (by kernel_rfl) (fun _ _ _ h => h) (by rfl) (fun w hSw => ?_) (by assumption) ?_
    rotate_left
    · (try dsimp only at hSw); first | (go_simp; done) | (go_simp; with_reducible rfl)
    simp only [List.setIfInBounds_toArray, List.set_cons_zero, List.set_cons_succ]
    refine wpAnyH_done (by kernel_rfl) ?_ _
    have HB8 : Hid (Below wr.heap.size wr _) := hHeld.2
    clear hHeld
    go_wp2
    go_ret
    exact ⟨by rw [HRS.out]; rfl, chain HB0.out (chain HB9.out (chain hB.out HB8.out))⟩
  | true =>
  have HT' : Hid ((List.range (k + 1)).all (stepF deps dots) = true) := by show _ = _; rw [HS.out, HST2.out]
  have HP9 : ∀ a b : World, Below a.heap.size a b → (fun w' : World => (w'.cell? ⟨w.heap.size, 2, none⟩ = some (.slice (some ⟨bd, od, none⟩) nd dc) ∧ w'.cell? ⟨w.heap.size, 11, none⟩ = some (.slice (some ⟨ob, oo, none⟩) no oc) ∧ w'.cell? ⟨ob, oo + k * 2, none⟩ = some (.int .i64 pp) ∧ w'.cell? ⟨ob, oo + k * 2 + 1, none⟩ = some (.int .i64 pn) ∧ w'.cell? ⟨ob, oo + j * 2, none⟩ = some (.int .i64 rp) ∧ w'.cell? ⟨ob, oo + j * 2 + 1, none⟩ = some (.int .i64 rn))) a → (fun w' : World => (w'.cell? ⟨w.heap.size, 2, none⟩ = some (.slice (some ⟨bd, od, none⟩) nd dc) ∧ w'.cell? ⟨w.heap.size, 11, none⟩ = some (.slice (some ⟨ob, oo, none⟩) no oc) ∧ w'.cell? ⟨ob, oo + k * 2, none⟩ = some (.int .i64 pp) ∧ w'.cell? ⟨ob, oo + k * 2 + 1, none⟩ = some (.int .i64 pn) ∧ w'.cell? ⟨ob, oo + j * 2, none⟩ = some (.int .i64 rp) ∧ w'.cell? ⟨ob, oo + j * 2 + 1, none⟩ = some (.int .i64 rn))) b := fun a b hb h => ⟨cell_later hb h.1, cell_later hb h.2.1, cell_later hb h.2.2.1, cell_later hb h.2.2.2.1, cell_later hb h.2.2.2.2.1, cell_later hb h.2.2.2.2.2⟩
  have HS9 := (And.intro (show (wr.cell? ⟨w.heap.size, 2, none⟩ = some (.slice (some ⟨bd, od, none⟩) nd dc) ∧ wr.cell? ⟨w.heap.size, 11, none⟩ = some (.slice (some ⟨ob, oo, none⟩) no oc) ∧ wr.cell? ⟨ob, oo + k * 2, none⟩ = some (.int .i64 pp) ∧ wr.cell? ⟨ob, oo + k * 2 + 1, none⟩ = some (.int .i64 pn) ∧ wr.cell? ⟨ob, oo + j * 2, none⟩ = some (.int .i64 rp) ∧ wr.cell? ⟨ob, oo + j * 2 + 1, none⟩ = some (.int .i64 rn)) from ⟨t2, t11, x0, x1, y1, y2⟩) (show Hid (Below wr.heap.size wr wr) from Below.refl _ _))
  go_wp2_with fail
  refine wp_region_held_drew (S := (fun w' => (w'.cell? ⟨w.heap.size, 2, none⟩ = some (.slice (some ⟨bd, od, none⟩) nd dc) ∧ w'.cell? ⟨w.heap.size, 11, none⟩ = some (.slice (some ⟨ob, oo, none⟩) no oc) ∧ w'.cell? ⟨ob, oo + k * 2, none⟩ = some (.int .i64 pp) ∧ w'.cell? ⟨ob, oo + k * 2 + 1, none⟩ = some (.int .i64 pn) ∧ w'.cell? ⟨ob, oo + j * 2, none⟩ = some (.int .i64 rp) ∧ w'.cell? ⟨ob, oo + j * 2 + 1, none⟩ = some (.int .i64 rn)) ∧ Hid (Below wr.heap.size wr w'))) (by kernel_rfl) (keepH (P := fun w' : World => (w'.cell? ⟨w.heap.size, 2, none⟩ = some (.slice (some ⟨bd, od, none⟩) nd dc) ∧ w'.cell? ⟨w.heap.size, 11, none⟩ = some (.slice (some ⟨ob, oo, none⟩) no oc) ∧ w'.cell? ⟨ob, oo + k * 2, none⟩ = some (.int .i64 pp) ∧ w'.cell? ⟨ob, oo + k * 2 + 1, none⟩ = some (.int .i64 pn) ∧ w'.cell? ⟨ob, oo + j * 2, none⟩ = some (.int .i64 rp) ∧ w'.cell? ⟨ob, oo + j * 2 + 1, none⟩ = some (.int .i64 rn))) HP9 (Below.refl _ _).drew HS9) (fun hHeld => ?_)
  refine heldTake (v := ?_) 0 198 rfl rfl (by kernel_rfl) (by kernel_rfl) (by kernel_rfl) (fun _ _ _ h => h) (by rfl) (fun w hSw => ?_) (by assumption) ?_
  rotate_left
  · (try dsimp only at hSw); first | (go_simp; done) | (go_simp; with_reducible rfl)
  simp only [List.setIfInBounds_toArray, List.set_cons_zero, List.set_cons_succ]
  refine heldTake (v := ?_) 1 199 rfl rfl (by kernel_rfl) (by kernel_rfl) (by kernel_rfl) (fun _ _ _ h => h) (by rfl) (fun w hSw => ?_) (by assumption) ?_
  rotate_left
  · (try dsimp only at hSw); first | (go_simp; done) | (go_simp; with_reducible rfl)
  simp only [List.setIfInBounds_toArray, List.set_cons_zero, List.set_cons_succ]
  refine heldTake (v := ?_) 2 200 rfl rfl (by kernel_rfl) (by kernel_rfl) (by kernel_rfl) (fun _ _ _ h => h) (by rfl) (fun w hSw => ?_) (by assumption) ?_
  rotate_left
  · (try dsimp only at hSw); first | (go_simp; done) | (go_simp; with_reducible rfl)
  simp only [List.setIfInBounds_toArray, List.set_cons_zero, List.set_cons_succ]
  refine heldTake (v := ?_) 3 201 rfl rfl (by kernel_rfl) (by kernel_rfl) (by kernel_rfl) (fun _ _ _ h => h) (by rfl) (fun w hSw => ?_) (by assumption) ?_
  rotate_left
  · (try dsimp only at hSw); first | (go_simp; done) | (go_simp; with_reducible rfl)
  simp only [List.setIfInBounds_toArray, List.set_cons_zero, List.set_cons_succ]
  refine heldTake (v := ?_) 4 202 rfl rfl (by kernel_rfl) (by kernel_rfl) (by kernel_rfl) (fun _ _ _ h => h) (by rfl) (fun w hSw => ?_) (by assumption) ?_
  rotate_left
  · (try dsimp only at hSw); first | (go_simp; done) | (go_simp; with_reducible rfl)
  simp only [List.setIfInBounds_toArray, List.set_cons_zero, List.set_cons_succ]
  refine heldTake (v := ?_) 5 203 rfl rfl (by kernel_rfl) (by kernel_rfl) (by kernel_rfl) (fun _ _ _ h => h) (by rfl) (fun w hSw => ?_) (by assumption) ?_
  rotate_left
  · (try dsimp only at hSw); first | (go_simp; done) | (go_simp; with_reducible rfl)
  simp only [List.setIfInBounds_toArray, List.set_cons_zero, List.set_cons_succ]
  refine heldTake (v := ?_) 6 204 rfl rfl (by kernel_rfl) (by kernel_rfl) (by kernel_rfl) (fun _ _ _ h => h) (by rfl) (fun w hSw => ?_) (by assumption) ?_
  rotate_left
  · (try dsimp only at hSw); first | (go_simp; done) | (go_simp; with_reducible rfl)
  simp only [List.setIfInBounds_toArray, List.set_cons_zero, List.set_cons_succ]
  refine heldOne 7 rfl (by kernel_rfl) (by rfl) (fun K2 hK => ?_)
  go_simp
  refine (E2 _ hHeld.2.out).mono ?_
  rintro e wz ⟨rfl, hb⟩
  simp only []
  refine hK.out _ _ ?_ (fun hHeld => ?_)
  · exact keepH (P := fun w' : World => (w'.cell? ⟨w.heap.size, 2, none⟩ = some (.slice (some ⟨bd, od, none⟩) nd dc) ∧ w'.cell? ⟨w.heap.size, 11, none⟩ = some (.slice (some ⟨ob, oo, none⟩) no oc) ∧ w'.cell? ⟨ob, oo + k * 2, none⟩ = some (.int .i64 pp) ∧ w'.cell? ⟨ob, oo + k * 2 + 1, none⟩ = some (.int .i64 pn) ∧ w'.cell? ⟨ob, oo + j * 2, none⟩ = some (.int .i64 rp) ∧ w'.cell? ⟨ob, oo + j * 2 + 1, none⟩ = some (.int .i64 rn))) HP9 hb (by assumption)
  clear hK K2
  try simp only [List.setIfInBounds_toArray, List.set_cons_zero, List.set_cons_succ]
  refine heldTake (v := ?_) 8 206 rfl rfl (by kernel_rfl) (by kernel_rfl) (by kernel_rfl) (fun _ _ _ h => h) (by rfl) (fun w hSw => ?_) (by assumption) ?_
  rotate_left
  · (try dsimp only at hSw); first | (go_simp; done) | (go_simp; with_reducible rfl)
  simp only [List.setIfInBounds_toArray, List.set_cons_zero, List.set_cons_succ]
  refine heldTake (v := ?_) 9 207 rfl rfl (by kernel_rfl) (by kernel_rfl) (by kernel_rfl) (fun _ _ _ h => h) (by rfl) (fun w hSw => ?_) (by assumption) ?_
  rotate_left
  · (try dsimp only at hSw); first | (go_simp; done) | (go_simp; with_reducible rfl)
  simp only [List.setIfInBounds_toArray, List.set_cons_zero, List.set_cons_succ]
  refine heldTake (v := ?_) 10 208 rfl rfl (by kernel_rfl) (by kernel_rfl) (by kernel_rfl) (fun _ _ _ h => h) (by rfl) (fun w hSw => ?_) (by assumption) ?_
  rotate_left
  · (try dsimp only at hSw); first | (go_simp; done) | (go_simp; with_reducible rfl)
  simp only [List.setIfInBounds_toArray, List.set_cons_zero, List.set_cons_succ]
  refine heldTake (v := ?_) 11 209 rfl rfl (by kernel_rfl) (by kernel_rfl) (by kernel_rfl) (fun _ _ _ h => h) (by rfl) (fun w hSw => ?_) (by assumption) ?_
  rotate_left
  · (try dsimp only at hSw); first | (go_simp; done) | (go_simp; with_reducible rfl)
  simp only [List.setIfInBounds_toArray, List.set_cons_zero, List.set_cons_succ]
  refine heldTake (v := ?_) 12 210 rfl rfl (by kernel_rfl) (by kernel_rfl) (by kernel_rfl) (fun _ _ _ h => h) (by rfl) (fun w hSw => ?_) (by assumption) ?_
  rotate_left
  · (try dsimp only at hSw); first | (go_simp; done) | (go_simp; with_reducible rfl)
  simp only [List.setIfInBounds_toArray, List.set_cons_zero, List.set_cons_succ]
  refine heldTake (v := ?_) 13 211 rfl rfl (by kernel_rfl) (by kernel_rfl) (by kernel_rfl) (fun _ _ _ h => h) (by rfl) (fun w hSw => ?_) (by assumption) ?_
  rotate_left
  · (try dsimp only at hSw); first | (go_simp; done) | (go_simp; with_reducible rfl)
  simp only [List.setIfInBounds_toArray, List.set_cons_zero, List.set_cons_succ]
  refine heldTake (v := ?_) 14 212 rfl rfl (by kernel_rfl) (by kernel_rfl) (by kernel_rfl) (fun _ _ _ h => h) (by rfl) (fun w hSw => ?_) (by assumption) ?_
  rotate_left
  · (try dsimp only at hSw); first | (go_simp; done) | (go_simp; with_reducible rfl)
  simp only [List.setIfInBounds_toArray, List.set_cons_zero, List.set_cons_succ]
  refine heldTake (v := ?_) 15 213 rfl rfl (by kernel_rfl) (by kernel_rfl) (by kernel_rfl) (fun _ _ _ h => h) (by rfl) (fun w hSw => ?_) (by assumption) ?_
  rotate_left
  · (try dsimp only at hSw); first | (go_simp; done) | (go_simp; with_reducible rfl)
  simp only [List.setIfInBounds_toArray, List.set_cons_zero, List.set_cons_succ]
  refine heldTake (v := ?_) 16 214 rfl rfl (by kernel_rfl) (by kernel_rfl) (by kernel_rfl) (fun _ _ _ h => h) (by rfl) (fun w hSw => ?_) (by assumption) ?_
  rotate_left
  · (try dsimp only at hSw); first | (go_simp; done) | (go_simp; with_reducible rfl)
  simp only [List.setIfInBounds_toArray, List.set_cons_zero, List.set_cons_succ]
  refine heldTake (v := ?_) 17 215 rfl rfl (by kernel_rfl) (by kernel_rfl) (by kernel_rfl) (fun _ _ _ h => h) (by rfl) (fun w hSw => ?_) (by assumption) ?_
  rotate_left
  · (try dsimp only at hSw); first | (go_simp; done) | (go_simp; with_reducible rfl)
  simp only [List.setIfInBounds_toArray, List.set_cons_zero, List.set_cons_succ]
  refine heldTake (v := ?_) 18 216 rfl rfl (by kernel_rfl) (by kernel_rfl) (by kernel_rfl) (fun _ _ _ h => h) (by rfl) (fun w hSw => ?_) (by assumption) ?_
  rotate_left
  · (try dsimp only at hSw); first | (go_simp; done) | (go_simp; with_reducible rfl)
  simp only [List.setIfInBounds_toArray, List.set_cons_zero, List.set_cons_succ]
  refine heldTake (v := ?_) 19 217 rfl rfl (by kernel_rfl) (by kernel_rfl) (by kernel_rfl) (fun _ _ _ h => h) (by rfl) (fun w hSw => ?_) (by assumption) ?_
  rotate_left
  · (try dsimp only at hSw); first | (go_simp; done) | (go_simp; with_reducible rfl)
  simp only [List.setIfInBounds_toArray, List.set_cons_zero, List.set_cons_succ]
  refine heldTake (v := ?_) 20 218 rfl rfl (by kernel_rfl) (by kernel_rfl) (by kernel_rfl) (fun _ _ _ h => h) (by rfl) (fun w hSw => ?_) (by assumption) ?_
  rotate_left
  · (try dsimp only at hSw); first | (go_simp; done) | (go_simp; with_reducible rfl)
  simp only [List.setIfInBounds_toArray, List.set_cons_zero, List.set_cons_succ]
  refine heldTake (v := ?_) 21 219 rfl rfl (by kernel_rfl) (by kernel_rfl) (by kernel_rfl) (fun _ _ _ h => h) (by rfl) (fun w hSw => ?_) (by assumption) ?_
  rotate_left
  · (try dsimp only at hSw); first | (go_simp; done) | (go_simp; with_reducible rfl)
  simp only [List.setIfInBounds_toArray, List.set_cons_zero, List.set_cons_succ]
  refine heldTake (v := ?_) 22 220 rfl rfl (by kernel_rfl) (by kernel_rfl) (by kernel_rfl) (fun _ _ _ h => h) (by rfl) (fun w hSw => ?_) (by assumption) ?_
  rotate_left
  · (try dsimp only at hSw); first | (go_simp; done) | (go_simp; with_reducible rfl)
  simp only [List.setIfInBounds_toArray, List.set_cons_zero, List.set_cons_succ]
  refine heldTake (v := ?_) 23 221 rfl rfl (by kernel_rfl) (by kernel_rfl) (by kernel_rfl) (fun _ _ _ h => h) (by rfl) (fun w hSw => ?_) (by assumption) ?_
  rotate_left
  · (try dsimp only at hSw); first | (go_simp; done) | (go_simp; with_reducible rfl)
  simp only [List.setIfInBounds_toArray, List.set_cons_zero, List.set_cons_succ]
  refine heldOne 24 rfl (by kernel_rfl) (by rfl) (fun K2 hK => ?_)
  go_simp
  refine (E3 _).mono ?_
  rintro e wz ⟨rfl, hb⟩
  simp only []
  refine hK.out _ _ ?_ (fun hHeld => ?_)
  · exact keepH (P := fun w' : World => (w'.cell? ⟨w.heap.size, 2, none⟩ = some (.slice (some ⟨bd, od, none⟩) nd dc) ∧ w'.cell? ⟨w.heap.size, 11, none⟩ = some (.slice (some ⟨ob, oo, none⟩) no oc) ∧ w'.cell? ⟨ob, oo + k * 2, none⟩ = some (.int .i64 pp) ∧ w'.cell? ⟨ob, oo + k * 2 + 1, none⟩ = some (.int .i64 pn) ∧ w'.cell? ⟨ob, oo + j * 2, none⟩ = some (.int .i64 rp) ∧ w'.cell? ⟨ob, oo + j * 2 + 1, none⟩ = some (.int .i64 rn))) HP9 hb (by assumption)
  clear hK K2
  try simp only [List.setIfInBounds_toArray, List.set_cons_zero, List.set_cons_succ]
  refine heldTake (v := ?_) 25 223 rfl rfl (by kernel_rfl) (by kernel_rfl) (by kernel_rfl) (fun _ _ _ h => h) (by rfl) (fun w hSw => ?_) (by assumption) ?_
  rotate_left
  · (try dsimp only at hSw); first | (go_simp; done) | (go_simp; with_reducible rfl)
  simp only [List.setIfInBounds_toArray, List.set_cons_zero, List.set_cons_succ]
  refine heldTake (v := ?_) 26 224 rfl rfl (by kernel_rfl) (by kernel_rfl) (by kernel_rfl) (fun _ _ _ h => h) (by rfl) (fun w hSw => ?_) (by assumption) ?_
  rotate_left
  · (try dsimp only at hSw); first | (go_simp; done) | (go_simp; with_reducible rfl)
  simp only [List.setIfInBounds_toArray, List.set_cons_zero, List.set_cons_succ]
  refine heldTake (v := ?_) 27 225 rfl rfl (by kernel_rfl) (by kernel_rfl) (by kernel_rfl) (fun _ _ _ h => h) (by rfl) (fun w hSw => ?_) (by assumption) ?_
  rotate_left
  · (try dsimp only at hSw); first | (go_simp; done) | (go_simp; with_reducible rfl)
  simp only [List.setIfInBounds_toArray, List.set_cons_zero, List.set_cons_succ]
  refine wpAnyH_done (by kernel_rfl) ?_ _
  have HB8 : Hid (Below wh.heap.size wh _) := chain hB.out hHeld.2
  clear hHeld
  go_wp2
  go_roundw
  case rel => exact ⟨k + 1, by omega, by go_num, HT', HB8⟩
  case measure => simp [RowKit.intOf]; omega

end Go.Proofs.Ytjpcljmlkgjbgaa

namespace Go.Proofs.Ytjpcljmlkgjbgaa
open Go.RowKit Go.Lib
set_option linter.unusedVariables false

theorem rOp_any (n : Int) (af : Option Addr) (nf fcap : Nat) (x : PO) (da va oa : Option Addr) (dc vc oc : Nat) (w : World) (hn1 : 1 ≤ n) (hn5 : n ≤ 5) (hnf : nf ≤ 3) (h : LiesO w x da va oa dc vc oc) (hx : I64O x) (L : List (List Int)) (hL : L.length = nf) (hv : ∀ v ∈ L, v.length ≤ 65536) (hr : RdII w af L) :
    Calls Try.prog 53 #[.int .i64 n, .slice af nf fcap, .agg (cellsO x da va oa dc vc oc)] w fun e w' => e = .returned (.bool (issuedF n x && withinF L x)) ∧ Below w.heap.size w w' := by
  have T : Hid True := trivial
  cases hh : headF n nf x with
  | false =>
    have e : (issuedF n x && withinF L x) = false := by
      rw [headF_eq n nf x hn1] at hh
      unfold withinF
      rw [hL]
      cases h1 : issuedF n x with
      | false => rfl
      | true =>
        rw [h1, Bool.true_and] at hh
        rw [hh]
        rfl
    rw [e]
    exact rOp_no n af nf fcap x da va oa dc vc oc w hn1 hn5 hnf h hx hh
  | true =>
    have e : (issuedF n x && withinF L x) = (if x.kind = 1 then putF x.vals (colsF L x.table) && decide (x.col = 0) && decide (x.dots.length = 0)
     else if x.kind = 2 then placeF (colsF L x.table).length x.col && (putF x.vals [(colsF L x.table)[x.col.toNat]?.getD 0] && decide (x.dots.length = 0))
     else if x.kind = 3 then remF x.deps x.dots && decide (x.col = 0) && decide (x.vals.length = 0)
     else false) := by
      have g := hh
      rw [headF_eq n nf x hn1] at g
      obtain ⟨g1, g2⟩ := Bool.and_eq_true_iff.1 g
      unfold withinF
      rw [hL, g1, g2, Bool.true_and, Bool.true_and]
    rw [e]
    unfold headF at hh
    obtain ⟨h1, hh⟩ := Bool.and_eq_true_iff.1 hh
    obtain ⟨h2, hh⟩ := Bool.and_eq_true_iff.1 hh
    obtain ⟨h3, hh⟩ := Bool.and_eq_true_iff.1 hh
    obtain ⟨h4, hh⟩ := Bool.and_eq_true_iff.1 hh
    obtain ⟨h5, hh⟩ := Bool.and_eq_true_iff.1 hh
    obtain ⟨h6, hh⟩ := Bool.and_eq_true_iff.1 hh
    obtain ⟨h7, hh⟩ := Bool.and_eq_true_iff.1 hh
    obtain ⟨h8, h9⟩ := Bool.and_eq_true_iff.1 hh
    by_cases k1 : x.kind = 1
    · rw [if_pos k1]
      exact rOp_ins n af nf fcap x da va oa dc vc oc w hn1 hn5 hnf h hx T L hL hv hr h1 h2 h3 h4 h5 h6 h7 h8 h9 k1
    rw [if_neg k1]
    by_cases k2 : x.kind = 2
    · rw [if_pos k2]
      exact rOp_upd n af nf fcap x da va oa dc vc oc w hn1 hn5 hnf h hx T L hL hv hr h1 h2 h3 h4 h5 h6 h7 h8 h9 k2
    rw [if_neg k2]
    by_cases k3 : x.kind = 3
    · rw [if_pos k3]
      exact rOp_del n af nf fcap x da va oa dc vc oc w hn1 hn5 hnf h hx T L hL hv hr h1 h2 h3 h4 h5 h6 h7 h8 h9 k3
    rw [if_neg k3]
    exact rOp_other n af nf fcap x da va oa dc vc oc w hn1 hn5 hnf h hx T L hL hv hr h1 h2 h3 h4 h5 h6 h7 h8 h9 ⟨k1, k2, k3⟩

theorem lawCheck_any (n : Int) (af : Option Addr) (nf fcap : Nat) (L : List (List Int)) (x : PO) (da va oa : Option Addr) (dc vc oc : Nat) (w : World) (hn : L.length = nf) (hnf : nf ≤ 65536) (hv : ∀ v ∈ L, v.length ≤ 65536) (hr : RdII w af L) (h : LiesO w x da va oa dc vc oc) (hx : I64O x) :
    Calls Try.prog 18 #[.int .i64 n, .slice af nf fcap, .agg (cellsO x da va oa dc vc oc)] w fun e w' => e = .returned (.int .i64 (checkF n L x)) ∧ Below w.heap.size w w' := by
  have C := lawCheck_of x.dp x.dn x.sp x.sl x.sq x.kind x.table x.col x.key da va oa x.deps.length x.vals.length x.dots.length dc vc oc n af nf fcap (formsF L) (issuedF n x && withinF L x) w
    (fun W hb => (rForms_any af nf fcap L W hn (by omega) (fun v hv' => by have := hv v hv'; omega) (hr.later hb)).mono fun e w' ⟨h1, h2⟩ => ⟨h1, by rw [h2]; exact Below.refl _ _⟩)
    (fun h0 h1 h5 W hb => rOp_any n af nf fcap x da va oa dc vc oc W h1 h5 (by rw [← hn]; exact (formsF_ok h0).2.1) (h.later hb) hx L hn hv (hr.later hb))
  rw [← Bool.and_assoc] at C
  exact C

end Go.Proofs.Ytjpcljmlkgjbgaa
