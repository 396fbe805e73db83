/-
  Texts of the proof of OpKinds, one behind the other.
-/
import Derived.Test.YtjpcljmlkgjbgaaRows
import Derived.Test.YtjpcljmlkgjbgaaG37OpKinds
namespace Go.Proofs.Ytjpcljmlkgjbgaa
open Go.RowKit Go.Lib
set_option linter.unusedVariables false

set_option maxRecDepth 100000 in
set_option maxHeartbeats 16000000 in
theorem rOp_ins (n : Int) (af : Option Addr) (nf fcap : Nat) (x : PO) (da va oa : Option Addr) (dc vc oc : Nat) (w : World) (hn1 : 1 ≤ n) (hn5 : n ≤ 5) (hnf : nf ≤ 3) (h : LiesO w x da va oa dc vc oc) (hx : I64O x) (HS9 : Hid True) (L : List (List Int)) (hL : L.length = nf) (hv : ∀ v ∈ L, v.length ≤ 65536) (hr : RdII w af L) (h1 : inF 0 (n - 1) x.dp = true) (h2 : inF 1 1073741824 x.dn = true) (h3 : decide ((x.deps.length : Int) = n) = true) (h4 : decide (chkD x.deps = 0) = true) (h5 : decide (atD x.deps x.dp = x.dn - 1) = true) (h6 : okS ⟨x.sp, x.sl, x.sq⟩ = true) (h7 : decide (x.sq = x.dp) = true) (h8 : inF 0 ((nf : Int) - 1) x.table = true) (h9 : keyF x.key = true) (hk : x.kind = 1) :
    Calls Try.prog 53 #[.int .i64 n, .slice af nf fcap, .agg (cellsO x da va oa dc vc oc)] w fun e w' => e = .returned (.bool ((putF x.vals (colsF L x.table) && decide (x.col = 0)) && decide (x.dots.length = 0))) ∧ Below w.heap.size w w' := by
  obtain ⟨res, hres⟩ : ∃ res, ((putF x.vals (colsF L x.table) && decide (x.col = 0)) && decide (x.dots.length = 0)) = res := ⟨_, rfl⟩
  rw [hres]
  have hdn := hx.dn
  obtain ⟨dp, dn, deps, sp, sl, sq, kind, table, key, col, vals, dots⟩ := x
  simp only [cellsO] at h hdn HS9 h8 hk hres ⊢
  have hkey : key.size ≤ 9223372036854775807 := h.key
  have HL : Hid (LiesO w ⟨dp, dn, deps, sp, sl, sq, kind, table, key, col, vals, dots⟩ da va oa dc vc oc) := h
  obtain ⟨B, hBB⟩ : ∃ B : World, B = w.alloc (.cells #[.int .i64 dp, .int .i64 dn, .slice da deps.length dc, .int .i64 sp, .int .i64 sl, .int .i64 sq, .int .i64 kind, .int .i64 table, .string key, .int .i64 col, .slice va vals.length vc, .slice oa dots.length oc] 32) := ⟨_, rfl⟩
  have HK : Hid (CellsAt B w.heap.size #[.int .i64 dp, .int .i64 dn, .slice da deps.length dc, .int .i64 sp, .int .i64 sl, .int .i64 sq, .int .i64 kind, .int .i64 table, .string key, .int .i64 col, .slice va vals.length vc, .slice oa dots.length oc] 32) := by rw [hBB]; exact CellsAt.made rfl
  have HB0 : Hid (Below w.heap.size w B) := by rw [hBB]; exact alloc_below _ _
  have HBB : Hid (B = w.alloc (.cells #[.int .i64 dp, .int .i64 dn, .slice da deps.length dc, .int .i64 sp, .int .i64 sl, .int .i64 sq, .int .i64 kind, .int .i64 table, .string key, .int .i64 col, .slice va vals.length vc, .slice oa dots.length oc] 32)) := hBB
  have hld : deps.length ≤ 65536 := h.ld
  clear hBB h
  have D1 := fun V => in_any dp 0 (n - 1) V
  have D2 := fun V => in_any dn 1 1073741824 V
  have D4 := fun (V : World) (hb : Below B.heap.size B V) => rVector_any da deps.length dc deps V rfl (by omega) (HL.out.deps.later (chain HB0.out hb))
  have D6 := fun V => rStamp_any sp sl sq V
  have D8 := fun V => in_any table 0 ((nf : Int) - 1) V
  have D9 := fun V => rKey_any key V hkey
  have HAT : Hid (∀ q : Nat, dp = q → q < deps.length → ∃ b o, da = some ⟨b, o, none⟩ ∧ B.cell? ⟨b, o + q, none⟩ = some (.int .i64 (atD deps dp))) := fun q hq hql => by
    obtain ⟨b, o, e, hc⟩ := (HL.out.deps.later HB0.out) (by show 0 < deps.length; omega)
    refine ⟨b, o, e, ?_⟩
    rw [hc q hql]
    have e2 : atD deps dp = deps[q] := by
      unfold atD
      rw [hq, Int.toNat_natCast, List.getElem?_eq_getElem hql, Option.getD_some]
    rw [e2]
  have w1 : IntKind.i64.wrap (n - 1) = n - 1 := by rw [IntKind.wrap_i64]; omega
  have w3 : IntKind.i64.wrap ((nf : Int) - 1) = (nf : Int) - 1 := by rw [IntKind.wrap_i64]; omega
  have hz : 0 ≤ table ∧ table ≤ (nf : Int) - 1 := of_decide_eq_true h8
  obtain ⟨z, rfl⟩ : ∃ z : Nat, table = z := ⟨table.toNat, by omega⟩
  have hzl : z < L.length := by omega
  have HFT : Hid (∃ bf o2, af = some ⟨bf, o2, none⟩ ∧ ∀ V, Below B.heap.size B V → ∃ ac cc, V.cell? ⟨bf, o2 + z, none⟩ = some (.slice ac L[z].length cc) ∧ L[z].length ≤ cc ∧ RdI .i64 V ac L[z]) := by
    obtain ⟨bf, o2, rfl, hc⟩ := hr (by omega)
    refine ⟨bf, o2, rfl, fun V hb => ?_⟩
    obtain ⟨u, hu, ac, cc, rfl, hcc, hrc, _⟩ := hc z hzl
    exact ⟨ac, cc, cell_later (chain HB0.out hb) hu, hcc, hrc.later (chain HB0.out hb)⟩
  obtain ⟨bf, o2, rfl, hFT⟩ := HFT.out
  have HFV : Hid (∀ V, Below B.heap.size B V → ∃ ac cc, V.cell? ⟨bf, o2 + z, none⟩ = some (.slice ac L[z].length cc) ∧ L[z].length ≤ cc ∧ RdI .i64 V ac L[z]) := hFT
  have kz0 : (0 : Int) ≤ (z : Int) := by omega
  have kz1 : (z : Int) < (nf : Int) := by omega
  clear HFT hFT hr
  have HCO : Hid (colsF L (z : Int) = L[z]) := by show _ = _; unfold colsF; rw [Int.toNat_natCast, List.getElem?_eq_getElem hzl, Option.getD_some]
  have hm65 : L[z].length ≤ 65536 := hv _ (List.getElem_mem hzl)
  generalize L[z] = cols at *
  clear hzl hz
  subst hk
  rw [HCO.out] at hres
  obtain ⟨m, hm⟩ : ∃ m, cols.length = m := ⟨_, rfl⟩
  have HCM : Hid (cols.length = m) := hm
  rw [hm] at HFV hm65
  clear hm
  generalize hnd : deps.length = nd at *
  generalize hnv : vals.length = nv at *
  have HNV : Hid (vals.length = nv) := hnv
  clear hnv
  generalize dots.length = no at *
  generalize atD deps dp = at0 at *
  have hb1 : inF 0 (n - 1) dp = true → 0 ≤ dp ∧ dp ≤ n - 1 := fun h => of_decide_eq_true h
  have hb2 : inF 1 1073741824 dn = true → 1 ≤ dn ∧ dn ≤ 1073741824 := fun h => of_decide_eq_true h
  generalize inF 0 (n - 1) dp = b1 at *
  generalize inF 1 1073741824 dn = b2 at *
  generalize okS ⟨sp, sl, sq⟩ = b6 at *
  generalize inF 0 ((nf : Int) - 1) (z : Int) = b8 at *
  generalize keyF key = b9 at *
  generalize chkD deps = ck at *
  obtain ⟨f0, f1, f2, f3, f4, f5, f6, f7, f8, f9, f10, f11⟩ := cellsO_at HK.out
  obtain rfl : b1 = true := h1
  obtain ⟨q, rfl⟩ : ∃ q : Nat, dp = q := ⟨dp.toNat, by have := hb1 rfl; omega⟩
  obtain rfl : b2 = true := h2
  have w2 : IntKind.i64.wrap (dn - 1) = dn - 1 := by have := hb2 rfl; rw [IntKind.wrap_i64]; omega
  have c3 := of_decide_eq_true h3
  have q3 : ((nd : Int) != n) = false := by simpa using c3
  have C3 : Hid ((nd : Int) = n) := c3
  clear c3 h3
  have c4 := of_decide_eq_true h4
  have q4 : (ck != 0) = false := by simpa using c4
  clear c4 h4
  have hq : q < nd := by have := hb1 rfl; have := C3.out; omega
  obtain ⟨bd, od, rfl, fd⟩ := HAT.out q rfl hq
  have k0 : (0 : Int) ≤ (q : Int) := by omega
  have k1 : (q : Int) < (nd : Int) := by omega
  have c5 := of_decide_eq_true h5
  have q5 : (at0 != dn - 1) = false := by simpa using c5
  clear c5 h5
  obtain rfl : b6 = true := h6
  have c7 := of_decide_eq_true h7
  have q7 : (sq != (q : Int)) = false := by simpa using c7
  clear c7 h7
  obtain rfl : b8 = true := h8
  obtain rfl : b9 = true := h9
  have HP : ∀ a b : World, Below a.heap.size a b → (fun w' : World => (w'.cell? ⟨w.heap.size, 0, none⟩ = some (.int .i64 (q : Int)) ∧ w'.cell? ⟨w.heap.size, 1, none⟩ = some (.int .i64 dn) ∧ w'.cell? ⟨w.heap.size, 2, none⟩ = some (.slice (some ⟨bd, od, none⟩) nd dc) ∧ w'.cell? ⟨w.heap.size, 3, none⟩ = some (.int .i64 sp) ∧ w'.cell? ⟨w.heap.size, 4, none⟩ = some (.int .i64 sl) ∧ w'.cell? ⟨w.heap.size, 5, none⟩ = some (.int .i64 sq) ∧ w'.cell? ⟨w.heap.size, 6, none⟩ = some (.int .i64 1) ∧ w'.cell? ⟨w.heap.size, 7, none⟩ = some (.int .i64 (z : Int)) ∧ w'.cell? ⟨w.heap.size, 8, none⟩ = some (.string key) ∧ w'.cell? ⟨w.heap.size, 9, none⟩ = some (.int .i64 col) ∧ w'.cell? ⟨w.heap.size, 10, none⟩ = some (.slice va nv vc) ∧ w'.cell? ⟨w.heap.size, 11, none⟩ = some (.slice oa no oc) ∧ w'.cell? ⟨bd, od + q, none⟩ = some (.int .i64 at0))) a → (fun w' : World => (w'.cell? ⟨w.heap.size, 0, none⟩ = some (.int .i64 (q : Int)) ∧ w'.cell? ⟨w.heap.size, 1, none⟩ = some (.int .i64 dn) ∧ w'.cell? ⟨w.heap.size, 2, none⟩ = some (.slice (some ⟨bd, od, none⟩) nd dc) ∧ w'.cell? ⟨w.heap.size, 3, none⟩ = some (.int .i64 sp) ∧ w'.cell? ⟨w.heap.size, 4, none⟩ = some (.int .i64 sl) ∧ w'.cell? ⟨w.heap.size, 5, none⟩ = some (.int .i64 sq) ∧ w'.cell? ⟨w.heap.size, 6, none⟩ = some (.int .i64 1) ∧ w'.cell? ⟨w.heap.size, 7, none⟩ = some (.int .i64 (z : Int)) ∧ w'.cell? ⟨w.heap.size, 8, none⟩ = some (.string key) ∧ w'.cell? ⟨w.heap.size, 9, none⟩ = some (.int .i64 col) ∧ w'.cell? ⟨w.heap.size, 10, none⟩ = some (.slice va nv vc) ∧ w'.cell? ⟨w.heap.size, 11, none⟩ = some (.slice oa no oc) ∧ w'.cell? ⟨bd, od + q, none⟩ = some (.int .i64 at0))) b := fun a b hb h => ⟨cell_later hb h.1, cell_later hb h.2.1, cell_later hb h.2.2.1, cell_later hb h.2.2.2.1, cell_later hb h.2.2.2.2.1, cell_later hb h.2.2.2.2.2.1, cell_later hb h.2.2.2.2.2.2.1, cell_later hb h.2.2.2.2.2.2.2.1, cell_later hb h.2.2.2.2.2.2.2.2.1, cell_later hb h.2.2.2.2.2.2.2.2.2.1, cell_later hb h.2.2.2.2.2.2.2.2.2.2.1, cell_later hb h.2.2.2.2.2.2.2.2.2.2.2.1, cell_later hb h.2.2.2.2.2.2.2.2.2.2.2.2⟩
  have HS := (And.intro (show (B.cell? ⟨w.heap.size, 0, none⟩ = some (.int .i64 (q : Int)) ∧ B.cell? ⟨w.heap.size, 1, none⟩ = some (.int .i64 dn) ∧ B.cell? ⟨w.heap.size, 2, none⟩ = some (.slice (some ⟨bd, od, none⟩) nd dc) ∧ B.cell? ⟨w.heap.size, 3, none⟩ = some (.int .i64 sp) ∧ B.cell? ⟨w.heap.size, 4, none⟩ = some (.int .i64 sl) ∧ B.cell? ⟨w.heap.size, 5, none⟩ = some (.int .i64 sq) ∧ B.cell? ⟨w.heap.size, 6, none⟩ = some (.int .i64 1) ∧ B.cell? ⟨w.heap.size, 7, none⟩ = some (.int .i64 (z : Int)) ∧ B.cell? ⟨w.heap.size, 8, none⟩ = some (.string key) ∧ B.cell? ⟨w.heap.size, 9, none⟩ = some (.int .i64 col) ∧ B.cell? ⟨w.heap.size, 10, none⟩ = some (.slice va nv vc) ∧ B.cell? ⟨w.heap.size, 11, none⟩ = some (.slice oa no oc) ∧ B.cell? ⟨bd, od + q, none⟩ = some (.int .i64 at0)) from ⟨f0, f1, f2, f3, f4, f5, f6, f7, f8, f9, f10, f11, fd⟩) (show Hid (Below B.heap.size B B) from Below.refl _ _))
  clear HS9
  go_enter Try.func53, Try.ntmps53
  go_wp2_with fail
  rw [← HBB.out]
  refine wp_region_held_drew (S := (fun w' => (w'.cell? ⟨w.heap.size, 0, none⟩ = some (.int .i64 (q : Int)) ∧ w'.cell? ⟨w.heap.size, 1, none⟩ = some (.int .i64 dn) ∧ w'.cell? ⟨w.heap.size, 2, none⟩ = some (.slice (some ⟨bd, od, none⟩) nd dc) ∧ w'.cell? ⟨w.heap.size, 3, none⟩ = some (.int .i64 sp) ∧ w'.cell? ⟨w.heap.size, 4, none⟩ = some (.int .i64 sl) ∧ w'.cell? ⟨w.heap.size, 5, none⟩ = some (.int .i64 sq) ∧ w'.cell? ⟨w.heap.size, 6, none⟩ = some (.int .i64 1) ∧ w'.cell? ⟨w.heap.size, 7, none⟩ = some (.int .i64 (z : Int)) ∧ w'.cell? ⟨w.heap.size, 8, none⟩ = some (.string key) ∧ w'.cell? ⟨w.heap.size, 9, none⟩ = some (.int .i64 col) ∧ w'.cell? ⟨w.heap.size, 10, none⟩ = some (.slice va nv vc) ∧ w'.cell? ⟨w.heap.size, 11, none⟩ = some (.slice oa no oc) ∧ w'.cell? ⟨bd, od + q, none⟩ = some (.int .i64 at0)) ∧ Hid (Below B.heap.size B w'))) (by kernel_rfl) (keepH (P := fun w' : World => (w'.cell? ⟨w.heap.size, 0, none⟩ = some (.int .i64 (q : Int)) ∧ w'.cell? ⟨w.heap.size, 1, none⟩ = some (.int .i64 dn) ∧ w'.cell? ⟨w.heap.size, 2, none⟩ = some (.slice (some ⟨bd, od, none⟩) nd dc) ∧ w'.cell? ⟨w.heap.size, 3, none⟩ = some (.int .i64 sp) ∧ w'.cell? ⟨w.heap.size, 4, none⟩ = some (.int .i64 sl) ∧ w'.cell? ⟨w.heap.size, 5, none⟩ = some (.int .i64 sq) ∧ w'.cell? ⟨w.heap.size, 6, none⟩ = some (.int .i64 1) ∧ w'.cell? ⟨w.heap.size, 7, none⟩ = some (.int .i64 (z : Int)) ∧ w'.cell? ⟨w.heap.size, 8, none⟩ = some (.string key) ∧ w'.cell? ⟨w.heap.size, 9, none⟩ = some (.int .i64 col) ∧ w'.cell? ⟨w.heap.size, 10, none⟩ = some (.slice va nv vc) ∧ w'.cell? ⟨w.heap.size, 11, none⟩ = some (.slice oa no oc) ∧ w'.cell? ⟨bd, od + q, none⟩ = some (.int .i64 at0))) HP (Below.refl _ _).drew HS) (fun hHeld => ?_)
  refine heldTake (v := ?_) 0 10 rfl rfl (by kernel_rfl) (by kernel_rfl) (by kernel_rfl) (fun _ _ _ h => h) (by rfl) (fun w hSw => ?_) (by assumption) ?_
  rotate_left
  · (try dsimp only at hSw); first | (go_simp; done) | (go_simp; with_reducible rfl)
  simp only [List.setIfInBounds_toArray, List.set_cons_zero, List.set_cons_succ]
  refine heldTake (v := ?_) 1 11 rfl rfl (by kernel_rfl) (by kernel_rfl) (by kernel_rfl) (fun _ _ _ h => h) (by rfl) (fun w hSw => ?_) (by assumption) ?_
  rotate_left
  · (try dsimp only at hSw); first | (go_simp; done) | (go_simp; with_reducible rfl)
  simp only [List.setIfInBounds_toArray, List.set_cons_zero, List.set_cons_succ]
  refine heldTake (v := ?_) 2 12 rfl rfl (by kernel_rfl) (by kernel_rfl) (by kernel_rfl) (fun _ _ _ h => h) (by rfl) (fun w hSw => ?_) (by assumption) ?_
  rotate_left
  · (try dsimp only at hSw); first | (go_simp; done) | (go_simp; with_reducible rfl)
  simp only [List.setIfInBounds_toArray, List.set_cons_zero, List.set_cons_succ]
  refine heldTake (v := ?_) 3 13 rfl rfl (by kernel_rfl) (by kernel_rfl) (by kernel_rfl) (fun _ _ _ h => h) (by rfl) (fun w hSw => ?_) (by assumption) ?_
  rotate_left
  · (try dsimp only at hSw); first | (go_simp; done) | (go_simp; with_reducible rfl)
  simp only [List.setIfInBounds_toArray, List.set_cons_zero, List.set_cons_succ]
  refine heldTake (v := ?_) 4 14 rfl rfl (by kernel_rfl) (by kernel_rfl) (by kernel_rfl) (fun _ _ _ h => h) (by rfl) (fun w hSw => ?_) (by assumption) ?_
  rotate_left
  · (try dsimp only at hSw); first | (go_simp; done) | (go_simp; with_reducible rfl)
  simp only [List.setIfInBounds_toArray, List.set_cons_zero, List.set_cons_succ]
  refine heldOne 5 rfl (by kernel_rfl) (by rfl) (fun K2 hK => ?_)
  go_simp
  refine (D1 _).mono ?_
  rintro e wz ⟨rfl, hw⟩
  simp only []
  subst hw
  refine hK.out _ _ ?_ (fun hHeld => ?_)
  · (first | exact hHeld | assumption)
  clear hK K2
  try simp only [List.setIfInBounds_toArray, List.set_cons_zero, List.set_cons_succ]
  refine heldTake (v := ?_) 6 16 rfl rfl (by kernel_rfl) (by kernel_rfl) (by kernel_rfl) (fun _ _ _ h => h) (by rfl) (fun w hSw => ?_) (by assumption) ?_
  rotate_left
  · (try dsimp only at hSw); first | (go_simp; done) | (go_simp; with_reducible rfl)
  simp only [List.setIfInBounds_toArray, List.set_cons_zero, List.set_cons_succ]
  refine heldTake (v := ?_) 7 17 rfl rfl (by kernel_rfl) (by kernel_rfl) (by kernel_rfl) (fun _ _ _ h => h) (by rfl) (fun w hSw => ?_) (by assumption) ?_
  rotate_left
  · (try dsimp only at hSw); first | (go_simp; done) | (go_simp; with_reducible rfl)
  simp only [List.setIfInBounds_toArray, List.set_cons_zero, List.set_cons_succ]
  refine heldTake (v := ?_) 8 18 rfl rfl (by kernel_rfl) (by kernel_rfl) (by kernel_rfl) (fun _ _ _ h => h) (by rfl) (fun w hSw => ?_) (by assumption) ?_
  rotate_left
  · (try dsimp only at hSw); first | (go_simp; done) | (go_simp; with_reducible rfl)
  simp only [List.setIfInBounds_toArray, List.set_cons_zero, List.set_cons_succ]
  refine heldTake (v := ?_) 9 19 rfl rfl (by kernel_rfl) (by kernel_rfl) (by kernel_rfl) (fun _ _ _ h => h) (by rfl) (fun w hSw => ?_) (by assumption) ?_
  rotate_left
  · (try dsimp only at hSw); first | (go_simp; done) | (go_simp; with_reducible rfl)
  simp only [List.setIfInBounds_toArray, List.set_cons_zero, List.set_cons_succ]
  refine heldTake (v := ?_) 10 20 rfl rfl (by kernel_rfl) (by kernel_rfl) (by kernel_rfl) (fun _ _ _ h => h) (by rfl) (fun w hSw => ?_) (by assumption) ?_
  rotate_left
  · (try dsimp only at hSw); first | (go_simp; done) | (go_simp; with_reducible rfl)
  simp only [List.setIfInBounds_toArray, List.set_cons_zero, List.set_cons_succ]
  refine heldOne 11 rfl (by kernel_rfl) (by rfl) (fun K2 hK => ?_)
  go_simp
  refine (D2 _).mono ?_
  rintro e wz ⟨rfl, hw⟩
  simp only []
  subst hw
  refine hK.out _ _ ?_ (fun hHeld => ?_)
  · (first | exact hHeld | assumption)
  clear hK K2
  try simp only [List.setIfInBounds_toArray, List.set_cons_zero, List.set_cons_succ]
  refine heldTake (v := ?_) 12 22 rfl rfl (by kernel_rfl) (by kernel_rfl) (by kernel_rfl) (fun _ _ _ h => h) (by rfl) (fun w hSw => ?_) (by assumption) ?_
  rotate_left
  · (try dsimp only at hSw); first | (go_simp; done) | (go_simp; with_reducible rfl)
  simp only [List.setIfInBounds_toArray, List.set_cons_zero, List.set_cons_succ]
  refine heldTake (v := ?_) 13 23 rfl rfl (by kernel_rfl) (by kernel_rfl) (by kernel_rfl) (fun _ _ _ h => h) (by rfl) (fun w hSw => ?_) (by assumption) ?_
  rotate_left
  · (try dsimp only at hSw); first | (go_simp; done) | (go_simp; with_reducible rfl)
  simp only [List.setIfInBounds_toArray, List.set_cons_zero, List.set_cons_succ]
  refine heldTake (v := ?_) 14 24 rfl rfl (by kernel_rfl) (by kernel_rfl) (by kernel_rfl) (fun _ _ _ h => h) (by rfl) (fun w hSw => ?_) (by assumption) ?_
  rotate_left
  · (try dsimp only at hSw); first | (go_simp; done) | (go_simp; with_reducible rfl)
  simp only [List.setIfInBounds_toArray, List.set_cons_zero, List.set_cons_succ]
  refine heldTake (v := ?_) 15 25 rfl rfl (by kernel_rfl) (by kernel_rfl) (by kernel_rfl) (fun _ _ _ h => h) (by rfl) (fun w hSw => ?_) (by assumption) ?_
  rotate_left
  · (try dsimp only at hSw); first | (go_simp; done) | (go_simp; with_reducible rfl)
  simp only [List.setIfInBounds_toArray, List.set_cons_zero, List.set_cons_succ]
  refine heldTake (v := ?_) 16 26 rfl rfl (by kernel_rfl) (by kernel_rfl) (by kernel_rfl) (fun _ _ _ h => h) (by rfl) (fun w hSw => ?_) (by assumption) ?_
  rotate_left
  · (try dsimp only at hSw); first | (go_simp; done) | (go_simp; with_reducible rfl)
  simp only [List.setIfInBounds_toArray, List.set_cons_zero, List.set_cons_succ]
  refine heldTake (v := ?_) 17 27 rfl rfl (by kernel_rfl) (by kernel_rfl) (by kernel_rfl) (fun _ _ _ h => h) (by rfl) (fun w hSw => ?_) (by assumption) ?_
  rotate_left
  · (try dsimp only at hSw); first | (go_simp; done) | (go_simp; with_reducible rfl)
  simp only [List.setIfInBounds_toArray, List.set_cons_zero, List.set_cons_succ]
  refine heldTake (v := ?_) 18 28 rfl rfl (by kernel_rfl) (by kernel_rfl) (by kernel_rfl) (fun _ _ _ h => h) (by rfl) (fun w hSw => ?_) (by assumption) ?_
  rotate_left
  · (try dsimp only at hSw); first | (go_simp; done) | (go_simp; with_reducible rfl)
  simp only [List.setIfInBounds_toArray, List.set_cons_zero, List.set_cons_succ]
  refine heldTake (v := ?_) 19 29 rfl rfl (by kernel_rfl) (by kernel_rfl) (by kernel_rfl) (fun _ _ _ h => h) (by rfl) (fun w hSw => ?_) (by assumption) ?_
  rotate_left
  · (try dsimp only at hSw); first | (go_simp; done) | (go_simp; with_reducible rfl)
  simp only [List.setIfInBounds_toArray, List.set_cons_zero, List.set_cons_succ]
  refine heldTake (v := ?_) 20 30 rfl rfl (by kernel_rfl) (by kernel_rfl) (by kernel_rfl) (fun _ _ _ h => h) (by rfl) (fun w hSw => ?_) (by assumption) ?_
  rotate_left
  · (try dsimp only at hSw); first | (go_simp; done) | (go_simp; with_reducible rfl)
  simp only [List.setIfInBounds_toArray, List.set_cons_zero, List.set_cons_succ]
  refine heldTake (v := ?_) 21 31 rfl rfl (by kernel_rfl) (by kernel_rfl) (by kernel_rfl) (fun _ _ _ h => h) (by rfl) (fun w hSw => ?_) (by assumption) ?_
  rotate_left
  · (try dsimp only at hSw); first | (go_simp; done) | (go_simp; with_reducible rfl)
  simp only [List.setIfInBounds_toArray, List.set_cons_zero, List.set_cons_succ]
  refine heldTake (v := ?_) 22 32 rfl rfl (by kernel_rfl) (by kernel_rfl) (by kernel_rfl) (fun _ _ _ h => h) (by rfl) (fun w hSw => ?_) (by assumption) ?_
  rotate_left
  · (try dsimp only at hSw); first | (go_simp; done) | (go_simp; with_reducible rfl)
  simp only [List.setIfInBounds_toArray, List.set_cons_zero, List.set_cons_succ]
  refine heldTake (v := ?_) 23 33 rfl rfl (by kernel_rfl) (by kernel_rfl) (by kernel_rfl) (fun _ _ _ h => h) (by rfl) (fun w hSw => ?_) (by assumption) ?_
  rotate_left
  · (try dsimp only at hSw); first | (go_simp; done) | (go_simp; with_reducible rfl)
  simp only [List.setIfInBounds_toArray, List.set_cons_zero, List.set_cons_succ]
  refine heldOne 24 rfl (by kernel_rfl) (by rfl) (fun K2 hK => ?_)
  go_simp
  refine (D4 _ hHeld.2.out).mono ?_
  rintro e wz ⟨rfl, hw⟩
  simp only []
  subst hw
  refine hK.out _ _ ?_ (fun hHeld => ?_)
  · (first | exact hHeld | assumption)
  clear hK K2
  try simp only [List.setIfInBounds_toArray, List.set_cons_zero, List.set_cons_succ]
  refine heldTake (v := ?_) 25 35 rfl rfl (by kernel_rfl) (by kernel_rfl) (by kernel_rfl) (fun _ _ _ h => h) (by rfl) (fun w hSw => ?_) (by assumption) ?_
  rotate_left
  · (try dsimp only at hSw); first | (go_simp; done) | (go_simp; with_reducible rfl)
  simp only [List.setIfInBounds_toArray, List.set_cons_zero, List.set_cons_succ]
  refine heldTake (v := ?_) 26 36 rfl rfl (by kernel_rfl) (by kernel_rfl) (by kernel_rfl) (fun _ _ _ h => h) (by rfl) (fun w hSw => ?_) (by assumption) ?_
  rotate_left
  · (try dsimp only at hSw); first | (go_simp; done) | (go_simp; with_reducible rfl)
  simp only [List.setIfInBounds_toArray, List.set_cons_zero, List.set_cons_succ]
  refine heldTake (v := ?_) 27 37 rfl rfl (by kernel_rfl) (by kernel_rfl) (by kernel_rfl) (fun _ _ _ h => h) (by rfl) (fun w hSw => ?_) (by assumption) ?_
  rotate_left
  · (try dsimp only at hSw); first | (go_simp; done) | (go_simp; with_reducible rfl)
  simp only [List.setIfInBounds_toArray, List.set_cons_zero, List.set_cons_succ]
  refine heldTake (v := ?_) 28 38 rfl rfl (by kernel_rfl) (by kernel_rfl) (by kernel_rfl) (fun _ _ _ h => h) (by rfl) (fun w hSw => ?_) (by assumption) ?_
  rotate_left
  · (try dsimp only at hSw); first | (go_simp; done) | (go_simp; with_reducible rfl)
  simp only [List.setIfInBounds_toArray, List.set_cons_zero, List.set_cons_succ]
  refine heldTake (v := ?_) 29 39 rfl rfl (by kernel_rfl) (by kernel_rfl) (by kernel_rfl) (fun _ _ _ h => h) (by rfl) (fun w hSw => ?_) (by assumption) ?_
  rotate_left
  · (try dsimp only at hSw); first | (go_simp; done) | (go_simp; with_reducible rfl)
  simp only [List.setIfInBounds_toArray, List.set_cons_zero, List.set_cons_succ]
  refine heldTake (v := ?_) 30 40 rfl rfl (by kernel_rfl) (by kernel_rfl) (by kernel_rfl) (fun _ _ _ h => h) (by rfl) (fun w hSw => ?_) (by assumption) ?_
  rotate_left
  · (try dsimp only at hSw); first | (go_simp; done) | (go_simp; with_reducible rfl)
  simp only [List.setIfInBounds_toArray, List.set_cons_zero, List.set_cons_succ]
  refine heldTake (v := ?_) 31 41 rfl rfl (by kernel_rfl) (by kernel_rfl) (by kernel_rfl) (fun _ _ _ h => h) (by rfl) (fun w hSw => ?_) (by assumption) ?_
  rotate_left
  · (try dsimp only at hSw); first | (go_simp; done) | (go_simp; with_reducible rfl)
  simp only [List.setIfInBounds_toArray, List.set_cons_zero, List.set_cons_succ]
  refine heldTake (v := ?_) 32 42 rfl rfl (by kernel_rfl) (by kernel_rfl) (by kernel_rfl) (fun _ _ _ h => h) (by rfl) (fun w hSw => ?_) (by assumption) ?_
  rotate_left
  · (try dsimp only at hSw); first | (go_simp; done) | (go_simp; with_reducible rfl)
  simp only [List.setIfInBounds_toArray, List.set_cons_zero, List.set_cons_succ]
  refine heldTake (v := ?_) 33 43 rfl rfl (by kernel_rfl) (by kernel_rfl) (by kernel_rfl) (fun _ _ _ h => h) (by rfl) (fun w hSw => ?_) (by assumption) ?_
  rotate_left
  · (try dsimp only at hSw); first | (go_simp; done) | (go_simp; with_reducible rfl)
  simp only [List.setIfInBounds_toArray, List.set_cons_zero, List.set_cons_succ]
  refine heldTake (v := ?_) 34 44 rfl rfl (by kernel_rfl) (by kernel_rfl) (by kernel_rfl) (fun _ _ _ h => h) (by rfl) (fun w hSw => ?_) (by assumption) ?_
  rotate_left
  · (try dsimp only at hSw); first | (go_simp; done) | (go_simp; with_reducible rfl)
  simp only [List.setIfInBounds_toArray, List.set_cons_zero, List.set_cons_succ]
  refine heldTake (v := ?_) 35 45 rfl rfl (by kernel_rfl) (by kernel_rfl) (by kernel_rfl) (fun _ _ _ h => h) (by rfl) (fun w hSw => ?_) (by assumption) ?_
  rotate_left
  · (try dsimp only at hSw); first | (go_simp; done) | (go_simp; with_reducible rfl)
  simp only [List.setIfInBounds_toArray, List.set_cons_zero, List.set_cons_succ]
  refine heldTake (v := ?_) 36 46 rfl rfl (by kernel_rfl) (by kernel_rfl) (by kernel_rfl) (fun _ _ _ h => h) (by rfl) (fun w hSw => ?_) (by assumption) ?_
  rotate_left
  · (try dsimp only at hSw); first | (go_simp; done) | (go_simp; with_reducible rfl)
  simp only [List.setIfInBounds_toArray, List.set_cons_zero, List.set_cons_succ]
  refine heldTake (v := ?_) 37 47 rfl rfl (by kernel_rfl) (by kernel_rfl) (by kernel_rfl) (fun _ _ _ h => h) (by rfl) (fun w hSw => ?_) (by assumption) ?_
  rotate_left
  · (try dsimp only at hSw); first | (go_simp; done) | (go_simp; with_reducible rfl)
  simp only [List.setIfInBounds_toArray, List.set_cons_zero, List.set_cons_succ]
  refine heldTake (v := ?_) 38 48 rfl rfl (by kernel_rfl) (by kernel_rfl) (by kernel_rfl) (fun _ _ _ h => h) (by rfl) (fun w hSw => ?_) (by assumption) ?_
  rotate_left
  · (try dsimp only at hSw); first | (go_simp; done) | (go_simp; with_reducible rfl)
  simp only [List.setIfInBounds_toArray, List.set_cons_zero, List.set_cons_succ]
  refine heldTake (v := ?_) 39 49 rfl rfl (by kernel_rfl) (by kernel_rfl) (by kernel_rfl) (fun _ _ _ h => h) (by rfl) (fun w hSw => ?_) (by assumption) ?_
  rotate_left
  · (try dsimp only at hSw); first | (go_simp; done) | (go_simp; with_reducible rfl)
  simp only [List.setIfInBounds_toArray, List.set_cons_zero, List.set_cons_succ]
  refine heldTake (v := ?_) 40 50 rfl rfl (by kernel_rfl) (by kernel_rfl) (by kernel_rfl) (fun _ _ _ h => h) (by rfl) (fun w hSw => ?_) (by assumption) ?_
  rotate_left
  · (try dsimp only at hSw); first | (go_simp; done) | (go_simp; with_reducible rfl)
  simp only [List.setIfInBounds_toArray, List.set_cons_zero, List.set_cons_succ]
  refine heldTake (v := ?_) 41 51 rfl rfl (by kernel_rfl) (by kernel_rfl) (by kernel_rfl) (fun _ _ _ h => h) (by rfl) (fun w hSw => ?_) (by assumption) ?_
  rotate_left
  · (try dsimp only at hSw); first | (go_simp; done) | (go_simp; with_reducible rfl)
  simp only [List.setIfInBounds_toArray, List.set_cons_zero, List.set_cons_succ]
  refine heldTake (v := ?_) 42 52 rfl rfl (by kernel_rfl) (by kernel_rfl) (by kernel_rfl) (fun _ _ _ h => h) (by rfl) (fun w hSw => ?_) (by assumption) ?_
  rotate_left
  · (try dsimp only at hSw); first | (go_simp; done) | (go_simp; with_reducible rfl)
  simp only [List.setIfInBounds_toArray, List.set_cons_zero, List.set_cons_succ]
  refine heldTake (v := ?_) 43 53 rfl rfl (by kernel_rfl) (by kernel_rfl) (by kernel_rfl) (fun _ _ _ h => h) (by rfl) (fun w hSw => ?_) (by assumption) ?_
  rotate_left
  · (try dsimp only at hSw); first | (go_simp; done) | (go_simp; with_reducible rfl)
  simp only [List.setIfInBounds_toArray, List.set_cons_zero, List.set_cons_succ]
  refine heldOne 44 rfl (by kernel_rfl) (by rfl) (fun K2 hK => ?_)
  go_simp
  refine (D6 _).mono ?_
  rintro e wz ⟨rfl, hb⟩
  simp only []
  refine hK.out _ _ ?_ (fun hHeld => ?_)
  · exact keepH (P := fun w' : World => (w'.cell? ⟨w.heap.size, 0, none⟩ = some (.int .i64 (q : Int)) ∧ w'.cell? ⟨w.heap.size, 1, none⟩ = some (.int .i64 dn) ∧ w'.cell? ⟨w.heap.size, 2, none⟩ = some (.slice (some ⟨bd, od, none⟩) nd dc) ∧ w'.cell? ⟨w.heap.size, 3, none⟩ = some (.int .i64 sp) ∧ w'.cell? ⟨w.heap.size, 4, none⟩ = some (.int .i64 sl) ∧ w'.cell? ⟨w.heap.size, 5, none⟩ = some (.int .i64 sq) ∧ w'.cell? ⟨w.heap.size, 6, none⟩ = some (.int .i64 1) ∧ w'.cell? ⟨w.heap.size, 7, none⟩ = some (.int .i64 (z : Int)) ∧ w'.cell? ⟨w.heap.size, 8, none⟩ = some (.string key) ∧ w'.cell? ⟨w.heap.size, 9, none⟩ = some (.int .i64 col) ∧ w'.cell? ⟨w.heap.size, 10, none⟩ = some (.slice va nv vc) ∧ w'.cell? ⟨w.heap.size, 11, none⟩ = some (.slice oa no oc) ∧ w'.cell? ⟨bd, od + q, none⟩ = some (.int .i64 at0))) HP hb (by assumption)
  clear hK K2
  try simp only [List.setIfInBounds_toArray, List.set_cons_zero, List.set_cons_succ]
  refine heldTake (v := ?_) 45 55 rfl rfl (by kernel_rfl) (by kernel_rfl) (by kernel_rfl) (fun _ _ _ h => h) (by rfl) (fun w hSw => ?_) (by assumption) ?_
  rotate_left
  · (try dsimp only at hSw); first | (go_simp; done) | (go_simp; with_reducible rfl)
  simp only [List.setIfInBounds_toArray, List.set_cons_zero, List.set_cons_succ]
  refine heldTake (v := ?_) 46 56 rfl rfl (by kernel_rfl) (by kernel_rfl) (by kernel_rfl) (fun _ _ _ h => h) (by rfl) (fun w hSw => ?_) (by assumption) ?_
  rotate_left
  · (try dsimp only at hSw); first | (go_simp; done) | (go_simp; with_reducible rfl)
  simp only [List.setIfInBounds_toArray, List.set_cons_zero, List.set_cons_succ]
  refine heldTake (v := ?_) 47 57 rfl rfl (by kernel_rfl) (by kernel_rfl) (by kernel_rfl) (fun _ _ _ h => h) (by rfl) (fun w hSw => ?_) (by assumption) ?_
  rotate_left
  · (try dsimp only at hSw); first | (go_simp; done) | (go_simp; with_reducible rfl)
  simp only [List.setIfInBounds_toArray, List.set_cons_zero, List.set_cons_succ]
  refine heldTake (v := ?_) 48 58 rfl rfl (by kernel_rfl) (by kernel_rfl) (by kernel_rfl) (fun _ _ _ h => h) (by rfl) (fun w hSw => ?_) (by assumption) ?_
  rotate_left
  · (try dsimp only at hSw); first | (go_simp; done) | (go_simp; with_reducible rfl)
  simp only [List.setIfInBounds_toArray, List.set_cons_zero, List.set_cons_succ]
  refine heldTake (v := ?_) 49 59 rfl rfl (by kernel_rfl) (by kernel_rfl) (by kernel_rfl) (fun _ _ _ h => h) (by rfl) (fun w hSw => ?_) (by assumption) ?_
  rotate_left
  · (try dsimp only at hSw); first | (go_simp; done) | (go_simp; with_reducible rfl)
  simp only [List.setIfInBounds_toArray, List.set_cons_zero, List.set_cons_succ]
  refine heldTake (v := ?_) 50 60 rfl rfl (by kernel_rfl) (by kernel_rfl) (by kernel_rfl) (fun _ _ _ h => h) (by rfl) (fun w hSw => ?_) (by assumption) ?_
  rotate_left
  · (try dsimp only at hSw); first | (go_simp; done) | (go_simp; with_reducible rfl)
  simp only [List.setIfInBounds_toArray, List.set_cons_zero, List.set_cons_succ]
  refine heldTake (v := ?_) 51 61 rfl rfl (by kernel_rfl) (by kernel_rfl) (by kernel_rfl) (fun _ _ _ h => h) (by rfl) (fun w hSw => ?_) (by assumption) ?_
  rotate_left
  · (try dsimp only at hSw); first | (go_simp; done) | (go_simp; with_reducible rfl)
  simp only [List.setIfInBounds_toArray, List.set_cons_zero, List.set_cons_succ]
  refine heldTake (v := ?_) 52 62 rfl rfl (by kernel_rfl) (by kernel_rfl) (by kernel_rfl) (fun _ _ _ h => h) (by rfl) (fun w hSw => ?_) (by assumption) ?_
  rotate_left
  · (try dsimp only at hSw); first | (go_simp; done) | (go_simp; with_reducible rfl)
  simp only [List.setIfInBounds_toArray, List.set_cons_zero, List.set_cons_succ]
  refine heldTake (v := ?_) 53 63 rfl rfl (by kernel_rfl) (by kernel_rfl) (by kernel_rfl) (fun _ _ _ h => h) (by rfl) (fun w hSw => ?_) (by assumption) ?_
  rotate_left
  · (try dsimp only at hSw); first | (go_simp; done) | (go_simp; with_reducible rfl)
  simp only [List.setIfInBounds_toArray, List.set_cons_zero, List.set_cons_succ]
  refine heldTake (v := ?_) 54 64 rfl rfl (by kernel_rfl) (by kernel_rfl) (by kernel_rfl) (fun _ _ _ h => h) (by rfl) (fun w hSw => ?_) (by assumption) ?_
  rotate_left
  · (try dsimp only at hSw); first | (go_simp; done) | (go_simp; with_reducible rfl)
  simp only [List.setIfInBounds_toArray, List.set_cons_zero, List.set_cons_succ]
  refine heldTake (v := ?_) 55 65 rfl rfl (by kernel_rfl) (by kernel_rfl) (by kernel_rfl) (fun _ _ _ h => h) (by rfl) (fun w hSw => ?_) (by assumption) ?_
  rotate_left
  · (try dsimp only at hSw); first | (go_simp; done) | (go_simp; with_reducible rfl)
  simp only [List.setIfInBounds_toArray, List.set_cons_zero, List.set_cons_succ]
  refine heldTake (v := ?_) 56 66 rfl rfl (by kernel_rfl) (by kernel_rfl) (by kernel_rfl) (fun _ _ _ h => h) (by rfl) (fun w hSw => ?_) (by assumption) ?_
  rotate_left
  · (try dsimp only at hSw); first | (go_simp; done) | (go_simp; with_reducible rfl)
  simp only [List.setIfInBounds_toArray, List.set_cons_zero, List.set_cons_succ]
  refine heldTake (v := ?_) 57 67 rfl rfl (by kernel_rfl) (by kernel_rfl) (by kernel_rfl) (fun _ _ _ h => h) (by rfl) (fun w hSw => ?_) (by assumption) ?_
  rotate_left
  · (try dsimp only at hSw); first | (go_simp; done) | (go_simp; with_reducible rfl)
  simp only [List.setIfInBounds_toArray, List.set_cons_zero, List.set_cons_succ]
  refine heldTake (v := ?_) 58 68 rfl rfl (by kernel_rfl) (by kernel_rfl) (by kernel_rfl) (fun _ _ _ h => h) (by rfl) (fun w hSw => ?_) (by assumption) ?_
  rotate_left
  · (try dsimp only at hSw); first | (go_simp; done) | (go_simp; with_reducible rfl)
  simp only [List.setIfInBounds_toArray, List.set_cons_zero, List.set_cons_succ]
  refine heldTake (v := ?_) 59 69 rfl rfl (by kernel_rfl) (by kernel_rfl) (by kernel_rfl) (fun _ _ _ h => h) (by rfl) (fun w hSw => ?_) (by assumption) ?_
  rotate_left
  · (try dsimp only at hSw); first | (go_simp; done) | (go_simp; with_reducible rfl)
  simp only [List.setIfInBounds_toArray, List.set_cons_zero, List.set_cons_succ]
  refine heldTake (v := ?_) 60 70 rfl rfl (by kernel_rfl) (by kernel_rfl) (by kernel_rfl) (fun _ _ _ h => h) (by rfl) (fun w hSw => ?_) (by assumption) ?_
  rotate_left
  · (try dsimp only at hSw); first | (go_simp; done) | (go_simp; with_reducible rfl)
  simp only [List.setIfInBounds_toArray, List.set_cons_zero, List.set_cons_succ]
  refine heldTake (v := ?_) 61 71 rfl rfl (by kernel_rfl) (by kernel_rfl) (by kernel_rfl) (fun _ _ _ h => h) (by rfl) (fun w hSw => ?_) (by assumption) ?_
  rotate_left
  · (try dsimp only at hSw); first | (go_simp; done) | (go_simp; with_reducible rfl)
  simp only [List.setIfInBounds_toArray, List.set_cons_zero, List.set_cons_succ]
  refine heldOne 62 rfl (by kernel_rfl) (by rfl) (fun K2 hK => ?_)
  go_simp
  refine (D8 _).mono ?_
  rintro e wz ⟨rfl, hw⟩
  simp only []
  subst hw
  refine hK.out _ _ ?_ (fun hHeld => ?_)
  · (first | exact hHeld | assumption)
  clear hK K2
  try simp only [List.setIfInBounds_toArray, List.set_cons_zero, List.set_cons_succ]
  refine heldTake (v := ?_) 63 73 rfl rfl (by kernel_rfl) (by kernel_rfl) (by kernel_rfl) (fun _ _ _ h => h) (by rfl) (fun w hSw => ?_) (by assumption) ?_
  rotate_left
  · (try dsimp only at hSw); first | (go_simp; done) | (go_simp; with_reducible rfl)
  simp only [List.setIfInBounds_toArray, List.set_cons_zero, List.set_cons_succ]
  refine heldTake (v := ?_) 64 74 rfl rfl (by kernel_rfl) (by kernel_rfl) (by kernel_rfl) (fun _ _ _ h => h) (by rfl) (fun w hSw => ?_) (by assumption) ?_
  rotate_left
  · (try dsimp only at hSw); first | (go_simp; done) | (go_simp; with_reducible rfl)
  simp only [List.setIfInBounds_toArray, List.set_cons_zero, List.set_cons_succ]
  refine heldTake (v := ?_) 65 75 rfl rfl (by kernel_rfl) (by kernel_rfl) (by kernel_rfl) (fun _ _ _ h => h) (by rfl) (fun w hSw => ?_) (by assumption) ?_
  rotate_left
  · (try dsimp only at hSw); first | (go_simp; done) | (go_simp; with_reducible rfl)
  simp only [List.setIfInBounds_toArray, List.set_cons_zero, List.set_cons_succ]
  refine heldTake (v := ?_) 66 76 rfl rfl (by kernel_rfl) (by kernel_rfl) (by kernel_rfl) (fun _ _ _ h => h) (by rfl) (fun w hSw => ?_) (by assumption) ?_
  rotate_left
  · (try dsimp only at hSw); first | (go_simp; done) | (go_simp; with_reducible rfl)
  simp only [List.setIfInBounds_toArray, List.set_cons_zero, List.set_cons_succ]
  refine heldTake (v := ?_) 67 77 rfl rfl (by kernel_rfl) (by kernel_rfl) (by kernel_rfl) (fun _ _ _ h => h) (by rfl) (fun w hSw => ?_) (by assumption) ?_
  rotate_left
  · (try dsimp only at hSw); first | (go_simp; done) | (go_simp; with_reducible rfl)
  simp only [List.setIfInBounds_toArray, List.set_cons_zero, List.set_cons_succ]
  refine heldOne 68 rfl (by kernel_rfl) (by rfl) (fun K2 hK => ?_)
  go_simp
  refine (D9 _).mono ?_
  rintro e wz ⟨rfl, hw⟩
  simp only []
  subst hw
  refine hK.out _ _ ?_ (fun hHeld => ?_)
  · (first | exact hHeld | assumption)
  clear hK K2
  try simp only [List.setIfInBounds_toArray, List.set_cons_zero, List.set_cons_succ]
  refine heldTake (v := ?_) 69 79 rfl rfl (by kernel_rfl) (by kernel_rfl) (by kernel_rfl) (fun _ _ _ h => h) (by rfl) (fun w hSw => ?_) (by assumption) ?_
  rotate_left
  · (try dsimp only at hSw); first | (go_simp; done) | (go_simp; with_reducible rfl)
  simp only [List.setIfInBounds_toArray, List.set_cons_zero, List.set_cons_succ]
  refine heldTake (v := ?_) 70 80 rfl rfl (by kernel_rfl) (by kernel_rfl) (by kernel_rfl) (fun _ _ _ h => h) (by rfl) (fun w hSw => ?_) (by assumption) ?_
  rotate_left
  · (try dsimp only at hSw); first | (go_simp; done) | (go_simp; with_reducible rfl)
  simp only [List.setIfInBounds_toArray, List.set_cons_zero, List.set_cons_succ]
  refine wpAnyH_done (by kernel_rfl) ?_ _
  obtain ⟨⟨s0, s1, s2, s3, s4, s5, s6, s7, s8, s9, s10, s11, s12⟩, HB9⟩ := hHeld
  obtain ⟨ac, cc, y0, hcc, hrc⟩ := HFV.out _ HB9.out
  rename World => wh
  clear s0 s1 s2 s3 s4 s5 s6 s7 s8 s12
  by_cases i1 : nv = m
  case neg =>
    have q8 : ((nv : Int) != (m : Int)) = true := by simp; omega
    have HRS : Hid (res = false) := by
      show _ = _
      rw [← hres]
      cases hp : putF vals cols with
      | false => rfl
      | true => exact absurd (fitsR_len (Bool.and_eq_true_iff.1 hp).1) (by rw [HNV.out, HCM.out]; exact i1)
    go_wp2
    go_ret
    exact ⟨by rw [HRS.out]; rfl, chain HB0.out HB9.out⟩
  subst i1
  have q8 : ((nv : Int) != (nv : Int)) = false := by simp
  by_cases i2 : col = 0
  case neg =>
    have q9 : (col != 0) = true := by simpa using i2
    have HRS : Hid (res = false) := by show _ = _; rw [← hres, decide_eq_false i2]; simp
    go_wp2
    go_ret
    exact ⟨by rw [HRS.out]; rfl, chain HB0.out HB9.out⟩
  subst i2
  by_cases i3 : no = 0
  case neg =>
    have q10 : decide ((0 : Int) < (no : Int)) = true := by simp; omega
    have q11 : 0 < no := by omega
    have HRS : Hid (res = false) := by show _ = _; rw [← hres, decide_eq_false i3]; simp
    go_wp2
    go_ret
    exact ⟨by rw [HRS.out]; rfl, chain HB0.out HB9.out⟩
  subst i3
  have HRP : Hid (res = putF vals cols) := by show _ = _; rw [← hres]; simp
  have HVV : Hid (RdV wh va vals) := HL.out.vals.later (chain HB0.out HB9.out)
  have HCC : Hid (RdI .i64 wh ac cols) := hrc
  clear hrc hres
  go_wp2
  go_loopw [8] (fun i wr => ∃ k : Nat, k ≤ nv ∧ i = .int .i64 k ∧ Hid (fitsR vals cols = fitsR (vals.drop k) (cols.drop k)) ∧ Hid ((vals.take k).all smallV = true) ∧ Hid (Below wh.heap.size wh wr)) (fun i _ => nv - (RowKit.intOf i).toNat)
  case atStart => exact ⟨0, Nat.zero_le _, rfl, rfl, rfl, Below.refl _ _⟩
  case round =>
  obtain ⟨k, hk9, rfl, hF, hS, hB⟩ := hrel
  have t9 := cell_later hB.out s9
  have t10 := cell_later hB.out s10
  have t11 := cell_later hB.out s11
  by_cases hlt : k < nv
  case neg =>
    have hkn : k = nv := by omega
    have HRS : Hid (res = true) := by
      show _ = _
      have h1 := hS.out
      rw [List.take_of_length_le (by rw [HNV.out]; omega)] at h1
      rw [HRP.out]
      unfold putF
      rw [hF.out, h1, List.drop_eq_nil_of_le (by rw [HNV.out]; omega), List.drop_eq_nil_of_le (by rw [HCM.out]; omega)]
      rfl
    subst k
    clear hlt
    go_wp2
    go_ret
    exact ⟨by rw [HRS.out]; rfl, chain HB0.out (chain HB9.out hB.out)⟩
  have hkv : k < vals.length := by rw [HNV.out]; exact hlt
  have hkc : k < cols.length := by rw [HCM.out]; exact hlt
  obtain ⟨vb, vo, rfl, hvc⟩ := (HVV.out.later hB.out) (by omega)
  obtain ⟨v0, v1, v2⟩ := hvc k hkv
  obtain ⟨cb, co, rfl, hcc2⟩ := (HCC.out.later hB.out) (by omega)
  have d0 := hcc2 k hkc
  have HST := fitsR_step hkv hkc
  have HSM : Hid ((vals.take (k + 1)).all smallV = smallV vals[k]) := allP_take hkv hS.out
  have HSN : Hid (smallV vals[k] = false → vals.all smallV = false) := fun h => allP_no hkv h
  have HFS : Hid (fitsR vals cols = (fitsV vals[k] cols[k] && fitsR (vals.drop (k + 1)) (cols.drop (k + 1)))) := hF.out.trans HST
  clear hvc hcc2 HST hF hS
  generalize vals[k] = v at *
  generalize cols[k] = ct at *
  clear hkv hkc
  obtain ⟨vk, vi, vs⟩ := v
  simp only at v0 v1 v2
  have E2 := fun V => rSmall_any vk vi vs V
  have E3 := fun V => rFits_any vk vi vs ct V
  generalize smallV ⟨vk, vi, vs⟩ = g1 at *
  generalize fitsV ⟨vk, vi, vs⟩ ct = g2 at *
  have kk0 : (0 : Int) ≤ (k : Int) := by omega
  have kk1 : (k : Int) < (nv : Int) := by omega
  cases g1 with
  | false =>
    have HRS : Hid (res = false) := by show _ = _; rw [HRP.out]; unfold putF; rw [HSN.out (by simp)]; simp
    have HP9 : ∀ a b : World, Below a.heap.size a b → (fun w' : World => (w'.cell? ⟨w.heap.size, 10, none⟩ = some (.slice (some ⟨vb, vo, none⟩) nv vc) ∧ w'.cell? ⟨vb, vo + k * 3, none⟩ = some (.int .i64 vk) ∧ w'.cell? ⟨vb, vo + k * 3 + 1, none⟩ = some (.int .i64 vi) ∧ w'.cell? ⟨vb, vo + k * 3 + 2, none⟩ = some (.string vs) ∧ w'.cell? ⟨cb, co + k, none⟩ = some (.int .i64 ct))) a → (fun w' : World => (w'.cell? ⟨w.heap.size, 10, none⟩ = some (.slice (some ⟨vb, vo, none⟩) nv vc) ∧ w'.cell? ⟨vb, vo + k * 3, none⟩ = some (.int .i64 vk) ∧ w'.cell? ⟨vb, vo + k * 3 + 1, none⟩ = some (.int .i64 vi) ∧ w'.cell? ⟨vb, vo + k * 3 + 2, none⟩ = some (.string vs) ∧ w'.cell? ⟨cb, co + k, none⟩ = some (.int .i64 ct))) b := fun a b hb h => ⟨cell_later hb h.1, cell_later hb h.2.1, cell_later hb h.2.2.1, cell_later hb h.2.2.2.1, cell_later hb h.2.2.2.2⟩
    have HS9 := (And.intro (show (wr.cell? ⟨w.heap.size, 10, none⟩ = some (.slice (some ⟨vb, vo, none⟩) nv vc) ∧ wr.cell? ⟨vb, vo + k * 3, none⟩ = some (.int .i64 vk) ∧ wr.cell? ⟨vb, vo + k * 3 + 1, none⟩ = some (.int .i64 vi) ∧ wr.cell? ⟨vb, vo + k * 3 + 2, none⟩ = some (.string vs) ∧ wr.cell? ⟨cb, co + k, none⟩ = some (.int .i64 ct)) from ⟨t10, v0, v1, v2, d0⟩) (show Hid (Below wr.heap.size wr wr) from Below.refl _ _))
    go_wp2_with fail
    refine wp_region_held_drew (S := (fun w' => (w'.cell? ⟨w.heap.size, 10, none⟩ = some (.slice (some ⟨vb, vo, none⟩) nv vc) ∧ w'.cell? ⟨vb, vo + k * 3, none⟩ = some (.int .i64 vk) ∧ w'.cell? ⟨vb, vo + k * 3 + 1, none⟩ = some (.int .i64 vi) ∧ w'.cell? ⟨vb, vo + k * 3 + 2, none⟩ = some (.string vs) ∧ w'.cell? ⟨cb, co + k, none⟩ = some (.int .i64 ct)) ∧ Hid (Below wr.heap.size wr w'))) (by kernel_rfl) (keepH (P := fun w' : World => (w'.cell? ⟨w.heap.size, 10, none⟩ = some (.slice (some ⟨vb, vo, none⟩) nv vc) ∧ w'.cell? ⟨vb, vo + k * 3, none⟩ = some (.int .i64 vk) ∧ w'.cell? ⟨vb, vo + k * 3 + 1, none⟩ = some (.int .i64 vi) ∧ w'.cell? ⟨vb, vo + k * 3 + 2, none⟩ = some (.string vs) ∧ w'.cell? ⟨cb, co + k, none⟩ = some (.int .i64 ct))) HP9 (Below.refl _ _).drew HS9) (fun hHeld => ?_)
    refine heldTake (v := ?_) 0 114 rfl rfl (by kernel_rfl) (by kernel_rfl) (by kernel_rfl) (fun _ _ _ h => h) (by rfl) (fun w hSw => ?_) (by assumption) ?_
    rotate_left
    · (try dsimp only at hSw); first | (go_simp; done) | (go_simp; with_reducible rfl)
    simp only [List.setIfInBounds_toArray, List.set_cons_zero, List.set_cons_succ]
    refine heldTake (v := ?_) 1 115 rfl rfl (by kernel_rfl) (by kernel_rfl) (by kernel_rfl) (fun _ _ _ h => h) (by rfl) (fun w hSw => ?_) (by assumption) ?_
    rotate_left
    · (try dsimp only at hSw); first | (go_simp; done) | (go_simp; with_reducible rfl)
    simp only [List.setIfInBounds_toArray, List.set_cons_zero, List.set_cons_succ]
    refine heldTake (v := ?_) 2 116 rfl rfl (by kernel_rfl) (by kernel_rfl) (by kernel_rfl) (fun _ _ _ h => h) (by rfl) (fun w hSw => ?_) (by assumption) ?_
    rotate_left
    · (try dsimp only at hSw); first | (go_simp; done) | (go_simp; with_reducible rfl)
    simp only [List.setIfInBounds_toArray, List.set_cons_zero, List.set_cons_succ]
    refine heldTake (v := ?_) 3 117 rfl rfl (by kernel_rfl) (by kernel_rfl) (by kernel_rfl) (fun _ _ _ h => h) (by rfl) (fun w hSw => ?_) (by assumption) ?_
    rotate_left
    · (try dsimp only at hSw); first | (go_simp; done) | (go_simp; with_reducible rfl)
    simp only [List.setIfInBounds_toArray, List.set_cons_zero, List.set_cons_succ]
    refine heldTake (v := ?_) 4 118 rfl rfl (by kernel_rfl) (by kernel_rfl) (by kernel_rfl) (fun _ _ _ h => h) (by rfl) (fun w hSw => ?_) (by assumption) ?_
    rotate_left
    · (try dsimp only at hSw); first | (go_simp; done) | (go_simp; with_reducible rfl)
    simp only [List.setIfInBounds_toArray, List.set_cons_zero, List.set_cons_succ]
    refine heldOne 5 rfl (by kernel_rfl) (by rfl) (fun K2 hK => ?_)
    go_simp
    refine (E2 _).mono ?_
    rintro e wz ⟨rfl, hb⟩
    simp only []
    refine hK.out _ _ ?_ (fun hHeld => ?_)
    · exact keepH (P := fun w' : World => (w'.cell? ⟨w.heap.size, 10, none⟩ = some (.slice (some ⟨vb, vo, none⟩) nv vc) ∧ w'.cell? ⟨vb, vo + k * 3, none⟩ = some (.int .i64 vk) ∧ w'.cell? ⟨vb, vo + k * 3 + 1, none⟩ = some (.int .i64 vi) ∧ w'.cell? ⟨vb, vo + k * 3 + 2, none⟩ = some (.string vs) ∧ w'.cell? ⟨cb, co + k, none⟩ = some (.int .i64 ct))) HP9 hb (by assumption)
    clear hK K2
    try simp only [List.setIfInBounds_toArray, List.set_cons_zero, List.set_cons_succ]
    refine heldTake (v := ?_) 6 120 rfl rfl (by kernel_rfl) (by kernel_rfl) (by kernel_rfl) (fun _ _ _ h => h) (by rfl) (fun w hSw => ?_) (by assumption) ?_
    rotate_left
    · (try dsimp only at hSw); first | (go_simp; done) | (go_simp; with_reducible rfl)
    simp only [List.setIfInBounds_toArray, List.set_cons_zero, List.set_cons_succ]
    refine heldTake (v := ?_) 7 121 rfl rfl (by kernel_rfl) (by kernel_rfl) (by kernel_rfl) (fun _ _ _ h => h) (by rfl) (fun w hSw => ?_) (by assumption) ?_
    rotate_left
    · (try dsimp only at hSw); first | (go_simp; done) | (go_simp; with_reducible rfl)
    simp only [List.setIfInBounds_toArray, List.set_cons_zero, List.set_cons_succ]
    refine heldSkip 8 122 rfl rfl (by kernel_rfl) (by kernel_rfl) (by kernel_rfl) (fun _ _ _ h => h) (by rfl) (by assumption) ?_
    simp only [List.setIfInBounds_toArray, List.set_cons_zero, List.set_cons_succ]
    refine heldSkip 9 123 rfl rfl (by kernel_rfl) (by kernel_rfl) (by kernel_rfl) (fun _ _ _ h => h) (by rfl) (by assumption) ?_
    simp only [List.setIfInBounds_toArray, List.set_cons_zero, List.set_cons_succ]
    refine heldSkip 10 124 rfl rfl (by kernel_rfl) (by kernel_rfl) (by kernel_rfl) (fun _ _ _ h => h) (by rfl) (by assumption) ?_
    simp only [List.setIfInBounds_toArray, List.set_cons_zero, List.set_cons_succ]
    refine heldSkip 11 125 rfl rfl (by kernel_rfl) (by kernel_rfl) (by kernel_rfl) (fun _ _ _ h => h) (by rfl) (by assumption) ?_
    simp only [List.setIfInBounds_toArray, List.set_cons_zero, List.set_cons_succ]
    refine heldSkip 12 126 rfl rfl (by kernel_rfl) (by kernel_rfl) (by kernel_rfl) (fun _ _ _ h => h) (by rfl) (by assumption) ?_
    simp only [List.setIfInBounds_toArray, List.set_cons_zero, List.set_cons_succ]
    refine heldSkip 13 127 rfl rfl (by kernel_rfl) (by kernel_rfl) (by kernel_rfl) (fun _ _ _ h => h) (by rfl) (by assumption) ?_
    simp only [List.setIfInBounds_toArray, List.set_cons_zero, List.set_cons_succ]
    refine heldSkip 14 128 rfl rfl (by kernel_rfl) (by kernel_rfl) (by kernel_rfl) (fun _ _ _ h => h) (by rfl) (by assumption) ?_
    simp only [List.setIfInBounds_toArray, List.set_cons_zero, List.set_cons_succ]
    refine heldSkip 15 129 rfl rfl (by kernel_rfl) (by kernel_rfl) (by kernel_rfl) (fun _ _ _ h => h) (by rfl) (by assumption) ?_
    simp only [List.setIfInBounds_toArray, List.set_cons_zero, List.set_cons_succ]
    refine heldSkip 16 130 rfl rfl (by kernel_rfl) (by kernel_rfl) (by kernel_rfl) (fun _ _ _ h => h) (by rfl) (by assumption) ?_
    simp only [List.setIfInBounds_toArray, List.set_cons_zero, List.set_cons_succ]
    refine heldSkip 17 131 rfl rfl (by kernel_rfl) (by kernel_rfl) (by kernel_rfl) (fun _ _ _ h => h) (by rfl) (by assumption) ?_
    simp only [List.setIfInBounds_toArray, List.set_cons_zero, List.set_cons_succ]
    refine heldSkip 18 132 rfl rfl (by kernel_rfl) (by kernel_rfl) (by kernel_rfl) (fun _ _ _ h => h) (by rfl) (by assumption) ?_
    simp only [List.setIfInBounds_toArray, List.set_cons_zero, List.set_cons_succ]
    refine heldTake (v := ?_) 19 133 rfl rfl (by kernel_rfl) (by kernel_rfl) (by kernel_rfl) (fun _ _ _ h => h) (by rfl) (fun w hSw => ?_) (by assumption) ?_
    rotate_left
    · (try dsimp only at hSw); first | (go_simp; done) | (go_simp; with_reducible rfl)
    simp only [List.setIfInBounds_toArray, List.set_cons_zero, List.set_cons_succ]
    refine wpAnyH_done (by kernel_rfl) ?_ _
    have HB8 : Hid (Below wr.heap.size wr _) := hHeld.2
    clear hHeld
    go_wp2
    go_ret
    exact ⟨by rw [HRS.out]; rfl, chain HB0.out (chain HB9.out (chain hB.out HB8.out))⟩
  | true =>
  cases g2 with
  | false =>
    have HRS : Hid (res = false) := by show _ = _; rw [HRP.out]; unfold putF; rw [HFS.out]; simp
    have HP9 : ∀ a b : World, Below a.heap.size a b → (fun w' : World => (w'.cell? ⟨w.heap.size, 10, none⟩ = some (.slice (some ⟨vb, vo, none⟩) nv vc) ∧ w'.cell? ⟨vb, vo + k * 3, none⟩ = some (.int .i64 vk) ∧ w'.cell? ⟨vb, vo + k * 3 + 1, none⟩ = some (.int .i64 vi) ∧ w'.cell? ⟨vb, vo + k * 3 + 2, none⟩ = some (.string vs) ∧ w'.cell? ⟨cb, co + k, none⟩ = some (.int .i64 ct))) a → (fun w' : World => (w'.cell? ⟨w.heap.size, 10, none⟩ = some (.slice (some ⟨vb, vo, none⟩) nv vc) ∧ w'.cell? ⟨vb, vo + k * 3, none⟩ = some (.int .i64 vk) ∧ w'.cell? ⟨vb, vo + k * 3 + 1, none⟩ = some (.int .i64 vi) ∧ w'.cell? ⟨vb, vo + k * 3 + 2, none⟩ = some (.string vs) ∧ w'.cell? ⟨cb, co + k, none⟩ = some (.int .i64 ct))) b := fun a b hb h => ⟨cell_later hb h.1, cell_later hb h.2.1, cell_later hb h.2.2.1, cell_later hb h.2.2.2.1, cell_later hb h.2.2.2.2⟩
    have HS9 := (And.intro (show (wr.cell? ⟨w.heap.size, 10, none⟩ = some (.slice (some ⟨vb, vo, none⟩) nv vc) ∧ wr.cell? ⟨vb, vo + k * 3, none⟩ = some (.int .i64 vk) ∧ wr.cell? ⟨vb, vo + k * 3 + 1, none⟩ = some (.int .i64 vi) ∧ wr.cell? ⟨vb, vo + k * 3 + 2, none⟩ = some (.string vs) ∧ wr.cell? ⟨cb, co + k, none⟩ = some (.int .i64 ct)) from ⟨t10, v0, v1, v2, d0⟩) (show Hid (Below wr.heap.size wr wr) from Below.refl _ _))
    go_wp2_with fail
    refine wp_region_held_drew (S := (fun w' => (w'.cell? ⟨w.heap.size, 10, none⟩ = some (.slice (some ⟨vb, vo, none⟩) nv vc) ∧ w'.cell? ⟨vb, vo + k * 3, none⟩ = some (.int .i64 vk) ∧ w'.cell? ⟨vb, vo + k * 3 + 1, none⟩ = some (.int .i64 vi) ∧ w'.cell? ⟨vb, vo + k * 3 + 2, none⟩ = some (.string vs) ∧ w'.cell? ⟨cb, co + k, none⟩ = some (.int .i64 ct)) ∧ Hid (Below wr.heap.size wr w'))) (by kernel_rfl) (keepH (P := fun w' : World => (w'.cell? ⟨w.heap.size, 10, none⟩ = some (.slice (some ⟨vb, vo, none⟩) nv vc) ∧ w'.cell? ⟨vb, vo + k * 3, none⟩ = some (.int .i64 vk) ∧ w'.cell? ⟨vb, vo + k * 3 + 1, none⟩ = some (.int .i64 vi) ∧ w'.cell? ⟨vb, vo + k * 3 + 2, none⟩ = some (.string vs) ∧ w'.cell? ⟨cb, co + k, none⟩ = some (.int .i64 ct))) HP9 (Below.refl _ _).drew HS9) (fun hHeld => ?_)
    refine heldTake (v := ?_) 0 114 rfl rfl (by kernel_rfl) (by kernel_rfl) (by kernel_rfl) (fun _ _ _ h => h) (by rfl) (fun w hSw => ?_) (by assumption) ?_
    rotate_left
    · (try dsimp only at hSw); first | (go_simp; done) | (go_simp; with_reducible rfl)
    simp only [List.setIfInBounds_toArray, List.set_cons_zero, List.set_cons_succ]
    refine heldTake (v := ?_) 1 115 rfl rfl (by kernel_rfl) (by kernel_rfl) (by kernel_rfl) (fun _ _ _ h => h) (by rfl) (fun w hSw => ?_) (by assumption) ?_
    rotate_left
    · (try dsimp only at hSw); first | (go_simp; done) | (go_simp; with_reducible rfl)
    simp only [List.setIfInBounds_toArray, List.set_cons_zero, List.set_cons_succ]
    refine heldTake (v := ?_) 2 116 rfl rfl (by kernel_rfl) (by kernel_rfl) (by kernel_rfl) (fun _ _ _ h => h) (by rfl) (fun w hSw => ?_) (by assumption) ?_
    rotate_left
    · (try dsimp only at hSw); first | (go_simp; done) | (go_simp; with_reducible rfl)
    simp only [List.setIfInBounds_toArray, List.set_cons_zero, List.set_cons_succ]
    refine heldTake (v := ?_) 3 117 rfl rfl (by kernel_rfl) (by kernel_rfl) (by kernel_rfl) (fun _ _ _ h => h) (by rfl) (fun w hSw => ?_) (by assumption) ?_
    rotate_left
    · (try dsimp only at hSw); first | (go_simp; done) | (go_simp; with_reducible rfl)
    simp only [List.setIfInBounds_toArray, List.set_cons_zero, List.set_cons_succ]
    refine heldTake (v := ?_) 4 118 rfl rfl (by kernel_rfl) (by kernel_rfl) (by kernel_rfl) (fun _ _ _ h => h) (by rfl) (fun w hSw => ?_) (by assumption) ?_
    rotate_left
    · (try dsimp only at hSw); first | (go_simp; done) | (go_simp; with_reducible rfl)
    simp only [List.setIfInBounds_toArray, List.set_cons_zero, List.set_cons_succ]
    refine heldOne 5 rfl (by kernel_rfl) (by rfl) (fun K2 hK => ?_)
    go_simp
    refine (E2 _).mono ?_
    rintro e wz ⟨rfl, hb⟩
    simp only []
    refine hK.out _ _ ?_ (fun hHeld => ?_)
    · exact keepH (P := fun w' : World => (w'.cell? ⟨w.heap.size, 10, none⟩ = some (.slice (some ⟨vb, vo, none⟩) nv vc) ∧ w'.cell? ⟨vb, vo + k * 3, none⟩ = some (.int .i64 vk) ∧ w'.cell? ⟨vb, vo + k * 3 + 1, none⟩ = some (.int .i64 vi) ∧ w'.cell? ⟨vb, vo + k * 3 + 2, none⟩ = some (.string vs) ∧ w'.cell? ⟨cb, co + k, none⟩ = some (.int .i64 ct))) HP9 hb (by assumption)
    clear hK K2
    try simp only [List.setIfInBounds_toArray, List.set_cons_zero, List.set_cons_succ]
    refine heldTake (v := ?_) 6 120 rfl rfl (by kernel_rfl) (by kernel_rfl) (by kernel_rfl) (fun _ _ _ h => h) (by rfl) (fun w hSw => ?_) (by assumption) ?_
    rotate_left
    · (try dsimp only at hSw); first | (go_simp; done) | (go_simp; with_reducible rfl)
    simp only [List.setIfInBounds_toArray, List.set_cons_zero, List.set_cons_succ]
    refine heldTake (v := ?_) 7 121 rfl rfl (by kernel_rfl) (by kernel_rfl) (by kernel_rfl) (fun _ _ _ h => h) (by rfl) (fun w hSw => ?_) (by assumption) ?_
    rotate_left
    · (try dsimp only at hSw); first | (go_simp; done) | (go_simp; with_reducible rfl)
    simp only [List.setIfInBounds_toArray, List.set_cons_zero, List.set_cons_succ]
    refine heldTake (v := ?_) 8 122 rfl rfl (by kernel_rfl) (by kernel_rfl) (by kernel_rfl) (fun _ _ _ h => h) (by rfl) (fun w hSw => ?_) (by assumption) ?_
    rotate_left
    · (try dsimp only at hSw); first | (go_simp; done) | (go_simp; with_reducible rfl)
    simp only [List.setIfInBounds_toArray, List.set_cons_zero, List.set_cons_succ]
    refine heldTake (v := ?_) 9 123 rfl rfl (by kernel_rfl) (by kernel_rfl) (by kernel_rfl) (fun _ _ _ h => h) (by rfl) (fun w hSw => ?_) (by assumption) ?_
    rotate_left
    · (try dsimp only at hSw); first | (go_simp; done) | (go_simp; with_reducible rfl)
    simp only [List.setIfInBounds_toArray, List.set_cons_zero, List.set_cons_succ]
    refine heldTake (v := ?_) 10 124 rfl rfl (by kernel_rfl) (by kernel_rfl) (by kernel_rfl) (fun _ _ _ h => h) (by rfl) (fun w hSw => ?_) (by assumption) ?_
    rotate_left
    · (try dsimp only at hSw); first | (go_simp; done) | (go_simp; with_reducible rfl)
    simp only [List.setIfInBounds_toArray, List.set_cons_zero, List.set_cons_succ]
    refine heldTake (v := ?_) 11 125 rfl rfl (by kernel_rfl) (by kernel_rfl) (by kernel_rfl) (fun _ _ _ h => h) (by rfl) (fun w hSw => ?_) (by assumption) ?_
    rotate_left
    · (try dsimp only at hSw); first | (go_simp; done) | (go_simp; with_reducible rfl)
    simp only [List.setIfInBounds_toArray, List.set_cons_zero, List.set_cons_succ]
    refine heldTake (v := ?_) 12 126 rfl rfl (by kernel_rfl) (by kernel_rfl) (by kernel_rfl) (fun _ _ _ h => h) (by rfl) (fun w hSw => ?_) (by assumption) ?_
    rotate_left
    · (try dsimp only at hSw); first | (go_simp; done) | (go_simp; with_reducible rfl)
    simp only [List.setIfInBounds_toArray, List.set_cons_zero, List.set_cons_succ]
    refine heldTake (v := ?_) 13 127 rfl rfl (by kernel_rfl) (by kernel_rfl) (by kernel_rfl) (fun _ _ _ h => h) (by rfl) (fun w hSw => ?_) (by assumption) ?_
    rotate_left
    · (try dsimp only at hSw); first | (go_simp; done) | (go_simp; with_reducible rfl)
    simp only [List.setIfInBounds_toArray, List.set_cons_zero, List.set_cons_succ]
    refine heldTake (v := ?_) 14 128 rfl rfl (by kernel_rfl) (by kernel_rfl) (by kernel_rfl) (fun _ _ _ h => h) (by rfl) (fun w hSw => ?_) (by assumption) ?_
    rotate_left
    · (try dsimp only at hSw); first | (go_simp; done) | (go_simp; with_reducible rfl)
    simp only [List.setIfInBounds_toArray, List.set_cons_zero, List.set_cons_succ]
    refine heldTake (v := ?_) 15 129 rfl rfl (by kernel_rfl) (by kernel_rfl) (by kernel_rfl) (fun _ _ _ h => h) (by rfl) (fun w hSw => ?_) (by assumption) ?_
    rotate_left
    · (try dsimp only at hSw); first | (go_simp; done) | (go_simp; with_reducible rfl)
    simp only [List.setIfInBounds_toArray, List.set_cons_zero, List.set_cons_succ]
    refine heldTake (v := ?_) 16 130 rfl rfl (by kernel_rfl) (by kernel_rfl) (by kernel_rfl) (fun _ _ _ h => h) (by rfl) (fun w hSw => ?_) (by assumption) ?_
    rotate_left
    · (try dsimp only at hSw); first | (go_simp; done) | (go_simp; with_reducible rfl)
    simp only [List.setIfInBounds_toArray, List.set_cons_zero, List.set_cons_succ]
    refine heldOne 17 rfl (by kernel_rfl) (by rfl) (fun K2 hK => ?_)
    go_simp
    refine (E3 _).mono ?_
    rintro e wz ⟨rfl, hb⟩
    simp only []
    refine hK.out _ _ ?_ (fun hHeld => ?_)
    · exact keepH (P := fun w' : World => (w'.cell? ⟨w.heap.size, 10, none⟩ = some (.slice (some ⟨vb, vo, none⟩) nv vc) ∧ w'.cell? ⟨vb, vo + k * 3, none⟩ = some (.int .i64 vk) ∧ w'.cell? ⟨vb, vo + k * 3 + 1, none⟩ = some (.int .i64 vi) ∧ w'.cell? ⟨vb, vo + k * 3 + 2, none⟩ = some (.string vs) ∧ w'.cell? ⟨cb, co + k, none⟩ = some (.int .i64 ct))) HP9 hb (by assumption)
    clear hK K2
    try simp only [List.setIfInBounds_toArray, List.set_cons_zero, List.set_cons_succ]
    refine heldTake (v := ?_) 18 132 rfl rfl (by kernel_rfl) (by kernel_rfl) (by kernel_rfl) (fun _ _ _ h => h) (by rfl) (fun w hSw => ?_) (by assumption) ?_
    rotate_left
    · (try dsimp only at hSw); first | (go_simp; done) | (go_simp; with_reducible rfl)
    simp only [List.setIfInBounds_toArray, List.set_cons_zero, List.set_cons_succ]
    refine heldTake (v := ?_) 19 133 rfl rfl (by kernel_rfl) (by kernel_rfl) (by kernel_rfl) (fun _ _ _ h => h) (by rfl) (fun w hSw => ?_) (by assumption) ?_
    rotate_left
    · (try dsimp only at hSw); first | (go_simp; done) | (go_simp; with_reducible rfl)
    simp only [List.setIfInBounds_toArray, List.set_cons_zero, List.set_cons_succ]
    refine wpAnyH_done (by kernel_rfl) ?_ _
    have HB8 : Hid (Below wr.heap.size wr _) := hHeld.2
    clear hHeld
    go_wp2
    go_ret
    exact ⟨by rw [HRS.out]; rfl, chain HB0.out (chain HB9.out (chain hB.out HB8.out))⟩
  | true =>
  have HF' : Hid (fitsR vals cols = fitsR (vals.drop (k + 1)) (cols.drop (k + 1))) := by show _ = _; rw [HFS.out, Bool.true_and]
  have HS' : Hid ((vals.take (k + 1)).all smallV = true) := HSM
  have HP9 : ∀ a b : World, Below a.heap.size a b → (fun w' : World => (w'.cell? ⟨w.heap.size, 10, none⟩ = some (.slice (some ⟨vb, vo, none⟩) nv vc) ∧ w'.cell? ⟨vb, vo + k * 3, none⟩ = some (.int .i64 vk) ∧ w'.cell? ⟨vb, vo + k * 3 + 1, none⟩ = some (.int .i64 vi) ∧ w'.cell? ⟨vb, vo + k * 3 + 2, none⟩ = some (.string vs) ∧ w'.cell? ⟨cb, co + k, none⟩ = some (.int .i64 ct))) a → (fun w' : World => (w'.cell? ⟨w.heap.size, 10, none⟩ = some (.slice (some ⟨vb, vo, none⟩) nv vc) ∧ w'.cell? ⟨vb, vo + k * 3, none⟩ = some (.int .i64 vk) ∧ w'.cell? ⟨vb, vo + k * 3 + 1, none⟩ = some (.int .i64 vi) ∧ w'.cell? ⟨vb, vo + k * 3 + 2, none⟩ = some (.string vs) ∧ w'.cell? ⟨cb, co + k, none⟩ = some (.int .i64 ct))) b := fun a b hb h => ⟨cell_later hb h.1, cell_later hb h.2.1, cell_later hb h.2.2.1, cell_later hb h.2.2.2.1, cell_later hb h.2.2.2.2⟩
  have HS9 := (And.intro (show (wr.cell? ⟨w.heap.size, 10, none⟩ = some (.slice (some ⟨vb, vo, none⟩) nv vc) ∧ wr.cell? ⟨vb, vo + k * 3, none⟩ = some (.int .i64 vk) ∧ wr.cell? ⟨vb, vo + k * 3 + 1, none⟩ = some (.int .i64 vi) ∧ wr.cell? ⟨vb, vo + k * 3 + 2, none⟩ = some (.string vs) ∧ wr.cell? ⟨cb, co + k, none⟩ = some (.int .i64 ct)) from ⟨t10, v0, v1, v2, d0⟩) (show Hid (Below wr.heap.size wr wr) from Below.refl _ _))
  go_wp2_with fail
  refine wp_region_held_drew (S := (fun w' => (w'.cell? ⟨w.heap.size, 10, none⟩ = some (.slice (some ⟨vb, vo, none⟩) nv vc) ∧ w'.cell? ⟨vb, vo + k * 3, none⟩ = some (.int .i64 vk) ∧ w'.cell? ⟨vb, vo + k * 3 + 1, none⟩ = some (.int .i64 vi) ∧ w'.cell? ⟨vb, vo + k * 3 + 2, none⟩ = some (.string vs) ∧ w'.cell? ⟨cb, co + k, none⟩ = some (.int .i64 ct)) ∧ Hid (Below wr.heap.size wr w'))) (by kernel_rfl) (keepH (P := fun w' : World => (w'.cell? ⟨w.heap.size, 10, none⟩ = some (.slice (some ⟨vb, vo, none⟩) nv vc) ∧ w'.cell? ⟨vb, vo + k * 3, none⟩ = some (.int .i64 vk) ∧ w'.cell? ⟨vb, vo + k * 3 + 1, none⟩ = some (.int .i64 vi) ∧ w'.cell? ⟨vb, vo + k * 3 + 2, none⟩ = some (.string vs) ∧ w'.cell? ⟨cb, co + k, none⟩ = some (.int .i64 ct))) HP9 (Below.refl _ _).drew HS9) (fun hHeld => ?_)
  refine heldTake (v := ?_) 0 114 rfl rfl (by kernel_rfl) (by kernel_rfl) (by kernel_rfl) (fun _ _ _ h => h) (by rfl) (fun w hSw => ?_) (by assumption) ?_
  rotate_left
  · (try dsimp only at hSw); first | (go_simp; done) | (go_simp; with_reducible rfl)
  simp only [List.setIfInBounds_toArray, List.set_cons_zero, List.set_cons_succ]
  refine heldTake (v := ?_) 1 115 rfl rfl (by kernel_rfl) (by kernel_rfl) (by kernel_rfl) (fun _ _ _ h => h) (by rfl) (fun w hSw => ?_) (by assumption) ?_
  rotate_left
  · (try dsimp only at hSw); first | (go_simp; done) | (go_simp; with_reducible rfl)
  simp only [List.setIfInBounds_toArray, List.set_cons_zero, List.set_cons_succ]
  refine heldTake (v := ?_) 2 116 rfl rfl (by kernel_rfl) (by kernel_rfl) (by kernel_rfl) (fun _ _ _ h => h) (by rfl) (fun w hSw => ?_) (by assumption) ?_
  rotate_left
  · (try dsimp only at hSw); first | (go_simp; done) | (go_simp; with_reducible rfl)
  simp only [List.setIfInBounds_toArray, List.set_cons_zero, List.set_cons_succ]
  refine heldTake (v := ?_) 3 117 rfl rfl (by kernel_rfl) (by kernel_rfl) (by kernel_rfl) (fun _ _ _ h => h) (by rfl) (fun w hSw => ?_) (by assumption) ?_
  rotate_left
  · (try dsimp only at hSw); first | (go_simp; done) | (go_simp; with_reducible rfl)
  simp only [List.setIfInBounds_toArray, List.set_cons_zero, List.set_cons_succ]
  refine heldTake (v := ?_) 4 118 rfl rfl (by kernel_rfl) (by kernel_rfl) (by kernel_rfl) (fun _ _ _ h => h) (by rfl) (fun w hSw => ?_) (by assumption) ?_
  rotate_left
  · (try dsimp only at hSw); first | (go_simp; done) | (go_simp; with_reducible rfl)
  simp only [List.setIfInBounds_toArray, List.set_cons_zero, List.set_cons_succ]
  refine heldOne 5 rfl (by kernel_rfl) (by rfl) (fun K2 hK => ?_)
  go_simp
  refine (E2 _).mono ?_
  rintro e wz ⟨rfl, hb⟩
  simp only []
  refine hK.out _ _ ?_ (fun hHeld => ?_)
  · exact keepH (P := fun w' : World => (w'.cell? ⟨w.heap.size, 10, none⟩ = some (.slice (some ⟨vb, vo, none⟩) nv vc) ∧ w'.cell? ⟨vb, vo + k * 3, none⟩ = some (.int .i64 vk) ∧ w'.cell? ⟨vb, vo + k * 3 + 1, none⟩ = some (.int .i64 vi) ∧ w'.cell? ⟨vb, vo + k * 3 + 2, none⟩ = some (.string vs) ∧ w'.cell? ⟨cb, co + k, none⟩ = some (.int .i64 ct))) HP9 hb (by assumption)
  clear hK K2
  try simp only [List.setIfInBounds_toArray, List.set_cons_zero, List.set_cons_succ]
  refine heldTake (v := ?_) 6 120 rfl rfl (by kernel_rfl) (by kernel_rfl) (by kernel_rfl) (fun _ _ _ h => h) (by rfl) (fun w hSw => ?_) (by assumption) ?_
  rotate_left
  · (try dsimp only at hSw); first | (go_simp; done) | (go_simp; with_reducible rfl)
  simp only [List.setIfInBounds_toArray, List.set_cons_zero, List.set_cons_succ]
  refine heldTake (v := ?_) 7 121 rfl rfl (by kernel_rfl) (by kernel_rfl) (by kernel_rfl) (fun _ _ _ h => h) (by rfl) (fun w hSw => ?_) (by assumption) ?_
  rotate_left
  · (try dsimp only at hSw); first | (go_simp; done) | (go_simp; with_reducible rfl)
  simp only [List.setIfInBounds_toArray, List.set_cons_zero, List.set_cons_succ]
  refine heldTake (v := ?_) 8 122 rfl rfl (by kernel_rfl) (by kernel_rfl) (by kernel_rfl) (fun _ _ _ h => h) (by rfl) (fun w hSw => ?_) (by assumption) ?_
  rotate_left
  · (try dsimp only at hSw); first | (go_simp; done) | (go_simp; with_reducible rfl)
  simp only [List.setIfInBounds_toArray, List.set_cons_zero, List.set_cons_succ]
  refine heldTake (v := ?_) 9 123 rfl rfl (by kernel_rfl) (by kernel_rfl) (by kernel_rfl) (fun _ _ _ h => h) (by rfl) (fun w hSw => ?_) (by assumption) ?_
  rotate_left
  · (try dsimp only at hSw); first | (go_simp; done) | (go_simp; with_reducible rfl)
  simp only [List.setIfInBounds_toArray, List.set_cons_zero, List.set_cons_succ]
  refine heldTake (v := ?_) 10 124 rfl rfl (by kernel_rfl) (by kernel_rfl) (by kernel_rfl) (fun _ _ _ h => h) (by rfl) (fun w hSw => ?_) (by assumption) ?_
  rotate_left
  · (try dsimp only at hSw); first | (go_simp; done) | (go_simp; with_reducible rfl)
  simp only [List.setIfInBounds_toArray, List.set_cons_zero, List.set_cons_succ]
  refine heldTake (v := ?_) 11 125 rfl rfl (by kernel_rfl) (by kernel_rfl) (by kernel_rfl) (fun _ _ _ h => h) (by rfl) (fun w hSw => ?_) (by assumption) ?_
  rotate_left
  · (try dsimp only at hSw); first | (go_simp; done) | (go_simp; with_reducible rfl)
  simp only [List.setIfInBounds_toArray, List.set_cons_zero, List.set_cons_succ]
  refine heldTake (v := ?_) 12 126 rfl rfl (by kernel_rfl) (by kernel_rfl) (by kernel_rfl) (fun _ _ _ h => h) (by rfl) (fun w hSw => ?_) (by assumption) ?_
  rotate_left
  · (try dsimp only at hSw); first | (go_simp; done) | (go_simp; with_reducible rfl)
  simp only [List.setIfInBounds_toArray, List.set_cons_zero, List.set_cons_succ]
  refine heldTake (v := ?_) 13 127 rfl rfl (by kernel_rfl) (by kernel_rfl) (by kernel_rfl) (fun _ _ _ h => h) (by rfl) (fun w hSw => ?_) (by assumption) ?_
  rotate_left
  · (try dsimp only at hSw); first | (go_simp; done) | (go_simp; with_reducible rfl)
  simp only [List.setIfInBounds_toArray, List.set_cons_zero, List.set_cons_succ]
  refine heldTake (v := ?_) 14 128 rfl rfl (by kernel_rfl) (by kernel_rfl) (by kernel_rfl) (fun _ _ _ h => h) (by rfl) (fun w hSw => ?_) (by assumption) ?_
  rotate_left
  · (try dsimp only at hSw); first | (go_simp; done) | (go_simp; with_reducible rfl)
  simp only [List.setIfInBounds_toArray, List.set_cons_zero, List.set_cons_succ]
  refine heldTake (v := ?_) 15 129 rfl rfl (by kernel_rfl) (by kernel_rfl) (by kernel_rfl) (fun _ _ _ h => h) (by rfl) (fun w hSw => ?_) (by assumption) ?_
  rotate_left
  · (try dsimp only at hSw); first | (go_simp; done) | (go_simp; with_reducible rfl)
  simp only [List.setIfInBounds_toArray, List.set_cons_zero, List.set_cons_succ]
  refine heldTake (v := ?_) 16 130 rfl rfl (by kernel_rfl) (by kernel_rfl) (by kernel_rfl) (fun _ _ _ h => h) (by rfl) (fun w hSw => ?_) (by assumption) ?_
  rotate_left
  · (try dsimp only at hSw); first | (go_simp; done) | (go_simp; with_reducible rfl)
  simp only [List.setIfInBounds_toArray, List.set_cons_zero, List.set_cons_succ]
  refine heldOne 17 rfl (by kernel_rfl) (by rfl) (fun K2 hK => ?_)
  go_simp
  refine (E3 _).mono ?_
  rintro e wz ⟨rfl, hb⟩
  simp only []
  refine hK.out _ _ ?_ (fun hHeld => ?_)
  · exact keepH (P := fun w' : World => (w'.cell? ⟨w.heap.size, 10, none⟩ = some (.slice (some ⟨vb, vo, none⟩) nv vc) ∧ w'.cell? ⟨vb, vo + k * 3, none⟩ = some (.int .i64 vk) ∧ w'.cell? ⟨vb, vo + k * 3 + 1, none⟩ = some (.int .i64 vi) ∧ w'.cell? ⟨vb, vo + k * 3 + 2, none⟩ = some (.string vs) ∧ w'.cell? ⟨cb, co + k, none⟩ = some (.int .i64 ct))) HP9 hb (by assumption)
  clear hK K2
  try simp only [List.setIfInBounds_toArray, List.set_cons_zero, List.set_cons_succ]
  refine heldTake (v := ?_) 18 132 rfl rfl (by kernel_rfl) (by kernel_rfl) (by kernel_rfl) (fun _ _ _ h => h) (by rfl) (fun w hSw => ?_) (by assumption) ?_
  rotate_left
  · (try dsimp only at hSw); first | (go_simp; done) | (go_simp; with_reducible rfl)
  simp only [List.setIfInBounds_toArray, List.set_cons_zero, List.set_cons_succ]
  refine heldTake (v := ?_) 19 133 rfl rfl (by kernel_rfl) (by kernel_rfl) (by kernel_rfl) (fun _ _ _ h => h) (by rfl) (fun w hSw => ?_) (by assumption) ?_
  rotate_left
  · (try dsimp only at hSw); first | (go_simp; done) | (go_simp; with_reducible rfl)
  simp only [List.setIfInBounds_toArray, List.set_cons_zero, List.set_cons_succ]
  refine wpAnyH_done (by kernel_rfl) ?_ _
  have HB8 : Hid (Below wh.heap.size wh _) := chain hB.out hHeld.2
  clear hHeld
  go_wp2
  go_roundw
  case rel => exact ⟨k + 1, by omega, by go_num, HF', HS', HB8⟩
  case measure => simp [RowKit.intOf]; omega

end Go.Proofs.Ytjpcljmlkgjbgaa
