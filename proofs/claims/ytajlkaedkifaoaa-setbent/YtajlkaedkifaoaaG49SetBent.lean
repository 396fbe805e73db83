/-
  Texts of the proof of SetBent, one behind the other.
-/
import Derived.Test.YtajlkaedkifaoaaRows
import Derived.Test.YtajlkaedkifaoaaG47SetBent
import Derived.Test.YtajlkaedkifaoaaG43SetBent
import Derived.Test.YtajlkaedkifaoaaG48SetBent
import Derived.Test.YtajlkaedkifaoaaG17SetBent
import Derived.Deep.CutRange
namespace Go.Proofs.Ytajlkaedkifaoaa
open Go.RowKit Go.Lib
set_option linter.unusedVariables false

theorem ReadZ.at_ {w : World} {b off i : Nat} {Z : List (List Value × PI)} (h : ReadZ w b off Z) (hi : i < Z.length) : ∃ ra rc, Z[i].1 = [.slice ra Z[i].2.row.length rc, .int .i64 Z[i].2.wt] ∧ w.cell? ⟨b, off + i * 2, none⟩ = some (.slice ra Z[i].2.row.length rc) ∧ w.cell? ⟨b, off + i * 2 + 1, none⟩ = some (.int .i64 Z[i].2.wt) := by
  obtain ⟨ra, rc, e, -⟩ := h.lies _ (List.getElem_mem hi)
  obtain ⟨b', off', e', hc⟩ := h.rd (by rw [List.length_map]; omega)
  cases e'
  have hm : i < (Z.map (·.1)).length := by rw [List.length_map]; exact hi
  have hz : (Z.map (·.1))[i] = [.slice ra Z[i].2.row.length rc, .int .i64 Z[i].2.wt] := by rw [List.getElem_map, e]
  exact ⟨ra, rc, e, hc i hm 0 _ (by rw [hz]; rfl), hc i hm 1 _ (by rw [hz]; rfl)⟩

theorem wrap_i64_in {n : Int} (h : -9223372036854775808 ≤ n ∧ n ≤ 9223372036854775807) : IntKind.i64.wrap n = n := by rw [IntKind.wrap_i64]; omega

theorem wrap_next (j : Nat) (h : j + 1 < 60) : IntKind.i64.wrap ((j : Int) + 1) = (j : Int) + 1 := wrap_i64_in (by omega)

theorem way_swap {w : World} {b off j : Nat} {Z : List (List Value × PI)} {x0 x1 y0 y1 : Value} (h : ReadZ w b off Z) (hj : j + 1 < Z.length) (e0 : Z[j].1 = [x0, x1]) (e1 : Z[j + 1].1 = [y0, y1]) :
    ReadZ ((((w.setCell ⟨b, off + j * 2, none⟩ y0).setCell ⟨b, off + j * 2 + 1, none⟩ y1).setCell ⟨b, off + (j + 1) * 2, none⟩ x0).setCell ⟨b, off + (j + 1) * 2 + 1, none⟩ x1) b off ((Z.set j ([y0, y1], Z[j + 1].2)).set (j + 1) ([x0, x1], Z[j].2)) := by
  have l0 := h.lies _ (List.getElem_mem (show j < Z.length by omega))
  have l1 := h.lies _ (List.getElem_mem hj)
  rw [e0] at l0
  rw [e1] at l1
  exact (h.put2 (show j < Z.length by omega) l1).put2 (by rw [List.length_set]; exact hj) (l0.sz (sz_put2 _ _ _ _ _ _))

theorem way_twice {w : World} {b off j : Nat} {Z : List (List Value × PI)} {x0 x1 : Value} (h : ReadZ w b off Z) (hj : j + 1 < Z.length) (e0 : Z[j].1 = [x0, x1]) :
    ReadZ ((w.setCell ⟨b, off + (j + 1) * 2, none⟩ x0).setCell ⟨b, off + (j + 1) * 2 + 1, none⟩ x1) b off (Z.set (j + 1) ([x0, x1], Z[j].2)) := by
  have l0 := h.lies _ (List.getElem_mem (show j < Z.length by omega))
  rw [e0] at l0
  exact h.put2 hj l0

set_option maxRecDepth 100000 in
set_option maxHeartbeats 4000000 in
theorem bent_heavy (a : Option Addr) (n cap : Nat) (X : List PI) (what kk : Int) (w : World) (hn : X.length = n) (hl : n ≤ 9223372036854775807) (hX : RdJ w a X) (hh : heavyI X = true) :
    Calls Try.prog 6 #[.slice a n cap, .int .i64 what, .int .i64 kk] w fun e w' => e = .returned (.bool true) ∧ Below w.heap.size w w' := by
  have C1 := heavyZ_any _ _ 1 1 _ _ rfl (by omega) (lone_items w a n cap X hn hl hX)
  simp only [List.any_cons, List.any_nil, Bool.or_false] at C1
  have HB1 : Hid (Below w.heap.size w (w.alloc (.cells #[.slice a n cap] 22))) := alloc_below _ _
  rw [hh] at C1
  clear hX hn hh
  go_enter Try.func6, Try.ntmps6
  go_wp2_with fail
  refine C1.mono ?_
  rintro e w1 ⟨rfl, hw⟩
  subst hw
  clear C1
  go_wp2
  go_ret
  exact ⟨by simp, HB1.out⟩

set_option maxRecDepth 100000 in
set_option maxHeartbeats 8000000 in
theorem bent_way0 (a : Option Addr) (n cap : Nat) (X : List PI) (what kk : Int) (w : World) (hn : X.length = n) (hl : n ≤ 9223372036854775807) (hX : RdJ w a X) (hh : heavyI X = false) (hd : (IntKind.u64.wrap what).tmod 4 = 0) :
    Calls Try.prog 6 #[.slice a n cap, .int .i64 what, .int .i64 kk] w fun e w' => e = .returned (.bool true) ∧ Below w.heap.size w w' := by
  have C1 := heavyZ_any _ _ 1 1 _ _ rfl (by omega) (lone_items w a n cap X hn hl hX)
  simp only [List.any_cons, List.any_nil, Bool.or_false] at C1
  have HB1 : Hid (Below w.heap.size w (w.alloc (.cells #[.slice a n cap] 22))) := alloc_below _ _
  rw [hh] at C1
  obtain ⟨hx3, hx4⟩ := heavyI_small hh
  have CT := tame_any a n cap X _ hn (by omega) ((hX.rdZ fun x hx => by have := hx4 x hx; omega).later HB1.out)
  obtain ⟨hri, hle⟩ := make_rises (tameL X 60)
  have hle2 := tame_len X
  clear hX hn hh hx3 hx4 hl
  generalize (makeZ (tameL X 60)).1 = R at *
  have HRI : Hid (riseZ R = true) := hri
  have HRL : Hid (R.length ≤ 60) := Nat.le_trans hle hle2
  clear hri hle hle2
  go_enter Try.func6, Try.ntmps6
  go_wp2_with fail
  refine C1.mono ?_
  rintro e w1 ⟨rfl, hw⟩
  subst hw
  clear C1
  go_wp2_with fail
  refine CT.mono ?_
  rintro e w2 ⟨v, Z, rfl, hZ, hRz, hb2⟩
  obtain ⟨a5, c5, rfl, hc5, -, hr5, hn5, -⟩ := hRz.form
  rw [hZ] at hr5 hn5
  have hZl : Z.length = R.length := by have := congrArg List.length hZ; simpa using this
  have HB2 : Hid (Below w.heap.size w w2) := chain HB1.out hb2
  have HZ2 : Hid (RdZ w2 a5 R) := hr5
  have HN5 : Hid (a5 = none → R = [] ∧ c5 = 0) := hn5
  have HC5 : Hid (R.length ≤ c5) := by show _ ≤ _; omega
  have HRW : Hid (RowZ w2 _ (.slice a5 Z.length c5) Z ∧ Z.map (·.2) = R) := ⟨hRz, hZ⟩
  have C2 := zCheck_any a5 R.length c5 R w2 rfl (by have := HRL.out; omega) HZ2.out
  rw [chkZ_yes HRI.out] at C2
  have CZ : ∀ V, Below w2.heap.size w2 V → Calls Try.prog 22 #[.slice a5 R.length c5] V fun e w' => e = .returned (.int .i64 0) ∧ Below V.heap.size V w' := fun V hb => by
    have := zCheck_any a5 R.length c5 R V rfl (by have := HRL.out; omega) (HZ2.out.later hb)
    rw [chkZ_yes HRI.out] at this
    exact this
  have m60 : R.length ≤ 60 := HRL.out
  obtain ⟨m, hm⟩ : ∃ m, R.length = m := ⟨_, rfl⟩
  rw [hZl, hm]
  rw [hm] at C2 CZ m60
  have HM : Hid (R.length = m) := hm
  clear CT hRz hb2 hr5 hn5 hc5 hZ HB1 hm hZl
  go_wp2_with fail
  refine C2.mono ?_
  rintro e w3 ⟨rfl, hb3⟩
  have HB23 : Hid (Below w2.heap.size w2 w3) := hb3
  clear C2 hb3
  by_cases hm2 : m < 2
  · have CZ3 := CZ w3 HB23.out
    have d1 : decide ((m : Int) < 2) = true := decide_eq_true (by omega)
    clear CZ HRW HN5 HC5
    go_wp2_with fail
    refine CZ3.mono ?_
    rintro e w4 ⟨rfl, hb4⟩
    have HB4 : Hid (Below w.heap.size w w4) := chain HB2.out (chain HB23.out hb4)
    clear CZ3 hb4
    go_wp2_with fail
    refine (zwakes_any _).mono ?_
    rintro e w5 ⟨rfl, hb5⟩
    have HB5 : Hid (Below w.heap.size w w5) := chain HB4.out hb5
    clear hb5
    go_wp2
    go_ret
    exact ⟨by simp, HB5.out⟩
  have d1 : decide ((m : Int) < 2) = false := decide_eq_false (by omega)
  have hu0 : 0 ≤ IntKind.u64.wrap kk := by rw [IntKind.wrap_u64]; omega
  have g1 : wrap64 ((m : Int) - 1) = (m : Int) - 1 := wrap_in (by omega)
  have g2 : IntKind.u64.wrap ((m : Int) - 1) = (m : Int) - 1 := by rw [IntKind.wrap_u64]; omega
  have g0 : ((m : Int) - 1 = 0) = False := eq_false (by omega)
  have gm := Int.emod_lt_of_pos (IntKind.u64.wrap kk) (show (0 : Int) < (m : Int) - 1 by omega)
  have gn := Int.emod_nonneg (IntKind.u64.wrap kk) (show (m : Int) - 1 ≠ 0 by omega)
  obtain ⟨j, hj⟩ : ∃ j : Nat, IntKind.u64.wrap kk % ((m : Int) - 1) = (j : Int) := ⟨(IntKind.u64.wrap kk % ((m : Int) - 1)).toNat, by omega⟩
  have g3 : (IntKind.u64.wrap kk).tmod ((m : Int) - 1) = (j : Int) := by rw [Int.tmod_eq_emod_of_nonneg hu0]; exact hj
  have g4 : wrap64 (j : Int) = (j : Int) := wrap_in (by omega)
  have hjm : j + 1 < m := by omega
  clear gm gn hj hu0
  have hjR : j + 1 < R.length := by rw [HM.out]; exact hjm
  obtain ⟨hRW, hZR⟩ := HRW.out
  have hzl : Z.length = R.length := by rw [← hZR, List.length_map]
  obtain ⟨b, off, ra, rc, rfl, -⟩ := (HZ2.out.later HB23.out).at_ (i := j) (by omega)
  have hRD : ReadZ w3 b off Z := hRW.readZ.later HB23.out
  obtain ⟨hoff, hfree⟩ := (hRW.later HB23.out).free (by omega)
  subst hoff
  have hjZ : j + 1 < Z.length := by omega
  obtain ⟨ra, rc, e0, x0, x1⟩ := hRD.at_ (i := j) (by omega)
  obtain ⟨sa, sc, e1, y0, y1⟩ := hRD.at_ (i := j + 1) hjZ
  have f0 := hfree j 0 (by omega) (by omega)
  have f1 := hfree j 1 (by omega) (by omega)
  have f2 := hfree (j + 1) 0 hjZ (by omega)
  have f3 := hfree (j + 1) 1 hjZ (by omega)
  rw [Nat.add_zero] at f0 f2
  have hbB : w.heap.size ≤ b := by
    obtain ⟨a', c', e', -, -, -, -, hown⟩ := hRW.form
    cases e'
    have := hown b 0 rfl
    simp at this
    omega
  have HBB : Hid (w.heap.size ≤ b) := hbB
  have HB3 : Hid (Below w.heap.size w w3) := chain HB2.out HB23.out
  have HRI3 : Hid (riseZ R = true) := HRI
  have hRj : R[j]'(by omega) = Z[j].2 := by subst hZR; rw [List.getElem_map]
  have hRj1 : R[j + 1] = Z[j + 1].2 := by subst hZR; rw [List.getElem_map]
  have HW0 : Hid (RdZ ((((w3.drew.setCell ⟨b, 0 + j * 2, none⟩ (.slice sa Z[j + 1].2.row.length sc)).setCell ⟨b, 0 + j * 2 + 1, none⟩ (.int .i64 Z[j + 1].2.wt)).setCell ⟨b, 0 + (j + 1) * 2, none⟩ (.slice ra Z[j].2.row.length rc)).setCell ⟨b, 0 + (j + 1) * 2 + 1, none⟩ (.int .i64 Z[j].2.wt)) (some ⟨b, 0, none⟩) ((R.set j R[j + 1]).set (j + 1) (R[j]'(by omega)))) := by
    show RdZ _ _ _
    have := (way_swap (hRD.later (Below.refl _ _).drew) hjZ e0 e1).rdZ
    rw [List.map_set, List.map_set, hZR] at this
    rw [hRj, hRj1]
    exact this
  have HW1 : Hid (RdZ ((w3.setCell ⟨b, 0 + (j + 1) * 2, none⟩ (.slice ra Z[j].2.row.length rc)).setCell ⟨b, 0 + (j + 1) * 2 + 1, none⟩ (.int .i64 Z[j].2.wt)) (some ⟨b, 0, none⟩) (R.set (j + 1) (R[j]'(by omega)))) := by
    show RdZ _ _ _
    have := (way_twice hRD hjZ e0).rdZ
    rw [List.map_set, hZR] at this
    rw [hRj]
    exact this
  have HW2 : Hid (RdZ (w3.setCell ⟨b, 0 + j * 2 + 1, none⟩ (.int .i64 0)) (some ⟨b, 0, none⟩) (R.set j ⟨(R[j]'(by omega)).row, 0⟩)) := by
    show RdZ _ _ _
    have := (hRD.put1 (show j < Z.length by omega) e0 (p := 0) (by constructor <;> decide)).rdZ
    rw [List.map_set, hZR] at this
    rw [hRj]
    exact this
  have HW3 : Hid (RdZ (w3.setCell ⟨b, 0 + j * 2 + 1, none⟩ (.int .i64 72057594037927937)) (some ⟨b, 0, none⟩) (R.set j ⟨(R[j]'(by omega)).row, 72057594037927937⟩)) := by
    show RdZ _ _ _
    have := (hRD.put1 (show j < Z.length by omega) e0 (p := 72057594037927937) (by constructor <;> decide)).rdZ
    rw [List.map_set, hZR] at this
    rw [hRj]
    exact this
  have HN0 : Hid (riseZ ((R.set j R[j + 1]).set (j + 1) (R[j]'(by omega))) = false) := bent_swap hjR HRI.out
  have HN1 : Hid (riseZ (R.set (j + 1) (R[j]'(by omega))) = false) := bent_twice hjR
  have HN2 : Hid (riseZ (R.set j ⟨(R[j]'(by omega)).row, 0⟩) = false) := bent_nought (by omega)
  have HN3 : Hid (riseZ (R.set j ⟨(R[j]'(by omega)).row, 72057594037927937⟩) = false) := bent_great (by omega)
  have HL0 : Hid (((R.set j R[j + 1]).set (j + 1) (R[j]'(by omega))).length = m) := by show _ = _; simp [HM.out]
  have HL1 : Hid ((R.set (j + 1) (R[j]'(by omega))).length = m) := by show _ = _; simp [HM.out]
  have HL2 : Hid ((R.set j ⟨(R[j]'(by omega)).row, 0⟩).length = m) := by show _ = _; simp [HM.out]
  have HL3 : Hid ((R.set j ⟨(R[j]'(by omega)).row, 72057594037927937⟩).length = m) := by show _ = _; simp [HM.out]
  have hcm : m ≤ c5 := by have := HC5.out; rw [HM.out] at this; exact this
  simp only [Nat.zero_add] at HW0 HW1 HW2 HW3 x0 x1 y0 y1
  generalize (R.set j R[j + 1]).set (j + 1) (R[j]'(by omega)) = Y0 at *
  generalize R.set (j + 1) (R[j]'(by omega)) = Y1 at *
  generalize R.set j ⟨(R[j]'(by omega)).row, 0⟩ = Y2 at *
  generalize R.set j ⟨(R[j]'(by omega)).row, 72057594037927937⟩ = Y3 at *
  generalize Z[j].2.row.length = rn at *
  generalize Z[j].2.wt = p at *
  generalize Z[j + 1].2.row.length = sn at *
  generalize Z[j + 1].2.wt = q at *
  have i0 : (0 : Int) ≤ (j : Int) := by omega
  have i1 : (j : Int) < (m : Int) := by omega
  have i2 : (j : Int) + 1 < (m : Int) := by omega
  have i3 : (0 : Int) ≤ (j : Int) + 1 := by omega
  have iw : wrap64 ((j : Int) + 1) = (j : Int) + 1 := wrap_in (by omega)
  have iw2 : IntKind.i64.wrap ((j : Int) + 1) = (j : Int) + 1 := wrap_next j (Nat.lt_of_lt_of_le hjm m60)
  clear hRW hm2 CZ HRW hRD hfree e0 e1 hRj hRj1 hZR hzl hjR hjZ hbB HZ2 HB23 HB2 HN5 HC5 HRI HRI3 HM HRL
  go_upto_region 10 with fail
  have HS : w3.drew.cell? ⟨b, j * 2, none⟩ = some (.slice ra rn rc) ∧ w3.drew.cell? ⟨b, j * 2 + 1, none⟩ = some (.int .i64 p) ∧ w3.drew.cell? ⟨b, (j + 1) * 2, none⟩ = some (.slice sa sn sc) ∧ w3.drew.cell? ⟨b, (j + 1) * 2 + 1, none⟩ = some (.int .i64 q) := ⟨cell_later (Below.refl _ _).drew x0, cell_later (Below.refl _ _).drew x1, cell_later (Below.refl _ _).drew y0, cell_later (Below.refl _ _).drew y1⟩
  have z0 : w3.drew.cell? ⟨b, j * 2, none⟩ = some (.slice ra rn rc) := cell_later (Below.refl _ _).drew x0
  have z1 : w3.drew.cell? ⟨b, j * 2 + 1, none⟩ = some (.int .i64 p) := cell_later (Below.refl _ _).drew x1
  have z2 : w3.drew.cell? ⟨b, (j + 1) * 2, none⟩ = some (.slice sa sn sc) := cell_later (Below.refl _ _).drew y0
  have z3 : w3.drew.cell? ⟨b, (j + 1) * 2 + 1, none⟩ = some (.int .i64 q) := cell_later (Below.refl _ _).drew y1
  refine region_S (S := (fun w' => w'.cell? ⟨b, j * 2, none⟩ = some (.slice ra rn rc) ∧ w'.cell? ⟨b, j * 2 + 1, none⟩ = some (.int .i64 p) ∧ w'.cell? ⟨b, (j + 1) * 2, none⟩ = some (.slice sa sn sc) ∧ w'.cell? ⟨b, (j + 1) * 2 + 1, none⟩ = some (.int .i64 q))) 15 (by kernel_rfl) HS (fun hHeld => ?_)
  refine sPure (v := ?_) 0 48 rfl rfl (by kernel_rfl) (by kernel_rfl) (by kernel_rfl) (by decide) (fun _ _ _ h => h) (by rfl) (fun w => ?_) (.inr (by assumption)) ?_
  rotate_left
  · first | (go_simp; done) | (go_simp; with_reducible rfl)
  simp only [List.setIfInBounds_toArray, List.set_cons_zero, List.set_cons_succ]
  refine sPure (v := ?_) 1 49 rfl rfl (by kernel_rfl) (by kernel_rfl) (by kernel_rfl) (by decide) (fun _ _ _ h => h) (by rfl) (fun w => ?_) (.inr (by assumption)) ?_
  rotate_left
  · first | (go_simp; done) | (go_simp; with_reducible rfl)
  simp only [List.setIfInBounds_toArray, List.set_cons_zero, List.set_cons_succ]
  refine sPure (v := ?_) 2 50 rfl rfl (by kernel_rfl) (by kernel_rfl) (by kernel_rfl) (by decide) (fun _ _ _ h => h) (by rfl) (fun w => ?_) (.inr (by assumption)) ?_
  rotate_left
  · first | (go_simp; done) | (go_simp; with_reducible rfl)
  simp only [List.setIfInBounds_toArray, List.set_cons_zero, List.set_cons_succ]
  refine sPure (v := ?_) 3 51 rfl rfl (by kernel_rfl) (by kernel_rfl) (by kernel_rfl) (by decide) (fun _ _ _ h => h) (by rfl) (fun w => ?_) (.inr (by assumption)) ?_
  rotate_left
  · first | (go_simp; done) | (go_simp; with_reducible rfl)
  simp only [List.setIfInBounds_toArray, List.set_cons_zero, List.set_cons_succ]
  refine sPure (v := ?_) 4 52 rfl rfl (by kernel_rfl) (by kernel_rfl) (by kernel_rfl) (by decide) (fun _ _ _ h => h) (by rfl) (fun w => ?_) (.inr (by assumption)) ?_
  rotate_left
  · first | (go_simp; done) | (go_simp; with_reducible rfl)
  simp only [List.setIfInBounds_toArray, List.set_cons_zero, List.set_cons_succ]
  refine sPure (v := ?_) 5 53 rfl rfl (by kernel_rfl) (by kernel_rfl) (by kernel_rfl) (by decide) (fun _ _ _ h => h) (by rfl) (fun w => ?_) (.inr (by assumption)) ?_
  rotate_left
  · first | (go_simp; done) | (go_simp; with_reducible rfl)
  simp only [List.setIfInBounds_toArray, List.set_cons_zero, List.set_cons_succ]
  refine sPure (v := ?_) 6 54 rfl rfl (by kernel_rfl) (by kernel_rfl) (by kernel_rfl) (by decide) (fun _ _ _ h => h) (by rfl) (fun w => ?_) (.inr (by assumption)) ?_
  rotate_left
  · first | (go_simp; done) | (go_simp; with_reducible rfl)
  simp only [List.setIfInBounds_toArray, List.set_cons_zero, List.set_cons_succ]
  refine sPure (v := ?_) 7 55 rfl rfl (by kernel_rfl) (by kernel_rfl) (by kernel_rfl) (by decide) (fun _ _ _ h => h) (by rfl) (fun w => ?_) (.inr (by assumption)) ?_
  rotate_left
  · first | (go_simp; done) | (go_simp; with_reducible rfl)
  simp only [List.setIfInBounds_toArray, List.set_cons_zero, List.set_cons_succ]
  refine sPure (v := ?_) 8 56 rfl rfl (by kernel_rfl) (by kernel_rfl) (by kernel_rfl) (by decide) (fun _ _ _ h => h) (by rfl) (fun w => ?_) (.inr (by assumption)) ?_
  rotate_left
  · first | (go_simp; done) | (go_simp; with_reducible rfl)
  simp only [List.setIfInBounds_toArray, List.set_cons_zero, List.set_cons_succ]
  refine sTake (v := ?_) 9 57 rfl rfl (by kernel_rfl) (by kernel_rfl) (by kernel_rfl) (by kernel_rfl) (by kernel_rfl) (fun _ _ _ h => h) (by rfl) (fun w hSw => ?_) (by assumption) ?_
  rotate_left
  · (try dsimp only at hSw); first | (go_simp; done) | (go_simp; with_reducible rfl)
  simp only [List.setIfInBounds_toArray, List.set_cons_zero, List.set_cons_succ]
  refine sPure (v := ?_) 10 58 rfl rfl (by kernel_rfl) (by kernel_rfl) (by kernel_rfl) (by decide) (fun _ _ _ h => h) (by rfl) (fun w => ?_) (.inr (by assumption)) ?_
  rotate_left
  · first | (go_simp; done) | (go_simp; with_reducible rfl)
  simp only [List.setIfInBounds_toArray, List.set_cons_zero, List.set_cons_succ]
  refine sPure (v := ?_) 11 59 rfl rfl (by kernel_rfl) (by kernel_rfl) (by kernel_rfl) (by decide) (fun _ _ _ h => h) (by rfl) (fun w => ?_) (.inr (by assumption)) ?_
  rotate_left
  · first | (go_simp; done) | (go_simp; with_reducible rfl)
  simp only [List.setIfInBounds_toArray, List.set_cons_zero, List.set_cons_succ]
  refine sPure (v := ?_) 12 60 rfl rfl (by kernel_rfl) (by kernel_rfl) (by kernel_rfl) (by decide) (fun _ _ _ h => h) (by rfl) (fun w => ?_) (.inr (by assumption)) ?_
  rotate_left
  · first | (go_simp; done) | (go_simp; with_reducible rfl)
  simp only [List.setIfInBounds_toArray, List.set_cons_zero, List.set_cons_succ]
  refine sTake (v := ?_) 13 61 rfl rfl (by kernel_rfl) (by kernel_rfl) (by kernel_rfl) (by kernel_rfl) (by kernel_rfl) (fun _ _ _ h => h) (by rfl) (fun w hSw => ?_) (by assumption) ?_
  rotate_left
  · (try dsimp only at hSw); first | (go_simp; done) | (go_simp; with_reducible rfl)
  simp only [List.setIfInBounds_toArray, List.set_cons_zero, List.set_cons_succ]
  refine sPure (v := ?_) 14 62 rfl rfl (by kernel_rfl) (by kernel_rfl) (by kernel_rfl) (by decide) (fun _ _ _ h => h) (by rfl) (fun w => ?_) (.inr (by assumption)) ?_
  rotate_left
  · first | (go_simp; done) | (go_simp; with_reducible rfl)
  simp only [List.setIfInBounds_toArray, List.set_cons_zero, List.set_cons_succ]
  refine sOne 15 rfl (by kernel_rfl) (by rfl) (fun K2 hK => ?_)
  go_simp
  refine hK.out _ _ ?_ (fun hHeld => ?_)
  · exact .inl (by rfl)
  clear hK K2 hHeld
  try simp only [List.setIfInBounds_toArray, List.set_cons_zero, List.set_cons_succ]
  refine sPure (v := ?_) 16 63 rfl rfl (by kernel_rfl) (by kernel_rfl) (by kernel_rfl) (by decide) (fun _ _ _ h => h) (by rfl) (fun w => ?_) (.inl (by rfl)) ?_
  rotate_left
  · first | (go_simp; done) | (go_simp; with_reducible rfl)
  simp only [List.setIfInBounds_toArray, List.set_cons_zero, List.set_cons_succ]
  refine sOne 17 rfl (by kernel_rfl) (by rfl) (fun K2 hK => ?_)
  go_simp
  refine hK.out _ _ ?_ (fun hHeld => ?_)
  · exact .inl (by rfl)
  clear hK K2 hHeld
  try simp only [List.setIfInBounds_toArray, List.set_cons_zero, List.set_cons_succ]
  refine sDone (by kernel_rfl) ?_ _
  have HL := HL0
  have HN := HN0
  have HR := HW0
  have HB : Hid (Below w.heap.size w _) := ((((((((HB3.out.drew).setCell (p := ⟨b, j * 2, none⟩) HBB.out (.slice sa sn sc))).setCell (p := ⟨b, j * 2 + 1, none⟩) HBB.out (.int .i64 q))).setCell (p := ⟨b, (j + 1) * 2, none⟩) HBB.out (.slice ra rn rc))).setCell (p := ⟨b, (j + 1) * 2 + 1, none⟩) HBB.out (.int .i64 p))
  clear HS z0 z1 z2 z3 HW0 HW1 HW2 HW3 HN0 HN1 HN2 HN3 HL0 HL1 HL2 HL3 x0 x1 y0 y1 f0 f1 f2 f3 HBB HB3
  have C1 := zNeg_bad (some ⟨b, 0, none⟩) m c5 Y0 _ HL.out (by omega) HR.out HN.out
  go_wp2_with fail
  refine C1.mono ?_
  rintro e w6 ⟨rfl, hb⟩
  replace HR : Hid (RdZ w6 (some ⟨b, 0, none⟩) Y0) := HR.out.later hb
  replace HB : Hid (Below w.heap.size w w6) := chain HB.out hb
  clear C1 hb
  have C2 := zAdd_any (some ⟨b, 0, none⟩) none m 0 c5 0 Y0 [] w6 HL.out rfl (by omega) (by omega) hcm (Nat.le_refl _) (fun h => by cases h) (fun _ => ⟨rfl, rfl⟩) HR.out (RdZ.nil _ _)
  rw [add_bent HN.out] at C2
  go_wp2_with fail
  refine C2.mono ?_
  rintro e w7 ⟨v, Z', rfl, hZ', hRz', hb⟩
  obtain ⟨a8, c8, rfl, -⟩ := hRz'.form
  obtain rfl : Z' = [] := by simpa using hZ'
  replace HR : Hid (RdZ w7 (some ⟨b, 0, none⟩) Y0) := HR.out.later hb
  replace HB : Hid (Below w.heap.size w w7) := chain HB.out hb
  clear C2 hb hZ' hRz'
  have C3 := zCheck_any (some ⟨b, 0, none⟩) m c5 Y0 w7 HL.out (by omega) HR.out
  rw [chkZ_no HN.out] at C3
  go_wp2_with fail
  refine C3.mono ?_
  rintro e w8 ⟨rfl, hb⟩
  replace HR : Hid (RdZ w8 (some ⟨b, 0, none⟩) Y0) := HR.out.later hb
  replace HB : Hid (Below w.heap.size w w8) := chain HB.out hb
  clear C3 hb
  have C4 := zSize_any (some ⟨b, 0, none⟩) m c5 Y0 w8 HL.out (by omega) HR.out
  rw [size_bent HN.out] at C4
  go_wp2_with fail
  refine C4.mono ?_
  rintro e w9 ⟨rfl, hb⟩
  replace HB : Hid (Below w.heap.size w w9) := chain HB.out hb
  clear C4 hb
  go_wp2_with fail
  refine (zwakes_any _).mono ?_
  rintro e wa ⟨rfl, hb⟩
  go_wp2
  go_ret
  exact ⟨by simp, chain HB.out hb⟩

set_option maxRecDepth 100000 in
set_option maxHeartbeats 8000000 in
theorem bent_way1 (a : Option Addr) (n cap : Nat) (X : List PI) (what kk : Int) (w : World) (hn : X.length = n) (hl : n ≤ 9223372036854775807) (hX : RdJ w a X) (hh : heavyI X = false) (hd : (IntKind.u64.wrap what).tmod 4 = 1) :
    Calls Try.prog 6 #[.slice a n cap, .int .i64 what, .int .i64 kk] w fun e w' => e = .returned (.bool true) ∧ Below w.heap.size w w' := by
  have C1 := heavyZ_any _ _ 1 1 _ _ rfl (by omega) (lone_items w a n cap X hn hl hX)
  simp only [List.any_cons, List.any_nil, Bool.or_false] at C1
  have HB1 : Hid (Below w.heap.size w (w.alloc (.cells #[.slice a n cap] 22))) := alloc_below _ _
  rw [hh] at C1
  obtain ⟨hx3, hx4⟩ := heavyI_small hh
  have CT := tame_any a n cap X _ hn (by omega) ((hX.rdZ fun x hx => by have := hx4 x hx; omega).later HB1.out)
  obtain ⟨hri, hle⟩ := make_rises (tameL X 60)
  have hle2 := tame_len X
  clear hX hn hh hx3 hx4 hl
  generalize (makeZ (tameL X 60)).1 = R at *
  have HRI : Hid (riseZ R = true) := hri
  have HRL : Hid (R.length ≤ 60) := Nat.le_trans hle hle2
  clear hri hle hle2
  go_enter Try.func6, Try.ntmps6
  go_wp2_with fail
  refine C1.mono ?_
  rintro e w1 ⟨rfl, hw⟩
  subst hw
  clear C1
  go_wp2_with fail
  refine CT.mono ?_
  rintro e w2 ⟨v, Z, rfl, hZ, hRz, hb2⟩
  obtain ⟨a5, c5, rfl, hc5, -, hr5, hn5, -⟩ := hRz.form
  rw [hZ] at hr5 hn5
  have hZl : Z.length = R.length := by have := congrArg List.length hZ; simpa using this
  have HB2 : Hid (Below w.heap.size w w2) := chain HB1.out hb2
  have HZ2 : Hid (RdZ w2 a5 R) := hr5
  have HN5 : Hid (a5 = none → R = [] ∧ c5 = 0) := hn5
  have HC5 : Hid (R.length ≤ c5) := by show _ ≤ _; omega
  have HRW : Hid (RowZ w2 _ (.slice a5 Z.length c5) Z ∧ Z.map (·.2) = R) := ⟨hRz, hZ⟩
  have C2 := zCheck_any a5 R.length c5 R w2 rfl (by have := HRL.out; omega) HZ2.out
  rw [chkZ_yes HRI.out] at C2
  have CZ : ∀ V, Below w2.heap.size w2 V → Calls Try.prog 22 #[.slice a5 R.length c5] V fun e w' => e = .returned (.int .i64 0) ∧ Below V.heap.size V w' := fun V hb => by
    have := zCheck_any a5 R.length c5 R V rfl (by have := HRL.out; omega) (HZ2.out.later hb)
    rw [chkZ_yes HRI.out] at this
    exact this
  have m60 : R.length ≤ 60 := HRL.out
  obtain ⟨m, hm⟩ : ∃ m, R.length = m := ⟨_, rfl⟩
  rw [hZl, hm]
  rw [hm] at C2 CZ m60
  have HM : Hid (R.length = m) := hm
  clear CT hRz hb2 hr5 hn5 hc5 hZ HB1 hm hZl
  go_wp2_with fail
  refine C2.mono ?_
  rintro e w3 ⟨rfl, hb3⟩
  have HB23 : Hid (Below w2.heap.size w2 w3) := hb3
  clear C2 hb3
  by_cases hm2 : m < 2
  · have CZ3 := CZ w3 HB23.out
    have d1 : decide ((m : Int) < 2) = true := decide_eq_true (by omega)
    clear CZ HRW HN5 HC5
    go_wp2_with fail
    refine CZ3.mono ?_
    rintro e w4 ⟨rfl, hb4⟩
    have HB4 : Hid (Below w.heap.size w w4) := chain HB2.out (chain HB23.out hb4)
    clear CZ3 hb4
    go_wp2_with fail
    refine (zwakes_any _).mono ?_
    rintro e w5 ⟨rfl, hb5⟩
    have HB5 : Hid (Below w.heap.size w w5) := chain HB4.out hb5
    clear hb5
    go_wp2
    go_ret
    exact ⟨by simp, HB5.out⟩
  have d1 : decide ((m : Int) < 2) = false := decide_eq_false (by omega)
  have hu0 : 0 ≤ IntKind.u64.wrap kk := by rw [IntKind.wrap_u64]; omega
  have g1 : wrap64 ((m : Int) - 1) = (m : Int) - 1 := wrap_in (by omega)
  have g2 : IntKind.u64.wrap ((m : Int) - 1) = (m : Int) - 1 := by rw [IntKind.wrap_u64]; omega
  have g0 : ((m : Int) - 1 = 0) = False := eq_false (by omega)
  have gm := Int.emod_lt_of_pos (IntKind.u64.wrap kk) (show (0 : Int) < (m : Int) - 1 by omega)
  have gn := Int.emod_nonneg (IntKind.u64.wrap kk) (show (m : Int) - 1 ≠ 0 by omega)
  obtain ⟨j, hj⟩ : ∃ j : Nat, IntKind.u64.wrap kk % ((m : Int) - 1) = (j : Int) := ⟨(IntKind.u64.wrap kk % ((m : Int) - 1)).toNat, by omega⟩
  have g3 : (IntKind.u64.wrap kk).tmod ((m : Int) - 1) = (j : Int) := by rw [Int.tmod_eq_emod_of_nonneg hu0]; exact hj
  have g4 : wrap64 (j : Int) = (j : Int) := wrap_in (by omega)
  have hjm : j + 1 < m := by omega
  clear gm gn hj hu0
  have hjR : j + 1 < R.length := by rw [HM.out]; exact hjm
  obtain ⟨hRW, hZR⟩ := HRW.out
  have hzl : Z.length = R.length := by rw [← hZR, List.length_map]
  obtain ⟨b, off, ra, rc, rfl, -⟩ := (HZ2.out.later HB23.out).at_ (i := j) (by omega)
  have hRD : ReadZ w3 b off Z := hRW.readZ.later HB23.out
  obtain ⟨hoff, hfree⟩ := (hRW.later HB23.out).free (by omega)
  subst hoff
  have hjZ : j + 1 < Z.length := by omega
  obtain ⟨ra, rc, e0, x0, x1⟩ := hRD.at_ (i := j) (by omega)
  obtain ⟨sa, sc, e1, y0, y1⟩ := hRD.at_ (i := j + 1) hjZ
  have f0 := hfree j 0 (by omega) (by omega)
  have f1 := hfree j 1 (by omega) (by omega)
  have f2 := hfree (j + 1) 0 hjZ (by omega)
  have f3 := hfree (j + 1) 1 hjZ (by omega)
  rw [Nat.add_zero] at f0 f2
  have hbB : w.heap.size ≤ b := by
    obtain ⟨a', c', e', -, -, -, -, hown⟩ := hRW.form
    cases e'
    have := hown b 0 rfl
    simp at this
    omega
  have HBB : Hid (w.heap.size ≤ b) := hbB
  have HB3 : Hid (Below w.heap.size w w3) := chain HB2.out HB23.out
  have HRI3 : Hid (riseZ R = true) := HRI
  have hRj : R[j]'(by omega) = Z[j].2 := by subst hZR; rw [List.getElem_map]
  have hRj1 : R[j + 1] = Z[j + 1].2 := by subst hZR; rw [List.getElem_map]
  have HW0 : Hid (RdZ ((((w3.drew.setCell ⟨b, 0 + j * 2, none⟩ (.slice sa Z[j + 1].2.row.length sc)).setCell ⟨b, 0 + j * 2 + 1, none⟩ (.int .i64 Z[j + 1].2.wt)).setCell ⟨b, 0 + (j + 1) * 2, none⟩ (.slice ra Z[j].2.row.length rc)).setCell ⟨b, 0 + (j + 1) * 2 + 1, none⟩ (.int .i64 Z[j].2.wt)) (some ⟨b, 0, none⟩) ((R.set j R[j + 1]).set (j + 1) (R[j]'(by omega)))) := by
    show RdZ _ _ _
    have := (way_swap (hRD.later (Below.refl _ _).drew) hjZ e0 e1).rdZ
    rw [List.map_set, List.map_set, hZR] at this
    rw [hRj, hRj1]
    exact this
  have HW1 : Hid (RdZ ((w3.setCell ⟨b, 0 + (j + 1) * 2, none⟩ (.slice ra Z[j].2.row.length rc)).setCell ⟨b, 0 + (j + 1) * 2 + 1, none⟩ (.int .i64 Z[j].2.wt)) (some ⟨b, 0, none⟩) (R.set (j + 1) (R[j]'(by omega)))) := by
    show RdZ _ _ _
    have := (way_twice hRD hjZ e0).rdZ
    rw [List.map_set, hZR] at this
    rw [hRj]
    exact this
  have HW2 : Hid (RdZ (w3.setCell ⟨b, 0 + j * 2 + 1, none⟩ (.int .i64 0)) (some ⟨b, 0, none⟩) (R.set j ⟨(R[j]'(by omega)).row, 0⟩)) := by
    show RdZ _ _ _
    have := (hRD.put1 (show j < Z.length by omega) e0 (p := 0) (by constructor <;> decide)).rdZ
    rw [List.map_set, hZR] at this
    rw [hRj]
    exact this
  have HW3 : Hid (RdZ (w3.setCell ⟨b, 0 + j * 2 + 1, none⟩ (.int .i64 72057594037927937)) (some ⟨b, 0, none⟩) (R.set j ⟨(R[j]'(by omega)).row, 72057594037927937⟩)) := by
    show RdZ _ _ _
    have := (hRD.put1 (show j < Z.length by omega) e0 (p := 72057594037927937) (by constructor <;> decide)).rdZ
    rw [List.map_set, hZR] at this
    rw [hRj]
    exact this
  have HN0 : Hid (riseZ ((R.set j R[j + 1]).set (j + 1) (R[j]'(by omega))) = false) := bent_swap hjR HRI.out
  have HN1 : Hid (riseZ (R.set (j + 1) (R[j]'(by omega))) = false) := bent_twice hjR
  have HN2 : Hid (riseZ (R.set j ⟨(R[j]'(by omega)).row, 0⟩) = false) := bent_nought (by omega)
  have HN3 : Hid (riseZ (R.set j ⟨(R[j]'(by omega)).row, 72057594037927937⟩) = false) := bent_great (by omega)
  have HL0 : Hid (((R.set j R[j + 1]).set (j + 1) (R[j]'(by omega))).length = m) := by show _ = _; simp [HM.out]
  have HL1 : Hid ((R.set (j + 1) (R[j]'(by omega))).length = m) := by show _ = _; simp [HM.out]
  have HL2 : Hid ((R.set j ⟨(R[j]'(by omega)).row, 0⟩).length = m) := by show _ = _; simp [HM.out]
  have HL3 : Hid ((R.set j ⟨(R[j]'(by omega)).row, 72057594037927937⟩).length = m) := by show _ = _; simp [HM.out]
  have hcm : m ≤ c5 := by have := HC5.out; rw [HM.out] at this; exact this
  simp only [Nat.zero_add] at HW0 HW1 HW2 HW3 x0 x1 y0 y1
  generalize (R.set j R[j + 1]).set (j + 1) (R[j]'(by omega)) = Y0 at *
  generalize R.set (j + 1) (R[j]'(by omega)) = Y1 at *
  generalize R.set j ⟨(R[j]'(by omega)).row, 0⟩ = Y2 at *
  generalize R.set j ⟨(R[j]'(by omega)).row, 72057594037927937⟩ = Y3 at *
  generalize Z[j].2.row.length = rn at *
  generalize Z[j].2.wt = p at *
  generalize Z[j + 1].2.row.length = sn at *
  generalize Z[j + 1].2.wt = q at *
  have i0 : (0 : Int) ≤ (j : Int) := by omega
  have i1 : (j : Int) < (m : Int) := by omega
  have i2 : (j : Int) + 1 < (m : Int) := by omega
  have i3 : (0 : Int) ≤ (j : Int) + 1 := by omega
  have iw : wrap64 ((j : Int) + 1) = (j : Int) + 1 := wrap_in (by omega)
  have iw2 : IntKind.i64.wrap ((j : Int) + 1) = (j : Int) + 1 := wrap_next j (Nat.lt_of_lt_of_le hjm m60)
  clear hRW hm2 CZ HRW hRD hfree e0 e1 hRj hRj1 hZR hzl hjR hjZ hbB HZ2 HB23 HB2 HN5 HC5 HRI HRI3 HM HRL
  go_wp2_with fail
  have HL := HL1
  have HN := HN1
  have HR := HW1
  have HB : Hid (Below w.heap.size w _) := ((((HB3.out).setCell (p := ⟨b, (j + 1) * 2, none⟩) HBB.out (.slice ra rn rc))).setCell (p := ⟨b, (j + 1) * 2 + 1, none⟩) HBB.out (.int .i64 p))
  clear HW0 HW1 HW2 HW3 HN0 HN1 HN2 HN3 HL0 HL1 HL2 HL3 x0 x1 y0 y1 f0 f1 f2 f3 HBB HB3
  have C1 := zNeg_bad (some ⟨b, 0, none⟩) m c5 Y1 _ HL.out (by omega) HR.out HN.out
  refine C1.mono ?_
  rintro e w6 ⟨rfl, hb⟩
  replace HR : Hid (RdZ w6 (some ⟨b, 0, none⟩) Y1) := HR.out.later hb
  replace HB : Hid (Below w.heap.size w w6) := chain HB.out hb
  clear C1 hb
  have C2 := zAdd_any (some ⟨b, 0, none⟩) none m 0 c5 0 Y1 [] w6 HL.out rfl (by omega) (by omega) hcm (Nat.le_refl _) (fun h => by cases h) (fun _ => ⟨rfl, rfl⟩) HR.out (RdZ.nil _ _)
  rw [add_bent HN.out] at C2
  go_wp2_with fail
  refine C2.mono ?_
  rintro e w7 ⟨v, Z', rfl, hZ', hRz', hb⟩
  obtain ⟨a8, c8, rfl, -⟩ := hRz'.form
  obtain rfl : Z' = [] := by simpa using hZ'
  replace HR : Hid (RdZ w7 (some ⟨b, 0, none⟩) Y1) := HR.out.later hb
  replace HB : Hid (Below w.heap.size w w7) := chain HB.out hb
  clear C2 hb hZ' hRz'
  have C3 := zCheck_any (some ⟨b, 0, none⟩) m c5 Y1 w7 HL.out (by omega) HR.out
  rw [chkZ_no HN.out] at C3
  go_wp2_with fail
  refine C3.mono ?_
  rintro e w8 ⟨rfl, hb⟩
  replace HR : Hid (RdZ w8 (some ⟨b, 0, none⟩) Y1) := HR.out.later hb
  replace HB : Hid (Below w.heap.size w w8) := chain HB.out hb
  clear C3 hb
  have C4 := zSize_any (some ⟨b, 0, none⟩) m c5 Y1 w8 HL.out (by omega) HR.out
  rw [size_bent HN.out] at C4
  go_wp2_with fail
  refine C4.mono ?_
  rintro e w9 ⟨rfl, hb⟩
  replace HB : Hid (Below w.heap.size w w9) := chain HB.out hb
  clear C4 hb
  go_wp2_with fail
  refine (zwakes_any _).mono ?_
  rintro e wa ⟨rfl, hb⟩
  go_wp2
  go_ret
  exact ⟨by simp, chain HB.out hb⟩

set_option maxRecDepth 100000 in
set_option maxHeartbeats 8000000 in
theorem bent_way2 (a : Option Addr) (n cap : Nat) (X : List PI) (what kk : Int) (w : World) (hn : X.length = n) (hl : n ≤ 9223372036854775807) (hX : RdJ w a X) (hh : heavyI X = false) (hd : (IntKind.u64.wrap what).tmod 4 = 2) :
    Calls Try.prog 6 #[.slice a n cap, .int .i64 what, .int .i64 kk] w fun e w' => e = .returned (.bool true) ∧ Below w.heap.size w w' := by
  have C1 := heavyZ_any _ _ 1 1 _ _ rfl (by omega) (lone_items w a n cap X hn hl hX)
  simp only [List.any_cons, List.any_nil, Bool.or_false] at C1
  have HB1 : Hid (Below w.heap.size w (w.alloc (.cells #[.slice a n cap] 22))) := alloc_below _ _
  rw [hh] at C1
  obtain ⟨hx3, hx4⟩ := heavyI_small hh
  have CT := tame_any a n cap X _ hn (by omega) ((hX.rdZ fun x hx => by have := hx4 x hx; omega).later HB1.out)
  obtain ⟨hri, hle⟩ := make_rises (tameL X 60)
  have hle2 := tame_len X
  clear hX hn hh hx3 hx4 hl
  generalize (makeZ (tameL X 60)).1 = R at *
  have HRI : Hid (riseZ R = true) := hri
  have HRL : Hid (R.length ≤ 60) := Nat.le_trans hle hle2
  clear hri hle hle2
  go_enter Try.func6, Try.ntmps6
  go_wp2_with fail
  refine C1.mono ?_
  rintro e w1 ⟨rfl, hw⟩
  subst hw
  clear C1
  go_wp2_with fail
  refine CT.mono ?_
  rintro e w2 ⟨v, Z, rfl, hZ, hRz, hb2⟩
  obtain ⟨a5, c5, rfl, hc5, -, hr5, hn5, -⟩ := hRz.form
  rw [hZ] at hr5 hn5
  have hZl : Z.length = R.length := by have := congrArg List.length hZ; simpa using this
  have HB2 : Hid (Below w.heap.size w w2) := chain HB1.out hb2
  have HZ2 : Hid (RdZ w2 a5 R) := hr5
  have HN5 : Hid (a5 = none → R = [] ∧ c5 = 0) := hn5
  have HC5 : Hid (R.length ≤ c5) := by show _ ≤ _; omega
  have HRW : Hid (RowZ w2 _ (.slice a5 Z.length c5) Z ∧ Z.map (·.2) = R) := ⟨hRz, hZ⟩
  have C2 := zCheck_any a5 R.length c5 R w2 rfl (by have := HRL.out; omega) HZ2.out
  rw [chkZ_yes HRI.out] at C2
  have CZ : ∀ V, Below w2.heap.size w2 V → Calls Try.prog 22 #[.slice a5 R.length c5] V fun e w' => e = .returned (.int .i64 0) ∧ Below V.heap.size V w' := fun V hb => by
    have := zCheck_any a5 R.length c5 R V rfl (by have := HRL.out; omega) (HZ2.out.later hb)
    rw [chkZ_yes HRI.out] at this
    exact this
  have m60 : R.length ≤ 60 := HRL.out
  obtain ⟨m, hm⟩ : ∃ m, R.length = m := ⟨_, rfl⟩
  rw [hZl, hm]
  rw [hm] at C2 CZ m60
  have HM : Hid (R.length = m) := hm
  clear CT hRz hb2 hr5 hn5 hc5 hZ HB1 hm hZl
  go_wp2_with fail
  refine C2.mono ?_
  rintro e w3 ⟨rfl, hb3⟩
  have HB23 : Hid (Below w2.heap.size w2 w3) := hb3
  clear C2 hb3
  by_cases hm2 : m < 2
  · have CZ3 := CZ w3 HB23.out
    have d1 : decide ((m : Int) < 2) = true := decide_eq_true (by omega)
    clear CZ HRW HN5 HC5
    go_wp2_with fail
    refine CZ3.mono ?_
    rintro e w4 ⟨rfl, hb4⟩
    have HB4 : Hid (Below w.heap.size w w4) := chain HB2.out (chain HB23.out hb4)
    clear CZ3 hb4
    go_wp2_with fail
    refine (zwakes_any _).mono ?_
    rintro e w5 ⟨rfl, hb5⟩
    have HB5 : Hid (Below w.heap.size w w5) := chain HB4.out hb5
    clear hb5
    go_wp2
    go_ret
    exact ⟨by simp, HB5.out⟩
  have d1 : decide ((m : Int) < 2) = false := decide_eq_false (by omega)
  have hu0 : 0 ≤ IntKind.u64.wrap kk := by rw [IntKind.wrap_u64]; omega
  have g1 : wrap64 ((m : Int) - 1) = (m : Int) - 1 := wrap_in (by omega)
  have g2 : IntKind.u64.wrap ((m : Int) - 1) = (m : Int) - 1 := by rw [IntKind.wrap_u64]; omega
  have g0 : ((m : Int) - 1 = 0) = False := eq_false (by omega)
  have gm := Int.emod_lt_of_pos (IntKind.u64.wrap kk) (show (0 : Int) < (m : Int) - 1 by omega)
  have gn := Int.emod_nonneg (IntKind.u64.wrap kk) (show (m : Int) - 1 ≠ 0 by omega)
  obtain ⟨j, hj⟩ : ∃ j : Nat, IntKind.u64.wrap kk % ((m : Int) - 1) = (j : Int) := ⟨(IntKind.u64.wrap kk % ((m : Int) - 1)).toNat, by omega⟩
  have g3 : (IntKind.u64.wrap kk).tmod ((m : Int) - 1) = (j : Int) := by rw [Int.tmod_eq_emod_of_nonneg hu0]; exact hj
  have g4 : wrap64 (j : Int) = (j : Int) := wrap_in (by omega)
  have hjm : j + 1 < m := by omega
  clear gm gn hj hu0
  have hjR : j + 1 < R.length := by rw [HM.out]; exact hjm
  obtain ⟨hRW, hZR⟩ := HRW.out
  have hzl : Z.length = R.length := by rw [← hZR, List.length_map]
  obtain ⟨b, off, ra, rc, rfl, -⟩ := (HZ2.out.later HB23.out).at_ (i := j) (by omega)
  have hRD : ReadZ w3 b off Z := hRW.readZ.later HB23.out
  obtain ⟨hoff, hfree⟩ := (hRW.later HB23.out).free (by omega)
  subst hoff
  have hjZ : j + 1 < Z.length := by omega
  obtain ⟨ra, rc, e0, x0, x1⟩ := hRD.at_ (i := j) (by omega)
  obtain ⟨sa, sc, e1, y0, y1⟩ := hRD.at_ (i := j + 1) hjZ
  have f0 := hfree j 0 (by omega) (by omega)
  have f1 := hfree j 1 (by omega) (by omega)
  have f2 := hfree (j + 1) 0 hjZ (by omega)
  have f3 := hfree (j + 1) 1 hjZ (by omega)
  rw [Nat.add_zero] at f0 f2
  have hbB : w.heap.size ≤ b := by
    obtain ⟨a', c', e', -, -, -, -, hown⟩ := hRW.form
    cases e'
    have := hown b 0 rfl
    simp at this
    omega
  have HBB : Hid (w.heap.size ≤ b) := hbB
  have HB3 : Hid (Below w.heap.size w w3) := chain HB2.out HB23.out
  have HRI3 : Hid (riseZ R = true) := HRI
  have hRj : R[j]'(by omega) = Z[j].2 := by subst hZR; rw [List.getElem_map]
  have hRj1 : R[j + 1] = Z[j + 1].2 := by subst hZR; rw [List.getElem_map]
  have HW0 : Hid (RdZ ((((w3.drew.setCell ⟨b, 0 + j * 2, none⟩ (.slice sa Z[j + 1].2.row.length sc)).setCell ⟨b, 0 + j * 2 + 1, none⟩ (.int .i64 Z[j + 1].2.wt)).setCell ⟨b, 0 + (j + 1) * 2, none⟩ (.slice ra Z[j].2.row.length rc)).setCell ⟨b, 0 + (j + 1) * 2 + 1, none⟩ (.int .i64 Z[j].2.wt)) (some ⟨b, 0, none⟩) ((R.set j R[j + 1]).set (j + 1) (R[j]'(by omega)))) := by
    show RdZ _ _ _
    have := (way_swap (hRD.later (Below.refl _ _).drew) hjZ e0 e1).rdZ
    rw [List.map_set, List.map_set, hZR] at this
    rw [hRj, hRj1]
    exact this
  have HW1 : Hid (RdZ ((w3.setCell ⟨b, 0 + (j + 1) * 2, none⟩ (.slice ra Z[j].2.row.length rc)).setCell ⟨b, 0 + (j + 1) * 2 + 1, none⟩ (.int .i64 Z[j].2.wt)) (some ⟨b, 0, none⟩) (R.set (j + 1) (R[j]'(by omega)))) := by
    show RdZ _ _ _
    have := (way_twice hRD hjZ e0).rdZ
    rw [List.map_set, hZR] at this
    rw [hRj]
    exact this
  have HW2 : Hid (RdZ (w3.setCell ⟨b, 0 + j * 2 + 1, none⟩ (.int .i64 0)) (some ⟨b, 0, none⟩) (R.set j ⟨(R[j]'(by omega)).row, 0⟩)) := by
    show RdZ _ _ _
    have := (hRD.put1 (show j < Z.length by omega) e0 (p := 0) (by constructor <;> decide)).rdZ
    rw [List.map_set, hZR] at this
    rw [hRj]
    exact this
  have HW3 : Hid (RdZ (w3.setCell ⟨b, 0 + j * 2 + 1, none⟩ (.int .i64 72057594037927937)) (some ⟨b, 0, none⟩) (R.set j ⟨(R[j]'(by omega)).row, 72057594037927937⟩)) := by
    show RdZ _ _ _
    have := (hRD.put1 (show j < Z.length by omega) e0 (p := 72057594037927937) (by constructor <;> decide)).rdZ
    rw [List.map_set, hZR] at this
    rw [hRj]
    exact this
  have HN0 : Hid (riseZ ((R.set j R[j + 1]).set (j + 1) (R[j]'(by omega))) = false) := bent_swap hjR HRI.out
  have HN1 : Hid (riseZ (R.set (j + 1) (R[j]'(by omega))) = false) := bent_twice hjR
  have HN2 : Hid (riseZ (R.set j ⟨(R[j]'(by omega)).row, 0⟩) = false) := bent_nought (by omega)
  have HN3 : Hid (riseZ (R.set j ⟨(R[j]'(by omega)).row, 72057594037927937⟩) = false) := bent_great (by omega)
  have HL0 : Hid (((R.set j R[j + 1]).set (j + 1) (R[j]'(by omega))).length = m) := by show _ = _; simp [HM.out]
  have HL1 : Hid ((R.set (j + 1) (R[j]'(by omega))).length = m) := by show _ = _; simp [HM.out]
  have HL2 : Hid ((R.set j ⟨(R[j]'(by omega)).row, 0⟩).length = m) := by show _ = _; simp [HM.out]
  have HL3 : Hid ((R.set j ⟨(R[j]'(by omega)).row, 72057594037927937⟩).length = m) := by show _ = _; simp [HM.out]
  have hcm : m ≤ c5 := by have := HC5.out; rw [HM.out] at this; exact this
  simp only [Nat.zero_add] at HW0 HW1 HW2 HW3 x0 x1 y0 y1
  generalize (R.set j R[j + 1]).set (j + 1) (R[j]'(by omega)) = Y0 at *
  generalize R.set (j + 1) (R[j]'(by omega)) = Y1 at *
  generalize R.set j ⟨(R[j]'(by omega)).row, 0⟩ = Y2 at *
  generalize R.set j ⟨(R[j]'(by omega)).row, 72057594037927937⟩ = Y3 at *
  generalize Z[j].2.row.length = rn at *
  generalize Z[j].2.wt = p at *
  generalize Z[j + 1].2.row.length = sn at *
  generalize Z[j + 1].2.wt = q at *
  have i0 : (0 : Int) ≤ (j : Int) := by omega
  have i1 : (j : Int) < (m : Int) := by omega
  have i2 : (j : Int) + 1 < (m : Int) := by omega
  have i3 : (0 : Int) ≤ (j : Int) + 1 := by omega
  have iw : wrap64 ((j : Int) + 1) = (j : Int) + 1 := wrap_in (by omega)
  have iw2 : IntKind.i64.wrap ((j : Int) + 1) = (j : Int) + 1 := wrap_next j (Nat.lt_of_lt_of_le hjm m60)
  clear hRW hm2 CZ HRW hRD hfree e0 e1 hRj hRj1 hZR hzl hjR hjZ hbB HZ2 HB23 HB2 HN5 HC5 HRI HRI3 HM HRL
  go_wp2_with fail
  have HL := HL2
  have HN := HN2
  have HR := HW2
  have HB : Hid (Below w.heap.size w _) := ((HB3.out).setCell (p := ⟨b, j * 2 + 1, none⟩) HBB.out (.int .i64 0))
  clear HW0 HW1 HW2 HW3 HN0 HN1 HN2 HN3 HL0 HL1 HL2 HL3 x0 x1 y0 y1 f0 f1 f2 f3 HBB HB3
  have C1 := zNeg_bad (some ⟨b, 0, none⟩) m c5 Y2 _ HL.out (by omega) HR.out HN.out
  refine C1.mono ?_
  rintro e w6 ⟨rfl, hb⟩
  replace HR : Hid (RdZ w6 (some ⟨b, 0, none⟩) Y2) := HR.out.later hb
  replace HB : Hid (Below w.heap.size w w6) := chain HB.out hb
  clear C1 hb
  have C2 := zAdd_any (some ⟨b, 0, none⟩) none m 0 c5 0 Y2 [] w6 HL.out rfl (by omega) (by omega) hcm (Nat.le_refl _) (fun h => by cases h) (fun _ => ⟨rfl, rfl⟩) HR.out (RdZ.nil _ _)
  rw [add_bent HN.out] at C2
  go_wp2_with fail
  refine C2.mono ?_
  rintro e w7 ⟨v, Z', rfl, hZ', hRz', hb⟩
  obtain ⟨a8, c8, rfl, -⟩ := hRz'.form
  obtain rfl : Z' = [] := by simpa using hZ'
  replace HR : Hid (RdZ w7 (some ⟨b, 0, none⟩) Y2) := HR.out.later hb
  replace HB : Hid (Below w.heap.size w w7) := chain HB.out hb
  clear C2 hb hZ' hRz'
  have C3 := zCheck_any (some ⟨b, 0, none⟩) m c5 Y2 w7 HL.out (by omega) HR.out
  rw [chkZ_no HN.out] at C3
  go_wp2_with fail
  refine C3.mono ?_
  rintro e w8 ⟨rfl, hb⟩
  replace HR : Hid (RdZ w8 (some ⟨b, 0, none⟩) Y2) := HR.out.later hb
  replace HB : Hid (Below w.heap.size w w8) := chain HB.out hb
  clear C3 hb
  have C4 := zSize_any (some ⟨b, 0, none⟩) m c5 Y2 w8 HL.out (by omega) HR.out
  rw [size_bent HN.out] at C4
  go_wp2_with fail
  refine C4.mono ?_
  rintro e w9 ⟨rfl, hb⟩
  replace HB : Hid (Below w.heap.size w w9) := chain HB.out hb
  clear C4 hb
  go_wp2_with fail
  refine (zwakes_any _).mono ?_
  rintro e wa ⟨rfl, hb⟩
  go_wp2
  go_ret
  exact ⟨by simp, chain HB.out hb⟩

set_option maxRecDepth 100000 in
set_option maxHeartbeats 8000000 in
theorem bent_way3 (a : Option Addr) (n cap : Nat) (X : List PI) (what kk : Int) (w : World) (hn : X.length = n) (hl : n ≤ 9223372036854775807) (hX : RdJ w a X) (hh : heavyI X = false) (hd : (IntKind.u64.wrap what).tmod 4 = 3) :
    Calls Try.prog 6 #[.slice a n cap, .int .i64 what, .int .i64 kk] w fun e w' => e = .returned (.bool true) ∧ Below w.heap.size w w' := by
  have C1 := heavyZ_any _ _ 1 1 _ _ rfl (by omega) (lone_items w a n cap X hn hl hX)
  simp only [List.any_cons, List.any_nil, Bool.or_false] at C1
  have HB1 : Hid (Below w.heap.size w (w.alloc (.cells #[.slice a n cap] 22))) := alloc_below _ _
  rw [hh] at C1
  obtain ⟨hx3, hx4⟩ := heavyI_small hh
  have CT := tame_any a n cap X _ hn (by omega) ((hX.rdZ fun x hx => by have := hx4 x hx; omega).later HB1.out)
  obtain ⟨hri, hle⟩ := make_rises (tameL X 60)
  have hle2 := tame_len X
  clear hX hn hh hx3 hx4 hl
  generalize (makeZ (tameL X 60)).1 = R at *
  have HRI : Hid (riseZ R = true) := hri
  have HRL : Hid (R.length ≤ 60) := Nat.le_trans hle hle2
  clear hri hle hle2
  go_enter Try.func6, Try.ntmps6
  go_wp2_with fail
  refine C1.mono ?_
  rintro e w1 ⟨rfl, hw⟩
  subst hw
  clear C1
  go_wp2_with fail
  refine CT.mono ?_
  rintro e w2 ⟨v, Z, rfl, hZ, hRz, hb2⟩
  obtain ⟨a5, c5, rfl, hc5, -, hr5, hn5, -⟩ := hRz.form
  rw [hZ] at hr5 hn5
  have hZl : Z.length = R.length := by have := congrArg List.length hZ; simpa using this
  have HB2 : Hid (Below w.heap.size w w2) := chain HB1.out hb2
  have HZ2 : Hid (RdZ w2 a5 R) := hr5
  have HN5 : Hid (a5 = none → R = [] ∧ c5 = 0) := hn5
  have HC5 : Hid (R.length ≤ c5) := by show _ ≤ _; omega
  have HRW : Hid (RowZ w2 _ (.slice a5 Z.length c5) Z ∧ Z.map (·.2) = R) := ⟨hRz, hZ⟩
  have C2 := zCheck_any a5 R.length c5 R w2 rfl (by have := HRL.out; omega) HZ2.out
  rw [chkZ_yes HRI.out] at C2
  have CZ : ∀ V, Below w2.heap.size w2 V → Calls Try.prog 22 #[.slice a5 R.length c5] V fun e w' => e = .returned (.int .i64 0) ∧ Below V.heap.size V w' := fun V hb => by
    have := zCheck_any a5 R.length c5 R V rfl (by have := HRL.out; omega) (HZ2.out.later hb)
    rw [chkZ_yes HRI.out] at this
    exact this
  have m60 : R.length ≤ 60 := HRL.out
  obtain ⟨m, hm⟩ : ∃ m, R.length = m := ⟨_, rfl⟩
  rw [hZl, hm]
  rw [hm] at C2 CZ m60
  have HM : Hid (R.length = m) := hm
  clear CT hRz hb2 hr5 hn5 hc5 hZ HB1 hm hZl
  go_wp2_with fail
  refine C2.mono ?_
  rintro e w3 ⟨rfl, hb3⟩
  have HB23 : Hid (Below w2.heap.size w2 w3) := hb3
  clear C2 hb3
  by_cases hm2 : m < 2
  · have CZ3 := CZ w3 HB23.out
    have d1 : decide ((m : Int) < 2) = true := decide_eq_true (by omega)
    clear CZ HRW HN5 HC5
    go_wp2_with fail
    refine CZ3.mono ?_
    rintro e w4 ⟨rfl, hb4⟩
    have HB4 : Hid (Below w.heap.size w w4) := chain HB2.out (chain HB23.out hb4)
    clear CZ3 hb4
    go_wp2_with fail
    refine (zwakes_any _).mono ?_
    rintro e w5 ⟨rfl, hb5⟩
    have HB5 : Hid (Below w.heap.size w w5) := chain HB4.out hb5
    clear hb5
    go_wp2
    go_ret
    exact ⟨by simp, HB5.out⟩
  have d1 : decide ((m : Int) < 2) = false := decide_eq_false (by omega)
  have hu0 : 0 ≤ IntKind.u64.wrap kk := by rw [IntKind.wrap_u64]; omega
  have g1 : wrap64 ((m : Int) - 1) = (m : Int) - 1 := wrap_in (by omega)
  have g2 : IntKind.u64.wrap ((m : Int) - 1) = (m : Int) - 1 := by rw [IntKind.wrap_u64]; omega
  have g0 : ((m : Int) - 1 = 0) = False := eq_false (by omega)
  have gm := Int.emod_lt_of_pos (IntKind.u64.wrap kk) (show (0 : Int) < (m : Int) - 1 by omega)
  have gn := Int.emod_nonneg (IntKind.u64.wrap kk) (show (m : Int) - 1 ≠ 0 by omega)
  obtain ⟨j, hj⟩ : ∃ j : Nat, IntKind.u64.wrap kk % ((m : Int) - 1) = (j : Int) := ⟨(IntKind.u64.wrap kk % ((m : Int) - 1)).toNat, by omega⟩
  have g3 : (IntKind.u64.wrap kk).tmod ((m : Int) - 1) = (j : Int) := by rw [Int.tmod_eq_emod_of_nonneg hu0]; exact hj
  have g4 : wrap64 (j : Int) = (j : Int) := wrap_in (by omega)
  have hjm : j + 1 < m := by omega
  clear gm gn hj hu0
  have hjR : j + 1 < R.length := by rw [HM.out]; exact hjm
  obtain ⟨hRW, hZR⟩ := HRW.out
  have hzl : Z.length = R.length := by rw [← hZR, List.length_map]
  obtain ⟨b, off, ra, rc, rfl, -⟩ := (HZ2.out.later HB23.out).at_ (i := j) (by omega)
  have hRD : ReadZ w3 b off Z := hRW.readZ.later HB23.out
  obtain ⟨hoff, hfree⟩ := (hRW.later HB23.out).free (by omega)
  subst hoff
  have hjZ : j + 1 < Z.length := by omega
  obtain ⟨ra, rc, e0, x0, x1⟩ := hRD.at_ (i := j) (by omega)
  obtain ⟨sa, sc, e1, y0, y1⟩ := hRD.at_ (i := j + 1) hjZ
  have f0 := hfree j 0 (by omega) (by omega)
  have f1 := hfree j 1 (by omega) (by omega)
  have f2 := hfree (j + 1) 0 hjZ (by omega)
  have f3 := hfree (j + 1) 1 hjZ (by omega)
  rw [Nat.add_zero] at f0 f2
  have hbB : w.heap.size ≤ b := by
    obtain ⟨a', c', e', -, -, -, -, hown⟩ := hRW.form
    cases e'
    have := hown b 0 rfl
    simp at this
    omega
  have HBB : Hid (w.heap.size ≤ b) := hbB
  have HB3 : Hid (Below w.heap.size w w3) := chain HB2.out HB23.out
  have HRI3 : Hid (riseZ R = true) := HRI
  have hRj : R[j]'(by omega) = Z[j].2 := by subst hZR; rw [List.getElem_map]
  have hRj1 : R[j + 1] = Z[j + 1].2 := by subst hZR; rw [List.getElem_map]
  have HW0 : Hid (RdZ ((((w3.drew.setCell ⟨b, 0 + j * 2, none⟩ (.slice sa Z[j + 1].2.row.length sc)).setCell ⟨b, 0 + j * 2 + 1, none⟩ (.int .i64 Z[j + 1].2.wt)).setCell ⟨b, 0 + (j + 1) * 2, none⟩ (.slice ra Z[j].2.row.length rc)).setCell ⟨b, 0 + (j + 1) * 2 + 1, none⟩ (.int .i64 Z[j].2.wt)) (some ⟨b, 0, none⟩) ((R.set j R[j + 1]).set (j + 1) (R[j]'(by omega)))) := by
    show RdZ _ _ _
    have := (way_swap (hRD.later (Below.refl _ _).drew) hjZ e0 e1).rdZ
    rw [List.map_set, List.map_set, hZR] at this
    rw [hRj, hRj1]
    exact this
  have HW1 : Hid (RdZ ((w3.setCell ⟨b, 0 + (j + 1) * 2, none⟩ (.slice ra Z[j].2.row.length rc)).setCell ⟨b, 0 + (j + 1) * 2 + 1, none⟩ (.int .i64 Z[j].2.wt)) (some ⟨b, 0, none⟩) (R.set (j + 1) (R[j]'(by omega)))) := by
    show RdZ _ _ _
    have := (way_twice hRD hjZ e0).rdZ
    rw [List.map_set, hZR] at this
    rw [hRj]
    exact this
  have HW2 : Hid (RdZ (w3.setCell ⟨b, 0 + j * 2 + 1, none⟩ (.int .i64 0)) (some ⟨b, 0, none⟩) (R.set j ⟨(R[j]'(by omega)).row, 0⟩)) := by
    show RdZ _ _ _
    have := (hRD.put1 (show j < Z.length by omega) e0 (p := 0) (by constructor <;> decide)).rdZ
    rw [List.map_set, hZR] at this
    rw [hRj]
    exact this
  have HW3 : Hid (RdZ (w3.setCell ⟨b, 0 + j * 2 + 1, none⟩ (.int .i64 72057594037927937)) (some ⟨b, 0, none⟩) (R.set j ⟨(R[j]'(by omega)).row, 72057594037927937⟩)) := by
    show RdZ _ _ _
    have := (hRD.put1 (show j < Z.length by omega) e0 (p := 72057594037927937) (by constructor <;> decide)).rdZ
    rw [List.map_set, hZR] at this
    rw [hRj]
    exact this
  have HN0 : Hid (riseZ ((R.set j R[j + 1]).set (j + 1) (R[j]'(by omega))) = false) := bent_swap hjR HRI.out
  have HN1 : Hid (riseZ (R.set (j + 1) (R[j]'(by omega))) = false) := bent_twice hjR
  have HN2 : Hid (riseZ (R.set j ⟨(R[j]'(by omega)).row, 0⟩) = false) := bent_nought (by omega)
  have HN3 : Hid (riseZ (R.set j ⟨(R[j]'(by omega)).row, 72057594037927937⟩) = false) := bent_great (by omega)
  have HL0 : Hid (((R.set j R[j + 1]).set (j + 1) (R[j]'(by omega))).length = m) := by show _ = _; simp [HM.out]
  have HL1 : Hid ((R.set (j + 1) (R[j]'(by omega))).length = m) := by show _ = _; simp [HM.out]
  have HL2 : Hid ((R.set j ⟨(R[j]'(by omega)).row, 0⟩).length = m) := by show _ = _; simp [HM.out]
  have HL3 : Hid ((R.set j ⟨(R[j]'(by omega)).row, 72057594037927937⟩).length = m) := by show _ = _; simp [HM.out]
  have hcm : m ≤ c5 := by have := HC5.out; rw [HM.out] at this; exact this
  simp only [Nat.zero_add] at HW0 HW1 HW2 HW3 x0 x1 y0 y1
  generalize (R.set j R[j + 1]).set (j + 1) (R[j]'(by omega)) = Y0 at *
  generalize R.set (j + 1) (R[j]'(by omega)) = Y1 at *
  generalize R.set j ⟨(R[j]'(by omega)).row, 0⟩ = Y2 at *
  generalize R.set j ⟨(R[j]'(by omega)).row, 72057594037927937⟩ = Y3 at *
  generalize Z[j].2.row.length = rn at *
  generalize Z[j].2.wt = p at *
  generalize Z[j + 1].2.row.length = sn at *
  generalize Z[j + 1].2.wt = q at *
  have i0 : (0 : Int) ≤ (j : Int) := by omega
  have i1 : (j : Int) < (m : Int) := by omega
  have i2 : (j : Int) + 1 < (m : Int) := by omega
  have i3 : (0 : Int) ≤ (j : Int) + 1 := by omega
  have iw : wrap64 ((j : Int) + 1) = (j : Int) + 1 := wrap_in (by omega)
  have iw2 : IntKind.i64.wrap ((j : Int) + 1) = (j : Int) + 1 := wrap_next j (Nat.lt_of_lt_of_le hjm m60)
  clear hRW hm2 CZ HRW hRD hfree e0 e1 hRj hRj1 hZR hzl hjR hjZ hbB HZ2 HB23 HB2 HN5 HC5 HRI HRI3 HM HRL
  go_wp2_with fail
  have HL := HL3
  have HN := HN3
  have HR := HW3
  have HB : Hid (Below w.heap.size w _) := ((HB3.out).setCell (p := ⟨b, j * 2 + 1, none⟩) HBB.out (.int .i64 72057594037927937))
  clear HW0 HW1 HW2 HW3 HN0 HN1 HN2 HN3 HL0 HL1 HL2 HL3 x0 x1 y0 y1 f0 f1 f2 f3 HBB HB3
  have C1 := zNeg_bad (some ⟨b, 0, none⟩) m c5 Y3 _ HL.out (by omega) HR.out HN.out
  refine C1.mono ?_
  rintro e w6 ⟨rfl, hb⟩
  replace HR : Hid (RdZ w6 (some ⟨b, 0, none⟩) Y3) := HR.out.later hb
  replace HB : Hid (Below w.heap.size w w6) := chain HB.out hb
  clear C1 hb
  have C2 := zAdd_any (some ⟨b, 0, none⟩) none m 0 c5 0 Y3 [] w6 HL.out rfl (by omega) (by omega) hcm (Nat.le_refl _) (fun h => by cases h) (fun _ => ⟨rfl, rfl⟩) HR.out (RdZ.nil _ _)
  rw [add_bent HN.out] at C2
  go_wp2_with fail
  refine C2.mono ?_
  rintro e w7 ⟨v, Z', rfl, hZ', hRz', hb⟩
  obtain ⟨a8, c8, rfl, -⟩ := hRz'.form
  obtain rfl : Z' = [] := by simpa using hZ'
  replace HR : Hid (RdZ w7 (some ⟨b, 0, none⟩) Y3) := HR.out.later hb
  replace HB : Hid (Below w.heap.size w w7) := chain HB.out hb
  clear C2 hb hZ' hRz'
  have C3 := zCheck_any (some ⟨b, 0, none⟩) m c5 Y3 w7 HL.out (by omega) HR.out
  rw [chkZ_no HN.out] at C3
  go_wp2_with fail
  refine C3.mono ?_
  rintro e w8 ⟨rfl, hb⟩
  replace HR : Hid (RdZ w8 (some ⟨b, 0, none⟩) Y3) := HR.out.later hb
  replace HB : Hid (Below w.heap.size w w8) := chain HB.out hb
  clear C3 hb
  have C4 := zSize_any (some ⟨b, 0, none⟩) m c5 Y3 w8 HL.out (by omega) HR.out
  rw [size_bent HN.out] at C4
  go_wp2_with fail
  refine C4.mono ?_
  rintro e w9 ⟨rfl, hb⟩
  replace HB : Hid (Below w.heap.size w w9) := chain HB.out hb
  clear C4 hb
  go_wp2_with fail
  refine (zwakes_any _).mono ?_
  rintro e wa ⟨rfl, hb⟩
  go_wp2
  go_ret
  exact ⟨by simp, chain HB.out hb⟩

theorem bent_any (a : Option Addr) (n cap : Nat) (X : List PI) (what kk : Int) (w : World) (hn : X.length = n) (hl : n ≤ 9223372036854775807) (hX : RdJ w a X) :
    Calls Try.prog 6 #[.slice a n cap, .int .i64 what, .int .i64 kk] w fun e w' => e = .returned (.bool true) ∧ Below w.heap.size w w' := by
  cases hh : heavyI X with
  | true => exact bent_heavy a n cap X what kk w hn hl hX hh
  | false =>
    have hu1 : 0 ≤ IntKind.u64.wrap what := by rw [IntKind.wrap_u64]; omega
    have h4 : (IntKind.u64.wrap what).tmod 4 = 0 ∨ (IntKind.u64.wrap what).tmod 4 = 1 ∨ (IntKind.u64.wrap what).tmod 4 = 2 ∨ (IntKind.u64.wrap what).tmod 4 = 3 := by
      rw [Int.tmod_eq_emod_of_nonneg hu1]
      omega
    rcases h4 with h4 | h4 | h4 | h4
    · exact bent_way0 a n cap X what kk w hn hl hX hh h4
    · exact bent_way1 a n cap X what kk w hn hl hX hh h4
    · exact bent_way2 a n cap X what kk w hn hl hX hh h4
    · exact bent_way3 a n cap X what kk w hn hl hX hh h4

end Go.Proofs.Ytajlkaedkifaoaa
