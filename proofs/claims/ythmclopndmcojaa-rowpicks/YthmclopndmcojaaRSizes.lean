/-
  RowSizes' walk: what the law answers, whatever its rows and its number.
-/
import Derived.Test.YthmclopndmcojaaRows
import Derived.Test.YthmclopndmcojaaROrder
namespace Go.Proofs.Ythmclopndmcojaa
open Go.RowKit Go.Lib
set_option linter.unusedVariables false

theorem bytesR_inj {l r : List PV} (hl : chkR l = 0) (hr : chkR r = 0) (h : bytesR l = bytesR r) : l = r := by
  have h1 := readR_bytes (vs := l) (l := bytesR l) (r := []) (p := 0) hl (by simp)
  have h2 := readR_bytes (vs := r) (l := bytesR r) (r := []) (p := 0) hr (by simp)
  rw [h, h2] at h1
  simp only [Prod.mk.injEq] at h1
  exact h1.1.symm

theorem bytesR_same {l r : List PV} (hl : chkR l = 0) (hr : chkR r = 0) : decide (bytesR l = bytesR r) = sameVs l r := by
  rw [Bool.eq_iff_iff, decide_eq_true_eq, sameVs_iff]
  exact ⟨bytesR_inj hl hr, fun h => by rw [h]⟩

theorem readR_zero (l : List UInt8) : readR l 0 = ([], 0, 3) ∨ ∃ vs n, readR l 0 = (vs, n, 0) := by
  unfold readR
  rw [if_neg (by omega)]
  split
  · exact .inl rfl
  · split
    · exact .inl rfl
    · split
      · exact .inl rfl
      · exact .inr ⟨_, _, rfl⟩

theorem readR_cut {l : List PV} {j : Nat} (hl : chkR l = 0) (hj : j < (bytesR l).length) : readR ((bytesR l).take j) 0 = ([], 0, 3) := by
  rcases readR_zero ((bytesR l).take j) with h | ⟨vs, n, h⟩
  · exact h
  · exfalso
    obtain ⟨q, hq, hok, ⟨rest, hd⟩, _⟩ := readR_inv h
    obtain rfl : q = 0 := by omega
    have hd2 : (bytesR l).drop 0 = bytesR vs ++ (rest ++ (bytesR l).drop j) := by
      rw [List.drop_zero, ← List.append_assoc]
      rw [List.drop_zero] at hd
      rw [← hd, List.take_append_drop]
    have h1 := readR_bytes hok hd2
    have h2 := readR_bytes (vs := l) (l := bytesR l) (r := []) (p := 0) hl (by simp)
    rw [h1] at h2
    simp only [Prod.mk.injEq] at h2
    obtain ⟨rfl, _⟩ := h2
    have hlen := congrArg List.length hd
    simp at hlen
    omega

theorem bytesR_pos (l : List PV) : 1 ≤ (bytesR l).length := by simp [bytesR]

theorem bytesR_small {l : List PV} (h : chkR l = 0) : (bytesR l).length ≤ 400 := by
  obtain ⟨h1, h2⟩ := chkR_ok.1 h
  have := bytesVs_small h2
  simp [bytesR]
  omega

set_option maxRecDepth 100000 in
set_option maxHeartbeats 4000000 in
theorem rsizes_some (VB : ValueBytes) (R : RowApi) (a b : Option Addr) (n m cap dap : Nat) (l r : List PV) (cut : Int) (w : World) (hn : l.length = n) (hm : r.length = m) (ha : RdV w a l) (hb : RdV w b r)
    (C : Calls Try.prog 9 #[.slice a n cap] w fun e w' => e = .returned (.bool false) ∧ w' = w) (D : Calls Try.prog 9 #[.slice b m dap] w fun e w' => e = .returned (.bool false) ∧ w' = w) (hl : chkR l = 0) (hr : chkR r = 0) :
    Calls Try.prog 8 #[.slice a n cap, .slice b m dap, .int .i64 cut] w fun e w' => e = .returned (.bool true) ∧ Below w.heap.size w w' := by
  obtain ⟨hn12, hall⟩ := chkR_ok.1 hl
  obtain ⟨hm12, _⟩ := chkR_ok.1 hr
  rw [hn] at hn12
  rw [hm] at hm12
  have HN : Hid (l.length = n) := hn
  have HM : Hid (r.length = m) := hm
  have HA0 : Hid (RdV w a l) := ha
  have HB0 : Hid (RdV w b r) := hb
  have HK : Hid (chkR l = 0) := hl
  have HK' : Hid (chkR r = 0) := hr
  have HAll : Hid (l.all okV = true) := hall
  have RA := fun W h => rRow_any a n cap l W HN.out (by omega) h
  have RB := fun W h => rRow_any b m dap r W HM.out (by omega) h
  rw [hl] at RA
  rw [hr] at RB
  have BA := fun W h => R.bytes a n cap l W HN.out (by omega) h
  have BB := fun W h => R.bytes b m dap r W HM.out (by omega) h
  rw [putR_ok hl] at BA
  rw [putR_ok hr] at BB
  clear hn hm ha hb hl hr hall
  go_enter Try.func8, Try.ntmps8
  go_wp2_with fail
  refine C.mono ?_
  rintro e w1 ⟨rfl, hw1⟩
  subst w1
  go_wp2_with fail
  refine D.mono ?_
  rintro e w1 ⟨rfl, hw1⟩
  subst w1
  go_wp2_with fail
  refine (RA _ HA0.out).mono ?_
  rintro e w1 ⟨rfl, hb1⟩
  have HX : Hid (Below w.heap.size w w1) := hb1
  clear hb1
  go_wp2_with fail
  refine (RB _ (HB0.out.later HX.out)).mono ?_
  rintro e w2 ⟨rfl, hb1⟩
  replace HX : Hid (Below w.heap.size w w2) := chain HX.out hb1
  clear hb1 C D RA RB
  go_wp2_with fail
  refine (BA _ (HA0.out.later HX.out)).mono ?_
  rintro e w3 ⟨ax, nx, cx, rfl, hnx, hsx, hcx, hrx, hnlx, hb1⟩
  simp only at hnx hrx hnlx ⊢
  replace HX : Hid (Below w.heap.size w w3) := chain HX.out hb1
  have HRX : Hid (Rd w3 ax (bytesR l)) := hrx
  have HNX : Hid ((bytesR l).length = nx) := hnx
  have px : 1 ≤ nx := by rw [← hnx]; exact bytesR_pos l
  have px4 : nx ≤ 400 := by rw [← hnx]; exact bytesR_small HK.out
  clear hb1 hnx hrx hnlx BA
  go_wp2_with fail
  refine (BB _ (HB0.out.later HX.out)).mono ?_
  rintro e w4 ⟨ay, ny, cy, rfl, hny, hsy, hcy, hry, hnly, hb1⟩
  simp only at hny hry hnly ⊢
  replace HX : Hid (Below w.heap.size w w4) := chain HX.out hb1
  replace HRX : Hid (Rd w4 ax (bytesR l)) := HRX.out.later hb1
  have HRY : Hid (Rd w4 ay (bytesR r)) := hry
  have HNY : Hid ((bytesR r).length = ny) := hny
  have py4 : ny ≤ 400 := by rw [← hny]; exact bytesR_small HK'.out
  clear hb1 hny hry hnly BB
  obtain ⟨bx, ox, rfl⟩ := HRX.out.some_of (by rw [HNX.out]; omega)
  have hcell : w4.cell? ⟨bx, ox, none⟩ = some (.int .u8 (n : Int)) := by
    have h1 := HRX.out
    unfold bytesR at h1
    obtain ⟨b', o', e', hc'⟩ := h1 (by simp)
    cases e'
    have h2 := hc' 0 (by simp)
    simp only [Nat.add_zero, List.getElem_cons_zero] at h2
    rw [HN.out, ofNat_small (by omega)] at h2
    exact h2
  have b1' : (0 : Int) < (nx : Int) := by omega
  have b2' : ((nx : Int) == 0) = false := by simp; omega
  go_wp2_with fail
  refine (bytes_any (some ⟨bx, ox, none⟩) ay nx ny cx cy _ _ _ HNX.out HNY.out (by omega) (by omega) HRX.out HRY.out).mono ?_
  rintro e w5 ⟨rfl, hb1⟩
  rw [bytesR_same HK.out HK'.out]
  replace HX : Hid (Below w.heap.size w w5) := chain HX.out hb1
  replace HRX : Hid (Rd w5 (some ⟨bx, ox, none⟩) (bytesR l)) := HRX.out.later hb1
  clear hb1 HRY hcell
  go_wp2_with fail
  refine (keepRow_any a b n m cap dap l r _ HN.out HM.out (by omega) (by omega) (HA0.out.later HX.out) (HB0.out.later HX.out)).mono ?_
  rintro e w6 ⟨rfl, hb1⟩
  replace HX : Hid (Below w.heap.size w w6) := chain HX.out hb1
  replace HRX : Hid (Rd w6 (some ⟨bx, ox, none⟩) (bytesR l)) := HRX.out.later hb1
  clear hb1 HNY py4 hsy hcy
  generalize sameVs l r = SV
  have hx : ((n : Nat) : Int) = ((UInt8.ofNat l.length).toNat : Int) := by rw [HN.out, ofNat_small (by omega)]
  have HO : Hid (Own (w6.alloc (.cells #[.int .u8 (n : Int)] 5)) w6.heap.size (.slice (some ⟨w6.heap.size, 0, none⟩) 1 1) [UInt8.ofNat l.length]) := own_one w6 w6.heap.size (Nat.le_refl _) _ _ hx
  clear hx
  go_wp2
  go_loopw [11, 12] (fun o i wr => ∃ (k mm cp : Nat) (aw : Option Addr), k ≤ n ∧ i = .int .i64 k ∧ o = .slice aw mm cp ∧ mm ≤ cp ∧ mm ≤ 1 + 26 * k ∧ Hid ((UInt8.ofNat l.length :: bytesVs (l.take k)).length = mm) ∧ Hid (Own wr w6.heap.size (.slice aw mm cp) (UInt8.ofNat l.length :: bytesVs (l.take k))) ∧ Hid (Below w6.heap.size w6 wr)) (fun _ i _ => n - (RowKit.intOf i).toNat)
  case atStart => exact ⟨0, 1, 1, _, Nat.zero_le _, rfl, rfl, Nat.le_refl _, by omega, rfl, HO, alloc_below _ _⟩
  case round =>
    obtain ⟨k, mm, cp, aw, hk, rfl, rfl, hcp, hmm, hL, hO, hB⟩ := hrel
    by_cases hlt : k < n
    · have hkl : k < l.length := by rw [HN.out]; exact hlt
      obtain ⟨b1, o1, rfl, hc⟩ := HA0.out (by omega)
      obtain ⟨x0, x1, x2⟩ := hc k hkl
      have HW : Hid (Below w.heap.size w wr) := chain HX.out hB.out
      replace x0 := cell_later HW.out x0
      replace x1 := cell_later HW.out x1
      replace x2 := cell_later HW.out x2
      have HT : Hid (bytesVs (l.take (k + 1)) = bytesVs (l.take k) ++ bytesV l[k]) := bytesVs_take hkl
      have hokx : okV l[k] = true := by have h := HAll.out; rw [List.all_eq_true] at h; exact h _ (List.getElem_mem hkl)
      clear hc
      generalize l[k] = x at *
      clear hkl
      obtain ⟨k0, i0, s0⟩ := x
      simp only at x0 x1 x2
      have hsm := bytesV_small hokx
      have CB := VB k0 i0 s0
      rw [show putV ⟨k0, i0, s0⟩ = (bytesV ⟨k0, i0, s0⟩, 0) from by simp [putV, hokx]] at CB
      go_wp2_with fail
      refine (CB _).mono ?_
      rintro e w2 ⟨a2, n2, cap2, rfl, hn2, hs2, hc2, hr2, hnl2, hb2⟩
      simp only at hn2 hr2 hnl2 ⊢
      obtain ⟨a', cap', w', hrun, hc', ho', hr', hn', _, hb'⟩ := run_append_form (t := 29) (ty := 29) (cap := cap2) Try.underlying29 Try.info5 (hO.out.later hb2) (n := mm) hL.out hn2 hr2 hnl2 (by omega) (by omega) (Nat.le_trans hB.out.size hb2.size)
      rw [List.cons_append, ← HT.out] at ho' hr' hn'
      have HO' : Hid _ := ho'
      have HB' : Hid (Below w6.heap.size w6 w') := (hB.out.trans (hb2.mono hB.out.size)).trans hb'
      have HL' : Hid ((UInt8.ofNat l.length :: bytesVs (l.take (k + 1))).length = mm + n2) := by
        have h1 := hL.out
        show _ = _
        rw [HT.out, ← hn2, ← h1]
        simp
        omega
      have hn26 : n2 ≤ 26 := by omega
      clear hO hL hB ho' hr' hn' hb' hn2 hsm hr2 hnl2 hb2 HW
      go_wp2_with (at_builtin; refine wpList_append_run rfl (.tmp 92) (.tmp 93) 29 29 rfl _ _ _ _ rfl rfl hrun ?_)
      go_roundw
      case rel => exact ⟨k + 1, mm + n2, cap', a', by omega, by go_num, rfl, hc', by omega, HL', HO', HB'⟩
      case measure => simp [RowKit.intOf]; omega
    · obtain rfl : k = n := by omega
      have hT2 : l.take k = l := List.take_of_length_le (by rw [HN.out]; omega)
      rw [hT2] at hL hO
      obtain ⟨a5, cap5, e5, _, hr5, _⟩ := hO.out.form
      simp only [Value.slice.injEq] at e5
      obtain ⟨rfl, e6, rfl⟩ := e5
      have HRO : Hid (Rd wr aw (bytesR l)) := hr5
      have HLO : Hid ((bytesR l).length = mm) := hL
      replace HX : Hid (Below w.heap.size w wr) := chain HX.out hB.out
      replace HRX : Hid (Rd wr (some ⟨bx, ox, none⟩) (bytesR l)) := HRX.out.later hB.out
      clear hO hL hB hr5 e6
      obtain ⟨j, hj, hje⟩ := modLen cut nx px (by omega)
      have hj2 : (j : Int) ≤ (cx : Int) := by omega
      have hnz : (nx : Int) ≠ 0 := by omega
      have HT : Hid (((bytesR l).take j).length = j) := by show _ = _; rw [List.length_take, HNX.out]; omega
      have HC : Hid (readR ((bytesR l).take j) 0 = ([], 0, 3)) := readR_cut HK.out (by rw [HNX.out]; exact hj)
      have HRT : Hid (Rd wr (some ⟨bx, ox, none⟩) ((bytesR l).take j)) := by
        have := HRX.out.cut 0 j
        rw [Nat.add_zero, List.drop_zero] at this
        exact this
      go_wp2_with fail
      refine (R.read (some ⟨bx, ox, none⟩) j cx 0 ((bytesR l).take j) _ HT.out (by omega) (by omega) HRT.out).mono ?_
      rintro e w2 ⟨a2, n2, cap2, rfl, hn2, _, hc2, _, _, _, hb2⟩
      rw [HC.out] at hn2 ⊢
      simp only [List.length_nil] at hn2 ⊢
      subst hn2
      replace HX : Hid (Below w.heap.size w w2) := chain HX.out hb2
      go_wp2_with fail
      refine (bytes_any (some ⟨bx, ox, none⟩) aw nx mm cx cp _ _ _ HNX.out HLO.out (by omega) (by omega) (HRX.out.later hb2) (HRO.out.later hb2)).mono ?_
      rintro e w3 ⟨rfl, hb3⟩
      rw [show decide (bytesR l = bytesR l) = true from by simp]
      replace HX : Hid (Below w.heap.size w w3) := chain HX.out hb3
      clear hb2 hb3
      go_wp2_with fail
      refine (rwakes_any R _).mono ?_
      rintro e w4 ⟨rfl, hb4⟩
      go_wp2
      go_ret
      exact ⟨rfl, chain HX.out hb4⟩

set_option maxRecDepth 100000 in
set_option maxHeartbeats 1000000 in
theorem rsizes_out (a b : Option Addr) (n m cap dap : Nat) (l r : List PV) (cut : Int) (w : World)
    (H : (Calls Try.prog 9 #[.slice a n cap] w fun e w' => e = .returned (.bool true) ∧ w' = w) ∨
      ((Calls Try.prog 9 #[.slice a n cap] w fun e w' => e = .returned (.bool false) ∧ w' = w) ∧
        ((Calls Try.prog 9 #[.slice b m dap] w fun e w' => e = .returned (.bool true) ∧ w' = w) ∨
          ((Calls Try.prog 9 #[.slice b m dap] w fun e w' => e = .returned (.bool false) ∧ w' = w) ∧ l.length = n ∧ r.length = m ∧ n ≤ 40 ∧ m ≤ 40 ∧ RdV w a l ∧ RdV w b r ∧ (chkR l ≠ 0 ∨ chkR l = 0 ∧ chkR r ≠ 0))))) :
    Calls Try.prog 8 #[.slice a n cap, .slice b m dap, .int .i64 cut] w fun e w' => e = .returned (.bool true) ∧ Below w.heap.size w w' := by
  rcases H with C | ⟨C, D | ⟨D, hn, hm, h40, h40', ha, hb, hk⟩⟩
  · go_enter Try.func8, Try.ntmps8
    go_wp2_with fail
    refine C.mono ?_
    rintro e w1 ⟨rfl, rfl⟩
    go_wp2
    go_ret
    exact ⟨rfl, Below.refl _ _⟩
  · go_enter Try.func8, Try.ntmps8
    go_wp2_with fail
    refine C.mono ?_
    rintro e w1 ⟨rfl, hw1⟩
    subst w1
    go_wp2_with fail
    refine D.mono ?_
    rintro e w1 ⟨rfl, rfl⟩
    go_wp2
    go_ret
    exact ⟨rfl, Below.refl _ _⟩
  · have HN : Hid (l.length = n) := hn
    have HM : Hid (r.length = m) := hm
    have HB : Hid (RdV w b r) := hb
    have RA := rRow_any a n cap l w HN.out (by omega) ha
    have RB := fun W h => rRow_any b m dap r W HM.out (by omega) h
    clear hn hm ha hb
    rcases hk with hk | ⟨hk, hk'⟩
    · generalize chkR l = q at *
      have hq : (q != 0) = true := by simp [hk]
      go_enter Try.func8, Try.ntmps8
      go_wp2_with fail
      refine C.mono ?_
      rintro e w1 ⟨rfl, hw1⟩
      subst w1
      go_wp2_with fail
      refine D.mono ?_
      rintro e w1 ⟨rfl, hw1⟩
      subst w1
      go_wp2_with fail
      refine RA.mono ?_
      rintro e w1 ⟨rfl, hb1⟩
      go_wp2
      go_ret
      exact ⟨rfl, hb1⟩
    · rw [hk] at RA
      clear hk
      generalize chkR r = q at *
      have hq : (q != 0) = true := by simp [hk']
      go_enter Try.func8, Try.ntmps8
      go_wp2_with fail
      refine C.mono ?_
      rintro e w1 ⟨rfl, hw1⟩
      subst w1
      go_wp2_with fail
      refine D.mono ?_
      rintro e w1 ⟨rfl, hw1⟩
      subst w1
      go_wp2_with fail
      refine RA.mono ?_
      rintro e w1 ⟨rfl, hb1⟩
      go_wp2_with fail
      refine (RB _ (HB.out.later hb1)).mono ?_
      rintro e w2 ⟨rfl, hb2⟩
      go_wp2
      go_ret
      exact ⟨rfl, chain hb1 hb2⟩

theorem rsizes_walk (VB : ValueBytes) (R : RowApi) (a b : Option Addr) (n m cap dap : Nat) (x y : List PV) (cut : Int) (w : World) (hx : IsVals w a n cap x) (hy : IsVals w b m dap y) :
    Calls Try.prog 8 #[.slice a n cap, .slice b m dap, .int .i64 cut] w fun e w' => e = .returned (.bool true) ∧ Below w.heap.size w w' := by
  rcases heavy_in a n cap x w hx with C | ⟨h1, h2, C⟩
  · exact rsizes_out a b n m cap dap x y cut w (.inl C)
  rcases heavy_in b m dap y w hy with D | ⟨h3, h4, D⟩
  · exact rsizes_out a b n m cap dap x y cut w (.inr ⟨C, .inl D⟩)
  obtain ⟨hn, _, hr, _⟩ := hx.vals
  obtain ⟨hm, _, hr2, _⟩ := hy.vals
  by_cases k1 : chkR x = 0
  · by_cases k2 : chkR y = 0
    · exact rsizes_some VB R a b n m cap dap x y cut w hn hm hr hr2 C D k1 k2
    · exact rsizes_out a b n m cap dap x y cut w (.inr ⟨C, .inr ⟨D, hn, hm, h1, h3, hr, hr2, .inr ⟨k1, k2⟩⟩⟩)
  · exact rsizes_out a b n m cap dap x y cut w (.inr ⟨C, .inr ⟨D, hn, hm, h1, h3, hr, hr2, .inl k1⟩⟩)

end Go.Proofs.Ythmclopndmcojaa
