/-
  MatExact's walk: what the law answers, whatever its matrix, its vectors and its numbers.
-/
import Derived.Test.YtljikgjgcpheaaaRows
import Derived.Test.YtljikgjgcpheaaaMLaws
import Derived.Test.YtljikgjgcpheaaaMRef
import Derived.Deep.CutRange
namespace Go.Proofs.Ytljikgjgcpheaaa
open Go.RowKit Go.Lib
set_option linter.unusedVariables false

set_option maxRecDepth 100000 in
set_option maxHeartbeats 1000000 in
theorem mexact_heavy (a ah az : Option Addr) (n cap h hcap s scap : Nat) (p x : Int) (w : World) (C : Calls Try.prog 7 #[.slice a n cap] w fun e w' => e = .returned (.bool true) ∧ w' = w) :
    Calls Try.prog 3 #[.slice a n cap, .slice ah h hcap, .int .i64 p, .slice az s scap, .int .i64 x] w fun e w' => e = .returned (.bool true) ∧ Below w.heap.size w w' := by
  go_enter Try.func3, Try.ntmps3
  go_wp2_with fail
  refine C.mono ?_
  rintro e w1 ⟨rfl, hw⟩
  subst w1
  go_wp2
  go_ret
  exact ⟨rfl, Below.refl _ _⟩

set_option maxRecDepth 100000 in
set_option maxHeartbeats 1000000 in
theorem mexact_heavy2 (a ah az : Option Addr) (n cap h hcap s scap : Nat) (p x : Int) (w : World) (C : Calls Try.prog 7 #[.slice a n cap] w fun e w' => e = .returned (.bool false) ∧ w' = w)
    (C2 : Calls Try.prog 7 #[.slice (some ⟨w.heap.size, 0, none⟩) 2 2] (w.alloc (.cells #[.slice ah h hcap, .slice az s scap] 23)) fun e w' => e = .returned (.bool true) ∧ w' = w.alloc (.cells #[.slice ah h hcap, .slice az s scap] 23)) :
    Calls Try.prog 3 #[.slice a n cap, .slice ah h hcap, .int .i64 p, .slice az s scap, .int .i64 x] w fun e w' => e = .returned (.bool true) ∧ Below w.heap.size w w' := by
  go_enter Try.func3, Try.ntmps3
  go_wp2_with fail
  refine C.mono ?_
  rintro e w1 ⟨rfl, hw⟩
  subst w1
  go_wp2_with fail
  refine C2.mono ?_
  rintro e w1 ⟨rfl, hw⟩
  subst w1
  go_wp2
  go_ret
  exact ⟨rfl, alloc_below _ _⟩

set_option maxRecDepth 100000 in
set_option maxHeartbeats 10000000 in
theorem mexact_some (a ah az : Option Addr) (n cap h hcap s scap : Nat) (p x : Int) (L : List (List Int)) (H S : List Int) (w : World) (C : Calls Try.prog 7 #[.slice a n cap] w fun e w' => e = .returned (.bool false) ∧ w' = w)
    (C2 : Calls Try.prog 7 #[.slice (some ⟨w.heap.size, 0, none⟩) 2 2] (w.alloc (.cells #[.slice ah h hcap, .slice az s scap] 23)) fun e w' => e = .returned (.bool false) ∧ w' = w.alloc (.cells #[.slice ah h hcap, .slice az s scap] 23))
    (hn : L.length = n) (n30 : n ≤ 30) (hv : ∀ v ∈ L, v.length ≤ 30) (hr : RdII w a L) (hcapn : n ≤ cap) (hh : H.length = h) (h30 : h ≤ 30) (rh : RdI .i64 w ah H) (nh : ah = none → H = [] ∧ hcap = 0) (hs : S.length = s) (s30 : s ≤ 30) (rs : RdI .i64 w az S) (ns : az = none → S = [] ∧ scap = 0) (hx : In64 x) (hp64 : In64 p) :
    Calls Try.prog 3 #[.slice a n cap, .slice ah h hcap, .int .i64 p, .slice az s scap, .int .i64 x] w fun e w' => e = .returned (.bool true) ∧ Below w.heap.size w w' := by
  have HV : Hid (∀ v ∈ L, v.length ≤ 65536) := fun v h => by have := hv v h; omega
  have HN : Hid (L.length = n) := hn
  have HH : Hid (H.length = h) := hh
  have HS : Hid (S.length = s) := hs
  have HR0 : Hid (RdII w a L) := hr
  have HRh : Hid (RdI .i64 w ah H) := rh
  have HRs : Hid (RdI .i64 w az S) := rs
  clear hv hr rh rs hn hh hs
  go_enter Try.func3, Try.ntmps3
  go_wp2_with fail
  refine C.mono ?_
  rintro e w1 ⟨rfl, hw⟩
  subst w1
  go_wp2_with fail
  refine C2.mono ?_
  rintro e w1 ⟨rfl, hw⟩
  have HB1 : Hid (Below w.heap.size w w1) := by rw [hw]; exact alloc_below _ _
  clear C C2 hw
  go_wp2_with fail
  refine (twinIntRows_any a n cap L _ HN.out (by omega) HV.out (HR0.out.later HB1.out)).mono ?_
  rintro e w2 ⟨ai, ci, rfl, hci, hri, _, hb2⟩
  have HI2 : Hid (RdII w2 ai L) := hri
  have HB2 : Hid (Below w.heap.size w w2) := chain HB1.out hb2
  clear hri hb2 HB1
  go_wp2_with fail
  refine (twinInts_any ah h hcap H _ HH.out (by omega) nh (HRh.out.later HB2.out)).mono ?_
  rintro e w3 ⟨aj, cj, rfl, hcj, _, _, hrj, hb3⟩
  have HI3 : Hid (RdII w3 ai L) := HI2.out.later hb3
  have HJ3 : Hid (RdI .i64 w3 aj H) := hrj
  have HB3 : Hid (Below w.heap.size w w3) := chain HB2.out hb3
  clear hrj hb3 HI2 HB2
  go_wp2_with fail
  refine (twinInts_any az s scap S _ HS.out (by omega) ns (HRs.out.later HB3.out)).mono ?_
  rintro e w4 ⟨ak, ck, rfl, hck, _, _, hrk, hb4⟩
  have HI4 : Hid (RdII w4 ai L) := HI3.out.later hb4
  have HJ4 : Hid (RdI .i64 w4 aj H) := HJ3.out.later hb4
  have HK4 : Hid (RdI .i64 w4 ak S) := hrk
  have HB4 : Hid (Below w.heap.size w w4) := chain HB3.out hb4
  clear hrk hb4 HI3 HJ3 HB3
  go_wp2_with fail
  refine (rMatrix_any a n cap L _ HN.out (by omega) HV.out (HR0.out.later HB4.out)).mono ?_
  rintro e w5 ⟨rfl, hw⟩
  subst w5
  go_wp2_with fail
  refine (mNew_any x _).mono ?_
  rintro e w5 ⟨ax, nx, cx, c, rfl, hnx, hrx, hb5⟩
  have HX5 : Hid (RdII w5 ax (List.replicate nx (List.replicate nx 0))) := hrx
  have HI5 : Hid (RdII w5 ai L) := HI4.out.later hb5
  have HJ5 : Hid (RdI .i64 w5 aj H) := HJ4.out.later hb5
  have HK5 : Hid (RdI .i64 w5 ak S) := HK4.out.later hb5
  have HB5 : Hid (Below w.heap.size w w5) := chain HB4.out hb5
  have hnx5 : nx ≤ 5 := by omega
  have HNX : Hid _ := hnx
  clear hrx hb5 HI4 HJ4 HK4 HB4 hnx
  generalize hMc : matD L = mc at *
  have HMc : Hid (matD L = mc) := hMc
  clear hMc
  unfold In64 at hx hp64
  obtain ⟨hx0, hx1⟩ := hx
  obtain ⟨hp0, hp1⟩ := hp64
  obtain ⟨bad, hbad⟩ : ∃ c : Bool, c = decide (x < 1 ∨ 5 < x) := ⟨_, rfl⟩
  have HBad : Hid (bad = decide (x < 1 ∨ 5 < x)) := hbad
  clear hbad
  go_upto_region 6 with fail
  go_cut [54] from 49 (fun c wx => c = .bool bad ∧ wx = w5)
  case first =>
    as_aux_lemma =>
    by_cases hx2 : x < 1
    · have e : bad = true := by rw [HBad.out]; simp [hx2]
      subst e
      go_wp2
      go_meet
      exact ⟨rfl, rfl⟩
    · by_cases hx5 : 5 < x
      · have e : bad = true := by rw [HBad.out]; simp [hx5]
        subst e
        go_wp2
        go_meet
        exact ⟨rfl, rfl⟩
      · have e : bad = false := by rw [HBad.out]; simp; omega
        subst e
        go_wp2
        go_meet
        exact ⟨rfl, rfl⟩
  case rest =>
  as_aux_lemma =>
  obtain ⟨rfl, hcut⟩ := hcut
  subst hcut
  go_upto_if 54 with fail
  go_cut [] from 49 (fun wx => wx = wc)
  case first =>
    rcases HNX.out with ⟨hb, rfl, rfl⟩ | ⟨rfl, ⟨h1, h5⟩, rfl⟩
    · have e : bad = true := by rw [HBad.out]; simpa using hb
      subst e
      go_wp2
      go_meet
      rfl
    · have e : bad = false := by rw [HBad.out]; simp; omega
      subst e
      have hm : MatR nx (List.replicate nx (List.replicate nx 0)) := MatR.zero h1 h5
      have C3 := rMatrix_any ax nx cx _ wc hm.len (by omega) hm.small HX5.out
      rw [hm.ok] at C3
      clear hm
      go_wp2_with fail
      refine C3.mono ?_
      rintro e w6 ⟨rfl, hw⟩
      subst w6
      go_wp2
      go_meet
      rfl
  case rest =>
  as_aux_lemma =>
  subst hcut
  clear HNX HBad
  go_wp2
  go_loop [17] (fun i => ∃ j : Nat, j ≤ nx ∧ i = .int .i64 j) (fun i => nx - (RowKit.intOf i).toNat)
  case atStart => exact ⟨0, Nat.zero_le _, rfl⟩
  case round =>
  obtain ⟨j, hj, rfl⟩ := hrel
  by_cases hlt : j < nx
  · have hjl : j < (List.replicate nx (List.replicate nx (0 : Int))).length := by simpa using hlt
    obtain ⟨b1, o1, rfl, hc1⟩ := HX5.out (by omega)
    obtain ⟨u, x0, a2, cap2, rfl, hc2, hr2, hn2⟩ := hc1 j hjl
    simp only [List.getElem_replicate, List.length_replicate] at x0 hc2 hr2 hn2
    obtain ⟨b2, o2, rfl, hc3⟩ := hr2 (by simp; omega)
    have HC3 : Hid (∀ i, i < nx → wc.cell? ⟨b2, o2 + i, none⟩ = some (.int .i64 0)) := fun i hi => by
      have := hc3 i (by simpa using hi)
      simpa using this
    clear hc1 hr2 hn2 hc3 hjl
    go_wp2
    go_loop [18] (fun i => ∃ q : Nat, q ≤ nx ∧ i = .int .i64 q) (fun i => nx - (RowKit.intOf i).toNat)
    case atStart => exact ⟨0, Nat.zero_le _, rfl⟩
    case round =>
    obtain ⟨q, hq, rfl⟩ := hrel
    by_cases hlq : q < nx
    · have y0 := HC3.out q hlq
      go_wp2
      go_round
      case rel => exact ⟨q + 1, by omega, by go_num⟩
      case measure => simp [RowKit.intOf]; omega
    · obtain rfl : q = nx := by omega
      go_wp2
      go_round
      case rel => exact ⟨j + 1, by omega, by go_num⟩
      case measure => simp [RowKit.intOf]; omega
  obtain rfl : j = nx := by omega
  clear hlt hj HX5
  have LXl : Hid ((learnX L H p S).1.length ≤ 5 ∨ True) := .inr trivial
  go_wp2_with fail
  refine (mLearn_any ai aj ak n ci h cj s ck p L H S _ HN.out (by omega) HV.out HI5.out HH.out HS.out (by omega) (by omega) HJ5.out HK5.out).mono ?_
  rintro e w6 ⟨ay, ny, cy, rfl, hny, ny5, hry, hb6⟩
  have HNy : Hid ((learnX L H p S).1.length = ny) := hny
  have HY6 : Hid (RdII w6 ay (learnX L H p S).1) := hry
  have HI6 : Hid (RdII w6 ai L) := HI5.out.later hb6
  have HJ6 : Hid (RdI .i64 w6 aj H) := HJ5.out.later hb6
  have HK6 : Hid (RdI .i64 w6 ak S) := HK5.out.later hb6
  have HB6 : Hid (Below w.heap.size w w6) := chain HB5.out hb6
  clear hry hb6 HI5 HJ5 HK5 HB5 hny LXl
  go_wp2_with fail
  refine (mFront_any ai n ci L _ HN.out (by omega) hci HV.out HI6.out).mono ?_
  rintro e w7 ⟨av, nv, cv, rfl, hnv, nv6, hcv, _, hrv, _, hb7⟩
  have HNv : Hid ((frontX L).1.length = nv) := hnv
  have HF7 : Hid (RdI .i64 w7 av (frontX L).1) := hrv
  have HY7 : Hid (RdII w7 ay (learnX L H p S).1) := HY6.out.later hb7
  have HI7 : Hid (RdII w7 ai L) := HI6.out.later hb7
  have HJ7 : Hid (RdI .i64 w7 aj H) := HJ6.out.later hb7
  have HK7 : Hid (RdI .i64 w7 ak S) := HK6.out.later hb7
  have HB7 : Hid (Below w.heap.size w w7) := chain HB6.out hb7
  clear hrv hb7 HY6 HI6 HJ6 HK6 HB6 hnv
  have C3 := mCheck_of ai n ci L w7 HMc.out HN.out (by omega) HV.out HI7.out
  go_wp2_with fail
  refine C3.mono ?_
  rintro e w8 ⟨rfl, hw⟩
  subst w8
  go_wp2_with fail
  refine (intRows_any ai a n n ci cap L L _ HN.out HN.out (by omega) (by omega) HV.out HV.out HI7.out (HR0.out.later HB7.out)).mono ?_
  rintro e w8 ⟨rfl, hb8⟩
  rw [decide_eq_true rfl]
  have HF8 : Hid (RdI .i64 w8 av (frontX L).1) := HF7.out.later hb8
  have HY8 : Hid (RdII w8 ay (learnX L H p S).1) := HY7.out.later hb8
  have HJ8 : Hid (RdI .i64 w8 aj H) := HJ7.out.later hb8
  have HK8 : Hid (RdI .i64 w8 ak S) := HK7.out.later hb8
  have HB8 : Hid (Below w.heap.size w w8) := chain HB7.out hb8
  clear hb8 HF7 HY7 HI7 HJ7 HK7 HB7 C3
  go_wp2_with fail
  refine (keepInts_any aj ah h h cj hcap H H _ HH.out HH.out (by omega) (by omega) HJ8.out (HRh.out.later HB8.out)).mono ?_
  rintro e w9 ⟨rfl, hb9⟩
  rw [decide_eq_true rfl]
  have HF9 : Hid (RdI .i64 w9 av (frontX L).1) := HF8.out.later hb9
  have HY9 : Hid (RdII w9 ay (learnX L H p S).1) := HY8.out.later hb9
  have HK9 : Hid (RdI .i64 w9 ak S) := HK8.out.later hb9
  have HB9 : Hid (Below w.heap.size w w9) := chain HB8.out hb9
  clear hb9 HF8 HY8 HJ8 HK8 HB8
  go_wp2_with fail
  refine (keepInts_any ak az s s ck scap S S _ HS.out HS.out (by omega) (by omega) HK9.out (HRs.out.later HB9.out)).mono ?_
  rintro e w10 ⟨rfl, hb10⟩
  rw [decide_eq_true rfl]
  have HF10 : Hid (RdI .i64 w10 av (frontX L).1) := HF9.out.later hb10
  have HY10 : Hid (RdII w10 ay (learnX L H p S).1) := HY9.out.later hb10
  have HB10 : Hid (Below w.heap.size w w10) := chain HB9.out hb10
  clear hb10 HF9 HY9 HK9 HB9
  by_cases hmc : mc = 0
  case neg =>
    as_aux_lemma =>
    have e1 : learnX L H p S = ([], false, mc) := by unfold learnX; rw [HMc.out, if_pos hmc]
    have e2 : frontX L = ([], mc) := by unfold frontX; rw [HMc.out, if_pos hmc]
    have e3 := HNy.out
    have e4 := HNv.out
    rw [e1] at e3 ⊢
    rw [e2] at e4 ⊢
    simp only [List.length_nil] at e3 e4 ⊢
    subst e3
    subst e4
    clear e1 e2 HY10 HF10
    have hmn : (mc != 0) = true := by simp [hmc]
    go_wp2_with fail
    refine (mwakes_any _).mono ?_
    rintro e w11 ⟨rfl, hb11⟩
    go_wp2
    go_ret
    exact ⟨rfl, chain HB10.out hb11⟩
  subst hmc
  have HL : Hid (MatR n L) := by have := matD_ok.1 HMc.out; rwa [HN.out] at this
  have n1 := HL.out.one
  have n5 := HL.out.five
  have e2 : frontX L = (frontD L, 0) := by unfold frontX; rw [HMc.out]; rfl
  have e4 := HNv.out
  rw [e2] at e4 HF10 ⊢
  rw [front_len HL.out] at e4
  simp only at e4 ⊢
  subst e4
  have HFl : Hid ((frontD L).length = n) := front_len HL.out
  have C4 := rLeast_any a n cap L w10 HN.out (by omega) HV.out (HR0.out.later HB10.out)
  rw [frontD_least HL.out] at C4
  clear e2
  go_wp2_with fail
  refine C4.mono ?_
  rintro e w11 ⟨aw, nw, cw, rfl, hnw, _, hcw, _, hrw, _, hb11⟩
  simp only at hnw hrw ⊢
  rw [HFl.out] at hnw
  subst nw
  have HW11 : Hid (RdI .i64 w11 aw (frontD L)) := hrw
  have HF11 : Hid (RdI .i64 w11 av (frontD L)) := HF10.out.later hb11
  have HY11 : Hid (RdII w11 ay (learnX L H p S).1) := HY10.out.later hb11
  have HB11 : Hid (Below w.heap.size w w11) := chain HB10.out hb11
  clear hrw hb11 C4 HF10 HY10 HB10
  go_wp2_with fail
  refine (keepInts_any av aw n n cv cw _ _ _ HFl.out HFl.out (by omega) (by omega) HF11.out HW11.out).mono ?_
  rintro e w12 ⟨rfl, hb12⟩
  rw [decide_eq_true rfl]
  have HY12 : Hid (RdII w12 ay (learnX L H p S).1) := HY11.out.later hb12
  have HB12 : Hid (Below w.heap.size w w12) := chain HB11.out hb12
  clear hb12 HF11 HW11 HY11 HB11
  have CH := rVector_any ah h hcap H w12 HH.out (by omega) (HRh.out.later HB12.out)
  have CS := rVector_any az s scap S w12 HS.out (by omega) (HRs.out.later HB12.out)
  obtain ⟨good, hgood⟩ : ∃ c : Bool, c = goodX L H p S := ⟨_, rfl⟩
  have HG : Hid (good = (fitD H n && fitD S n && decide (0 ≤ p ∧ p < n))) := by
    show _ = _
    rw [hgood]
    unfold goodX
    rw [HN.out]
  have HGx : Hid (goodX L H p S = good) := hgood.symm
  clear hgood
  go_upto_region 28 with fail
  go_cut [203] from 172 (fun c wx => c = .bool (!good) ∧ wx = w12)
  case first =>
    as_aux_lemma =>
    by_cases h1 : h = n
    case neg =>
      have e : good = false := by rw [HG.out]; simp [fitD, HH.out, h1]
      subst e
      have q1 : ((h : Int) != (n : Int)) = true := by simp; omega
      go_wp2
      go_meet
      exact ⟨rfl, rfl⟩
    subst h1
    by_cases h2 : s = h
    case neg =>
      have e : good = false := by rw [HG.out]; simp [fitD, HS.out, h2]
      subst e
      have q1 : ((s : Int) != (h : Int)) = true := by simp; omega
      go_wp2
      go_meet
      exact ⟨rfl, rfl⟩
    subst h2
    by_cases h3 : chkD H = 0
    case neg =>
      have e : good = false := by rw [HG.out]; simp [fitD, h3]
      subst e
      generalize chkD H = k at *
      have q1 : (k != 0) = true := by simp [h3]
      go_wp2_with fail
      refine CH.mono ?_
      rintro e w13 ⟨rfl, hw⟩
      subst w13
      go_wp2
      go_meet
      exact ⟨rfl, rfl⟩
    have h3' := h3
    rw [h3] at CH
    by_cases h4 : chkD S = 0
    case neg =>
      have e : good = false := by rw [HG.out]; simp [fitD, h4]
      subst e
      generalize chkD S = k at *
      have q1 : (k != 0) = true := by simp [h4]
      clear h3 h3'
      go_wp2_with fail
      refine CH.mono ?_
      rintro e w13 ⟨rfl, hw⟩
      subst w13
      go_wp2_with fail
      refine CS.mono ?_
      rintro e w13 ⟨rfl, hw⟩
      subst w13
      go_wp2
      go_meet
      exact ⟨rfl, rfl⟩
    rw [h4] at CS
    by_cases h5 : p < 0
    case pos =>
      have e : good = false := by rw [HG.out]; simp; omega
      subst e
      clear h3 h3' h4
      go_wp2_with fail
      refine CH.mono ?_
      rintro e w13 ⟨rfl, hw⟩
      subst w13
      go_wp2_with fail
      refine CS.mono ?_
      rintro e w13 ⟨rfl, hw⟩
      subst w13
      go_wp2
      go_meet
      exact ⟨rfl, rfl⟩
    by_cases h6 : p < (s : Int)
    case neg =>
      have e : good = false := by rw [HG.out]; simp; omega
      subst e
      have q1 : (s : Int) ≤ p := by omega
      clear h3 h3' h4
      go_wp2_with fail
      refine CH.mono ?_
      rintro e w13 ⟨rfl, hw⟩
      subst w13
      go_wp2_with fail
      refine CS.mono ?_
      rintro e w13 ⟨rfl, hw⟩
      subst w13
      go_wp2
      go_meet
      exact ⟨rfl, rfl⟩
    have e : good = true := by rw [HG.out]; simp [fitD, HH.out, HS.out, h3', h4]; omega
    subst e
    clear h3 h3' h4
    go_wp2_with fail
    refine CH.mono ?_
    rintro e w13 ⟨rfl, hw⟩
    subst w13
    go_wp2_with fail
    refine CS.mono ?_
    rintro e w13 ⟨rfl, hw⟩
    subst w13
    go_wp2
    go_meet
    exact ⟨by simp; omega, rfl⟩
  case rest =>
  as_aux_lemma =>
  rename World => wq
  obtain ⟨rfl, hcut⟩ := hcut
  subst hcut
  clear CH CS
  cases good with
  | false =>
    have e1 : learnX L H p S = ([], false, 1) := by unfold learnX; rw [HMc.out, HGx.out]; rfl
    have e3 := HNy.out
    rw [e1] at e3 ⊢
    simp only [List.length_nil] at e3 ⊢
    subst e3
    clear e1 HY12
    go_wp2_with fail
    refine (mwakes_any _).mono ?_
    rintro e w13 ⟨rfl, hb13⟩
    go_wp2
    go_ret
    exact ⟨rfl, chain HB12.out hb13⟩
  | true =>
    have hg := HG.out
    simp only [Bool.true_eq, Bool.and_eq_true, decide_eq_true_eq, fitD_iff] at hg
    obtain ⟨⟨⟨f1, f2⟩, f3, f4⟩, p0, p1⟩ := hg
    obtain ⟨q, rfl⟩ : ∃ q : Nat, p = q := ⟨p.toNat, by omega⟩
    have e1 : learnX L H q S = (nextM L H S q, decide (atD S q ≤ atD H q), 0) := by unfold learnX; rw [HMc.out, HGx.out, show ((q : Int).toNat) = q from by omega]; rfl
    obtain rfl : h = n := by rw [← HH.out]; exact f1
    obtain rfl : s = h := by rw [← HS.out]; exact f3
    obtain ⟨b1, o1, rfl, _⟩ := HR0.out (by rw [HN.out]; exact n1)
    have C5 := rLearn_ok b1 o1 ah az s cap hcap scap q L H S wq HL.out (HR0.out.later HB12.out) HH.out HS.out (HRh.out.later HB12.out) (HRs.out.later HB12.out) (by omega)
    have HNe : Hid (MatR s (nextM L H S q)) := (next_facts (p := 0) (k := 0) HL.out HH.out HS.out (chkD_ok.1 f4).2.2 (by omega)).1
    have e3 := HNy.out
    rw [e1] at e3 HY12 ⊢
    simp only at e3 HY12 ⊢
    rw [HNe.out.len] at e3
    subst e3
    generalize decide (atD S (q : Int) ≤ atD H (q : Int)) = okb at *
    generalize nextM L H S q = Y at *
    clear e1 f1 f2 f3 f4
    go_wp2_with fail
    refine C5.mono ?_
    rintro e w13 ⟨a13, c13, rfl, hc13, hr13, hb13⟩
    have HZ13 : Hid (RdII w13 a13 Y) := hr13
    have HY13 : Hid (RdII w13 ay Y) := HY12.out.later hb13
    have HB13 : Hid (Below w.heap.size w w13) := chain HB12.out hb13
    have hob : (okb == okb) = true := by simp
    clear hr13 hb13 HY12 HB12 C5
    go_wp2_with fail
    refine (intRows_any ay a13 s s cy c13 Y Y _ HNe.out.len HNe.out.len (by omega) (by omega) HNe.out.small HNe.out.small HY13.out HZ13.out).mono ?_
    rintro e w14 ⟨rfl, hb14⟩
    rw [decide_eq_true rfl]
    have HB14 : Hid (Below w.heap.size w w14) := chain HB13.out hb14
    clear hb14 HZ13 HY13 HB13
    go_wp2_with fail
    refine (mwakes_any _).mono ?_
    rintro e w15 ⟨rfl, hb15⟩
    go_wp2
    go_ret
    exact ⟨rfl, chain HB14.out hb15⟩

theorem heavyD_two {N M : List Int} : heavyD [N, M] = (decide (30 < N.length) || decide (30 < M.length)) := by simp [heavyD]

theorem mexact_walk (a : Option Addr) (n cap : Nat) (L : List (List Int)) (ah : Option Addr) (h hcap : Nat) (zh : List Int) (p : Int) (az : Option Addr) (s scap : Nat) (zs : List Int) (x : Int) (w : World) (hL : IsRows w a n cap L) (hH : IsInts .i64 w ah h hcap zh) (hS : IsInts .i64 w az s scap zs) (hp : In64 p) (hx : In64 x) :
    Calls Try.prog 3 #[.slice a n cap, .slice ah h hcap, .int .i64 p, .slice az s scap, .int .i64 x] w fun e w' => e = .returned (.bool true) ∧ Below w.heap.size w w' := by
  obtain ⟨h1, h2, h3, _, h5⟩ := hL.rows
  obtain ⟨H, hh1, hh2, hh3, hh4, hh5⟩ := hH.ints
  obtain ⟨S, hs1, hs2, hs3, hs4, hs5⟩ := hS.ints
  by_cases hn : 30 < n
  · exact mexact_heavy a ah az n cap h hcap s scap p x w (heavyD_long a n cap w hn hL.small)
  have C := heavyD_few a n cap L w h1 (by omega) (fun v hv => (h5 v hv).2) h3
  cases hv : heavyD L with
  | true =>
    rw [hv] at C
    exact mexact_heavy a ah az n cap h hcap s scap p x w C
  | false =>
    rw [hv] at C
    have hlens : ∀ v ∈ L, v.length ≤ 30 := by
      unfold heavyD at hv
      rw [List.any_eq_false] at hv
      intro v hm
      have := hv v hm
      simp at this
      exact this
    have s1 : SlI w (.slice ah h hcap) H := ⟨ah, hcap, by rw [hh1], by omega, hh3, hh4⟩
    have s2 : SlI w (.slice az s scap) S := ⟨az, scap, by rw [hs1], by omega, hs3, hs4⟩
    have C2 := heavyD_few (some ⟨w.heap.size, 0, none⟩) 2 2 [H, S] _ rfl (by omega) (fun v hv => by
      simp only [List.mem_cons, List.not_mem_nil, or_false] at hv
      rcases hv with rfl | rfl
      · rw [hh1]; exact hH.small
      · rw [hs1]; exact hS.small) (rows_two w w.heap.size rfl s1 s2)
    rw [heavyD_two] at C2
    by_cases hb : 30 < h ∨ 30 < s
    · rw [show (decide (30 < H.length) || decide (30 < S.length)) = true from by simp; omega] at C2
      exact mexact_heavy2 a ah az n cap h hcap s scap p x w C C2
    · rw [show (decide (30 < H.length) || decide (30 < S.length)) = false from by simp; omega] at C2
      exact mexact_some a ah az n cap h hcap s scap p x L H S w C C2 h1 (by omega) hlens h3 h2 hh1 (by omega) hh3 hh4 hs1 (by omega) hs3 hs4 hx hp

end Go.Proofs.Ytljikgjgcpheaaa
