/-
  MatAll's walk: what the law answers, whatever its vectors and its number.
-/
import Derived.Test.YtljikgjgcpheaaaRows
import Derived.Test.YtljikgjgcpheaaaMLaws
import Derived.Test.YtljikgjgcpheaaaMFacts
namespace Go.Proofs.Ytljikgjgcpheaaa
open Go.RowKit Go.Lib
set_option linter.unusedVariables false

set_option maxRecDepth 100000 in
set_option maxHeartbeats 400000 in
theorem mall_out (a : Option Addr) (n cap : Nat) (less : Int) (w : World) (h : n < 1 ∨ 5 < n) (hs : n ≤ 9223372036854775807) :
    Calls Try.prog 5 #[.slice a n cap, .int .i64 less] w fun e w' => e = .returned (.bool true) ∧ Below w.heap.size w w' := by
  rcases h with h | h
  · obtain rfl : n = 0 := by omega
    go_enter Try.func5, Try.ntmps5
    go_wp2
    go_ret
    exact ⟨rfl, Below.refl _ _⟩
  · go_enter Try.func5, Try.ntmps5
    go_wp2
    go_ret
    exact ⟨rfl, Below.refl _ _⟩

set_option maxRecDepth 100000 in
set_option maxHeartbeats 4000000 in
theorem mall_some (b off n cap : Nat) (L : List (List Int)) (less : Int) (w : World) (hn : L.length = n) (n1 : 1 ≤ n) (n5 : n ≤ 5) (hcap : n ≤ cap) (hv : ∀ v ∈ L, All64 v ∧ v.length ≤ 9223372036854775807) (hr : RdII w (some ⟨b, off, none⟩) L) :
    Calls Try.prog 5 #[.slice (some ⟨b, off, none⟩) n cap, .int .i64 less] w fun e w' => e = .returned (.bool true) ∧ Below w.heap.size w w' := by
  have HN : Hid (L.length = n) := hn
  have HR : Hid (RdII w (some ⟨b, off, none⟩) L) := hr
  obtain ⟨w0, hmake, hO0, hB0⟩ := run_make_ints w n (by omega)
  have HO0 : Hid (RdI .i64 w0 (some ⟨w.heap.size, 0, none⟩) (havM n (L.take 0))) := hO0.rd
  have HB0 : Hid (Below w.heap.size w w0) := hB0
  clear hn hr hO0 hB0
  go_enter Try.func5, Try.ntmps5
  go_wp2
  go_loopw [6, 7] (fun o i wr => ∃ (k cp : Nat) (av : Option Addr), k ≤ n ∧ i = .int .i64 k ∧ o = .slice av n cp ∧ n ≤ cp ∧ Hid (∀ v ∈ L.take k, v.length = n ∧ rightD v = true) ∧ Hid (RdI .i64 wr av (havM n (L.take k))) ∧ Hid (Below w.heap.size w wr)) (fun _ i _ => n - (RowKit.intOf i).toNat)
  case atStart => exact ⟨0, n, _, Nat.zero_le _, rfl, rfl, Nat.le_refl _, (fun v hv => absurd hv (by simp)), HO0, HB0⟩
  case round =>
  clear hmake HO0 HB0
  obtain ⟨k, cp, av, hk, rfl, rfl, hcp, hE, hH, hB⟩ := hrel
  by_cases hlt : k < n
  · have hkl : k < L.length := by rw [HN.out]; exact hlt
    obtain ⟨b', off', e', hc⟩ := (HR.out.later hB.out) (by omega)
    simp only [Option.some.injEq, Addr.mk.injEq, and_true] at e'
    obtain ⟨rfl, rfl⟩ := e'
    obtain ⟨u, x0, a2, cap2, rfl, hc2, hr2, hn2⟩ := hc k hkl
    have hvl := (hv _ (List.getElem_mem hkl)).2
    have HS : Hid (havM n (L.take (k + 1)) = maxD (havM n (L.take k)) L[k]) := havM_step hkl
    have HE' : Hid (L[k].length = n → rightD L[k] = true → ∀ v ∈ L.take (k + 1), v.length = n ∧ rightD v = true) := fun h1 h2 v hv => by
      rw [List.take_succ_eq_append_getElem hkl] at hv
      rcases List.mem_append.1 hv with hv | hv
      · exact hE.out v hv
      · rw [List.mem_singleton] at hv
        rw [hv]
        exact ⟨h1, h2⟩
    have HF : Hid ((havM n (L.take k)).length = n) := (havM_facts hE.out).1
    clear hc hn2
    generalize L[k] = N at *
    generalize havM n (L.take k) = V at *
    clear hkl
    obtain ⟨m, hm⟩ : ∃ m, N.length = m := ⟨_, rfl⟩
    rw [hm] at x0 hc2 hvl
    have HMl : Hid (N.length = m) := hm
    have HR2 : Hid (RdI .i64 wr a2 N) := hr2
    have C := rVector_any a2 m cap2 N wr hm hvl hr2
    clear hm hr2
    by_cases hmn : m = n
    · subst hmn
      by_cases hc : chkD N = 0
      · rw [hc] at C
        have hrt := (chkD_ok.1 hc).2.2
        have HE2 : Hid _ := HE'.out HMl.out hrt
        clear hc hrt HE'
        go_wp2_with fail
        refine C.mono ?_
        rintro e w1 ⟨rfl, hw⟩
        subst w1
        go_wp2_with fail
        refine (rMerge_any av a2 m cp cap2 V N _ HF.out HMl.out (by omega) hH.out HR2.out).mono ?_
        rintro e w2 ⟨a3, n3, cp3, rfl, hn3, hc3, _, hr3, _, hb3⟩
        obtain rfl : n3 = m := by rw [← hn3, maxD_len (by rw [HF.out, HMl.out]), HF.out]
        rw [← HS.out] at hr3
        have HR3 : Hid _ := hr3
        have HB3 : Hid (Below w.heap.size w w2) := chain hB.out hb3
        clear hr3 hb3 hn3 C HS
        go_wp2
        go_roundw
        case rel => exact ⟨k + 1, cp3, a3, by omega, by go_num, rfl, hc3, HE2, HR3, HB3⟩
        case measure => simp [RowKit.intOf]; omega
      · generalize chkD N = c at *
        have hcn : (c != 0) = true := by simp [hc]
        go_wp2_with fail
        refine C.mono ?_
        rintro e w1 ⟨rfl, hw⟩
        subst w1
        go_wp2
        go_ret
        exact ⟨rfl, hB.out⟩
    · have hpn : ((m : Int) != (n : Int)) = true := by simp; omega
      clear C
      go_wp2
      go_ret
      exact ⟨rfl, hB.out⟩
  obtain rfl : k = n := by omega
  have HL : Hid (MatR k L) := by
    have h := hE.out
    rw [List.take_of_length_le (by rw [HN.out]; omega)] at h
    exact ⟨HN.out, n1, n5, h⟩
  have HV : Hid ((havM k L).length = k ∧ rightD (havM k L) = true ∧ ∀ u ∈ L, leD u (havM k L) = true) := havM_facts HL.out.each
  rw [List.take_of_length_le (by rw [HN.out]; omega)] at hH
  clear hE hlt hk
  obtain ⟨z, hz, hze⟩ := modPlace less k n1 (by omega)
  have hn0 : (k : Int) ≠ 0 := by omega
  go_wp2_with fail
  rw [hze]
  clear hze
  refine (mNew_yes k _ n1 n5).mono ?_
  rintro e w1 ⟨g1, rfl, hr1, hb1⟩
  have HM1 : Hid (RdII w1 (some ⟨g1, 0, none⟩) (midL k L 0)) := by rw [midL_zero]; exact hr1
  have HH1 : Hid (RdI .i64 w1 av (havM k L)) := hH.out.later hb1
  have HB1 : Hid (Below w.heap.size w w1) := chain hB.out hb1
  clear hr1 hb1 hH hB
  go_wp2_with fail
  refine (mNew_yes k _ n1 n5).mono ?_
  rintro e w2 ⟨g2, rfl, hr2, hb2⟩
  have HM2 : Hid (RdII w2 (some ⟨g1, 0, none⟩) (midL k L 0)) := HM1.out.later hb2
  have HF2 : Hid (RdII w2 (some ⟨g2, 0, none⟩) (midF k L z 0)) := by rw [midF_zero]; exact hr2
  have HH2 : Hid (RdI .i64 w2 av (havM k L)) := HH1.out.later hb2
  have HB2 : Hid (Below w.heap.size w w2) := chain HB1.out hb2
  clear hr2 hb2 HM1 HH1 HB1
  go_wp2
  go_loopw [8, 10, 12] (fun o q i wx => ∃ (j g1 g2 : Nat), j ≤ k ∧ i = .int .i64 j ∧ o = .slice (some ⟨g1, 0, none⟩) k k ∧ q = .slice (some ⟨g2, 0, none⟩) k k ∧ Hid (RdII wx (some ⟨g1, 0, none⟩) (midL k L j)) ∧ Hid (RdII wx (some ⟨g2, 0, none⟩) (midF k L z j)) ∧ Hid (RdI .i64 wx av (havM k L)) ∧ Hid (Below w.heap.size w wx)) (fun _ _ i _ => k - (RowKit.intOf i).toNat)
  case atStart => exact ⟨0, g1, g2, Nat.zero_le _, rfl, rfl, rfl, HM2, HF2, HH2, HB2⟩
  case round =>
  clear HM2 HF2 HH2 HB2
  obtain ⟨j, g3, g4, hj, rfl, rfl, rfl, hM, hF, hH, hB⟩ := hrel
  by_cases hlt : j < k
  · have hjl : j < L.length := by rw [HN.out]; exact hlt
    obtain ⟨b', off', e', hc⟩ := (HR.out.later hB.out) (by omega)
    simp only [Option.some.injEq, Addr.mk.injEq, and_true] at e'
    obtain ⟨rfl, rfl⟩ := e'
    obtain ⟨u, x0, a2, cap2, rfl, hc2, hr2, hn2⟩ := hc j hjl
    have hmL := HL.out.at_ hjl
    have hle := (leD_iff.1 (HV.out.2.2 _ (List.getElem_mem hjl)))
    have HLE : Hid (∀ (h1 : j < (havM k L).length) (h2 : j < L[j].length), L[j][j] ≤ (havM k L)[j]) := fun h1 h2 => hle.2 j h2 h1
    have HML : Hid (learnD (midL k L j) j L[j] = midL k L (j + 1)) := midL_learn HL.out hlt
    have HMF : Hid (j ≠ z → learnD (midF k L z j) j L[j] = midF k L z (j + 1)) := fun h => midF_learn HL.out hlt h
    rw [hmL.1] at x0 hc2
    have HMr : Hid (L[j].length = k ∧ rightD L[j] = true) := hmL
    have HR2 : Hid (RdI .i64 wr a2 L[j]) := hr2
    clear hc hn2 hle hmL hr2
    generalize L[j] = N at *
    clear hjl
    have hjV : j < (havM k L).length := by rw [HV.out.1]; exact hlt
    have hjN : j < N.length := by rw [HMr.out.1]; exact hlt
    have HLe : Hid (N[j] ≤ (havM k L)[j]) := HLE.out hjV hjN
    have C1 := mLearn_ok g3 0 av a2 k k cp cap2 j (midL k L j) (havM k L) N wr (midL_mat HL.out (by omega)) hM.out HV.out.1 HMr.out.1 HV.out.2.1 HMr.out.2 hH.out HR2.out hlt hjV hjN
    rw [if_neg (by have := HLe.out; omega), decide_eq_true HLe.out, HML.out] at C1
    go_wp2_with fail
    refine C1.mono ?_
    rintro e w3 ⟨g5, rfl, hr5, hb5⟩
    have HM5 : Hid (RdII w3 (some ⟨g5, 0, none⟩) (midL k L (j + 1))) := hr5
    have HF5 : Hid (RdII w3 (some ⟨g4, 0, none⟩) (midF k L z j)) := hF.out.later hb5
    have HH5 : Hid (RdI .i64 w3 av (havM k L)) := hH.out.later hb5
    have HB5 : Hid (Below w.heap.size w w3) := chain hB.out hb5
    have HR5 : Hid (RdI .i64 w3 a2 N) := HR2.out.later hb5
    replace x0 := cell_later hb5 x0
    clear C1 hr5 hb5 hM hF hH hB HR2
    by_cases hjz : j = z
    · subst hjz
      have HF6 : Hid (RdII w3 (some ⟨g4, 0, none⟩) (midF k L j (j + 1))) := by rw [midF_same HN.out hlt]; exact HF5
      go_wp2
      go_roundw
      case rel => exact ⟨j + 1, g5, g4, by omega, by go_num, rfl, rfl, HM5, HF6, HH5, HB5⟩
      case measure => simp [RowKit.intOf]; omega
    · have C2 := mLearn_ok g4 0 av a2 k k cp cap2 j (midF k L z j) (havM k L) N w3 (midF_mat HL.out (by omega)) HF5.out HV.out.1 HMr.out.1 HV.out.2.1 HMr.out.2 HH5.out HR5.out hlt hjV hjN
      rw [if_neg (by have := HLe.out; omega), decide_eq_true HLe.out, HMF.out hjz] at C2
      have hjzn : ((j : Int) != (z : Int)) = true := by simp; omega
      go_wp2_with fail
      refine C2.mono ?_
      rintro e w4 ⟨g6, rfl, hr6, hb6⟩
      have HM6 : Hid (RdII w4 (some ⟨g5, 0, none⟩) (midL k L (j + 1))) := HM5.out.later hb6
      have HF6 : Hid (RdII w4 (some ⟨g6, 0, none⟩) (midF k L z (j + 1))) := hr6
      have HH6 : Hid (RdI .i64 w4 av (havM k L)) := HH5.out.later hb6
      have HB6 : Hid (Below w.heap.size w w4) := chain HB5.out hb6
      clear C2 hr6 hb6 HM5 HF5 HH5 HB5 HR5
      go_wp2
      go_roundw
      case rel => exact ⟨j + 1, g5, g6, by omega, by go_num, rfl, rfl, HM6, HF6, HH6, HB6⟩
      case measure => simp [RowKit.intOf]; omega
  obtain rfl : j = k := by omega
  rw [midL_all HN.out] at hM
  have HFm : Hid (MatR j (midF j L z j)) := midF_mat HL.out (Nat.le_refl _)
  have HFe : Hid (frontD (midF j L z j) = List.replicate j 0) := by
    show _ = _
    unfold midF
    rw [midL_all HN.out]
    exact front_zero HL.out (by rw [HN.out]; exact hz)
  have HFl : Hid ((frontD L).length = j) := front_len HL.out
  clear hlt hj
  go_wp2_with fail
  refine (mFront_ok _ j j L _ HL.out (Nat.le_refl _) hM.out).mono ?_
  rintro e w3 ⟨a7, n7, c7, rfl, hn7, _, hc7, _, hr7, _, hb7⟩
  simp only at hn7 hr7 ⊢
  rw [HFl.out] at hn7
  subst n7
  have HV7 : Hid (RdI .i64 w3 a7 (frontD L)) := hr7
  have HM7 : Hid (RdII w3 (some ⟨g3, 0, none⟩) L) := hM.out.later hb7
  have HF7 : Hid (RdII w3 (some ⟨g4, 0, none⟩) (midF j L z j)) := hF.out.later hb7
  have HB7 : Hid (Below w.heap.size w w3) := chain hB.out hb7
  clear hr7 hb7 hM hF hH hB
  go_wp2_with fail
  refine (mFront_ok _ j j _ _ HFm.out (Nat.le_refl _) HF7.out).mono ?_
  rintro e w4 ⟨a8, n8, c8, rfl, hn8, _, hc8, _, hr8, _, hb8⟩
  rw [HFe.out] at hn8 hr8
  simp only [List.length_replicate] at hn8 hr8 ⊢
  subst n8
  have HZ8 : Hid (RdI .i64 w4 a8 (List.replicate j 0)) := hr8
  have HV8 : Hid (RdI .i64 w4 a7 (frontD L)) := HV7.out.later hb8
  have HM8 : Hid (RdII w4 (some ⟨g3, 0, none⟩) L) := HM7.out.later hb8
  have HB8 : Hid (Below w.heap.size w w4) := chain HB7.out hb8
  clear hr8 hb8 HV7 HM7 HF7 HB7
  have C3 := dotLeast (some ⟨b, off, none⟩) j cap L w4 HN.out (by omega) hcap HL.out.all64 (HR.out.later HB8.out)
  rw [frontD_least HL.out] at C3
  go_wp2_with fail
  refine C3.mono ?_
  rintro e w5 ⟨a9, n9, c9, rfl, hn9, _, hc9, _, hr9, _, hb9⟩
  simp only at hn9 hr9 ⊢
  rw [HFl.out] at hn9
  subst n9
  have HU9 : Hid (RdI .i64 w5 a9 (frontD L)) := hr9
  have HZ9 : Hid (RdI .i64 w5 a8 (List.replicate j 0)) := HZ8.out.later hb9
  have HV9 : Hid (RdI .i64 w5 a7 (frontD L)) := HV8.out.later hb9
  have HM9 : Hid (RdII w5 (some ⟨g3, 0, none⟩) L) := HM8.out.later hb9
  have HB9 : Hid (Below w.heap.size w w5) := chain HB8.out hb9
  clear hr9 hb9 HZ8 HV8 HM8 HB8 C3
  go_wp2_with fail
  refine (keepInts_any a7 a9 j j c7 c9 _ _ _ HFl.out HFl.out (by omega) (by omega) HV9.out HU9.out).mono ?_
  rintro e w6 ⟨rfl, hb10⟩
  rw [decide_eq_true rfl]
  have HZ10 : Hid (RdI .i64 w6 a8 (List.replicate j 0)) := HZ9.out.later hb10
  have HM10 : Hid (RdII w6 (some ⟨g3, 0, none⟩) L) := HM9.out.later hb10
  have HB10 : Hid (Below w.heap.size w w6) := chain HB9.out hb10
  clear hb10 HU9 HZ9 HV9 HM9 HB9
  obtain ⟨w7, hmake, hO7, hB7⟩ := run_make_ints w6 j (by omega)
  have HZ11 : Hid (RdI .i64 w7 a8 (List.replicate j 0)) := HZ10.out.later hB7
  have HZ12 : Hid (RdI .i64 w7 (some ⟨w6.heap.size, 0, none⟩) (List.replicate j 0)) := hO7.rd
  have HM11 : Hid (RdII w7 (some ⟨g3, 0, none⟩) L) := HM10.out.later hB7
  have HB11 : Hid (Below w.heap.size w w7) := chain HB10.out hB7
  clear hO7 hB7 HZ10 HM10 HB10
  go_wp2_with fail
  refine (keepInts_any a8 (some ⟨w6.heap.size, 0, none⟩) j j c8 j _ _ _ (by simp) (by simp) (by omega) (by omega) HZ11.out HZ12.out).mono ?_
  rintro e w8 ⟨rfl, hb12⟩
  rw [decide_eq_true rfl]
  have HM12 : Hid (RdII w8 (some ⟨g3, 0, none⟩) L) := HM11.out.later hb12
  have HB12 : Hid (Below w.heap.size w w8) := chain HB11.out hb12
  clear hb12 HZ11 HZ12 HM11 HB11 hmake
  go_wp2_with fail
  refine (intRows_any _ _ j j j cap L L _ HN.out HN.out (by omega) (by omega) HL.out.small HL.out.small HM12.out (HR.out.later HB12.out)).mono ?_
  rintro e w9 ⟨rfl, hb13⟩
  rw [decide_eq_true rfl]
  have HB13 : Hid (Below w.heap.size w w9) := chain HB12.out hb13
  clear hb13 HM12 HB12
  go_wp2_with fail
  refine (mwakes_any _).mono ?_
  rintro e w10 ⟨rfl, hb14⟩
  go_wp2
  go_ret
  exact ⟨rfl, chain HB13.out hb14⟩

theorem mall_walk (a : Option Addr) (n cap : Nat) (L : List (List Int)) (less : Int) (w : World) (h : IsRows w a n cap L) :
    Calls Try.prog 5 #[.slice a n cap, .int .i64 less] w fun e w' => e = .returned (.bool true) ∧ Below w.heap.size w w' := by
  obtain ⟨h1, h2, h3, _, h5⟩ := h.rows
  by_cases hn : n < 1 ∨ 5 < n
  · exact mall_out a n cap less w hn h.small
  · obtain ⟨b, off, rfl, _⟩ := h3 (by omega)
    exact mall_some b off n cap L less w h1 (by omega) (by omega) h2 h5 h3

end Go.Proofs.Ytljikgjgcpheaaa
