/-
  DotLattice's walk: what the law answers, whatever its vectors and its dot.
-/
import Derived.Test.YtmdjmkpalnhkoaaRows
import Derived.Test.YtmdjmkpalnhkoaaDLst
import Derived.Deep.Cut
import Derived.Test.YtmdjmkpalnhkoaaHeld
namespace Go.Proofs.Ytmdjmkpalnhkoaa
open Go.RowKit Go.Lib
set_option linter.unusedVariables false

/-- What stays while the law goes on. -/
structure KL (w0 : World) (a b c m l : Option Addr) (g : Nat) (A B C M L : List Int) (dp dk : Int) (w : World) : Prop where
  A : RdI .i64 w a A
  B : RdI .i64 w b B
  C : RdI .i64 w c C
  M : RdI .i64 w m M
  L : RdI .i64 w l L
  d0 : w.cell? ⟨g, 0, none⟩ = some (.int .i64 dp)
  d1 : w.cell? ⟨g, 1, none⟩ = some (.int .i64 dk)
  X : Below w0.heap.size w0 w

theorem KL.later {w0 : World} {a b c m l : Option Addr} {g : Nat} {A B C M L : List Int} {dp dk : Int} {w w' : World} (h : KL w0 a b c m l g A B C M L dp dk w) (hb : Below w.heap.size w w') : KL w0 a b c m l g A B C M L dp dk w' :=
  ⟨h.A.later hb, h.B.later hb, h.C.later hb, h.M.later hb, h.L.later hb, cell_later hb h.d0, cell_later hb h.d1, chain h.X hb⟩

theorem KL.drewN {w0 : World} {a b c m l : Option Addr} {g : Nat} {A B C M L : List Int} {dp dk : Int} {w : World} (h : KL w0 a b c m l g A B C M L dp dk w) (n : Nat) : KL w0 a b c m l g A B C M L dp dk (w.drewN n) := h.later (below_drewN (Below.refl _ _) n)

theorem KL.drew {w0 : World} {a b c m l : Option Addr} {g : Nat} {A B C M L : List Int} {dp dk : Int} {w : World} (h : KL w0 a b c m l g A B C M L dp dk w) : KL w0 a b c m l g A B C M L dp dk w.drew := h.later (Below.refl _ _).drew

theorem rows_three (w : World) (g : Nat) (hg : w.heap.size = g) {u v x : Value} {N M K : List Int} (h : SlI w u N) (h' : SlI w v M) (h'' : SlI w x K) : RdII (w.alloc (.cells #[u, v, x] 22)) (some ⟨g, 0, none⟩) [N, M, K] := by
  subst hg
  refine fun _ => ⟨w.heap.size, 0, rfl, fun i hi => ?_⟩
  have c : ∀ j, (w.alloc (.cells #[u, v, x] 22)).cell? ⟨w.heap.size, j, none⟩ = #[u, v, x][j]? := fun j => cell_of_row (w.alloc (.cells #[u, v, x] 22)) w.heap.size j #[u, v, x] 22 (0, 0) (by show (w.heap.push _)[w.heap.size]? = _; simp)
  rcases i with _ | _ | _ | i
  · exact ⟨u, c 0, h.later (alloc_below _ _)⟩
  · exact ⟨v, c 1, h'.later (alloc_below _ _)⟩
  · exact ⟨x, c 2, h''.later (alloc_below _ _)⟩
  · exact absurd hi (by simp)

theorem least_three {A B C : List Int} (ha : chkD A = 0) (hb : chkD B = 0) (hc : chkD C = 0) (hl : A.length = B.length) (hl' : B.length = C.length) : leastD [A, B, C] = (minD (minD A B) C, 0) := by
  have := leastD_ok (L := [A, B, C]) (by simp) (by simp [chksD, ha, hb, hc]) (by simp [evenD]; omega)
  rw [this]
  simp [minD_self]

/-- What Add tells of a right vector. -/
theorem add_next {A : List Int} {p k : Int} (hc : chkD A = 0) (hn : nextD A p k = true) (hk : k ≤ 1073741824) : addD A p k = (A.set p.toNat k, 0) ∧ hasD (A.set p.toNat k) p k = true ∧ hasD A p k = false ∧ leD A (A.set p.toNat k) = true ∧ rightD (A.set p.toNat k) = true := by
  have hn' := hn
  unfold nextD at hn'
  rw [Bool.and_eq_true] at hn'
  obtain ⟨hp, hk'⟩ := hn'
  obtain ⟨q, hq, rfl, hat⟩ := atD_at hp
  simp only [decide_eq_true_eq] at hk'
  obtain ⟨_, _, hr⟩ := chkD_ok.1 hc
  have hsm := rightD_at hr hq
  rw [hat] at hk'
  have hqt : ((q : Int).toNat) = q := by omega
  rw [hqt]
  refine ⟨by unfold addD; rw [if_neg (by simp [hc]), if_pos ⟨hn, hk⟩, hqt], ?_, ?_, ?_, ?_⟩
  · have h1 : placeD (A.set q k) (q : Int) = true := by rw [placeD_eq (List.length_set ..)]; exact hp
    have h2 : atD (A.set q k) (q : Int) = k := by simp [atD, hq]
    simp [hasD, h1, h2]
    omega
  · simp [hasD, hat]
    omega
  · refine leD_of (List.length_set ..).symm fun i a1 a2 => ?_
    rw [List.getElem_set]
    split
    · subst_vars; omega
    · exact Int.le_refl _
  · refine rightD_iff.2 fun i hi => ?_
    rw [List.getElem_set]
    split
    · omega
    · exact rightD_at hr (by simpa using hi)

theorem add_not {A : List Int} {p k : Int} (hc : chkD A = 0) (hn : ¬ (nextD A p k = true ∧ k ≤ 1073741824)) : addD A p k = ([], 1) := by
  unfold addD
  rw [if_neg (by simp [hc]), if_neg hn]

set_option maxRecDepth 100000 in
set_option maxHeartbeats 40000000 in
theorem dlattice_some (D : DotApi) (a b c : Option Addr) (n cap dap eap : Nat) (A B C : List Int) (dp dk : Int) (w : World) (hA : A.length = n) (hB : B.length = n) (hC : C.length = n) (hca : n ≤ cap) (hcb : n ≤ dap) (hcc : n ≤ eap) (na : a = none → A = [] ∧ cap = 0) (nb : b = none → B = [] ∧ dap = 0) (nc : c = none → C = [] ∧ eap = 0)
    (ra : RdI .i64 w a A) (rb : RdI .i64 w b B) (rc : RdI .i64 w c C) (ka : chkD A = 0) (kb : chkD B = 0) (kc : chkD C = 0) (i0 : In64 dp) (i1 : In64 dk) :
    Calls Try.prog 4 #[.slice a n cap, .slice b n dap, .slice c n eap, .agg #[.int .i64 dp, .int .i64 dk]] w fun e w' => e = .returned (.bool true) ∧ Below w.heap.size w w' := by
  obtain ⟨n1, n5, rA⟩ := chkD_ok.1 ka
  obtain ⟨_, _, rB⟩ := chkD_ok.1 kb
  obtain ⟨_, _, rC⟩ := chkD_ok.1 kc
  rw [hA] at n1 n5
  have LA : Hid (A.length = n) := hA
  have LB : Hid (B.length = n) := hB
  have LC : Hid (C.length = n) := hC
  have lAB : A.length = B.length := by omega
  have lBC : B.length = C.length := by omega
  have A64 : Hid (All64 A) := right64 rA
  have B64 : Hid (All64 B) := right64 rB
  have C64 : Hid (All64 C) := right64 rC
  have M64 : Hid (All64 (maxD A B)) := right64 (right_max rA rB)
  have L64 : Hid (All64 (minD (minD A B) C)) := right64 (right_min (right_min rA rB) rC)
  have lMn : (maxD A B).length = n := by rw [maxD_len lAB]; exact hA
  have lmin : (minD A B).length = n := by rw [minD_len lAB]; exact hA
  have lLn : (minD (minD A B) C).length = n := by rw [minD_len (by omega)]; exact lmin
  have LM : Hid _ := lMn
  have LL : Hid _ := lLn
  have KA : Hid (chkD A = 0) := ka
  have KB : Hid (chkD B = 0) := kb
  have KC : Hid (chkD C = 0) := kc
  have E1 : Hid (mergeD A B = (maxD A B, 0)) := by show _ = _; unfold mergeD; rw [if_neg (by simp [ka]), if_neg (by simp [kb]), if_neg (by omega)]
  have E2 : Hid (mergeD B A = (maxD A B, 0)) := by show _ = _; unfold mergeD; rw [if_neg (by simp [kb]), if_neg (by simp [ka]), if_neg (by omega), maxD_comm]
  have E3 : Hid (leastD [A, B, C] = (minD (minD A B) C, 0)) := least_three ka kb kc lAB lBC
  have F1 : Hid (leD A (maxD A B) = true) := le_max_left lAB
  have F2 : Hid (leD B (maxD A B) = true) := le_max_right lAB
  have F3 : Hid (leD (minD (minD A B) C) A = true) := leD_trans (min_le_left (by omega)) (min_le_left lAB)
  have F4 : Hid (leD (minD (minD A B) C) B = true) := leD_trans (min_le_left (by omega)) (min_le_right lAB)
  have F5 : Hid (leD (minD (minD A B) C) C = true) := min_le_right (by omega)
  have F6 : Hid (leD (maxD A B) C = (leD A C && leD B C)) := max_le lAB
  have F7 : Hid (leD A B = decide (maxD A B = B)) := le_iff_max lAB
  have F8 : Hid (hasD (maxD A B) dp dk = (hasD A dp dk || hasD B dp dk)) := has_max lAB dp dk
  have F9 : Hid (hasD (minD (minD A B) C) dp dk = ((hasD A dp dk && hasD B dp dk) && hasD C dp dk)) := by show _ = _; rw [has_min (by omega), has_min lAB]
  have SA : Hid (∀ W : World, Below w.heap.size w W → SlI W (.slice a n cap) A) := fun W h => ⟨a, cap, by rw [hA], by rw [hA]; exact hca, ra.later h, na⟩
  have SB : Hid (∀ W : World, Below w.heap.size w W → SlI W (.slice b n dap) B) := fun W h => ⟨b, dap, by rw [hB], by rw [hB]; exact hcb, rb.later h, nb⟩
  have SC : Hid (∀ W : World, Below w.heap.size w W → SlI W (.slice c n eap) C) := fun W h => ⟨c, eap, by rw [hC], by rw [hC]; exact hcc, rc.later h, nc⟩
  have bx := box2 w w.heap.size rfl (.int .i64 dp) (.int .i64 dk) 24
  have RA : Hid (RdI .i64 (w.alloc (.cells #[.int .i64 dp, .int .i64 dk] 24)) a A) := ra.later (alloc_below _ _)
  have RB : Hid (RdI .i64 (w.alloc (.cells #[.int .i64 dp, .int .i64 dk] 24)) b B) := rb.later (alloc_below _ _)
  have RC : Hid (RdI .i64 (w.alloc (.cells #[.int .i64 dp, .int .i64 dk] 24)) c C) := rc.later (alloc_below _ _)
  have HX : Hid (Below w.heap.size w (w.alloc (.cells #[.int .i64 dp, .int .i64 dk] 24))) := alloc_below _ _
  have HBX : Hid _ := bx
  clear hA hB hC na nb nc ra rb rc ka kb kc rA rB rC lAB lBC lMn lmin lLn bx hca hcb hcc
  obtain ⟨g, hg⟩ : ∃ g, w.heap.size = g := ⟨_, rfl⟩
  go_enter Try.func4, Try.ntmps4
  go_wp2_with fail
  refine (rVector_any a n cap A _ LA.out (by omega) RA.out).mono ?_
  rintro e w1 ⟨rfl, hw1⟩
  subst w1
  rw [KA.out]
  go_wp2_with fail
  refine (rVector_any b n dap B _ LB.out (by omega) RB.out).mono ?_
  rintro e w1 ⟨rfl, hw1⟩
  subst w1
  rw [KB.out]
  go_wp2_with fail
  refine (rVector_any c n eap C _ LC.out (by omega) RC.out).mono ?_
  rintro e w1 ⟨rfl, hw1⟩
  subst w1
  rw [KC.out]
  generalize w.alloc (.cells #[.int .i64 dp, .int .i64 dk] 24) = W at *
  rw [hg] at HBX
  have hgw : Hid (w.heap.size = g) := hg
  clear hg
  go_wp2_with fail
  refine (D.merge a b n n cap dap A B _ LA.out LB.out (by omega) (by omega) A64.out B64.out RA.out RB.out).mono ?_
  rintro e w1 ⟨am, nm, cm, rfl, hnm, _, _, _, hrm, _, hb⟩
  rw [E1.out] at hnm hrm ⊢
  simp only at hnm hrm ⊢
  rw [LM.out] at hnm
  subst nm
  have RM : Hid (RdI .i64 w1 am (maxD A B)) := hrm
  have HX1 : Hid (Below w.heap.size w w1) := chain HX.out hb
  have HBX1 : Hid (w1.cell? ⟨g, 0, none⟩ = some (.int .i64 dp) ∧ w1.cell? ⟨g, 1, none⟩ = some (.int .i64 dk)) := ⟨cell_later hb HBX.out.1, cell_later hb HBX.out.2⟩
  replace RA : Hid (RdI .i64 w1 a A) := RA.out.later hb
  replace RB : Hid (RdI .i64 w1 b B) := RB.out.later hb
  replace RC : Hid (RdI .i64 w1 c C) := RC.out.later hb
  clear hb hrm HX HBX
  go_wp2_with fail
  refine (D.merge b a n n dap cap B A _ LB.out LA.out (by omega) (by omega) B64.out A64.out RB.out RA.out).mono ?_
  rintro e w2 ⟨an, nn, cn, rfl, hnn, _, _, _, hrn, _, hb⟩
  rw [E2.out] at hnn hrn ⊢
  simp only at hnn hrn ⊢
  rw [LM.out] at hnn
  subst nn
  have RN : Hid (RdI .i64 w2 an (maxD A B)) := hrn
  have HX2 : Hid (Below w.heap.size w w2) := chain HX1.out hb
  have HBX2 : Hid (w2.cell? ⟨g, 0, none⟩ = some (.int .i64 dp) ∧ w2.cell? ⟨g, 1, none⟩ = some (.int .i64 dk)) := ⟨cell_later hb HBX1.out.1, cell_later hb HBX1.out.2⟩
  replace RA : Hid (RdI .i64 w2 a A) := RA.out.later hb
  replace RB : Hid (RdI .i64 w2 b B) := RB.out.later hb
  replace RC : Hid (RdI .i64 w2 c C) := RC.out.later hb
  replace RM : Hid (RdI .i64 w2 am (maxD A B)) := RM.out.later hb
  clear hb hrn HX1 HBX1
  go_wp2_with fail
  refine (D.least (some ⟨w2.heap.size, 0, none⟩) 3 3 [A, B, C] _ rfl (by omega) (by omega) (fun v hv => by
    simp only [List.mem_cons, List.not_mem_nil, or_false] at hv
    rcases hv with rfl | rfl | rfl
    · exact ⟨by rw [LA.out]; omega, A64.out⟩
    · exact ⟨by rw [LB.out]; omega, B64.out⟩
    · exact ⟨by rw [LC.out]; omega, C64.out⟩) (rows_three w2 _ rfl (SA.out w2 HX2.out) (SB.out w2 HX2.out) (SC.out w2 HX2.out))).mono ?_
  rintro e w3 ⟨al, nl, cl, rfl, hnl, _, _, _, hrl, _, hb'⟩
  rw [E3.out] at hnl hrl ⊢
  simp only at hnl hrl ⊢
  rw [LL.out] at hnl
  subst nl
  have hb : Below w2.heap.size w2 w3 := chain (alloc_below _ _) hb'
  have K : Hid (KL w a b c am al g A B C (maxD A B) (minD (minD A B) C) dp dk w3) := ⟨RA.out.later hb, RB.out.later hb, RC.out.later hb, RM.out.later hb, hrl, cell_later hb HBX2.out.1, cell_later hb HBX2.out.2, chain HX2.out hb⟩
  replace RN : Hid (RdI .i64 w3 an (maxD A B)) := RN.out.later hb
  clear hb hb' hrl HX2 HBX2 RA RB RC RM SA SB SC
  go_wp2_with fail
  refine (keepInts_any am an n n cm cn (maxD A B) (maxD A B) _ LM.out LM.out (by omega) (by omega) K.out.M RN.out).mono ?_
  rintro e w4 ⟨rfl, hb⟩
  rw [decide_eq_true rfl]
  replace K : Hid (KL w a b c am al g A B C (maxD A B) (minD (minD A B) C) dp dk w4) := K.out.later hb
  clear hb RN
  go_wp2_with fail
  refine (D.le a am n n cap cm A (maxD A B) _ LA.out LM.out (by omega) (by omega) A64.out M64.out K.out.A K.out.M).mono ?_
  rintro e w5 ⟨rfl, hb⟩
  rw [F1.out]
  replace K : Hid (KL w a b c am al g A B C (maxD A B) (minD (minD A B) C) dp dk w5) := K.out.later hb
  clear hb
  go_wp2_with fail
  refine (D.le b am n n dap cm B (maxD A B) _ LB.out LM.out (by omega) (by omega) B64.out M64.out K.out.B K.out.M).mono ?_
  rintro e w6 ⟨rfl, hb⟩
  rw [F2.out]
  replace K : Hid (KL w a b c am al g A B C (maxD A B) (minD (minD A B) C) dp dk w6) := K.out.later hb
  clear hb
  go_wp2_with fail
  refine (D.le al a n n cl cap (minD (minD A B) C) A _ LL.out LA.out (by omega) (by omega) L64.out A64.out K.out.L K.out.A).mono ?_
  rintro e w7 ⟨rfl, hb⟩
  rw [F3.out]
  replace K : Hid (KL w a b c am al g A B C (maxD A B) (minD (minD A B) C) dp dk w7) := K.out.later hb
  clear hb
  go_wp2_with fail
  refine (D.le al b n n cl dap (minD (minD A B) C) B _ LL.out LB.out (by omega) (by omega) L64.out B64.out K.out.L K.out.B).mono ?_
  rintro e w8 ⟨rfl, hb⟩
  rw [F4.out]
  replace K : Hid (KL w a b c am al g A B C (maxD A B) (minD (minD A B) C) dp dk w8) := K.out.later hb
  clear hb
  go_wp2_with fail
  refine (D.le al c n n cl eap (minD (minD A B) C) C _ LL.out LC.out (by omega) (by omega) L64.out C64.out K.out.L K.out.C).mono ?_
  rintro e w9 ⟨rfl, hb⟩
  rw [F5.out]
  replace K : Hid (KL w a b c am al g A B C (maxD A B) (minD (minD A B) C) dp dk w9) := K.out.later hb
  clear hb
  generalize hP : leD A C = pc at *
  generalize hQ : leD B C = qc at *
  generalize hR : leD A B = rc at *
  have HP : Hid (leD A C = pc) := hP
  have HQ : Hid (leD B C = qc) := hQ
  have HR : Hid (leD A B = rc) := hR
  clear hP hQ hR
  go_upto_region 8 with fail
  go_cut [144] from 124 (fun s144 wx => s144 = .bool false ∧ Hid (KL w a b c am al g A B C (maxD A B) (minD (minD A B) C) dp dk wx))
  case first =>
    as_aux_lemma =>
    cases pc with
    | true =>
      go_wp2_with fail
      refine (D.le a c n n cap eap A C _ LA.out LC.out (by omega) (by omega) A64.out C64.out K.out.A K.out.C).mono ?_
      rintro e w10 ⟨rfl, hb⟩
      rw [HP.out]
      replace K : Hid (KL w a b c am al g A B C (maxD A B) (minD (minD A B) C) dp dk w10) := K.out.later hb
      clear hb
      go_wp2_with fail
      refine (D.le b c n n dap eap B C _ LB.out LC.out (by omega) (by omega) B64.out C64.out K.out.B K.out.C).mono ?_
      rintro e w11 ⟨rfl, hb⟩
      rw [HQ.out]
      replace K : Hid (KL w a b c am al g A B C (maxD A B) (minD (minD A B) C) dp dk w11) := K.out.later hb
      clear hb
      go_wp2_with fail
      refine (D.le am c n n cm eap (maxD A B) C _ LM.out LC.out (by omega) (by omega) M64.out C64.out K.out.M K.out.C).mono ?_
      rintro e w12 ⟨rfl, hb⟩
      rw [F6.out, Bool.true_and]
      replace K : Hid (KL w a b c am al g A B C (maxD A B) (minD (minD A B) C) dp dk w12) := K.out.later hb
      clear hb
      go_wp2_with fail
      refine (D.le a b n n cap dap A B _ LA.out LB.out (by omega) (by omega) A64.out B64.out K.out.A K.out.B).mono ?_
      rintro e w13 ⟨rfl, hb⟩
      rw [HR.out]
      replace K : Hid (KL w a b c am al g A B C (maxD A B) (minD (minD A B) C) dp dk w13) := K.out.later hb
      clear hb
      go_wp2_with fail
      refine (keepInts_any am b n n cm dap (maxD A B) B _ LM.out LB.out (by omega) (by omega) K.out.M K.out.B).mono ?_
      rintro e w14 ⟨rfl, hb⟩
      rw [← F7.out]
      replace K : Hid (KL w a b c am al g A B C (maxD A B) (minD (minD A B) C) dp dk w14) := K.out.later hb
      clear hb
      cases qc <;> cases rc
      all_goals
        go_wp2
        go_meet
        exact ⟨rfl, K⟩
    | false =>
      go_wp2_with fail
      refine (D.le a c n n cap eap A C _ LA.out LC.out (by omega) (by omega) A64.out C64.out K.out.A K.out.C).mono ?_
      rintro e w10 ⟨rfl, hb⟩
      rw [HP.out]
      replace K : Hid (KL w a b c am al g A B C (maxD A B) (minD (minD A B) C) dp dk w10) := K.out.later hb
      clear hb
      go_wp2_with fail
      refine (D.le am c n n cm eap (maxD A B) C _ LM.out LC.out (by omega) (by omega) M64.out C64.out K.out.M K.out.C).mono ?_
      rintro e w12 ⟨rfl, hb⟩
      rw [F6.out, Bool.false_and]
      replace K : Hid (KL w a b c am al g A B C (maxD A B) (minD (minD A B) C) dp dk w12) := K.out.later hb
      clear hb
      go_wp2_with fail
      refine (D.le a b n n cap dap A B _ LA.out LB.out (by omega) (by omega) A64.out B64.out K.out.A K.out.B).mono ?_
      rintro e w13 ⟨rfl, hb⟩
      rw [HR.out]
      replace K : Hid (KL w a b c am al g A B C (maxD A B) (minD (minD A B) C) dp dk w13) := K.out.later hb
      clear hb
      go_wp2_with fail
      refine (keepInts_any am b n n cm dap (maxD A B) B _ LM.out LB.out (by omega) (by omega) K.out.M K.out.B).mono ?_
      rintro e w14 ⟨rfl, hb⟩
      rw [← F7.out]
      replace K : Hid (KL w a b c am al g A B C (maxD A B) (minD (minD A B) C) dp dk w14) := K.out.later hb
      clear hb
      cases rc
      all_goals
        go_wp2
        go_meet
        exact ⟨rfl, K⟩
  case rest =>
  as_aux_lemma =>
  obtain ⟨rfl, K⟩ := hcut
  clear HP HQ HR F1 F2 F3 F4 F5 F6 F7 E1 E2 E3
  obtain ⟨wd, rfl⟩ : ∃ x, x = wc := ⟨_, rfl⟩
  go_wp2
  go_loopw [15] (fun i wr => ∃ k : Nat, k ≤ n ∧ i = .int .i64 k ∧ Hid (KL w a b c am al g A B C (maxD A B) (minD (minD A B) C) dp dk wr)) (fun i _ => n - (RowKit.intOf i).toNat)
  case atStart => exact ⟨0, Nat.zero_le _, rfl, K⟩
  case round =>
  clear K
  obtain ⟨k, hk, rfl, K⟩ := hrel
  by_cases hlt : k < n
  · have kA : k < A.length := by rw [LA.out]; exact hlt
    have kB : k < B.length := by rw [LB.out]; exact hlt
    have kC : k < C.length := by rw [LC.out]; exact hlt
    have kM : k < (maxD A B).length := by rw [LM.out]; exact hlt
    have kL : k < (minD (minD A B) C).length := by rw [LL.out]; exact hlt
    have km : k < (minD A B).length := by rw [minD_len (by rw [LA.out, LB.out])]; exact kA
    obtain ⟨b1, o1, rfl, q1⟩ := K.out.A (by omega)
    obtain ⟨b2, o2, rfl, q2⟩ := K.out.B (by omega)
    obtain ⟨b3, o3, rfl, q3⟩ := K.out.C (by omega)
    obtain ⟨b4, o4, rfl, q4⟩ := K.out.M (by omega)
    obtain ⟨b5, o5, rfl, q5⟩ := K.out.L (by omega)
    have y1 := q1 k kA
    have y2 := q2 k kB
    have y3 := q3 k kC
    have y4 := q4 k kM
    have y5 := q5 k kL
    rw [maxD_at kA kB] at y4
    rw [minD_at km kC, minD_at kA kB] at y5
    clear q1 q2 q3 q4 q5
    generalize A[k] = x1 at *
    generalize B[k] = x2 at *
    generalize C[k] = x3 at *
    obtain ⟨x4, h4⟩ : ∃ x, max x1 x2 = x := ⟨_, rfl⟩
    obtain ⟨x5, h5⟩ : ∃ x, min (min x1 x2) x3 = x := ⟨_, rfl⟩
    rw [h4] at y4
    rw [h5] at y5
    have H4 : Hid ((x4 != x1) = false ∨ (x4 != x1) = true ∧ (x4 != x2) = false) := by show _ ∨ _; simp; omega
    have H5 : Hid ((x5 != x1) = false ∨ (x5 != x1) = true ∧ (x5 != x2) = false ∨ (x5 != x1) = true ∧ (x5 != x2) = true ∧ (x5 != x3) = false) := by show _ ∨ _; simp; omega
    clear h4 h5 kA kB kC kM kL km
    have z1 : (0 : Int) ≤ (k : Int) := by omega
    have z2 : (k : Int) < (n : Int) := by omega
    go_wp2
    rcases H4.out with f41 | ⟨f41, f42⟩ <;> rcases H5.out with f51 | ⟨f51, f52⟩ | ⟨f51, f52, f53⟩
    all_goals
      as_aux_lemma =>
      go_quiet (fail)
      go_wp2
      go_roundw
      case rel => exact ⟨k + 1, by omega, by go_num, K.out.drewN _⟩
      case measure => simp [RowKit.intOf]; omega
  obtain rfl : n = k := by omega
  clear hlt hk
  go_upto_region 15 with fail
  go_cut [245] from 204 (fun s245 wx => s245 = .bool false ∧ Hid (KL w a b c am al g A B C (maxD A B) (minD (minD A B) C) dp dk wx))
  case first =>
    have CA := fun (W : World) (h : Below wr.heap.size wr W) => D.has a n cap dp dk A W LA.out (by omega) A64.out i0 i1 (K.out.A.later h)
    have CB := fun (W : World) (h : Below wr.heap.size wr W) => D.has b n dap dp dk B W LB.out (by omega) B64.out i0 i1 (K.out.B.later h)
    have CC := fun (W : World) (h : Below wr.heap.size wr W) => D.has c n eap dp dk C W LC.out (by omega) C64.out i0 i1 (K.out.C.later h)
    have CM := fun (W : World) (h : Below wr.heap.size wr W) => D.has am n cm dp dk (maxD A B) W LM.out (by omega) M64.out i0 i1 (K.out.M.later h)
    have CL := fun (W : World) (h : Below wr.heap.size wr W) => D.has al n cl dp dk (minD (minD A B) C) W LL.out (by omega) L64.out i0 i1 (K.out.L.later h)
    rw [F8.out] at CM
    rw [F9.out] at CL
    have HS := And.intro K.out.d0 (And.intro K.out.d1 (show Hid (Below wr.heap.size wr wr.drew) from (Below.refl _ _).drew))
    generalize hasD A dp dk = ha at *
    generalize hasD B dp dk = hb' at *
    generalize hasD C dp dk = hc at *
    clear F8 F9
    cases ha with
    | false =>
      rw [Bool.false_or] at CM
      rw [Bool.false_and, Bool.false_and] at CL
      as_aux_lemma =>
      refine wp_region_held_drew (S := (fun w' => w'.cell? ⟨g, 0, none⟩ = some (.int .i64 dp) ∧ w'.cell? ⟨g, 1, none⟩ = some (.int .i64 dk) ∧ Hid (Below wr.heap.size wr w'))) (by kernel_rfl) HS (fun hHeld => ?_)
      refine heldTake (v := ?_) 0 204 rfl rfl (by kernel_rfl) (by kernel_rfl) (by kernel_rfl) (fun _ _ _ h => h) (by rfl) (fun w hSw => ?_) (by assumption) ?_
      rotate_left
      · (try dsimp only at hSw); first | (go_simp; done) | (go_simp; with_reducible rfl)
      simp only [List.setIfInBounds_toArray, List.set_cons_zero, List.set_cons_succ]
      refine heldTake (v := ?_) 1 205 rfl rfl (by kernel_rfl) (by kernel_rfl) (by kernel_rfl) (fun _ _ _ h => h) (by rfl) (fun w hSw => ?_) (by assumption) ?_
      rotate_left
      · (try dsimp only at hSw); first | (go_simp; done) | (go_simp; with_reducible rfl)
      simp only [List.setIfInBounds_toArray, List.set_cons_zero, List.set_cons_succ]
      refine heldOne 2 rfl (by kernel_rfl) (by rfl) (fun K hK => ?_)
      go_simp
      refine (CA _ (ofHeld (by assumption))).mono ?_
      rintro e wx2 ⟨rfl, hbx2⟩
      refine hK.out _ _ ?_ (fun hHeld => ?_)
      · exact keepTwoI hbx2 (by assumption)
      clear hK K
      try simp only [List.setIfInBounds_toArray, List.set_cons_zero, List.set_cons_succ]
      refine heldTake (v := ?_) 3 207 rfl rfl (by kernel_rfl) (by kernel_rfl) (by kernel_rfl) (fun _ _ _ h => h) (by rfl) (fun w hSw => ?_) (by assumption) ?_
      rotate_left
      · (try dsimp only at hSw); first | (go_simp; done) | (go_simp; with_reducible rfl)
      simp only [List.setIfInBounds_toArray, List.set_cons_zero, List.set_cons_succ]
      refine heldSkip 4 208 rfl rfl (by kernel_rfl) (by kernel_rfl) (by kernel_rfl) (fun _ _ _ h => h) (by rfl) (by assumption) ?_
      simp only [List.setIfInBounds_toArray, List.set_cons_zero, List.set_cons_succ]
      refine heldSkip 5 209 rfl rfl (by kernel_rfl) (by kernel_rfl) (by kernel_rfl) (fun _ _ _ h => h) (by rfl) (by assumption) ?_
      simp only [List.setIfInBounds_toArray, List.set_cons_zero, List.set_cons_succ]
      refine heldSkip 6 210 rfl rfl (by kernel_rfl) (by kernel_rfl) (by kernel_rfl) (fun _ _ _ h => h) (by rfl) (by assumption) ?_
      simp only [List.setIfInBounds_toArray, List.set_cons_zero, List.set_cons_succ]
      refine heldSkip 7 211 rfl rfl (by kernel_rfl) (by kernel_rfl) (by kernel_rfl) (fun _ _ _ h => h) (by rfl) (by assumption) ?_
      simp only [List.setIfInBounds_toArray, List.set_cons_zero, List.set_cons_succ]
      refine heldTake (v := ?_) 8 212 rfl rfl (by kernel_rfl) (by kernel_rfl) (by kernel_rfl) (fun _ _ _ h => h) (by rfl) (fun w hSw => ?_) (by assumption) ?_
      rotate_left
      · (try dsimp only at hSw); first | (go_simp; done) | (go_simp; with_reducible rfl)
      simp only [List.setIfInBounds_toArray, List.set_cons_zero, List.set_cons_succ]
      refine heldTake (v := ?_) 9 213 rfl rfl (by kernel_rfl) (by kernel_rfl) (by kernel_rfl) (fun _ _ _ h => h) (by rfl) (fun w hSw => ?_) (by assumption) ?_
      rotate_left
      · (try dsimp only at hSw); first | (go_simp; done) | (go_simp; with_reducible rfl)
      simp only [List.setIfInBounds_toArray, List.set_cons_zero, List.set_cons_succ]
      refine heldTake (v := ?_) 10 214 rfl rfl (by kernel_rfl) (by kernel_rfl) (by kernel_rfl) (fun _ _ _ h => h) (by rfl) (fun w hSw => ?_) (by assumption) ?_
      rotate_left
      · (try dsimp only at hSw); first | (go_simp; done) | (go_simp; with_reducible rfl)
      simp only [List.setIfInBounds_toArray, List.set_cons_zero, List.set_cons_succ]
      refine heldTake (v := ?_) 11 215 rfl rfl (by kernel_rfl) (by kernel_rfl) (by kernel_rfl) (fun _ _ _ h => h) (by rfl) (fun w hSw => ?_) (by assumption) ?_
      rotate_left
      · (try dsimp only at hSw); first | (go_simp; done) | (go_simp; with_reducible rfl)
      simp only [List.setIfInBounds_toArray, List.set_cons_zero, List.set_cons_succ]
      refine heldTake (v := ?_) 13 217 rfl rfl (by kernel_rfl) (by kernel_rfl) (by kernel_rfl) (fun _ _ _ h => h) (by rfl) (fun w hSw => ?_) (by assumption) ?_
      rotate_left
      · (try dsimp only at hSw); first | (go_simp; done) | (go_simp; with_reducible rfl)
      simp only [List.setIfInBounds_toArray, List.set_cons_zero, List.set_cons_succ]
      refine heldTake (v := ?_) 14 218 rfl rfl (by kernel_rfl) (by kernel_rfl) (by kernel_rfl) (fun _ _ _ h => h) (by rfl) (fun w hSw => ?_) (by assumption) ?_
      rotate_left
      · (try dsimp only at hSw); first | (go_simp; done) | (go_simp; with_reducible rfl)
      simp only [List.setIfInBounds_toArray, List.set_cons_zero, List.set_cons_succ]
      refine heldOne 12 rfl (by kernel_rfl) (by rfl) (fun K hK => ?_)
      go_simp
      refine (CL _ (ofHeld (by assumption))).mono ?_
      rintro e wx12 ⟨rfl, hbx12⟩
      refine hK.out _ _ ?_ (fun hHeld => ?_)
      · exact keepTwoI hbx12 (by assumption)
      clear hK K
      try simp only [List.setIfInBounds_toArray, List.set_cons_zero, List.set_cons_succ]
      refine heldOne 15 rfl (by kernel_rfl) (by rfl) (fun K hK => ?_)
      go_simp
      refine (CA _ (ofHeld (by assumption))).mono ?_
      rintro e wx15 ⟨rfl, hbx15⟩
      refine hK.out _ _ ?_ (fun hHeld => ?_)
      · exact keepTwoI hbx15 (by assumption)
      clear hK K
      try simp only [List.setIfInBounds_toArray, List.set_cons_zero, List.set_cons_succ]
      refine heldTake (v := ?_) 16 220 rfl rfl (by kernel_rfl) (by kernel_rfl) (by kernel_rfl) (fun _ _ _ h => h) (by rfl) (fun w hSw => ?_) (by assumption) ?_
      rotate_left
      · (try dsimp only at hSw); first | (go_simp; done) | (go_simp; with_reducible rfl)
      simp only [List.setIfInBounds_toArray, List.set_cons_zero, List.set_cons_succ]
      refine heldSkip 17 221 rfl rfl (by kernel_rfl) (by kernel_rfl) (by kernel_rfl) (fun _ _ _ h => h) (by rfl) (by assumption) ?_
      simp only [List.setIfInBounds_toArray, List.set_cons_zero, List.set_cons_succ]
      refine heldSkip 18 222 rfl rfl (by kernel_rfl) (by kernel_rfl) (by kernel_rfl) (fun _ _ _ h => h) (by rfl) (by assumption) ?_
      simp only [List.setIfInBounds_toArray, List.set_cons_zero, List.set_cons_succ]
      refine heldSkip 19 223 rfl rfl (by kernel_rfl) (by kernel_rfl) (by kernel_rfl) (fun _ _ _ h => h) (by rfl) (by assumption) ?_
      simp only [List.setIfInBounds_toArray, List.set_cons_zero, List.set_cons_succ]
      refine heldTake (v := ?_) 20 224 rfl rfl (by kernel_rfl) (by kernel_rfl) (by kernel_rfl) (fun _ _ _ h => h) (by rfl) (fun w hSw => ?_) (by assumption) ?_
      rotate_left
      · (try dsimp only at hSw); first | (go_simp; done) | (go_simp; with_reducible rfl)
      simp only [List.setIfInBounds_toArray, List.set_cons_zero, List.set_cons_succ]
      refine heldTake (v := ?_) 21 225 rfl rfl (by kernel_rfl) (by kernel_rfl) (by kernel_rfl) (fun _ _ _ h => h) (by rfl) (fun w hSw => ?_) (by assumption) ?_
      rotate_left
      · (try dsimp only at hSw); first | (go_simp; done) | (go_simp; with_reducible rfl)
      simp only [List.setIfInBounds_toArray, List.set_cons_zero, List.set_cons_succ]
      refine heldSkip 22 226 rfl rfl (by kernel_rfl) (by kernel_rfl) (by kernel_rfl) (fun _ _ _ h => h) (by rfl) (by assumption) ?_
      simp only [List.setIfInBounds_toArray, List.set_cons_zero, List.set_cons_succ]
      refine heldSkip 23 227 rfl rfl (by kernel_rfl) (by kernel_rfl) (by kernel_rfl) (fun _ _ _ h => h) (by rfl) (by assumption) ?_
      simp only [List.setIfInBounds_toArray, List.set_cons_zero, List.set_cons_succ]
      refine heldSkip 24 228 rfl rfl (by kernel_rfl) (by kernel_rfl) (by kernel_rfl) (fun _ _ _ h => h) (by rfl) (by assumption) ?_
      simp only [List.setIfInBounds_toArray, List.set_cons_zero, List.set_cons_succ]
      refine heldTake (v := ?_) 25 229 rfl rfl (by kernel_rfl) (by kernel_rfl) (by kernel_rfl) (fun _ _ _ h => h) (by rfl) (fun w hSw => ?_) (by assumption) ?_
      rotate_left
      · (try dsimp only at hSw); first | (go_simp; done) | (go_simp; with_reducible rfl)
      simp only [List.setIfInBounds_toArray, List.set_cons_zero, List.set_cons_succ]
      refine heldTake (v := ?_) 26 230 rfl rfl (by kernel_rfl) (by kernel_rfl) (by kernel_rfl) (fun _ _ _ h => h) (by rfl) (fun w hSw => ?_) (by assumption) ?_
      rotate_left
      · (try dsimp only at hSw); first | (go_simp; done) | (go_simp; with_reducible rfl)
      simp only [List.setIfInBounds_toArray, List.set_cons_zero, List.set_cons_succ]
      refine heldTake (v := ?_) 27 231 rfl rfl (by kernel_rfl) (by kernel_rfl) (by kernel_rfl) (fun _ _ _ h => h) (by rfl) (fun w hSw => ?_) (by assumption) ?_
      rotate_left
      · (try dsimp only at hSw); first | (go_simp; done) | (go_simp; with_reducible rfl)
      simp only [List.setIfInBounds_toArray, List.set_cons_zero, List.set_cons_succ]
      refine heldTake (v := ?_) 28 232 rfl rfl (by kernel_rfl) (by kernel_rfl) (by kernel_rfl) (fun _ _ _ h => h) (by rfl) (fun w hSw => ?_) (by assumption) ?_
      rotate_left
      · (try dsimp only at hSw); first | (go_simp; done) | (go_simp; with_reducible rfl)
      simp only [List.setIfInBounds_toArray, List.set_cons_zero, List.set_cons_succ]
      refine heldTake (v := ?_) 29 233 rfl rfl (by kernel_rfl) (by kernel_rfl) (by kernel_rfl) (fun _ _ _ h => h) (by rfl) (fun w hSw => ?_) (by assumption) ?_
      rotate_left
      · (try dsimp only at hSw); first | (go_simp; done) | (go_simp; with_reducible rfl)
      simp only [List.setIfInBounds_toArray, List.set_cons_zero, List.set_cons_succ]
      refine heldTake (v := ?_) 30 234 rfl rfl (by kernel_rfl) (by kernel_rfl) (by kernel_rfl) (fun _ _ _ h => h) (by rfl) (fun w hSw => ?_) (by assumption) ?_
      rotate_left
      · (try dsimp only at hSw); first | (go_simp; done) | (go_simp; with_reducible rfl)
      simp only [List.setIfInBounds_toArray, List.set_cons_zero, List.set_cons_succ]
      refine heldTake (v := ?_) 32 236 rfl rfl (by kernel_rfl) (by kernel_rfl) (by kernel_rfl) (fun _ _ _ h => h) (by rfl) (fun w hSw => ?_) (by assumption) ?_
      rotate_left
      · (try dsimp only at hSw); first | (go_simp; done) | (go_simp; with_reducible rfl)
      simp only [List.setIfInBounds_toArray, List.set_cons_zero, List.set_cons_succ]
      refine heldTake (v := ?_) 33 237 rfl rfl (by kernel_rfl) (by kernel_rfl) (by kernel_rfl) (fun _ _ _ h => h) (by rfl) (fun w hSw => ?_) (by assumption) ?_
      rotate_left
      · (try dsimp only at hSw); first | (go_simp; done) | (go_simp; with_reducible rfl)
      simp only [List.setIfInBounds_toArray, List.set_cons_zero, List.set_cons_succ]
      refine heldOne 31 rfl (by kernel_rfl) (by rfl) (fun K hK => ?_)
      go_simp
      refine (CM _ (ofHeld (by assumption))).mono ?_
      rintro e wx31 ⟨rfl, hbx31⟩
      refine hK.out _ _ ?_ (fun hHeld => ?_)
      · exact keepTwoI hbx31 (by assumption)
      clear hK K
      try simp only [List.setIfInBounds_toArray, List.set_cons_zero, List.set_cons_succ]
      refine heldOne 34 rfl (by kernel_rfl) (by rfl) (fun K hK => ?_)
      go_simp
      refine (CA _ (ofHeld (by assumption))).mono ?_
      rintro e wx34 ⟨rfl, hbx34⟩
      refine hK.out _ _ ?_ (fun hHeld => ?_)
      · exact keepTwoI hbx34 (by assumption)
      clear hK K
      try simp only [List.setIfInBounds_toArray, List.set_cons_zero, List.set_cons_succ]
      refine heldTake (v := ?_) 35 239 rfl rfl (by kernel_rfl) (by kernel_rfl) (by kernel_rfl) (fun _ _ _ h => h) (by rfl) (fun w hSw => ?_) (by assumption) ?_
      rotate_left
      · (try dsimp only at hSw); first | (go_simp; done) | (go_simp; with_reducible rfl)
      simp only [List.setIfInBounds_toArray, List.set_cons_zero, List.set_cons_succ]
      refine heldTake (v := ?_) 36 240 rfl rfl (by kernel_rfl) (by kernel_rfl) (by kernel_rfl) (fun _ _ _ h => h) (by rfl) (fun w hSw => ?_) (by assumption) ?_
      rotate_left
      · (try dsimp only at hSw); first | (go_simp; done) | (go_simp; with_reducible rfl)
      simp only [List.setIfInBounds_toArray, List.set_cons_zero, List.set_cons_succ]
      refine heldTake (v := ?_) 37 241 rfl rfl (by kernel_rfl) (by kernel_rfl) (by kernel_rfl) (fun _ _ _ h => h) (by rfl) (fun w hSw => ?_) (by assumption) ?_
      rotate_left
      · (try dsimp only at hSw); first | (go_simp; done) | (go_simp; with_reducible rfl)
      simp only [List.setIfInBounds_toArray, List.set_cons_zero, List.set_cons_succ]
      refine heldOne 38 rfl (by kernel_rfl) (by rfl) (fun K hK => ?_)
      go_simp
      refine (CB _ (ofHeld (by assumption))).mono ?_
      rintro e wx38 ⟨rfl, hbx38⟩
      refine hK.out _ _ ?_ (fun hHeld => ?_)
      · exact keepTwoI hbx38 (by assumption)
      clear hK K
      try simp only [List.setIfInBounds_toArray, List.set_cons_zero, List.set_cons_succ]
      refine heldTake (v := ?_) 39 243 rfl rfl (by kernel_rfl) (by kernel_rfl) (by kernel_rfl) (fun _ _ _ h => h) (by rfl) (fun w hSw => ?_) (by assumption) ?_
      rotate_left
      · (try dsimp only at hSw); first | (go_simp; done) | (go_simp; with_reducible rfl)
      simp only [List.setIfInBounds_toArray, List.set_cons_zero, List.set_cons_succ]
      refine heldTake (v := ?_) 40 244 rfl rfl (by kernel_rfl) (by kernel_rfl) (by kernel_rfl) (fun _ _ _ h => h) (by rfl) (fun w hSw => ?_) (by assumption) ?_
      rotate_left
      · (try dsimp only at hSw); first | (go_simp; done) | (go_simp; with_reducible rfl)
      simp only [List.setIfInBounds_toArray, List.set_cons_zero, List.set_cons_succ]
      refine heldTake (v := ?_) 41 245 rfl rfl (by kernel_rfl) (by kernel_rfl) (by kernel_rfl) (fun _ _ _ h => h) (by rfl) (fun w hSw => ?_) (by assumption) ?_
      rotate_left
      · (try dsimp only at hSw); first | (go_simp; done) | (go_simp; with_reducible rfl)
      simp only [List.setIfInBounds_toArray, List.set_cons_zero, List.set_cons_succ]
      refine wpAnyH_done (by kernel_rfl) ?_ _
      go_wp2
      go_meet
      exact ⟨rfl, K.out.later (ofHeld (by assumption))⟩
    | true =>
      rw [Bool.true_or] at CM
      rw [Bool.true_and] at CL
      cases hb' with
      | false =>
      rw [Bool.false_and] at CL
      as_aux_lemma =>
      refine wp_region_held_drew (S := (fun w' => w'.cell? ⟨g, 0, none⟩ = some (.int .i64 dp) ∧ w'.cell? ⟨g, 1, none⟩ = some (.int .i64 dk) ∧ Hid (Below wr.heap.size wr w'))) (by kernel_rfl) HS (fun hHeld => ?_)
      refine heldTake (v := ?_) 0 204 rfl rfl (by kernel_rfl) (by kernel_rfl) (by kernel_rfl) (fun _ _ _ h => h) (by rfl) (fun w hSw => ?_) (by assumption) ?_
      rotate_left
      · (try dsimp only at hSw); first | (go_simp; done) | (go_simp; with_reducible rfl)
      simp only [List.setIfInBounds_toArray, List.set_cons_zero, List.set_cons_succ]
      refine heldTake (v := ?_) 1 205 rfl rfl (by kernel_rfl) (by kernel_rfl) (by kernel_rfl) (fun _ _ _ h => h) (by rfl) (fun w hSw => ?_) (by assumption) ?_
      rotate_left
      · (try dsimp only at hSw); first | (go_simp; done) | (go_simp; with_reducible rfl)
      simp only [List.setIfInBounds_toArray, List.set_cons_zero, List.set_cons_succ]
      refine heldOne 2 rfl (by kernel_rfl) (by rfl) (fun K hK => ?_)
      go_simp
      refine (CA _ (ofHeld (by assumption))).mono ?_
      rintro e wx2 ⟨rfl, hbx2⟩
      refine hK.out _ _ ?_ (fun hHeld => ?_)
      · exact keepTwoI hbx2 (by assumption)
      clear hK K
      try simp only [List.setIfInBounds_toArray, List.set_cons_zero, List.set_cons_succ]
      refine heldTake (v := ?_) 3 207 rfl rfl (by kernel_rfl) (by kernel_rfl) (by kernel_rfl) (fun _ _ _ h => h) (by rfl) (fun w hSw => ?_) (by assumption) ?_
      rotate_left
      · (try dsimp only at hSw); first | (go_simp; done) | (go_simp; with_reducible rfl)
      simp only [List.setIfInBounds_toArray, List.set_cons_zero, List.set_cons_succ]
      refine heldTake (v := ?_) 4 208 rfl rfl (by kernel_rfl) (by kernel_rfl) (by kernel_rfl) (fun _ _ _ h => h) (by rfl) (fun w hSw => ?_) (by assumption) ?_
      rotate_left
      · (try dsimp only at hSw); first | (go_simp; done) | (go_simp; with_reducible rfl)
      simp only [List.setIfInBounds_toArray, List.set_cons_zero, List.set_cons_succ]
      refine heldTake (v := ?_) 5 209 rfl rfl (by kernel_rfl) (by kernel_rfl) (by kernel_rfl) (fun _ _ _ h => h) (by rfl) (fun w hSw => ?_) (by assumption) ?_
      rotate_left
      · (try dsimp only at hSw); first | (go_simp; done) | (go_simp; with_reducible rfl)
      simp only [List.setIfInBounds_toArray, List.set_cons_zero, List.set_cons_succ]
      refine heldOne 6 rfl (by kernel_rfl) (by rfl) (fun K hK => ?_)
      go_simp
      refine (CM _ (ofHeld (by assumption))).mono ?_
      rintro e wx6 ⟨rfl, hbx6⟩
      refine hK.out _ _ ?_ (fun hHeld => ?_)
      · exact keepTwoI hbx6 (by assumption)
      clear hK K
      try simp only [List.setIfInBounds_toArray, List.set_cons_zero, List.set_cons_succ]
      refine heldTake (v := ?_) 7 211 rfl rfl (by kernel_rfl) (by kernel_rfl) (by kernel_rfl) (fun _ _ _ h => h) (by rfl) (fun w hSw => ?_) (by assumption) ?_
      rotate_left
      · (try dsimp only at hSw); first | (go_simp; done) | (go_simp; with_reducible rfl)
      simp only [List.setIfInBounds_toArray, List.set_cons_zero, List.set_cons_succ]
      refine heldTake (v := ?_) 8 212 rfl rfl (by kernel_rfl) (by kernel_rfl) (by kernel_rfl) (fun _ _ _ h => h) (by rfl) (fun w hSw => ?_) (by assumption) ?_
      rotate_left
      · (try dsimp only at hSw); first | (go_simp; done) | (go_simp; with_reducible rfl)
      simp only [List.setIfInBounds_toArray, List.set_cons_zero, List.set_cons_succ]
      refine heldTake (v := ?_) 9 213 rfl rfl (by kernel_rfl) (by kernel_rfl) (by kernel_rfl) (fun _ _ _ h => h) (by rfl) (fun w hSw => ?_) (by assumption) ?_
      rotate_left
      · (try dsimp only at hSw); first | (go_simp; done) | (go_simp; with_reducible rfl)
      simp only [List.setIfInBounds_toArray, List.set_cons_zero, List.set_cons_succ]
      refine heldTake (v := ?_) 10 214 rfl rfl (by kernel_rfl) (by kernel_rfl) (by kernel_rfl) (fun _ _ _ h => h) (by rfl) (fun w hSw => ?_) (by assumption) ?_
      rotate_left
      · (try dsimp only at hSw); first | (go_simp; done) | (go_simp; with_reducible rfl)
      simp only [List.setIfInBounds_toArray, List.set_cons_zero, List.set_cons_succ]
      refine heldTake (v := ?_) 11 215 rfl rfl (by kernel_rfl) (by kernel_rfl) (by kernel_rfl) (fun _ _ _ h => h) (by rfl) (fun w hSw => ?_) (by assumption) ?_
      rotate_left
      · (try dsimp only at hSw); first | (go_simp; done) | (go_simp; with_reducible rfl)
      simp only [List.setIfInBounds_toArray, List.set_cons_zero, List.set_cons_succ]
      refine heldTake (v := ?_) 13 217 rfl rfl (by kernel_rfl) (by kernel_rfl) (by kernel_rfl) (fun _ _ _ h => h) (by rfl) (fun w hSw => ?_) (by assumption) ?_
      rotate_left
      · (try dsimp only at hSw); first | (go_simp; done) | (go_simp; with_reducible rfl)
      simp only [List.setIfInBounds_toArray, List.set_cons_zero, List.set_cons_succ]
      refine heldTake (v := ?_) 14 218 rfl rfl (by kernel_rfl) (by kernel_rfl) (by kernel_rfl) (fun _ _ _ h => h) (by rfl) (fun w hSw => ?_) (by assumption) ?_
      rotate_left
      · (try dsimp only at hSw); first | (go_simp; done) | (go_simp; with_reducible rfl)
      simp only [List.setIfInBounds_toArray, List.set_cons_zero, List.set_cons_succ]
      refine heldOne 12 rfl (by kernel_rfl) (by rfl) (fun K hK => ?_)
      go_simp
      refine (CL _ (ofHeld (by assumption))).mono ?_
      rintro e wx12 ⟨rfl, hbx12⟩
      refine hK.out _ _ ?_ (fun hHeld => ?_)
      · exact keepTwoI hbx12 (by assumption)
      clear hK K
      try simp only [List.setIfInBounds_toArray, List.set_cons_zero, List.set_cons_succ]
      refine heldOne 15 rfl (by kernel_rfl) (by rfl) (fun K hK => ?_)
      go_simp
      refine (CA _ (ofHeld (by assumption))).mono ?_
      rintro e wx15 ⟨rfl, hbx15⟩
      refine hK.out _ _ ?_ (fun hHeld => ?_)
      · exact keepTwoI hbx15 (by assumption)
      clear hK K
      try simp only [List.setIfInBounds_toArray, List.set_cons_zero, List.set_cons_succ]
      refine heldTake (v := ?_) 16 220 rfl rfl (by kernel_rfl) (by kernel_rfl) (by kernel_rfl) (fun _ _ _ h => h) (by rfl) (fun w hSw => ?_) (by assumption) ?_
      rotate_left
      · (try dsimp only at hSw); first | (go_simp; done) | (go_simp; with_reducible rfl)
      simp only [List.setIfInBounds_toArray, List.set_cons_zero, List.set_cons_succ]
      refine heldTake (v := ?_) 17 221 rfl rfl (by kernel_rfl) (by kernel_rfl) (by kernel_rfl) (fun _ _ _ h => h) (by rfl) (fun w hSw => ?_) (by assumption) ?_
      rotate_left
      · (try dsimp only at hSw); first | (go_simp; done) | (go_simp; with_reducible rfl)
      simp only [List.setIfInBounds_toArray, List.set_cons_zero, List.set_cons_succ]
      refine heldTake (v := ?_) 18 222 rfl rfl (by kernel_rfl) (by kernel_rfl) (by kernel_rfl) (fun _ _ _ h => h) (by rfl) (fun w hSw => ?_) (by assumption) ?_
      rotate_left
      · (try dsimp only at hSw); first | (go_simp; done) | (go_simp; with_reducible rfl)
      simp only [List.setIfInBounds_toArray, List.set_cons_zero, List.set_cons_succ]
      refine heldOne 19 rfl (by kernel_rfl) (by rfl) (fun K hK => ?_)
      go_simp
      refine (CB _ (ofHeld (by assumption))).mono ?_
      rintro e wx19 ⟨rfl, hbx19⟩
      refine hK.out _ _ ?_ (fun hHeld => ?_)
      · exact keepTwoI hbx19 (by assumption)
      clear hK K
      try simp only [List.setIfInBounds_toArray, List.set_cons_zero, List.set_cons_succ]
      refine heldTake (v := ?_) 20 224 rfl rfl (by kernel_rfl) (by kernel_rfl) (by kernel_rfl) (fun _ _ _ h => h) (by rfl) (fun w hSw => ?_) (by assumption) ?_
      rotate_left
      · (try dsimp only at hSw); first | (go_simp; done) | (go_simp; with_reducible rfl)
      simp only [List.setIfInBounds_toArray, List.set_cons_zero, List.set_cons_succ]
      refine heldTake (v := ?_) 21 225 rfl rfl (by kernel_rfl) (by kernel_rfl) (by kernel_rfl) (fun _ _ _ h => h) (by rfl) (fun w hSw => ?_) (by assumption) ?_
      rotate_left
      · (try dsimp only at hSw); first | (go_simp; done) | (go_simp; with_reducible rfl)
      simp only [List.setIfInBounds_toArray, List.set_cons_zero, List.set_cons_succ]
      refine heldSkip 22 226 rfl rfl (by kernel_rfl) (by kernel_rfl) (by kernel_rfl) (fun _ _ _ h => h) (by rfl) (by assumption) ?_
      simp only [List.setIfInBounds_toArray, List.set_cons_zero, List.set_cons_succ]
      refine heldSkip 23 227 rfl rfl (by kernel_rfl) (by kernel_rfl) (by kernel_rfl) (fun _ _ _ h => h) (by rfl) (by assumption) ?_
      simp only [List.setIfInBounds_toArray, List.set_cons_zero, List.set_cons_succ]
      refine heldSkip 24 228 rfl rfl (by kernel_rfl) (by kernel_rfl) (by kernel_rfl) (fun _ _ _ h => h) (by rfl) (by assumption) ?_
      simp only [List.setIfInBounds_toArray, List.set_cons_zero, List.set_cons_succ]
      refine heldTake (v := ?_) 25 229 rfl rfl (by kernel_rfl) (by kernel_rfl) (by kernel_rfl) (fun _ _ _ h => h) (by rfl) (fun w hSw => ?_) (by assumption) ?_
      rotate_left
      · (try dsimp only at hSw); first | (go_simp; done) | (go_simp; with_reducible rfl)
      simp only [List.setIfInBounds_toArray, List.set_cons_zero, List.set_cons_succ]
      refine heldTake (v := ?_) 26 230 rfl rfl (by kernel_rfl) (by kernel_rfl) (by kernel_rfl) (fun _ _ _ h => h) (by rfl) (fun w hSw => ?_) (by assumption) ?_
      rotate_left
      · (try dsimp only at hSw); first | (go_simp; done) | (go_simp; with_reducible rfl)
      simp only [List.setIfInBounds_toArray, List.set_cons_zero, List.set_cons_succ]
      refine heldTake (v := ?_) 27 231 rfl rfl (by kernel_rfl) (by kernel_rfl) (by kernel_rfl) (fun _ _ _ h => h) (by rfl) (fun w hSw => ?_) (by assumption) ?_
      rotate_left
      · (try dsimp only at hSw); first | (go_simp; done) | (go_simp; with_reducible rfl)
      simp only [List.setIfInBounds_toArray, List.set_cons_zero, List.set_cons_succ]
      refine heldTake (v := ?_) 28 232 rfl rfl (by kernel_rfl) (by kernel_rfl) (by kernel_rfl) (fun _ _ _ h => h) (by rfl) (fun w hSw => ?_) (by assumption) ?_
      rotate_left
      · (try dsimp only at hSw); first | (go_simp; done) | (go_simp; with_reducible rfl)
      simp only [List.setIfInBounds_toArray, List.set_cons_zero, List.set_cons_succ]
      refine heldTake (v := ?_) 29 233 rfl rfl (by kernel_rfl) (by kernel_rfl) (by kernel_rfl) (fun _ _ _ h => h) (by rfl) (fun w hSw => ?_) (by assumption) ?_
      rotate_left
      · (try dsimp only at hSw); first | (go_simp; done) | (go_simp; with_reducible rfl)
      simp only [List.setIfInBounds_toArray, List.set_cons_zero, List.set_cons_succ]
      refine heldTake (v := ?_) 30 234 rfl rfl (by kernel_rfl) (by kernel_rfl) (by kernel_rfl) (fun _ _ _ h => h) (by rfl) (fun w hSw => ?_) (by assumption) ?_
      rotate_left
      · (try dsimp only at hSw); first | (go_simp; done) | (go_simp; with_reducible rfl)
      simp only [List.setIfInBounds_toArray, List.set_cons_zero, List.set_cons_succ]
      refine heldTake (v := ?_) 32 236 rfl rfl (by kernel_rfl) (by kernel_rfl) (by kernel_rfl) (fun _ _ _ h => h) (by rfl) (fun w hSw => ?_) (by assumption) ?_
      rotate_left
      · (try dsimp only at hSw); first | (go_simp; done) | (go_simp; with_reducible rfl)
      simp only [List.setIfInBounds_toArray, List.set_cons_zero, List.set_cons_succ]
      refine heldTake (v := ?_) 33 237 rfl rfl (by kernel_rfl) (by kernel_rfl) (by kernel_rfl) (fun _ _ _ h => h) (by rfl) (fun w hSw => ?_) (by assumption) ?_
      rotate_left
      · (try dsimp only at hSw); first | (go_simp; done) | (go_simp; with_reducible rfl)
      simp only [List.setIfInBounds_toArray, List.set_cons_zero, List.set_cons_succ]
      refine heldOne 31 rfl (by kernel_rfl) (by rfl) (fun K hK => ?_)
      go_simp
      refine (CM _ (ofHeld (by assumption))).mono ?_
      rintro e wx31 ⟨rfl, hbx31⟩
      refine hK.out _ _ ?_ (fun hHeld => ?_)
      · exact keepTwoI hbx31 (by assumption)
      clear hK K
      try simp only [List.setIfInBounds_toArray, List.set_cons_zero, List.set_cons_succ]
      refine heldOne 34 rfl (by kernel_rfl) (by rfl) (fun K hK => ?_)
      go_simp
      refine (CA _ (ofHeld (by assumption))).mono ?_
      rintro e wx34 ⟨rfl, hbx34⟩
      refine hK.out _ _ ?_ (fun hHeld => ?_)
      · exact keepTwoI hbx34 (by assumption)
      clear hK K
      try simp only [List.setIfInBounds_toArray, List.set_cons_zero, List.set_cons_succ]
      refine heldTake (v := ?_) 35 239 rfl rfl (by kernel_rfl) (by kernel_rfl) (by kernel_rfl) (fun _ _ _ h => h) (by rfl) (fun w hSw => ?_) (by assumption) ?_
      rotate_left
      · (try dsimp only at hSw); first | (go_simp; done) | (go_simp; with_reducible rfl)
      simp only [List.setIfInBounds_toArray, List.set_cons_zero, List.set_cons_succ]
      refine heldSkip 36 240 rfl rfl (by kernel_rfl) (by kernel_rfl) (by kernel_rfl) (fun _ _ _ h => h) (by rfl) (by assumption) ?_
      simp only [List.setIfInBounds_toArray, List.set_cons_zero, List.set_cons_succ]
      refine heldSkip 37 241 rfl rfl (by kernel_rfl) (by kernel_rfl) (by kernel_rfl) (fun _ _ _ h => h) (by rfl) (by assumption) ?_
      simp only [List.setIfInBounds_toArray, List.set_cons_zero, List.set_cons_succ]
      refine heldSkip 38 242 rfl rfl (by kernel_rfl) (by kernel_rfl) (by kernel_rfl) (fun _ _ _ h => h) (by rfl) (by assumption) ?_
      simp only [List.setIfInBounds_toArray, List.set_cons_zero, List.set_cons_succ]
      refine heldTake (v := ?_) 39 243 rfl rfl (by kernel_rfl) (by kernel_rfl) (by kernel_rfl) (fun _ _ _ h => h) (by rfl) (fun w hSw => ?_) (by assumption) ?_
      rotate_left
      · (try dsimp only at hSw); first | (go_simp; done) | (go_simp; with_reducible rfl)
      simp only [List.setIfInBounds_toArray, List.set_cons_zero, List.set_cons_succ]
      refine heldTake (v := ?_) 40 244 rfl rfl (by kernel_rfl) (by kernel_rfl) (by kernel_rfl) (fun _ _ _ h => h) (by rfl) (fun w hSw => ?_) (by assumption) ?_
      rotate_left
      · (try dsimp only at hSw); first | (go_simp; done) | (go_simp; with_reducible rfl)
      simp only [List.setIfInBounds_toArray, List.set_cons_zero, List.set_cons_succ]
      refine heldTake (v := ?_) 41 245 rfl rfl (by kernel_rfl) (by kernel_rfl) (by kernel_rfl) (fun _ _ _ h => h) (by rfl) (fun w hSw => ?_) (by assumption) ?_
      rotate_left
      · (try dsimp only at hSw); first | (go_simp; done) | (go_simp; with_reducible rfl)
      simp only [List.setIfInBounds_toArray, List.set_cons_zero, List.set_cons_succ]
      refine wpAnyH_done (by kernel_rfl) ?_ _
      go_wp2
      go_meet
      exact ⟨rfl, K.out.later (ofHeld (by assumption))⟩
      | true =>
      rw [Bool.true_and] at CL
      as_aux_lemma =>
      refine wp_region_held_drew (S := (fun w' => w'.cell? ⟨g, 0, none⟩ = some (.int .i64 dp) ∧ w'.cell? ⟨g, 1, none⟩ = some (.int .i64 dk) ∧ Hid (Below wr.heap.size wr w'))) (by kernel_rfl) HS (fun hHeld => ?_)
      refine heldTake (v := ?_) 0 204 rfl rfl (by kernel_rfl) (by kernel_rfl) (by kernel_rfl) (fun _ _ _ h => h) (by rfl) (fun w hSw => ?_) (by assumption) ?_
      rotate_left
      · (try dsimp only at hSw); first | (go_simp; done) | (go_simp; with_reducible rfl)
      simp only [List.setIfInBounds_toArray, List.set_cons_zero, List.set_cons_succ]
      refine heldTake (v := ?_) 1 205 rfl rfl (by kernel_rfl) (by kernel_rfl) (by kernel_rfl) (fun _ _ _ h => h) (by rfl) (fun w hSw => ?_) (by assumption) ?_
      rotate_left
      · (try dsimp only at hSw); first | (go_simp; done) | (go_simp; with_reducible rfl)
      simp only [List.setIfInBounds_toArray, List.set_cons_zero, List.set_cons_succ]
      refine heldOne 2 rfl (by kernel_rfl) (by rfl) (fun K hK => ?_)
      go_simp
      refine (CA _ (ofHeld (by assumption))).mono ?_
      rintro e wx2 ⟨rfl, hbx2⟩
      refine hK.out _ _ ?_ (fun hHeld => ?_)
      · exact keepTwoI hbx2 (by assumption)
      clear hK K
      try simp only [List.setIfInBounds_toArray, List.set_cons_zero, List.set_cons_succ]
      refine heldTake (v := ?_) 3 207 rfl rfl (by kernel_rfl) (by kernel_rfl) (by kernel_rfl) (fun _ _ _ h => h) (by rfl) (fun w hSw => ?_) (by assumption) ?_
      rotate_left
      · (try dsimp only at hSw); first | (go_simp; done) | (go_simp; with_reducible rfl)
      simp only [List.setIfInBounds_toArray, List.set_cons_zero, List.set_cons_succ]
      refine heldTake (v := ?_) 4 208 rfl rfl (by kernel_rfl) (by kernel_rfl) (by kernel_rfl) (fun _ _ _ h => h) (by rfl) (fun w hSw => ?_) (by assumption) ?_
      rotate_left
      · (try dsimp only at hSw); first | (go_simp; done) | (go_simp; with_reducible rfl)
      simp only [List.setIfInBounds_toArray, List.set_cons_zero, List.set_cons_succ]
      refine heldTake (v := ?_) 5 209 rfl rfl (by kernel_rfl) (by kernel_rfl) (by kernel_rfl) (fun _ _ _ h => h) (by rfl) (fun w hSw => ?_) (by assumption) ?_
      rotate_left
      · (try dsimp only at hSw); first | (go_simp; done) | (go_simp; with_reducible rfl)
      simp only [List.setIfInBounds_toArray, List.set_cons_zero, List.set_cons_succ]
      refine heldOne 6 rfl (by kernel_rfl) (by rfl) (fun K hK => ?_)
      go_simp
      refine (CM _ (ofHeld (by assumption))).mono ?_
      rintro e wx6 ⟨rfl, hbx6⟩
      refine hK.out _ _ ?_ (fun hHeld => ?_)
      · exact keepTwoI hbx6 (by assumption)
      clear hK K
      try simp only [List.setIfInBounds_toArray, List.set_cons_zero, List.set_cons_succ]
      refine heldTake (v := ?_) 7 211 rfl rfl (by kernel_rfl) (by kernel_rfl) (by kernel_rfl) (fun _ _ _ h => h) (by rfl) (fun w hSw => ?_) (by assumption) ?_
      rotate_left
      · (try dsimp only at hSw); first | (go_simp; done) | (go_simp; with_reducible rfl)
      simp only [List.setIfInBounds_toArray, List.set_cons_zero, List.set_cons_succ]
      refine heldTake (v := ?_) 8 212 rfl rfl (by kernel_rfl) (by kernel_rfl) (by kernel_rfl) (fun _ _ _ h => h) (by rfl) (fun w hSw => ?_) (by assumption) ?_
      rotate_left
      · (try dsimp only at hSw); first | (go_simp; done) | (go_simp; with_reducible rfl)
      simp only [List.setIfInBounds_toArray, List.set_cons_zero, List.set_cons_succ]
      refine heldTake (v := ?_) 9 213 rfl rfl (by kernel_rfl) (by kernel_rfl) (by kernel_rfl) (fun _ _ _ h => h) (by rfl) (fun w hSw => ?_) (by assumption) ?_
      rotate_left
      · (try dsimp only at hSw); first | (go_simp; done) | (go_simp; with_reducible rfl)
      simp only [List.setIfInBounds_toArray, List.set_cons_zero, List.set_cons_succ]
      refine heldTake (v := ?_) 10 214 rfl rfl (by kernel_rfl) (by kernel_rfl) (by kernel_rfl) (fun _ _ _ h => h) (by rfl) (fun w hSw => ?_) (by assumption) ?_
      rotate_left
      · (try dsimp only at hSw); first | (go_simp; done) | (go_simp; with_reducible rfl)
      simp only [List.setIfInBounds_toArray, List.set_cons_zero, List.set_cons_succ]
      refine heldTake (v := ?_) 11 215 rfl rfl (by kernel_rfl) (by kernel_rfl) (by kernel_rfl) (fun _ _ _ h => h) (by rfl) (fun w hSw => ?_) (by assumption) ?_
      rotate_left
      · (try dsimp only at hSw); first | (go_simp; done) | (go_simp; with_reducible rfl)
      simp only [List.setIfInBounds_toArray, List.set_cons_zero, List.set_cons_succ]
      refine heldTake (v := ?_) 13 217 rfl rfl (by kernel_rfl) (by kernel_rfl) (by kernel_rfl) (fun _ _ _ h => h) (by rfl) (fun w hSw => ?_) (by assumption) ?_
      rotate_left
      · (try dsimp only at hSw); first | (go_simp; done) | (go_simp; with_reducible rfl)
      simp only [List.setIfInBounds_toArray, List.set_cons_zero, List.set_cons_succ]
      refine heldTake (v := ?_) 14 218 rfl rfl (by kernel_rfl) (by kernel_rfl) (by kernel_rfl) (fun _ _ _ h => h) (by rfl) (fun w hSw => ?_) (by assumption) ?_
      rotate_left
      · (try dsimp only at hSw); first | (go_simp; done) | (go_simp; with_reducible rfl)
      simp only [List.setIfInBounds_toArray, List.set_cons_zero, List.set_cons_succ]
      refine heldOne 12 rfl (by kernel_rfl) (by rfl) (fun K hK => ?_)
      go_simp
      refine (CL _ (ofHeld (by assumption))).mono ?_
      rintro e wx12 ⟨rfl, hbx12⟩
      refine hK.out _ _ ?_ (fun hHeld => ?_)
      · exact keepTwoI hbx12 (by assumption)
      clear hK K
      try simp only [List.setIfInBounds_toArray, List.set_cons_zero, List.set_cons_succ]
      refine heldOne 15 rfl (by kernel_rfl) (by rfl) (fun K hK => ?_)
      go_simp
      refine (CA _ (ofHeld (by assumption))).mono ?_
      rintro e wx15 ⟨rfl, hbx15⟩
      refine hK.out _ _ ?_ (fun hHeld => ?_)
      · exact keepTwoI hbx15 (by assumption)
      clear hK K
      try simp only [List.setIfInBounds_toArray, List.set_cons_zero, List.set_cons_succ]
      refine heldTake (v := ?_) 16 220 rfl rfl (by kernel_rfl) (by kernel_rfl) (by kernel_rfl) (fun _ _ _ h => h) (by rfl) (fun w hSw => ?_) (by assumption) ?_
      rotate_left
      · (try dsimp only at hSw); first | (go_simp; done) | (go_simp; with_reducible rfl)
      simp only [List.setIfInBounds_toArray, List.set_cons_zero, List.set_cons_succ]
      refine heldTake (v := ?_) 17 221 rfl rfl (by kernel_rfl) (by kernel_rfl) (by kernel_rfl) (fun _ _ _ h => h) (by rfl) (fun w hSw => ?_) (by assumption) ?_
      rotate_left
      · (try dsimp only at hSw); first | (go_simp; done) | (go_simp; with_reducible rfl)
      simp only [List.setIfInBounds_toArray, List.set_cons_zero, List.set_cons_succ]
      refine heldTake (v := ?_) 18 222 rfl rfl (by kernel_rfl) (by kernel_rfl) (by kernel_rfl) (fun _ _ _ h => h) (by rfl) (fun w hSw => ?_) (by assumption) ?_
      rotate_left
      · (try dsimp only at hSw); first | (go_simp; done) | (go_simp; with_reducible rfl)
      simp only [List.setIfInBounds_toArray, List.set_cons_zero, List.set_cons_succ]
      refine heldOne 19 rfl (by kernel_rfl) (by rfl) (fun K hK => ?_)
      go_simp
      refine (CB _ (ofHeld (by assumption))).mono ?_
      rintro e wx19 ⟨rfl, hbx19⟩
      refine hK.out _ _ ?_ (fun hHeld => ?_)
      · exact keepTwoI hbx19 (by assumption)
      clear hK K
      try simp only [List.setIfInBounds_toArray, List.set_cons_zero, List.set_cons_succ]
      refine heldTake (v := ?_) 20 224 rfl rfl (by kernel_rfl) (by kernel_rfl) (by kernel_rfl) (fun _ _ _ h => h) (by rfl) (fun w hSw => ?_) (by assumption) ?_
      rotate_left
      · (try dsimp only at hSw); first | (go_simp; done) | (go_simp; with_reducible rfl)
      simp only [List.setIfInBounds_toArray, List.set_cons_zero, List.set_cons_succ]
      refine heldTake (v := ?_) 21 225 rfl rfl (by kernel_rfl) (by kernel_rfl) (by kernel_rfl) (fun _ _ _ h => h) (by rfl) (fun w hSw => ?_) (by assumption) ?_
      rotate_left
      · (try dsimp only at hSw); first | (go_simp; done) | (go_simp; with_reducible rfl)
      simp only [List.setIfInBounds_toArray, List.set_cons_zero, List.set_cons_succ]
      refine heldTake (v := ?_) 22 226 rfl rfl (by kernel_rfl) (by kernel_rfl) (by kernel_rfl) (fun _ _ _ h => h) (by rfl) (fun w hSw => ?_) (by assumption) ?_
      rotate_left
      · (try dsimp only at hSw); first | (go_simp; done) | (go_simp; with_reducible rfl)
      simp only [List.setIfInBounds_toArray, List.set_cons_zero, List.set_cons_succ]
      refine heldTake (v := ?_) 23 227 rfl rfl (by kernel_rfl) (by kernel_rfl) (by kernel_rfl) (fun _ _ _ h => h) (by rfl) (fun w hSw => ?_) (by assumption) ?_
      rotate_left
      · (try dsimp only at hSw); first | (go_simp; done) | (go_simp; with_reducible rfl)
      simp only [List.setIfInBounds_toArray, List.set_cons_zero, List.set_cons_succ]
      refine heldOne 24 rfl (by kernel_rfl) (by rfl) (fun K hK => ?_)
      go_simp
      refine (CC _ (ofHeld (by assumption))).mono ?_
      rintro e wx24 ⟨rfl, hbx24⟩
      refine hK.out _ _ ?_ (fun hHeld => ?_)
      · exact keepTwoI hbx24 (by assumption)
      clear hK K
      try simp only [List.setIfInBounds_toArray, List.set_cons_zero, List.set_cons_succ]
      refine heldTake (v := ?_) 25 229 rfl rfl (by kernel_rfl) (by kernel_rfl) (by kernel_rfl) (fun _ _ _ h => h) (by rfl) (fun w hSw => ?_) (by assumption) ?_
      rotate_left
      · (try dsimp only at hSw); first | (go_simp; done) | (go_simp; with_reducible rfl)
      simp only [List.setIfInBounds_toArray, List.set_cons_zero, List.set_cons_succ]
      refine heldTake (v := ?_) 26 230 rfl rfl (by kernel_rfl) (by kernel_rfl) (by kernel_rfl) (fun _ _ _ h => h) (by rfl) (fun w hSw => ?_) (by assumption) ?_
      rotate_left
      · (try dsimp only at hSw); first | (go_simp; done) | (go_simp; with_reducible rfl)
      simp only [List.setIfInBounds_toArray, List.set_cons_zero, List.set_cons_succ]
      refine heldTake (v := ?_) 27 231 rfl rfl (by kernel_rfl) (by kernel_rfl) (by kernel_rfl) (fun _ _ _ h => h) (by rfl) (fun w hSw => ?_) (by assumption) ?_
      rotate_left
      · (try dsimp only at hSw); first | (go_simp; done) | (go_simp; with_reducible rfl)
      simp only [List.setIfInBounds_toArray, List.set_cons_zero, List.set_cons_succ]
      refine heldTake (v := ?_) 28 232 rfl rfl (by kernel_rfl) (by kernel_rfl) (by kernel_rfl) (fun _ _ _ h => h) (by rfl) (fun w hSw => ?_) (by assumption) ?_
      rotate_left
      · (try dsimp only at hSw); first | (go_simp; done) | (go_simp; with_reducible rfl)
      simp only [List.setIfInBounds_toArray, List.set_cons_zero, List.set_cons_succ]
      refine heldTake (v := ?_) 29 233 rfl rfl (by kernel_rfl) (by kernel_rfl) (by kernel_rfl) (fun _ _ _ h => h) (by rfl) (fun w hSw => ?_) (by assumption) ?_
      rotate_left
      · (try dsimp only at hSw); first | (go_simp; done) | (go_simp; with_reducible rfl)
      simp only [List.setIfInBounds_toArray, List.set_cons_zero, List.set_cons_succ]
      refine heldTake (v := ?_) 30 234 rfl rfl (by kernel_rfl) (by kernel_rfl) (by kernel_rfl) (fun _ _ _ h => h) (by rfl) (fun w hSw => ?_) (by assumption) ?_
      rotate_left
      · (try dsimp only at hSw); first | (go_simp; done) | (go_simp; with_reducible rfl)
      simp only [List.setIfInBounds_toArray, List.set_cons_zero, List.set_cons_succ]
      refine heldTake (v := ?_) 32 236 rfl rfl (by kernel_rfl) (by kernel_rfl) (by kernel_rfl) (fun _ _ _ h => h) (by rfl) (fun w hSw => ?_) (by assumption) ?_
      rotate_left
      · (try dsimp only at hSw); first | (go_simp; done) | (go_simp; with_reducible rfl)
      simp only [List.setIfInBounds_toArray, List.set_cons_zero, List.set_cons_succ]
      refine heldTake (v := ?_) 33 237 rfl rfl (by kernel_rfl) (by kernel_rfl) (by kernel_rfl) (fun _ _ _ h => h) (by rfl) (fun w hSw => ?_) (by assumption) ?_
      rotate_left
      · (try dsimp only at hSw); first | (go_simp; done) | (go_simp; with_reducible rfl)
      simp only [List.setIfInBounds_toArray, List.set_cons_zero, List.set_cons_succ]
      refine heldOne 31 rfl (by kernel_rfl) (by rfl) (fun K hK => ?_)
      go_simp
      refine (CM _ (ofHeld (by assumption))).mono ?_
      rintro e wx31 ⟨rfl, hbx31⟩
      refine hK.out _ _ ?_ (fun hHeld => ?_)
      · exact keepTwoI hbx31 (by assumption)
      clear hK K
      try simp only [List.setIfInBounds_toArray, List.set_cons_zero, List.set_cons_succ]
      refine heldOne 34 rfl (by kernel_rfl) (by rfl) (fun K hK => ?_)
      go_simp
      refine (CA _ (ofHeld (by assumption))).mono ?_
      rintro e wx34 ⟨rfl, hbx34⟩
      refine hK.out _ _ ?_ (fun hHeld => ?_)
      · exact keepTwoI hbx34 (by assumption)
      clear hK K
      try simp only [List.setIfInBounds_toArray, List.set_cons_zero, List.set_cons_succ]
      refine heldTake (v := ?_) 35 239 rfl rfl (by kernel_rfl) (by kernel_rfl) (by kernel_rfl) (fun _ _ _ h => h) (by rfl) (fun w hSw => ?_) (by assumption) ?_
      rotate_left
      · (try dsimp only at hSw); first | (go_simp; done) | (go_simp; with_reducible rfl)
      simp only [List.setIfInBounds_toArray, List.set_cons_zero, List.set_cons_succ]
      refine heldSkip 36 240 rfl rfl (by kernel_rfl) (by kernel_rfl) (by kernel_rfl) (fun _ _ _ h => h) (by rfl) (by assumption) ?_
      simp only [List.setIfInBounds_toArray, List.set_cons_zero, List.set_cons_succ]
      refine heldSkip 37 241 rfl rfl (by kernel_rfl) (by kernel_rfl) (by kernel_rfl) (fun _ _ _ h => h) (by rfl) (by assumption) ?_
      simp only [List.setIfInBounds_toArray, List.set_cons_zero, List.set_cons_succ]
      refine heldSkip 38 242 rfl rfl (by kernel_rfl) (by kernel_rfl) (by kernel_rfl) (fun _ _ _ h => h) (by rfl) (by assumption) ?_
      simp only [List.setIfInBounds_toArray, List.set_cons_zero, List.set_cons_succ]
      refine heldTake (v := ?_) 39 243 rfl rfl (by kernel_rfl) (by kernel_rfl) (by kernel_rfl) (fun _ _ _ h => h) (by rfl) (fun w hSw => ?_) (by assumption) ?_
      rotate_left
      · (try dsimp only at hSw); first | (go_simp; done) | (go_simp; with_reducible rfl)
      simp only [List.setIfInBounds_toArray, List.set_cons_zero, List.set_cons_succ]
      refine heldTake (v := ?_) 40 244 rfl rfl (by kernel_rfl) (by kernel_rfl) (by kernel_rfl) (fun _ _ _ h => h) (by rfl) (fun w hSw => ?_) (by assumption) ?_
      rotate_left
      · (try dsimp only at hSw); first | (go_simp; done) | (go_simp; with_reducible rfl)
      simp only [List.setIfInBounds_toArray, List.set_cons_zero, List.set_cons_succ]
      refine heldTake (v := ?_) 41 245 rfl rfl (by kernel_rfl) (by kernel_rfl) (by kernel_rfl) (fun _ _ _ h => h) (by rfl) (fun w hSw => ?_) (by assumption) ?_
      rotate_left
      · (try dsimp only at hSw); first | (go_simp; done) | (go_simp; with_reducible rfl)
      simp only [List.setIfInBounds_toArray, List.set_cons_zero, List.set_cons_succ]
      refine wpAnyH_done (by kernel_rfl) ?_ _
      go_wp2
      go_meet
      exact ⟨rfl, K.out.later (ofHeld (by assumption))⟩
  case rest =>
  as_aux_lemma =>
  obtain ⟨rfl, K⟩ := hcut
  obtain ⟨we, rfl⟩ : ∃ x, x = wc := ⟨_, rfl⟩
  obtain ⟨d0, d1⟩ := And.intro K.out.d0 K.out.d1
  by_cases hx : nextD A dp dk = true ∧ dk ≤ 1073741824
  · obtain ⟨g1, g2, g3, g4, g5⟩ := add_next KA.out hx.1 hx.2
    have G1 : Hid _ := g1
    have G2 : Hid _ := g2
    have G3 : Hid _ := g3
    have G4 : Hid _ := g4
    have X64 : Hid (All64 (A.set dp.toNat dk)) := right64 g5
    have LX : Hid ((A.set dp.toNat dk).length = n) := by show _ = _; rw [List.length_set, LA.out]
    have GN : Hid (nextD A dp dk = true) := hx.1
    clear g1 g2 g3 g4 g5 hx
    go_wp2_with fail
    refine (D.add a n cap dp dk A _ LA.out (by omega) A64.out i0 i1 K.out.A).mono ?_
    rintro e w30 ⟨ax, nx, cx, rfl, hnx, _, _, _, hrx, _, hb⟩
    rw [G1.out] at hnx hrx ⊢
    simp only at hnx hrx ⊢
    rw [LX.out] at hnx
    subst nx
    have RX : Hid (RdI .i64 w30 ax (A.set dp.toNat dk)) := hrx
    replace K : Hid (KL w a b c am al g A B C (maxD A B) (minD (minD A B) C) dp dk w30) := K.out.later hb
    clear hb hrx d0 d1
    obtain ⟨d0, d1⟩ := And.intro K.out.d0 K.out.d1
    go_wp2_with fail
    refine (D.next a n cap dp dk A _ LA.out (by omega) A64.out i0 i1 K.out.A).mono ?_
    rintro e w31 ⟨rfl, hb⟩
    rw [GN.out]
    replace K : Hid (KL w a b c am al g A B C (maxD A B) (minD (minD A B) C) dp dk w31) := K.out.later hb
    replace RX : Hid (RdI .i64 w31 ax (A.set dp.toNat dk)) := RX.out.later hb
    clear hb d0 d1
    obtain ⟨d0, d1⟩ := And.intro K.out.d0 K.out.d1
    go_wp2_with fail
    refine (D.has ax n cx dp dk (A.set dp.toNat dk) _ LX.out (by omega) X64.out i0 i1 RX.out).mono ?_
    rintro e w32 ⟨rfl, hb⟩
    rw [G2.out]
    replace K : Hid (KL w a b c am al g A B C (maxD A B) (minD (minD A B) C) dp dk w32) := K.out.later hb
    replace RX : Hid (RdI .i64 w32 ax (A.set dp.toNat dk)) := RX.out.later hb
    clear hb d0 d1
    obtain ⟨d0, d1⟩ := And.intro K.out.d0 K.out.d1
    go_wp2_with fail
    refine (D.has a n cap dp dk A _ LA.out (by omega) A64.out i0 i1 K.out.A).mono ?_
    rintro e w33 ⟨rfl, hb⟩
    rw [G3.out]
    replace K : Hid (KL w a b c am al g A B C (maxD A B) (minD (minD A B) C) dp dk w33) := K.out.later hb
    replace RX : Hid (RdI .i64 w33 ax (A.set dp.toNat dk)) := RX.out.later hb
    clear hb d0 d1
    go_wp2_with fail
    refine (D.le a ax n n cap cx A (A.set dp.toNat dk) _ LA.out LX.out (by omega) (by omega) A64.out X64.out K.out.A RX.out).mono ?_
    rintro e w34 ⟨rfl, hb⟩
    rw [G4.out]
    replace K : Hid (KL w a b c am al g A B C (maxD A B) (minD (minD A B) C) dp dk w34) := K.out.later hb
    clear hb
    go_wp2_with fail
    refine (dwakes_any D _).mono ?_
    rintro e w35 ⟨rfl, hb⟩
    go_wp2
    go_ret
    exact ⟨rfl, chain K.out.X hb⟩
  · have G1 : Hid (addD A dp dk = ([], 1)) := add_not KA.out hx
    clear hx
    go_wp2_with fail
    refine (D.add a n cap dp dk A _ LA.out (by omega) A64.out i0 i1 K.out.A).mono ?_
    rintro e w30 ⟨ax, nx, cx, rfl, hnx, _, _, _, _, _, hb⟩
    rw [G1.out] at hnx ⊢
    simp only [List.length_nil] at hnx ⊢
    subst nx
    replace K : Hid (KL w a b c am al g A B C (maxD A B) (minD (minD A B) C) dp dk w30) := K.out.later hb
    clear hb d0 d1
    obtain ⟨d0, d1⟩ := And.intro K.out.d0 K.out.d1
    go_wp2_with fail
    refine (D.next a n cap dp dk A _ LA.out (by omega) A64.out i0 i1 K.out.A).mono ?_
    rintro e w31 ⟨rfl, hb⟩
    replace K : Hid (KL w a b c am al g A B C (maxD A B) (minD (minD A B) C) dp dk w31) := K.out.later hb
    clear hb d0 d1
    cases nextD A dp dk with
    | false =>
      go_wp2_with fail
      refine (dwakes_any D _).mono ?_
      rintro e w35 ⟨rfl, hb⟩
      go_wp2
      go_ret
      exact ⟨rfl, chain K.out.X hb⟩
    | true =>
      go_wp2_with fail
      refine (dwakes_any D _).mono ?_
      rintro e w35 ⟨rfl, hb⟩
      go_wp2
      go_ret
      exact ⟨rfl, chain K.out.X hb⟩

end Go.Proofs.Ytmdjmkpalnhkoaa
