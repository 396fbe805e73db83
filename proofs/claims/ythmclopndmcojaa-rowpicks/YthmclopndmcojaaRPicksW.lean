/-
  RowPicks' walk.
-/
import Derived.Test.YthmclopndmcojaaRows
import Derived.Test.YthmclopndmcojaaRPicks
namespace Go.Proofs.Ythmclopndmcojaa
open Go.RowKit Go.Lib
set_option linter.unusedVariables false

set_option maxRecDepth 100000 in
set_option maxHeartbeats 4000000 in
theorem rpicks_some (R : RowApi) (a t c d : Option Addr) (n m p q cap tap cap2 cap3 : Nat) (l : List PV) (ts xs ys : List Int) (w : World) (hn : l.length = n) (hm : ts.length = m) (hp : xs.length = p) (hq : ys.length = q)
    (h1 : 1 ≤ n) (h12 : n ≤ 12) (h40 : m ≤ 40) (p1 : 1 ≤ p) (p12 : p ≤ 12) (q12 : q ≤ 12) (K : KnP a t c d l ts xs ys w)
    (C : Calls Try.prog 9 #[.slice a n cap] w fun e w' => e = .returned (.bool false) ∧ w' = w) :
    Calls Try.prog 6 #[.slice a n cap, .slice t m tap, .slice c p cap2, .slice d q cap3] w fun e w' => e = .returned (.bool true) ∧ Below w.heap.size w w' := by
  have HN : Hid (l.length = n) := hn
  have HM : Hid (ts.length = m) := hm
  have HP : Hid (xs.length = p) := hp
  have HQ : Hid (ys.length = q) := hq
  have HK : Hid (KnP a t c d l ts xs ys w) := K
  clear hn hm hp hq K
  have n0 : ((n : Int) == 0) = false := by simp; omega
  have p0 : ((p : Int) == 0) = false := by simp; omega
  go_enter Try.func6, Try.ntmps6
  go_wp2_with fail
  refine C.mono ?_
  rintro e w1 ⟨rfl, hw1⟩
  subst w1
  clear C
  go_wp2
  go_loopw [9, 14] (fun o i wr => ∃ (k cp : Nat) (aw : Option Addr), k ≤ n ∧ i = .int .i64 k ∧ o = .slice aw k cp ∧ k ≤ cp ∧ Hid (OwnI wr w.heap.size (.slice aw k cp) (upto k)) ∧ Hid (Below w.heap.size w wr)) (fun _ i _ => n - (RowKit.intOf i).toNat)
  case atStart => exact ⟨0, 0, none, Nat.zero_le _, rfl, rfl, Nat.le_refl _, OwnI.nought _ _, Below.refl _ _⟩
  case round =>
  obtain ⟨k, cp, aw, hk, rfl, rfl, hcp, hO, hB⟩ := hrel
  by_cases hlt : k < n
  · obtain ⟨a', cap', w', hrun, hc', ho', hb'⟩ := run_append_int _ rfl (k : Int) hO.out (n := k) (upto_length _) (by omega) hB.out.size
    rw [← upto_succ] at ho'
    have HO' : Hid _ := ho'
    have HB' : Hid (Below w.heap.size w w') := hB.out.trans hb'
    clear hO hB ho' hb'
    go_wp2_with (at_builtin; refine wpList_append_run rfl (.tmp 65) (.tmp 67) 23 23 rfl _ _ _ _ rfl rfl hrun ?_)
    go_roundw
    case rel => exact ⟨k + 1, cap', a', by omega, by go_num, rfl, hc', HO', HB'⟩
    case measure => simp [RowKit.intOf]; omega
  obtain rfl : k = n := by omega
  obtain ⟨a5, cap5, e5, _, hr5, _⟩ := hO.out.form
  simp only [Value.slice.injEq, upto_length] at e5
  obtain ⟨rfl, _, rfl⟩ := e5
  replace HK : Hid (KnP a t c d l ts xs ys wr) := HK.out.later hB.out
  have RA : Hid (RdI .i64 wr aw (upto k)) := hr5
  have HX : Hid (Below w.heap.size w wr) := hB.out
  clear hO hB hr5 hlt hk
  obtain ⟨wa, rfl⟩ : ∃ x, x = wr := ⟨_, rfl⟩
  go_wp2
  go_loopw [10, 15] (fun o i w2 => ∃ (j cq : Nat) (aq : Option Addr), j ≤ p ∧ i = .int .i64 j ∧ o = .slice aq j cq ∧ j ≤ cq ∧ Hid (OwnI w2 wa.heap.size (.slice aq j cq) ((xs.take j).map (plc k))) ∧ Hid (Below wa.heap.size wa w2)) (fun _ i _ => p - (RowKit.intOf i).toNat)
  case atStart => exact ⟨0, 0, none, Nat.zero_le _, rfl, rfl, Nat.le_refl _, OwnI.nought _ _, Below.refl _ _⟩
  case round =>
  obtain ⟨j, cq, aq, hj, rfl, rfl, hcq, hO, hB⟩ := hrel
  by_cases hlt : j < p
  · have hjx : j < xs.length := by rw [HP.out]; exact hlt
    obtain ⟨b2, o2, rfl, hc2⟩ := (HK.out.later hB.out).C (by omega)
    have y0 := hc2 j hjx
    have HT : Hid ((xs.take (j + 1)).map (plc k) = (xs.take j).map (plc k) ++ [plc k xs[j]]) := by
      show _ = _
      rw [List.take_succ_eq_append_getElem hjx, List.map_append]
      rfl
    clear hc2
    generalize xs[j] = x at *
    obtain ⟨z, hz, hze⟩ := plc_in (m := k) x h1 (by omega)
    rw [hze] at HT
    unfold plc at hze
    have hk0 : (k : Int) ≠ 0 := by omega
    have hjl : ((xs.take j).map (plc k)).length = j := by simp [HP.out]; omega
    obtain ⟨a', cap', w', hrun, hc', ho', hb'⟩ := run_append_int _ rfl (z : Int) hO.out (n := j) hjl (by omega) hB.out.size
    rw [← HT.out] at ho'
    have HO' : Hid _ := ho'
    have HB' : Hid (Below wa.heap.size wa w') := hB.out.trans hb'
    clear hO hB ho' hb' hjl hjx HT
    go_wp2_with (at_builtin; refine wpList_append_run rfl (.tmp 75) (.tmp 86) 23 23 rfl _ _ _ _ rfl rfl hrun ?_)
    go_roundw
    case rel => exact ⟨j + 1, cap', a', by omega, by go_num, rfl, hc', HO', HB'⟩
    case measure => simp [RowKit.intOf]; omega
  obtain rfl : j = p := by omega
  have hT2 : xs.take j = xs := List.take_of_length_le (by rw [HP.out]; omega)
  rw [hT2] at hO
  have LP : Hid ((xs.map (plc k)).length = j) := by show _ = _; rw [List.length_map, HP.out]
  have IP : Hid (inCols k (xs.map (plc k)) = true) := in_plc xs h1 (by omega)
  generalize xs.map (plc k) = P at *
  obtain ⟨a5, cap5, e5, _, hr5, _⟩ := hO.out.form
  rw [LP.out] at e5
  simp only [Value.slice.injEq] at e5
  obtain ⟨rfl, _, rfl⟩ := e5
  obtain ⟨w2, rfl⟩ : ∃ x, x = wr := ⟨_, rfl⟩
  replace HK : Hid (KnP a t c d l ts xs ys w2) := HK.out.later hB.out
  replace RA : Hid (RdI .i64 w2 aw (upto k)) := RA.out.later hB.out
  replace HX : Hid (Below w.heap.size w w2) := chain HX.out hB.out
  have RP : Hid (RdI .i64 w2 aq P) := hr5
  clear hO hB hr5 hlt hj hT2
  go_wp2
  go_loopw [11, 12, 16] (fun o o2 i w3 => ∃ (f cq2 cq3 : Nat) (a6 a7 : Option Addr), f ≤ q ∧ i = .int .i64 f ∧ o = .slice a6 f cq2 ∧ o2 = .slice a7 f cq3 ∧ f ≤ cq2 ∧ f ≤ cq3 ∧ Hid (TwoI w3 w2.heap.size (.slice a6 f cq2) (.slice a7 f cq3) ((ys.take f).map (plc j)) (bothI P ((ys.take f).map (plc j)))) ∧ Hid (Below w2.heap.size w2 w3)) (fun _ _ i _ => q - (RowKit.intOf i).toNat)
  case atStart => exact ⟨0, 0, 0, none, none, Nat.zero_le _, rfl, rfl, rfl, Nat.le_refl _, Nat.le_refl _, ⟨OwnI.nought _ _, OwnI.nought _ _, fun g h => by cases h⟩, Below.refl _ _⟩
  case round =>
  obtain ⟨f, cq2, cq3, a6, a7, hf, rfl, rfl, rfl, hcq2, hcq3, hO, hB⟩ := hrel
  by_cases hlt : f < q
  · have hfy : f < ys.length := by rw [HQ.out]; exact hlt
    obtain ⟨b2, o2, rfl, hc2⟩ := (HK.out.later hB.out).D (by omega)
    have y0 := hc2 f hfy
    have HT : Hid ((ys.take (f + 1)).map (plc j) = (ys.take f).map (plc j) ++ [plc j ys[f]]) := by
      show _ = _
      rw [List.take_succ_eq_append_getElem hfy, List.map_append]
      rfl
    clear hc2
    generalize ys[f] = y at *
    obtain ⟨z, hz, hze⟩ := plc_in (m := j) y p1 (by omega)
    rw [hze] at HT
    unfold plc at hze
    have hj0 : (j : Int) ≠ 0 := by omega
    have hzP : z < P.length := by rw [LP.out]; exact hz
    obtain ⟨bp, op, rfl, hcp⟩ := (RP.out.later hB.out) (by omega)
    have yp := hcp z hzP
    have hbp : bp < w2.heap.size := by
      obtain ⟨bp', op', e', hcp'⟩ := RP.out (by omega)
      simp only [Option.some.injEq, Addr.mk.injEq, and_true] at e'
      obtain ⟨rfl, rfl⟩ := e'
      exact World.block_lt_of_cell? _ ⟨_, _, none⟩ (hcp' z hzP)
    have HTB : Hid (bothI P ((ys.take f).map (plc j) ++ [(z : Int)]) = bothI P ((ys.take f).map (plc j)) ++ [P[z]]) := by
      show _ = _
      unfold bothI
      rw [List.map_append]
      simp [List.getElem?_eq_getElem hzP]
    rw [← HT.out] at HTB
    clear hcp
    generalize P[z] = v at *
    have b1 : (0 : Int) ≤ (z : Int) := by omega
    have b2' : (z : Int) < (j : Int) := by omega
    clear hfy
    have hl1 : ((ys.take f).map (plc j)).length = f := by simp [HQ.out]; omega
    have hl2 : (bothI P ((ys.take f).map (plc j))).length = f := by simp [bothI, HQ.out]; omega
    have HL1 : Hid _ := hl1
    have HL2 : Hid _ := hl2
    have HT0 : Hid (TwoI wr w2.heap.size (.slice a6 f cq2) (.slice a7 f cq3) ((ys.take f).map (plc j)) (bothI P ((ys.take f).map (plc j)))) := hO.out
    have HU : Hid (∀ g, (Value.slice a6 f cq2).ownBlock = some g → g < wr.heap.size) := fun g h => (World.ownsRow.lt hO.out.own1 g h).2
    have HV : Hid (∀ g, (Value.slice a7 f cq3).ownBlock = some g → g < wr.heap.size) := fun g h => (World.ownsRow.lt hO.out.own2 g h).2
    have hsz : w2.heap.size ≤ wr.heap.size := hB.out.size
    have HS := And.intro yp (And.intro hB (show Hid (bp < w2.heap.size) from hbp))
    clear hO hB hl1 hl2 yp hbp
    go_wp2
    go_region_held3 (fun w' => w'.cell? ⟨bp, op + z, none⟩ = some (.int .i64 v) ∧ Hid (Below w2.heap.size w2 w') ∧ Hid (bp < w2.heap.size)) (first | exact keepPd (by assumption) | exact keepP1 (by assumption) | exact keepP1 (keepPd (by assumption)) | exact keepPd (keepP1 (by assumption)) | exact keepP2 (by assumption) (by assumption) | exact keepP2 (by assumption) (keepPd (by assumption)))
      (first
      | ((refine step_append_two (H := wr.heap.size) rfl (.tmp 104) (.tmp 106) rfl (z : Int) (by rfl) (by rfl) (HT0.out.later (by first | exact alloc_below _ _ | exact (alloc_below _ _).drew | exact below_two _ _ _ | exact (below_two _ _ _).drew | exact Below.refl _ _ | exact (Below.refl _ _).drew | go_grown)) HL1.out (by omega) (by first | (simp; done) | (simp; omega) | omega) (by go_simp) HU.out (by first | (simp; done) | (simp; omega) | omega) ?_; intro g1 cp1 w1 hcp1 T1 hb1 hk1))
      | ((refine step_append_two (H := wr.heap.size) rfl (.tmp 108) (.tmp 113) rfl v (by rfl) (by rfl) (T1.swap.later (by first | exact alloc_below _ _ | exact (alloc_below _ _).drew | exact below_two _ _ _ | exact (below_two _ _ _).drew | exact Below.refl _ _ | exact (Below.refl _ _).drew | go_grown)) HL2.out (by omega) (by have hh := hb1.size; simp at hh ⊢; omega) (by first | exact hk1 _ _ (by first | (simp; done) | (simp; omega) | omega) (by go_simp) | (go_simp; done)) HV.out (by have hh := hb1.size; simp at hh ⊢; omega) ?_; intro g2 cp2 w3 hcp2 T2 hb2 hk2)))
    all_goals
      have HS1 : w3.cell? ⟨bp, op + z, none⟩ = some (.int .i64 v) ∧ Hid (Below w2.heap.size w2 w3) ∧ Hid (bp < w2.heap.size) := by assumption
      obtain ⟨_, HB1, _⟩ := HS1
      have T3 := T2.swap
      rw [← HT.out, ← HTB.out] at T3
      have HT3 : Hid _ := T3
      clear T3 T2 T1 hk1 hk2 hb1 hb2 HT HTB HT0 HU HV
      go_wp2
      go_roundw
      case rel => exact ⟨f + 1, cp1, cp2, some ⟨g1, 0, none⟩, some ⟨g2, 0, none⟩, by omega, by go_num, rfl, rfl, hcp1, hcp2, HT3, HB1⟩
      case measure => simp [RowKit.intOf]; omega
  obtain rfl : f = q := by omega
  have hT2 : ys.take f = ys := List.take_of_length_le (by rw [HQ.out]; omega)
  rw [hT2] at hO
  have LQ : Hid ((ys.map (plc j)).length = f) := by show _ = _; rw [List.length_map, HQ.out]
  have IQ : Hid (inCols j (ys.map (plc j)) = true) := in_plc ys p1 (by omega)
  generalize ys.map (plc j) = Q at *
  have LB : Hid ((bothI P Q).length = f) := by show _ = _; rw [bothI, List.length_map, LQ.out]
  obtain ⟨a5, cap5, e5, _, hr5, _⟩ := hO.out.own1.form
  rw [LQ.out] at e5
  simp only [Value.slice.injEq] at e5
  obtain ⟨rfl, _, rfl⟩ := e5
  obtain ⟨a5, cap5, e5, _, hr6, _⟩ := hO.out.own2.form
  rw [LB.out] at e5
  simp only [Value.slice.injEq] at e5
  obtain ⟨rfl, _, rfl⟩ := e5
  obtain ⟨w3, rfl⟩ : ∃ x, x = wr := ⟨_, rfl⟩
  replace HK : Hid (KnP a t c d l ts xs ys w3) := HK.out.later hB.out
  replace RA : Hid (RdI .i64 w3 aw (upto k)) := RA.out.later hB.out
  replace RP : Hid (RdI .i64 w3 aq P) := RP.out.later hB.out
  replace HX : Hid (Below w.heap.size w w3) := chain HX.out hB.out
  have RQ : Hid (RdI .i64 w3 a6 Q) := hr5
  have RB : Hid (RdI .i64 w3 a7 (bothI P Q)) := hr6
  clear hO hB hr5 hr6 hlt hf hT2
  go_wp2_with fail
  refine (R.pick a aw k k cap cp l (upto k) _ HN.out (upto_length _) (by omega) (by omega) HK.out.A RA.out).mono ?_
  rintro e w4 ⟨a8, n8, c8, rfl, hn8, _, _, _, hr8, _, hb⟩
  rw [pick_all HN.out h12] at hn8 hr8 ⊢
  simp only at hn8 hr8 ⊢
  rw [HN.out] at hn8
  subst n8
  have R8 : Hid (RdV w4 a8 l) := hr8
  replace HK : Hid (KnP a t c d l ts xs ys w4) := HK.out.later hb
  replace RP : Hid (RdI .i64 w4 aq P) := RP.out.later hb
  replace RQ : Hid (RdI .i64 w4 a6 Q) := RQ.out.later hb
  replace RB : Hid (RdI .i64 w4 a7 (bothI P Q)) := RB.out.later hb
  replace HX : Hid (Below w.heap.size w w4) := chain HX.out hb
  clear hb hr8 RA
  go_wp2_with fail
  refine (R.pick a aq k j cap cq l P _ HN.out LP.out (by omega) (by omega) HK.out.A RP.out).mono ?_
  rintro e w5 ⟨a9, n9, c9, rfl, hn9, _, _, _, hr9, _, hb⟩
  rw [pick_some HN.out IP.out (by rw [LP.out]; omega)] at hn9 hr9 ⊢
  simp only at hn9 hr9 ⊢
  have hx9 : (pickAt l P).length = j := by rw [pickAt, List.length_map, LP.out]
  obtain rfl : n9 = j := by omega
  have L9 : Hid ((pickAt l P).length = n9) := hx9
  have R9 : Hid (RdV w5 a9 (pickAt l P)) := hr9
  replace HK : Hid (KnP a t c d l ts xs ys w5) := HK.out.later hb
  replace RP : Hid (RdI .i64 w5 aq P) := RP.out.later hb
  replace RQ : Hid (RdI .i64 w5 a6 Q) := RQ.out.later hb
  replace RB : Hid (RdI .i64 w5 a7 (bothI P Q)) := RB.out.later hb
  replace R8 : Hid (RdV w5 a8 l) := R8.out.later hb
  replace HX : Hid (Below w.heap.size w w5) := chain HX.out hb
  clear hb hr9 hn9 hx9
  go_wp2_with fail
  refine (R.pick a9 a6 n9 f c9 cq2 (pickAt l P) Q _ L9.out LQ.out (by omega) (by omega) R9.out RQ.out).mono ?_
  rintro e w6 ⟨a10, n10, c10, rfl, hn10, _, _, _, hr10, _, hb⟩
  rw [pick_some L9.out IQ.out (by rw [LQ.out]; omega)] at hn10 hr10 ⊢
  simp only at hn10 hr10 ⊢
  have hx10 : (pickAt (pickAt l P) Q).length = f := by rw [pickAt, List.length_map, LQ.out]
  obtain rfl : n10 = f := by omega
  have L10 : Hid ((pickAt (pickAt l P) Q).length = n10) := hx10
  have R10 : Hid (RdV w6 a10 (pickAt (pickAt l P) Q)) := hr10
  replace HK : Hid (KnP a t c d l ts xs ys w6) := HK.out.later hb
  replace RP : Hid (RdI .i64 w6 aq P) := RP.out.later hb
  replace RB : Hid (RdI .i64 w6 a7 (bothI P Q)) := RB.out.later hb
  replace R8 : Hid (RdV w6 a8 l) := R8.out.later hb
  replace R9 : Hid (RdV w6 a9 (pickAt l P)) := R9.out.later hb
  replace HX : Hid (Below w.heap.size w w6) := chain HX.out hb
  clear hb hr10 hn10 hx10 RQ
  go_wp2_with fail
  refine (R.pick a a7 k n10 cap cq3 l (bothI P Q) _ HN.out LB.out (by omega) (by omega) HK.out.A RB.out).mono ?_
  rintro e w7 ⟨a11, n11, c11, rfl, hn11, _, _, _, hr11, _, hb⟩
  rw [pick_some HN.out (in_both IP.out (by rw [LP.out]; exact IQ.out)) (by rw [LB.out]; omega)] at hn11 hr11 ⊢
  simp only at hn11 hr11 ⊢
  have hx11 : (pickAt l (bothI P Q)).length = n10 := by rw [pickAt, List.length_map, LB.out]
  obtain rfl : n11 = n10 := by omega
  have L11 : Hid ((pickAt l (bothI P Q)).length = n11) := hx11
  have R11 : Hid (RdV w7 a11 (pickAt l (bothI P Q))) := hr11
  replace HK : Hid (KnP a t c d l ts xs ys w7) := HK.out.later hb
  replace RP : Hid (RdI .i64 w7 aq P) := RP.out.later hb
  replace R8 : Hid (RdV w7 a8 l) := R8.out.later hb
  replace R9 : Hid (RdV w7 a9 (pickAt l P)) := R9.out.later hb
  replace R10 : Hid (RdV w7 a10 (pickAt (pickAt l P) Q)) := R10.out.later hb
  replace HX : Hid (Below w.heap.size w w7) := chain HX.out hb
  clear hb hr11 hn11 hx11 RB
  go_wp2_with fail
  refine (keepRow_any a8 a k k c8 cap l l _ HN.out HN.out (by omega) (by omega) R8.out HK.out.A).mono ?_
  rintro e w8 ⟨rfl, hb⟩
  rw [(sameVs_iff l l).2 rfl]
  replace HK : Hid (KnP a t c d l ts xs ys w8) := HK.out.later hb
  replace RP : Hid (RdI .i64 w8 aq P) := RP.out.later hb
  replace R9 : Hid (RdV w8 a9 (pickAt l P)) := R9.out.later hb
  replace R10 : Hid (RdV w8 a10 (pickAt (pickAt l P) Q)) := R10.out.later hb
  replace R11 : Hid (RdV w8 a11 (pickAt l (bothI P Q))) := R11.out.later hb
  replace HX : Hid (Below w.heap.size w w8) := chain HX.out hb
  clear hb R8
  go_wp2_with fail
  refine (keepRow_any a10 a11 n11 n11 c10 c11 _ _ _ L10.out L11.out (by omega) (by omega) R10.out R11.out).mono ?_
  rintro e w9 ⟨rfl, hb⟩
  rw [(sameVs_iff _ _).2 (pick_both (by rw [LP.out]; exact IQ.out))]
  replace HK : Hid (KnP a t c d l ts xs ys w9) := HK.out.later hb
  replace RP : Hid (RdI .i64 w9 aq P) := RP.out.later hb
  replace R9 : Hid (RdV w9 a9 (pickAt l P)) := R9.out.later hb
  replace HX : Hid (Below w.heap.size w w9) := chain HX.out hb
  clear hb R10 R11 L10 L11 LB LQ IQ
  by_cases hmk : m = k
  · subst hmk
    go_wp2_with fail
    refine (R.fits a t m m cap tap l ts _ HN.out HM.out (by omega) (by omega) HK.out.A HK.out.T).mono ?_
    rintro e w10 ⟨rfl, hb⟩
    replace HK : Hid (KnP a t c d l ts xs ys w10) := HK.out.later hb
    replace RP : Hid (RdI .i64 w10 aq P) := RP.out.later hb
    replace R9 : Hid (RdV w10 a9 (pickAt l P)) := R9.out.later hb
    replace HX : Hid (Below w.heap.size w w10) := chain HX.out hb
    clear hb
    cases hfit : fitsR l ts with
    | false =>
      go_wp2_with fail
      refine (rwakes_any R _).mono ?_
      rintro e w11 ⟨rfl, hb⟩
      go_wp2
      go_ret
      exact ⟨rfl, chain HX.out hb⟩
    | true =>
      have HF : Hid (fitsR l ts = true) := hfit
      clear hfit
      go_wp2
      go_loopw [13, 26] (fun o i w11 => ∃ (g cq4 : Nat) (a12 : Option Addr), g ≤ n9 ∧ i = .int .i64 g ∧ o = .slice a12 g cq4 ∧ g ≤ cq4 ∧ Hid (OwnI w11 w10.heap.size (.slice a12 g cq4) ((P.take g).map fun x => ts[x.toNat]?.getD 0)) ∧ Hid (Below w10.heap.size w10 w11)) (fun _ i _ => n9 - (RowKit.intOf i).toNat)
      case atStart => exact ⟨0, 0, none, Nat.zero_le _, rfl, rfl, Nat.le_refl _, OwnI.nought _ _, Below.refl _ _⟩
      case round =>
      obtain ⟨g, cq4, a12, hg, rfl, rfl, hcq4, hO, hB⟩ := hrel
      by_cases hlt : g < n9
      · have hgP : g < P.length := by rw [LP.out]; exact hlt
        obtain ⟨bp, op, rfl, hcp'⟩ := (RP.out.later hB.out) (by omega)
        have yp := hcp' g hgP
        have hin := at_in IP.out hgP
        have HT : Hid ((P.take (g + 1)).map (fun x => ts[x.toNat]?.getD 0) = (P.take g).map (fun x => ts[x.toNat]?.getD 0) ++ [ts[P[g].toNat]?.getD 0]) := by
          show _ = _
          rw [List.take_succ_eq_append_getElem hgP, List.map_append]
          rfl
        clear hcp'
        generalize P[g] = x at *
        obtain ⟨z, rfl⟩ : ∃ z : Nat, x = z := ⟨x.toNat, by omega⟩
        have hz : z < m := by omega
        have hzt : z < ts.length := by rw [HM.out]; exact hz
        obtain ⟨bt, ot, rfl, hct⟩ := (HK.out.later hB.out).T (by omega)
        have yt := hct z hzt
        rw [show ((z : Int).toNat) = z from by omega, List.getElem?_eq_getElem hzt, Option.getD_some] at HT
        clear hct
        generalize ts[z] = tz at *
        have hgl : ((P.take g).map fun x => ts[x.toNat]?.getD 0).length = g := by simp [LP.out]; omega
        obtain ⟨a', cap', w', hrun, hc', ho', hb'⟩ := run_append_int _ rfl tz hO.out (n := g) hgl (by omega) hB.out.size
        rw [← HT.out] at ho'
        have HO' : Hid _ := ho'
        have HB' : Hid (Below w10.heap.size w10 w') := hB.out.trans hb'
        have b1 : (0 : Int) ≤ (z : Int) := by omega
        have b2' : (z : Int) < (m : Int) := by omega
        clear hO hB ho' hb' hgl HT hin
        go_wp2_with (at_builtin; refine wpList_append_run rfl (.tmp 188) (.tmp 196) 23 23 rfl _ _ _ _ rfl rfl hrun ?_)
        go_roundw
        case rel => exact ⟨g + 1, cap', a', by omega, by go_num, rfl, hc', HO', HB'⟩
        case measure => simp [RowKit.intOf]; omega
      obtain rfl : g = n9 := by omega
      have hT2 : P.take g = P := List.take_of_length_le (by rw [LP.out]; omega)
      rw [hT2] at hO
      have LT : Hid ((P.map fun x => ts[x.toNat]?.getD 0).length = g) := by show _ = _; rw [List.length_map, LP.out]
      have HF2 : Hid (fitsR (pickAt l P) (P.map fun x => ts[x.toNat]?.getD 0) = true) := fits_pick HF.out (by rw [HN.out]; exact IP.out)
      generalize (P.map fun x => ts[x.toNat]?.getD 0) = T at *
      obtain ⟨a5, cap5, e5, _, hr5, _⟩ := hO.out.form
      rw [LT.out] at e5
      simp only [Value.slice.injEq] at e5
      obtain ⟨rfl, _, rfl⟩ := e5
      go_wp2_with fail
      refine (R.fits a9 a12 g g c9 cq4 (pickAt l P) T _ L9.out LT.out (by omega) (by omega) (R9.out.later hB.out) hr5).mono ?_
      rintro e w12 ⟨rfl, hb⟩
      rw [HF2.out]
      replace HX : Hid (Below w.heap.size w w12) := chain HX.out (chain hB.out hb)
      clear hb hO hB hr5
      go_wp2_with fail
      refine (rwakes_any R _).mono ?_
      rintro e w13 ⟨rfl, hb⟩
      go_wp2
      go_ret
      exact ⟨rfl, chain HX.out hb⟩
  · have hbq : ((m : Int) == (k : Int)) = false := by simp; omega
    clear hmk
    go_wp2_with fail
    refine (rwakes_any R _).mono ?_
    rintro e w11 ⟨rfl, hb⟩
    go_wp2
    go_ret
    exact ⟨rfl, chain HX.out hb⟩

set_option maxRecDepth 100000 in
set_option maxHeartbeats 1000000 in
theorem rpicks_out (a t c d : Option Addr) (n m p q cap tap cap2 cap3 : Nat) (w : World) (hn : n ≤ 9223372036854775807) (hm : m ≤ 9223372036854775807) (hp : p ≤ 9223372036854775807) (hq : q ≤ 9223372036854775807)
    (H : (Calls Try.prog 9 #[.slice a n cap] w fun e w' => e = .returned (.bool true) ∧ w' = w) ∨
      ((Calls Try.prog 9 #[.slice a n cap] w fun e w' => e = .returned (.bool false) ∧ w' = w) ∧
        (n = 0 ∨ ((n : Int) == 0) = false ∧ (12 < n ∨ n ≤ 12 ∧ (p = 0 ∨ ((p : Int) == 0) = false ∧ (12 < p ∨ p ≤ 12 ∧ (12 < q ∨ q ≤ 12 ∧ 40 < m))))))) :
    Calls Try.prog 6 #[.slice a n cap, .slice t m tap, .slice c p cap2, .slice d q cap3] w fun e w' => e = .returned (.bool true) ∧ Below w.heap.size w w' := by
  rcases H with C | ⟨C, h | ⟨h0, h | ⟨h1, h | ⟨h2, h | ⟨h3, h | ⟨h4, h⟩⟩⟩⟩⟩⟩
  · go_enter Try.func6, Try.ntmps6
    go_wp2_with fail
    refine C.mono ?_
    rintro e w1 ⟨rfl, rfl⟩
    go_wp2
    go_ret
    exact ⟨rfl, Below.refl _ _⟩
  all_goals
    try subst h
    go_enter Try.func6, Try.ntmps6
    go_wp2_with fail
    refine C.mono ?_
    rintro e w1 ⟨rfl, rfl⟩
    go_wp2
    go_ret
    exact ⟨rfl, Below.refl _ _⟩

theorem rpicks_walk (R : RowApi) (a t c d : Option Addr) (n m p q cap tap cap2 cap3 : Nat) (x : List PV) (zt zc zd : List Int) (w : World) (hx : IsVals w a n cap x) (ht : IsInts .i64 w t m tap zt) (hc : IsInts .i64 w c p cap2 zc) (hd : IsInts .i64 w d q cap3 zd) :
    Calls Try.prog 6 #[.slice a n cap, .slice t m tap, .slice c p cap2, .slice d q cap3] w fun e w' => e = .returned (.bool true) ∧ Below w.heap.size w w' := by
  have out := rpicks_out a t c d n m p q cap tap cap2 cap3 w hx.small ht.small hc.small hd.small
  rcases heavy_in a n cap x w hx with C | ⟨_, _, C⟩
  · exact out (.inl C)
  by_cases n0 : n = 0
  · exact out (.inr ⟨C, .inl n0⟩)
  have n0' : ((n : Int) == 0) = false := by simp; omega
  by_cases n12 : 12 < n
  · exact out (.inr ⟨C, .inr ⟨n0', .inl n12⟩⟩)
  by_cases p0 : p = 0
  · exact out (.inr ⟨C, .inr ⟨n0', .inr ⟨by omega, .inl p0⟩⟩⟩)
  have p0' : ((p : Int) == 0) = false := by simp; omega
  by_cases p12 : 12 < p
  · exact out (.inr ⟨C, .inr ⟨n0', .inr ⟨by omega, .inr ⟨p0', .inl p12⟩⟩⟩⟩)
  by_cases q12 : 12 < q
  · exact out (.inr ⟨C, .inr ⟨n0', .inr ⟨by omega, .inr ⟨p0', .inr ⟨by omega, .inl q12⟩⟩⟩⟩⟩)
  by_cases m40 : 40 < m
  · exact out (.inr ⟨C, .inr ⟨n0', .inr ⟨by omega, .inr ⟨p0', .inr ⟨by omega, .inr ⟨by omega, m40⟩⟩⟩⟩⟩⟩)
  obtain ⟨hn, _, hr, na⟩ := hx.vals
  obtain ⟨T, hT, _, hrT, nT, _⟩ := ht.ints
  obtain ⟨X, hX, _, hrX, nX, _⟩ := hc.ints
  obtain ⟨Y, hY, _, hrY, nY, _⟩ := hd.ints
  exact rpicks_some R a t c d n m p q cap tap cap2 cap3 x T X Y w hn hT hX hY (by omega) (by omega) (by omega) (by omega) (by omega) (by omega) ⟨hr, hrT, hrX, hrY⟩ C

end Go.Proofs.Ythmclopndmcojaa
