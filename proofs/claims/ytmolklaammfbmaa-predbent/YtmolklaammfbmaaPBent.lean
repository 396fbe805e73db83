/-
  PredBent's walk: what the law answers, whatever its types and numbers.
-/
import Derived.Test.YtmolklaammfbmaaRows
import Derived.Test.YtmolklaammfbmaaPBentM
import Derived.Test.YtmolklaammfbmaaRFrame
namespace Go.Proofs.Ytmolklaammfbmaa
open Go.RowKit Go.Lib
set_option linter.unusedVariables false

set_option maxHeartbeats 8000000 in
set_option maxRecDepth 100000 in
theorem pbent_walk (a : Option Addr) (n cap : Nat) (zs : List Int) (x y : Int) (w : World) (hz : IsInts .i64 w a n cap zs) :
    Calls Try.prog 6 #[.slice a n cap, .int .i64 x, .int .i64 y] w fun e w' => e = .returned (.bool true) ∧ Below w.heap.size w w' := by
  obtain ⟨ts, hn0, hnc, hrI, hnI, _⟩ := hz.ints
  have hns := hz.small
  have HN : Hid (ts.length = n) := hn0
  have HI : Hid (RdI .i64 w a ts) := hrI
  clear hn0 hrI hnI hz
  by_cases hsz : 1 ≤ n ∧ n ≤ 12
  case neg =>
    by_cases h0 : n = 0
    · subst h0
      go_enter Try.func6, Try.ntmps6
      go_wp2
      go_ret
      exact ⟨rfl, below_rfl _⟩
    · have h12 : 12 < n := by omega
      have hn1 : ((n : Int) == 0) = false := by simp; omega
      have hn2 : (n = 0) = False := eq_false (by omega)
      go_enter Try.func6, Try.ntmps6
      go_wp2
      go_ret
      exact ⟨rfl, below_rfl _⟩
  obtain ⟨hs1, hs2⟩ := hsz
  have hn1 : ((n : Int) == 0) = false := by simp; omega
  have hn2 : (n = 0) = False := eq_false (by omega)
  go_enter Try.func6, Try.ntmps6
  go_wp2
  go_loop [7] (fun i => ∃ k : Nat, k ≤ n ∧ i = .int .i64 k ∧ Hid (∀ t ∈ ts.take k, 2 ≤ t ∧ t ≤ 4)) (fun i => n - (RowKit.intOf i).toNat)
  case atStart => exact ⟨0, Nat.zero_le _, rfl, fun t ht => by simp at ht⟩
  case round =>
    obtain ⟨k, hk, rfl, hT⟩ := hrel
    by_cases hlt : k < n
    · have hkl : k < ts.length := by rw [HN.out]; exact hlt
      obtain ⟨b, off, rfl, hc⟩ := HI.out (by omega)
      have y0 := hc k hkl
      have HS : Hid (2 ≤ ts[k] ∧ ts[k] ≤ 4 → ∀ t ∈ ts.take (k + 1), 2 ≤ t ∧ t ≤ 4) := fun h t ht => by
        rw [List.take_succ_eq_append_getElem hkl] at ht
        rcases List.mem_append.1 ht with ht | ht
        · exact hT.out t ht
        · rw [List.mem_singleton.1 ht]
          exact h
      generalize ts[k] = t at *
      clear hc hkl
      by_cases h2 : t < 2
      · go_wp2
        go_ret
        exact ⟨rfl, below_rfl _⟩
      by_cases h4 : 4 < t
      · go_wp2
        go_ret
        exact ⟨rfl, below_rfl _⟩
      · have HT' : Hid (∀ t ∈ ts.take (k + 1), 2 ≤ t ∧ t ≤ 4) := HS.out ⟨by omega, by omega⟩
        go_wp2
        go_round
        case rel => exact ⟨k + 1, by omega, by go_num, HT'⟩
        case measure => simp [RowKit.intOf]; omega
    · have hT2 := hT.out
      rw [List.take_of_length_le (by rw [HN.out]; omega)] at hT2
      have HT : Hid (∀ t ∈ ts, 2 ≤ t ∧ t ≤ 4) := hT2
      clear hT hT2
      obtain rfl : k = n := by omega
      obtain ⟨i, hi, ei1, ei2, ei3⟩ := modAt x k hs1 (by omega)
      have hil : i < ts.length := by rw [HN.out]; exact hi
      obtain ⟨b, off, rfl, hc⟩ := HI.out (by omega)
      have y0 := hc i hil
      have H1 : Hid (chkP ⟨6, i, 0, ⟨0, 0, ⟨#[]⟩⟩⟩ ts = 0) := bent_right hil _ _
      have HB0 : Hid (chkP ⟨6, k, 0, ⟨0, 0, ⟨#[]⟩⟩⟩ ts = 1) := bent_col k HN.out _ _
      have HB1 : Hid (chkP ⟨7, i, 0, ⟨0, 0, ⟨#[]⟩⟩⟩ ts = 1) := bent_kind _ _ _ _ (.inr (by omega))
      have HB2 : Hid (chkP ⟨0, i, 0, ⟨0, 0, ⟨#[]⟩⟩⟩ ts = 1) := bent_kind _ _ _ _ (.inl (by omega))
      have HB3 : Hid (chkP ⟨3, i, -1, ⟨0, 0, ⟨#[]⟩⟩⟩ ts = 1) := bent_oth _ _
      have HB4 : Hid (∀ q, 2 ≤ q ∧ q ≤ 4 → q ≠ ts[i] → chkP ⟨1, i, 0, ⟨q, 0, ⟨#[]⟩⟩⟩ ts = 10) := fun q hq hne => bent_type hil q 0 hq hne
      have HT1 : Hid (2 ≤ ts[i] ∧ ts[i] ≤ 4) := HT.out _ (List.getElem_mem hil)
      generalize ts[i] = t at *
      clear hc hil HT hlt
      have wn : IntKind.u64.wrap (k : Int) = (k : Int) := by rw [IntKind.wrap_u64]; omega
      have hm1 : (k : Int) ≠ 0 := by omega
      have hm2 : ((k : Int) = 0) = False := eq_false hm1
      have i0 : (0 : Int) ≤ (i : Int) := by omega
      have i1 : (i : Int) < (k : Int) := by omega
      have BX := alloc_below w (.cells #[.int .i64 6, .int .i64 i, .int .i64 0, .int .i64 0, .int .i64 0, .string ⟨#[]⟩] 25)
      go_wp2_with fail
      refine (pCheck_at 6 i 0 0 0 ⟨#[]⟩ (some ⟨b, off, none⟩) k cap ts _ HN.out (by omega) (HI.out.later BX)).mono ?_
      rintro e w1 ⟨rfl, hb⟩
      rw [H1.out]
      obtain ⟨c0, c1, c2, c3, c4, c5⟩ := box6 hb
      have HB : Hid (Below w.heap.size w w1) := chain BX hb
      have HFR : Hid (∀ o, w1.frozen? ⟨w.heap.size, o, none⟩ = false) := fun o => (BoxPd.made.later hb).free o
      have f0 := HFR.out 0
      have f1 := HFR.out 1
      have f2 := HFR.out 2
      have f3 := HFR.out 3
      have f4 := HFR.out 4
      have f5 := HFR.out 5
      replace y0 := cell_later HB.out y0
      clear hb BX
      obtain ⟨j, hj, ej⟩ := mod5 y
      rcases (show j = 0 ∨ j = 1 ∨ j = 2 ∨ j = 3 ∨ j = 4 by omega) with rfl | rfl | rfl | rfl | rfl
      · go_wp2_with fail
        refine (pCheck_at 6 k 0 0 0 ⟨#[]⟩ (some ⟨b, off, none⟩) k cap ts _ HN.out (by omega) (HI.out.later (below_putP (HB.out) (Nat.le_refl _)))).mono ?_
        rintro e w2 ⟨rfl, hb⟩
        rw [HB0.out]
        have HB : Hid (Below w.heap.size w w2) := chain (below_putP (HB.out) (Nat.le_refl _)) hb
        clear hb
        go_wp2_with fail
        refine (predwakes_any _).mono ?_
        rintro e w3 ⟨rfl, hb⟩
        go_wp2
        go_ret
        exact ⟨rfl, chain HB.out hb⟩
      · go_wp2_with fail
        refine (pCheck_at 7 i 0 0 0 ⟨#[]⟩ (some ⟨b, off, none⟩) k cap ts _ HN.out (by omega) (HI.out.later (below_putP (HB.out) (Nat.le_refl _)))).mono ?_
        rintro e w2 ⟨rfl, hb⟩
        rw [HB1.out]
        have HB : Hid (Below w.heap.size w w2) := chain (below_putP (HB.out) (Nat.le_refl _)) hb
        clear hb
        go_wp2_with fail
        refine (predwakes_any _).mono ?_
        rintro e w3 ⟨rfl, hb⟩
        go_wp2
        go_ret
        exact ⟨rfl, chain HB.out hb⟩
      · go_wp2_with fail
        refine (pCheck_at 0 i 0 0 0 ⟨#[]⟩ (some ⟨b, off, none⟩) k cap ts _ HN.out (by omega) (HI.out.later (below_putP (HB.out) (Nat.le_refl _)))).mono ?_
        rintro e w2 ⟨rfl, hb⟩
        rw [HB2.out]
        have HB : Hid (Below w.heap.size w w2) := chain (below_putP (HB.out) (Nat.le_refl _)) hb
        clear hb
        go_wp2_with fail
        refine (predwakes_any _).mono ?_
        rintro e w3 ⟨rfl, hb⟩
        go_wp2
        go_ret
        exact ⟨rfl, chain HB.out hb⟩
      · go_wp2_with fail
        refine (pCheck_at 3 i (-1) 0 0 ⟨#[]⟩ (some ⟨b, off, none⟩) k cap ts _ HN.out (by omega) (HI.out.later (below_putP (below_putP (below_putP (below_putP (below_putP (below_putP (HB.out) (Nat.le_refl _)) (Nat.le_refl _)) (Nat.le_refl _)) (Nat.le_refl _)) (Nat.le_refl _)) (Nat.le_refl _)))).mono ?_
        rintro e w2 ⟨rfl, hb⟩
        rw [HB3.out]
        have HB : Hid (Below w.heap.size w w2) := chain (below_putP (below_putP (below_putP (below_putP (below_putP (below_putP (HB.out) (Nat.le_refl _)) (Nat.le_refl _)) (Nat.le_refl _)) (Nat.le_refl _)) (Nat.le_refl _)) (Nat.le_refl _)) hb
        clear hb
        go_wp2_with fail
        refine (predwakes_any _).mono ?_
        rintro e w3 ⟨rfl, hb⟩
        go_wp2
        go_ret
        exact ⟨rfl, chain HB.out hb⟩
      · obtain ⟨t2, t4⟩ := HT1.out
        rcases (show t = 2 ∨ t = 3 ∨ t = 4 by omega) with rfl | rfl | rfl
        · have HE : Hid (chkP ⟨1, i, 0, ⟨3, 0, ⟨#[]⟩⟩⟩ ts = 10) := HB4.out 3 (by omega) (by omega)
          go_wp2_with fail
          refine (pCheck_at 1 i 0 3 0 ⟨#[]⟩ (some ⟨b, off, none⟩) k cap ts _ HN.out (by omega) (HI.out.later (below_putP (below_putP (below_putP (below_putP (below_putP (below_putP (HB.out) (Nat.le_refl _)) (Nat.le_refl _)) (Nat.le_refl _)) (Nat.le_refl _)) (Nat.le_refl _)) (Nat.le_refl _)))).mono ?_
          rintro e w2 ⟨rfl, hb⟩
          rw [HE.out]
          have HB : Hid (Below w.heap.size w w2) := chain (below_putP (below_putP (below_putP (below_putP (below_putP (below_putP (HB.out) (Nat.le_refl _)) (Nat.le_refl _)) (Nat.le_refl _)) (Nat.le_refl _)) (Nat.le_refl _)) (Nat.le_refl _)) hb
          clear hb
          go_wp2_with fail
          refine (predwakes_any _).mono ?_
          rintro e w3 ⟨rfl, hb⟩
          go_wp2
          go_ret
          exact ⟨rfl, chain HB.out hb⟩
        · have HE : Hid (chkP ⟨1, i, 0, ⟨4, 0, ⟨#[]⟩⟩⟩ ts = 10) := HB4.out 4 (by omega) (by omega)
          go_wp2_with fail
          refine (pCheck_at 1 i 0 4 0 ⟨#[]⟩ (some ⟨b, off, none⟩) k cap ts _ HN.out (by omega) (HI.out.later (below_putP (below_putP (below_putP (below_putP (below_putP (below_putP (HB.out) (Nat.le_refl _)) (Nat.le_refl _)) (Nat.le_refl _)) (Nat.le_refl _)) (Nat.le_refl _)) (Nat.le_refl _)))).mono ?_
          rintro e w2 ⟨rfl, hb⟩
          rw [HE.out]
          have HB : Hid (Below w.heap.size w w2) := chain (below_putP (below_putP (below_putP (below_putP (below_putP (below_putP (HB.out) (Nat.le_refl _)) (Nat.le_refl _)) (Nat.le_refl _)) (Nat.le_refl _)) (Nat.le_refl _)) (Nat.le_refl _)) hb
          clear hb
          go_wp2_with fail
          refine (predwakes_any _).mono ?_
          rintro e w3 ⟨rfl, hb⟩
          go_wp2
          go_ret
          exact ⟨rfl, chain HB.out hb⟩
        · have HE : Hid (chkP ⟨1, i, 0, ⟨2, 0, ⟨#[]⟩⟩⟩ ts = 10) := HB4.out 2 (by omega) (by omega)
          go_wp2_with fail
          refine (pCheck_at 1 i 0 2 0 ⟨#[]⟩ (some ⟨b, off, none⟩) k cap ts _ HN.out (by omega) (HI.out.later (below_putP (below_putP (below_putP (below_putP (below_putP (below_putP (HB.out) (Nat.le_refl _)) (Nat.le_refl _)) (Nat.le_refl _)) (Nat.le_refl _)) (Nat.le_refl _)) (Nat.le_refl _)))).mono ?_
          rintro e w2 ⟨rfl, hb⟩
          rw [HE.out]
          have HB : Hid (Below w.heap.size w w2) := chain (below_putP (below_putP (below_putP (below_putP (below_putP (below_putP (HB.out) (Nat.le_refl _)) (Nat.le_refl _)) (Nat.le_refl _)) (Nat.le_refl _)) (Nat.le_refl _)) (Nat.le_refl _)) hb
          clear hb
          go_wp2_with fail
          refine (predwakes_any _).mono ?_
          rintro e w3 ⟨rfl, hb⟩
          go_wp2
          go_ret
          exact ⟨rfl, chain HB.out hb⟩

end Go.Proofs.Ytmolklaammfbmaa
