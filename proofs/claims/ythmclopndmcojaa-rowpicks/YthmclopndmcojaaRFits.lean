/-
  RowFits' walk: what the law answers, whatever its row, its types and its number.
-/
import Derived.Test.YthmclopndmcojaaRows
import Derived.Test.YthmclopndmcojaaRReads
import Derived.Test.YthmclopndmcojaaRFrame
import Derived.Test.YthmclopndmcojaaHeld
namespace Go.Proofs.Ythmclopndmcojaa
open Go.RowKit Go.Lib
set_option linter.unusedVariables false

theorem fitsR_zip : ∀ (l : List PV) (ts : List Int), fitsR l ts = (decide (l.length = ts.length) && (l.zip ts).all fun p => fitsV p.1 p.2)
  | [], [] => by simp [fitsR]
  | [], t :: ts => by simp [fitsR]
  | v :: l, [] => by simp [fitsR]
  | v :: l, t :: ts => by
    rw [fitsR, fitsR_zip l ts]
    simp only [List.length_cons, List.zip_cons_cons, List.all_cons, Nat.add_right_cancel_iff]
    cases fitsV v t <;> cases decide (l.length = ts.length) <;> simp

/-- Do the first k fit? -/
def fitsK (b : Bool) (l : List PV) (ts : List Int) (k : Nat) : Bool := b && ((l.zip ts).take k).all fun p => fitsV p.1 p.2

theorem fitsK_step {b : Bool} {l : List PV} {ts : List Int} {k : Nat} (hl : k < l.length) (ht : k < ts.length) : fitsK b l ts (k + 1) = (fitsK b l ts k && fitsV l[k] ts[k]) := by
  unfold fitsK
  have hz : k < (l.zip ts).length := by simp; omega
  rw [List.take_succ_eq_append_getElem hz, List.all_append]
  simp [Bool.and_assoc]

theorem fitsK_end {l : List PV} {ts : List Int} {k : Nat} (h : ¬ (k < l.length ∧ k < ts.length)) : fitsK (decide (l.length = ts.length)) l ts k = fitsR l ts := by
  unfold fitsK
  rw [fitsR_zip, List.take_of_length_le (by simp; omega)]

theorem RdI.take {k : IntKind} {w : World} {a : Option Addr} {N : List Int} (h : RdI k w a N) (j : Nat) : RdI k w a (N.take j) := by
  intro h0
  obtain ⟨b, off, e, hc⟩ := h (by simp at h0; omega)
  refine ⟨b, off, e, fun i hi => ?_⟩
  have := hc i (by simp at hi; omega)
  simpa using this

theorem modLen (k : Int) (m : Nat) (h1 : 1 ≤ m) (h40 : m ≤ 1000) : ∃ j : Nat, j < m ∧ wrap64 ((IntKind.u64.wrap k).tmod (m : Int)) = (j : Int) := by
  have h0 : 0 ≤ IntKind.u64.wrap k := by rw [IntKind.wrap_u64]; omega
  have h2 : (IntKind.u64.wrap k).tmod (m : Int) = IntKind.u64.wrap k % (m : Int) := Int.tmod_eq_emod_of_nonneg h0
  have h3 := Int.emod_nonneg (IntKind.u64.wrap k) (show (m : Int) ≠ 0 by omega)
  have h4 := Int.emod_lt_of_pos (IntKind.u64.wrap k) (show (0 : Int) < (m : Int) by omega)
  refine ⟨(IntKind.u64.wrap k % (m : Int)).toNat, by omega, ?_⟩
  rw [h2, IntWalk.wrap64_in _ ⟨by omega, by omega⟩]
  omega

set_option maxHeartbeats 1000000 in
theorem rfits_some (VF : ValueFits) (R : RowApi) (a b : Option Addr) (n m cap dap : Nat) (l : List PV) (ts : List Int) (kk : Int) (w : World) (hn : l.length = n) (hm : ts.length = m) (h40 : n ≤ 40) (hm40 : m ≤ 40) (hh : heavyV l = false) (hdap : m ≤ dap) (ha : RdV w a l) (hb : RdI .i64 w b ts) :
    Calls Try.prog 7 #[.slice a n cap, .slice b m dap, .int .i64 kk] w fun e w' => e = .returned (.bool true) ∧ Below w.heap.size w w' := by
  have HN : Hid (l.length = n) := hn
  have HM : Hid (ts.length = m) := hm
  have HA : Hid (RdV w a l) := ha
  have HI : Hid (RdI .i64 w b ts) := hb
  have HH : Hid (heavyV l = false) := hh
  clear hn hm ha hb hh
  have e0 : ((n : Int) == (m : Int)) = decide (l.length = ts.length) := by
    rw [HN.out, HM.out]
    by_cases h : n = m
    · subst h; simp
    · simp [h]; omega
  go_enter Try.func7, Try.ntmps7
  go_wp2_with fail
  refine (heavy_few a n cap l _ HN.out h40 HA.out).mono ?_
  rintro e w1 ⟨rfl, hw1⟩
  subst w1
  rw [HH.out]
  go_wp2
  clear e0
  go_loopw [7, 8] (fun o i wr => ∃ k : Nat, k ≤ n ∧ k ≤ m ∧ i = .int .i64 k ∧ o = .bool (fitsK (decide (l.length = ts.length)) l ts k) ∧ Hid (Below w.heap.size w wr)) (fun _ i _ => n - (RowKit.intOf i).toNat)
  case atStart => exact ⟨0, Nat.zero_le _, Nat.zero_le _, rfl, by simp [fitsK], Below.refl _ _⟩
  case round =>
    obtain ⟨k, hk, hk', rfl, rfl, hB⟩ := hrel
    by_cases hlt : k < n ∧ k < m
    · obtain ⟨hlt1, hlt2⟩ := hlt
      have hkl : k < l.length := by rw [HN.out]; exact hlt1
      have hkr : k < ts.length := by rw [HM.out]; exact hlt2
      have HQ : Hid (fitsK (decide (l.length = ts.length)) l ts (k + 1) = (fitsK (decide (l.length = ts.length)) l ts k && fitsV l[k] ts[k])) := fitsK_step hkl hkr
      obtain ⟨b1, o1, rfl, hc1⟩ := HA.out (by omega)
      obtain ⟨b2, o2, rfl, hc2⟩ := HI.out (by omega)
      obtain ⟨x0, x1, x2⟩ := hc1 k hkl
      have y0 := hc2 k hkr
      have HS := And.intro (cell_later hB.out x0) (And.intro (cell_later hB.out x1) (And.intro (cell_later hB.out x2) (And.intro (cell_later hB.out y0) hB)))
      clear hc1 hc2 x0 x1 x2 y0
      generalize l[k] = x at *
      generalize ts[k] = ty at *
      clear hkl hkr
      obtain ⟨k0, i0, s0⟩ := x
      simp only at HS
      have b1' : (0 : Int) ≤ (k : Int) := by omega
      have b2' : (k : Int) < (n : Int) := by omega
      have b3' : (k : Int) < (m : Int) := by omega
      cases hF : fitsK (decide (l.length = ts.length)) l ts k with
      | true =>
        rw [hF, Bool.true_and] at HQ
        have C := VF k0 i0 s0 ty
        clear hB hF
        go_wp2
        go_region_held3 (fun w' => w'.cell? ⟨b1, o1 + k * 3, none⟩ = some (.int .i64 k0) ∧ w'.cell? ⟨b1, o1 + k * 3 + 1, none⟩ = some (.int .i64 i0) ∧ w'.cell? ⟨b1, o1 + k * 3 + 2, none⟩ = some (.string s0) ∧ w'.cell? ⟨b2, o2 + k, none⟩ = some (.int .i64 ty) ∧ Hid (Below w.heap.size w w')) (first | exact keepFit (by assumption) (by assumption) | exact keepFit (Below.refl _ _).drew (by assumption)) (first | (go_at_call 31; refine (C _).mono ?_; rintro e w' ⟨rfl, hb⟩))
        have HS1 : w'.cell? ⟨b1, o1 + k * 3, none⟩ = some (.int .i64 k0) ∧ w'.cell? ⟨b1, o1 + k * 3 + 1, none⟩ = some (.int .i64 i0) ∧ w'.cell? ⟨b1, o1 + k * 3 + 2, none⟩ = some (.string s0) ∧ w'.cell? ⟨b2, o2 + k, none⟩ = some (.int .i64 ty) ∧ Hid (Below w.heap.size w w') := by assumption
        obtain ⟨_, _, _, _, HB1⟩ := HS1
        go_wp2
        go_roundw
        case rel => exact ⟨k + 1, by omega, by omega, by go_num, by rw [HQ.out], HB1⟩
        case measure => simp [RowKit.intOf]; omega
      | false =>
        rw [hF, Bool.false_and] at HQ
        clear hF HS
        go_wp2
        refine wp_region_held_drew (S := (fun w' => Hid (Below w.heap.size w w'))) (by kernel_rfl) hB.out.drew (fun hHeld => ?_)
        refine heldTake (v := ?_) 0 33 rfl rfl (by kernel_rfl) (by kernel_rfl) (by kernel_rfl) (fun _ _ _ h => h) (by rfl) (fun w hSw => ?_) (by assumption) ?_
        rotate_left
        · (try dsimp only at hSw); first | (go_simp; done) | (go_simp; with_reducible rfl)
        simp only [List.setIfInBounds_toArray, List.set_cons_zero, List.set_cons_succ]
        refine heldTake (v := ?_) 1 34 rfl rfl (by kernel_rfl) (by kernel_rfl) (by kernel_rfl) (fun _ _ _ h => h) (by rfl) (fun w hSw => ?_) (by assumption) ?_
        rotate_left
        · (try dsimp only at hSw); first | (go_simp; done) | (go_simp; with_reducible rfl)
        simp only [List.setIfInBounds_toArray, List.set_cons_zero, List.set_cons_succ]
        refine heldSkip 2 35 rfl rfl (by kernel_rfl) (by kernel_rfl) (by kernel_rfl) (fun _ _ _ h => h) (by rfl) (by assumption) ?_
        simp only [List.setIfInBounds_toArray, List.set_cons_zero, List.set_cons_succ]
        refine heldSkip 3 36 rfl rfl (by kernel_rfl) (by kernel_rfl) (by kernel_rfl) (fun _ _ _ h => h) (by rfl) (by assumption) ?_
        simp only [List.setIfInBounds_toArray, List.set_cons_zero, List.set_cons_succ]
        refine heldSkip 4 37 rfl rfl (by kernel_rfl) (by kernel_rfl) (by kernel_rfl) (fun _ _ _ h => h) (by rfl) (by assumption) ?_
        simp only [List.setIfInBounds_toArray, List.set_cons_zero, List.set_cons_succ]
        refine heldSkip 5 38 rfl rfl (by kernel_rfl) (by kernel_rfl) (by kernel_rfl) (fun _ _ _ h => h) (by rfl) (by assumption) ?_
        simp only [List.setIfInBounds_toArray, List.set_cons_zero, List.set_cons_succ]
        refine heldSkip 6 39 rfl rfl (by kernel_rfl) (by kernel_rfl) (by kernel_rfl) (fun _ _ _ h => h) (by rfl) (by assumption) ?_
        simp only [List.setIfInBounds_toArray, List.set_cons_zero, List.set_cons_succ]
        refine heldSkip 7 40 rfl rfl (by kernel_rfl) (by kernel_rfl) (by kernel_rfl) (fun _ _ _ h => h) (by rfl) (by assumption) ?_
        simp only [List.setIfInBounds_toArray, List.set_cons_zero, List.set_cons_succ]
        refine heldSkip 8 41 rfl rfl (by kernel_rfl) (by kernel_rfl) (by kernel_rfl) (fun _ _ _ h => h) (by rfl) (by assumption) ?_
        simp only [List.setIfInBounds_toArray, List.set_cons_zero, List.set_cons_succ]
        refine heldSkip 9 42 rfl rfl (by kernel_rfl) (by kernel_rfl) (by kernel_rfl) (fun _ _ _ h => h) (by rfl) (by assumption) ?_
        simp only [List.setIfInBounds_toArray, List.set_cons_zero, List.set_cons_succ]
        refine heldSkip 10 43 rfl rfl (by kernel_rfl) (by kernel_rfl) (by kernel_rfl) (fun _ _ _ h => h) (by rfl) (by assumption) ?_
        simp only [List.setIfInBounds_toArray, List.set_cons_zero, List.set_cons_succ]
        refine heldTake (v := ?_) 11 44 rfl rfl (by kernel_rfl) (by kernel_rfl) (by kernel_rfl) (fun _ _ _ h => h) (by rfl) (fun w hSw => ?_) (by assumption) ?_
        rotate_left
        · (try dsimp only at hSw); first | (go_simp; done) | (go_simp; with_reducible rfl)
        simp only [List.setIfInBounds_toArray, List.set_cons_zero, List.set_cons_succ]
        refine heldTake (v := ?_) 12 7 rfl rfl (by kernel_rfl) (by kernel_rfl) (by kernel_rfl) (fun _ _ _ h => h) (by rfl) (fun w hSw => ?_) (by assumption) ?_
        rotate_left
        · (try dsimp only at hSw); first | (go_simp; done) | (go_simp; with_reducible rfl)
        simp only [List.setIfInBounds_toArray, List.set_cons_zero, List.set_cons_succ]
        refine wpAnyH_done (by kernel_rfl) ?_ _
        go_wp2
        go_roundw
        case rel => exact ⟨k + 1, by omega, by omega, by go_num, by rw [HQ.out], hB.out.drew⟩
        case measure => simp [RowKit.intOf]; omega
    · rw [fitsK_end (by rw [HN.out, HM.out]; exact hlt)]
      by_cases h1 : k < n
      · have h2 : ¬ k < m := by omega
        go_wp2_with fail
        refine (R.fits a b n m cap dap l ts _ HN.out HM.out (by omega) (by omega) (HA.out.later hB.out) (HI.out.later hB.out)).mono ?_
        rintro e w2 ⟨rfl, hb2⟩
        have HB2 : Hid (Below w.heap.size w w2) := chain hB.out hb2
        clear hB hb2
        rcases Nat.eq_zero_or_pos m with hm0 | hm0
        · subst hm0
          go_wp2_with fail
          refine (rwakes_any R _).mono ?_
          rintro e w3 ⟨rfl, hb3⟩
          go_wp2
          go_ret
          exact ⟨rfl, chain HB2.out hb3⟩
        · obtain ⟨j, hj, hje⟩ := modLen kk m hm0 (by omega)
          have hm1 : (m : Int) ≠ 0 := by omega
          have hnm' : ((n : Int) != (m : Int)) = true := by simp; omega
          go_wp2_with fail
          refine (rwakes_any R _).mono ?_
          rintro e w4 ⟨rfl, hb4⟩
          go_wp2
          go_ret
          exact ⟨rfl, chain HB2.out hb4⟩
      · have h1' : k = n := by omega
        go_wp2_with fail
        refine (R.fits a b n m cap dap l ts _ HN.out HM.out (by omega) (by omega) (HA.out.later hB.out) (HI.out.later hB.out)).mono ?_
        rintro e w2 ⟨rfl, hb2⟩
        have HB2 : Hid (Below w.heap.size w w2) := chain hB.out hb2
        clear hB hb2
        rcases Nat.eq_zero_or_pos m with hm0 | hm0
        · subst hm0
          go_wp2_with fail
          refine (rwakes_any R _).mono ?_
          rintro e w3 ⟨rfl, hb3⟩
          go_wp2
          go_ret
          exact ⟨rfl, chain HB2.out hb3⟩
        · obtain ⟨j, hj, hje⟩ := modLen kk m hm0 (by omega)
          have hm1 : (m : Int) ≠ 0 := by omega
          by_cases hnm : n = m
          · subst hnm
            have HS2 : Hid (fitsR l (ts.take j) = false) := by
              show _ = _
              cases h : fitsR l (ts.take j) with
              | false => rfl
              | true => have := fitsR_len h; rw [HN.out, List.length_take, HM.out] at this; omega
            have HT2 : Hid ((ts.take j).length = j) := by show _ = _; rw [List.length_take, HM.out]; omega
            have HI2 : Hid (RdI .i64 w2 b (ts.take j)) := (HI.out.later HB2.out).take j
            have hjd : (j : Int) ≤ (dap : Int) := by omega
            go_wp2_with fail
            refine (R.fits a b n j cap dap l (ts.take j) _ HN.out HT2.out (by omega) (by omega) (HA.out.later HB2.out) HI2.out).mono ?_
            rintro e w3 ⟨rfl, hb3⟩
            rw [HS2.out]
            replace HB2 : Hid (Below w.heap.size w w3) := chain HB2.out hb3
            clear hb3
            go_wp2_with fail
            refine (rwakes_any R _).mono ?_
            rintro e w4 ⟨rfl, hb4⟩
            go_wp2
            go_ret
            exact ⟨rfl, chain HB2.out hb4⟩
          · have hnm' : ((n : Int) != (m : Int)) = true := by simp; omega
            go_wp2_with fail
            refine (rwakes_any R _).mono ?_
            rintro e w4 ⟨rfl, hb4⟩
            go_wp2
            go_ret
            exact ⟨rfl, chain HB2.out hb4⟩

set_option maxHeartbeats 400000 in
theorem rfits_heavy (a b : Option Addr) (n m cap dap : Nat) (kk : Int) (w : World) (C : Calls Try.prog 9 #[.slice a n cap] w fun e w' => e = .returned (.bool true) ∧ w' = w) :
    Calls Try.prog 7 #[.slice a n cap, .slice b m dap, .int .i64 kk] w fun e w' => e = .returned (.bool true) ∧ Below w.heap.size w w' := by
  go_enter Try.func7, Try.ntmps7
  go_wp2_with fail
  refine C.mono ?_
  rintro e w1 ⟨rfl, rfl⟩
  go_wp2
  go_ret
  exact ⟨rfl, Below.refl _ _⟩

set_option maxHeartbeats 400000 in
theorem rfits_long (a b : Option Addr) (n m cap dap : Nat) (kk : Int) (w : World) (hm : 40 < m) (hmb : m ≤ 9223372036854775807) (C : Calls Try.prog 9 #[.slice a n cap] w fun e w' => e = .returned (.bool false) ∧ w' = w) :
    Calls Try.prog 7 #[.slice a n cap, .slice b m dap, .int .i64 kk] w fun e w' => e = .returned (.bool true) ∧ Below w.heap.size w w' := by
  go_enter Try.func7, Try.ntmps7
  go_wp2_with fail
  refine C.mono ?_
  rintro e w1 ⟨rfl, rfl⟩
  go_wp2
  go_ret
  exact ⟨rfl, Below.refl _ _⟩

theorem rfits_walk (VF : ValueFits) (R : RowApi) (a b : Option Addr) (n m cap dap : Nat) (vs : List PV) (zs : List Int) (kk : Int) (w : World) (hv : IsVals w a n cap vs) (hz : IsInts .i64 w b m dap zs) :
    Calls Try.prog 7 #[.slice a n cap, .slice b m dap, .int .i64 kk] w fun e w' => e = .returned (.bool true) ∧ Below w.heap.size w w' := by
  obtain ⟨hn, hcap, hr, hnil⟩ := hv.vals
  by_cases h40 : 40 < n
  · exact rfits_heavy a b n m cap dap kk w (heavy_long a n cap w h40 hv.small)
  have C := heavy_few a n cap vs w hn (by omega) hr
  cases hh : heavyV vs with
  | true =>
    rw [hh] at C
    exact rfits_heavy a b n m cap dap kk w C
  | false =>
    rw [hh] at C
    by_cases hm40 : 40 < m
    · exact rfits_long a b n m cap dap kk w hm40 hz.small C
    · obtain ⟨N, hN, hd, hrN, _, _⟩ := hz.ints
      exact rfits_some VF R a b n m cap dap vs N kk w hn hN (by omega) (by omega) hh hd hr hrN

end Go.Proofs.Ythmclopndmcojaa
