/-
  ValueKinds' walk: what the law answers, whatever its value and its type.
-/
import Derived.Test.YtfjckfjaekpffaaRows
import Derived.Test.YtfjckfjaekpffaaVLaws
import Derived.Test.YtfjckfjaekpffaaVExact
namespace Go.Proofs.Ytfjckfjaekpffaa
open Go.RowKit Go.Lib
set_option linter.unusedVariables false

/-- How many of the first j types a value fits. -/
def cntV (v : PV) : Nat → Int
  | 0 => 0
  | j + 1 => cntV v j + if fitsV v ((j : Int) + 2) = true then 1 else 0

/-- .. of all three. -/
def wantV (v : PV) : Int := if okV v = true then (if v.k = 1 then 3 else 1) else 0

theorem okV_kind {v : PV} (h : okV v = true) : v.k = 1 ∨ v.k = 2 ∨ v.k = 3 ∨ v.k = 4 := by
  by_cases k1 : v.k = 1
  · exact .inl k1
  by_cases k2 : v.k = 2
  · exact .inr (.inl k2)
  by_cases k3 : v.k = 3
  · exact .inr (.inr (.inl k3))
  by_cases k4 : v.k = 4
  · exact .inr (.inr (.inr k4))
  have := okV_none (k := v.k) (i := v.i) (s := v.s) ⟨k1, k2, k3, k4⟩
  rw [this] at h
  cases h

theorem cntV_all (v : PV) : cntV v 3 = wantV v := by
  unfold wantV
  cases h : okV v with
  | false => simp [cntV, fitsV, h]
  | true =>
    rcases okV_kind h with e | e | e | e <;> simp [cntV, fitsV, h, e]

theorem cntV_bound (v : PV) : ∀ j, 0 ≤ cntV v j ∧ cntV v j ≤ j
  | 0 => by simp [cntV]
  | j + 1 => by
    have := cntV_bound v j
    unfold cntV
    split <;> omega

theorem fitsV_own {v : PV} (h : okV v = true) (hk : v.k ≠ 1) : fitsV v v.k = true := by
  rcases okV_kind h with e | e | e | e
  · exact absurd e hk
  all_goals simp [fitsV, h, e]

theorem fitsV_out {v : PV} {t : Int} (h : t < 2 ∨ 4 < t) : fitsV v t = false := by
  have : ¬ (2 ≤ t ∧ t ≤ 4) := by omega
  simp [fitsV, this]

theorem fits_of {b : Bool} (V : ValueApi) (k i : Int) (s : ByteArray) (t : Int) (w : World) (h : fitsV ⟨k, i, s⟩ t = b) : Calls Try.prog 15 #[.agg #[.int .i64 k, .int .i64 i, .string s], .int .i64 t] w fun e w' => e = .returned (.bool b) ∧ Below w.heap.size w w' := by
  subst h
  exact V.fits k i s t w

set_option maxHeartbeats 4000000 in
theorem vkinds_walk (V : ValueApi) (k i : Int) (s : ByteArray) (t : Int) (w : World) :
    Calls Try.prog 6 #[.agg #[.int .i64 k, .int .i64 i, .string s], .int .i64 t] w fun e w' => e = .returned (.bool true) ∧ Below w.heap.size w w' := by
  go_enter Try.func6, Try.ntmps6
  go_wp2_with fail
  refine (long_any (w.heap.size + 1) 1 1 [s] _ rfl (by omega) (fun i hi => ?_)).mono ?_
  · have : i = 0 := by simp at hi; omega
    subst this
    exact alloc_cell (by simp) rfl
  rintro e w1 ⟨rfl, rfl⟩
  have B0 := (Box.made (w := w) (k := k) (i := i) (s := s) rfl).later (alloc_below _ (.cells #[.int .i64 k, .int .i64 i, .string s] 23))
  have HB : Hid (Below w.heap.size w ((w.alloc (.cells #[.int .i64 k, .int .i64 i, .string s] 23)).alloc (.cells #[.int .i64 k, .int .i64 i, .string s] 23))) := below_two _ _ _
  generalize (w.alloc (.cells #[.int .i64 k, .int .i64 i, .string s] 23)).alloc (.cells #[.int .i64 k, .int .i64 i, .string s] 23) = W at *
  cases longT [s] with
  | true =>
    go_wp2
    go_ret
    exact ⟨rfl, HB.out⟩
  | false =>
    go_wp2
    go_loopw [5, 6] (fun n x wr => ∃ j : Nat, j ≤ 3 ∧ n = .int .i64 (cntV ⟨k, i, s⟩ j) ∧ x = .int .i64 ((j : Int) + 2) ∧ Box wr w.heap.size k i s ∧ Hid (Below w.heap.size w wr)) (fun _ x _ => (5 - RowKit.intOf x).toNat)
    case atStart => exact ⟨0, by omega, rfl, rfl, B0, HB⟩
    case round =>
      obtain ⟨j, hj, rfl, rfl, B, HBr⟩ := hrel
      obtain ⟨c0, c1, c2, _⟩ := B.cells
      have hbd := cntV_bound ⟨k, i, s⟩ j
      by_cases h3 : j < 3
      · cases hf : fitsV ⟨k, i, s⟩ ((j : Int) + 2) with
        | true =>
          have HC : Hid (cntV ⟨k, i, s⟩ (j + 1) = cntV ⟨k, i, s⟩ j + 1) := by show _ = _; simp [cntV, hf]
          go_wp2_with fail
          refine (fits_of V _ _ _ _ _ hf).mono ?_
          rintro e w2 ⟨rfl, hb⟩
          go_wp2
          go_roundw
          case rel => exact ⟨j + 1, by omega, by rw [HC.out], by go_num, B.later hb, chain HBr.out hb⟩
          case measure => simp [RowKit.intOf]; omega
        | false =>
          have HC : Hid (cntV ⟨k, i, s⟩ (j + 1) = cntV ⟨k, i, s⟩ j) := by show _ = _; simp [cntV, hf]
          go_wp2_with fail
          refine (fits_of V _ _ _ _ _ hf).mono ?_
          rintro e w2 ⟨rfl, hb⟩
          go_wp2
          go_roundw
          case rel => exact ⟨j + 1, by omega, by rw [HC.out], by go_num, B.later hb, chain HBr.out hb⟩
          case measure => simp [RowKit.intOf]; omega
      · obtain rfl : j = 3 := by omega
        rw [cntV_all]
        clear hbd
        cases hok : okV ⟨k, i, s⟩ with
        | false =>
          rw [show wantV ⟨k, i, s⟩ = 0 from by simp [wantV, hok]]
          go_wp2_with fail
          refine (rValue_of _ _ _ _ hok).mono ?_
          rintro e w2 ⟨rfl, hb⟩
          replace B := B.later hb
          replace HBr : Hid (Below w.heap.size w w2) := chain HBr.out hb
          clear c0 c1 c2 hb
          obtain ⟨c0, c1, c2, _⟩ := B.cells
          rcases (show t < 2 ∨ (2 ≤ t ∧ 4 < t) ∨ (2 ≤ t ∧ t ≤ 4) by omega) with ht | ⟨ht1, ht2⟩ | ⟨ht1, ht2⟩
          · have hfo := fitsV_out (v := ⟨k, i, s⟩) (t := t) (by omega)
            go_wp2_with fail
            refine (fits_of V _ _ _ _ _ hfo).mono ?_
            rintro e w3 ⟨rfl, hb⟩
            replace B := B.later hb
            replace HBr : Hid (Below w.heap.size w w3) := chain HBr.out hb
            clear c0 c1 c2 hb hfo
            obtain ⟨c0, c1, c2, _⟩ := B.cells
            go_wp2_with fail
            refine (vwakes_any V _).mono ?_
            rintro e w5 ⟨rfl, hb5⟩
            go_wp2
            go_ret
            exact ⟨rfl, chain HBr.out hb5⟩
          · have hfo := fitsV_out (v := ⟨k, i, s⟩) (t := t) (by omega)
            go_wp2_with fail
            refine (fits_of V _ _ _ _ _ hfo).mono ?_
            rintro e w3 ⟨rfl, hb⟩
            replace B := B.later hb
            replace HBr : Hid (Below w.heap.size w w3) := chain HBr.out hb
            clear c0 c1 c2 hb hfo
            obtain ⟨c0, c1, c2, _⟩ := B.cells
            go_wp2_with fail
            refine (vwakes_any V _).mono ?_
            rintro e w5 ⟨rfl, hb5⟩
            go_wp2
            go_ret
            exact ⟨rfl, chain HBr.out hb5⟩
          · go_wp2_with fail
            refine (vwakes_any V _).mono ?_
            rintro e w5 ⟨rfl, hb5⟩
            go_wp2
            go_ret
            exact ⟨rfl, chain HBr.out hb5⟩
        | true =>
          by_cases hk : k = 1
          · subst hk
            rw [show wantV ⟨1, i, s⟩ = 3 from by simp [wantV, hok]]
            go_wp2_with fail
            refine (rValue_of _ _ _ _ hok).mono ?_
            rintro e w2 ⟨rfl, hb⟩
            replace B := B.later hb
            replace HBr : Hid (Below w.heap.size w w2) := chain HBr.out hb
            clear c0 c1 c2 hb
            obtain ⟨c0, c1, c2, _⟩ := B.cells
            rcases (show t < 2 ∨ (2 ≤ t ∧ 4 < t) ∨ (2 ≤ t ∧ t ≤ 4) by omega) with ht | ⟨ht1, ht2⟩ | ⟨ht1, ht2⟩
            · have hfo := fitsV_out (v := ⟨1, i, s⟩) (t := t) (by omega)
              go_wp2_with fail
              refine (fits_of V _ _ _ _ _ hfo).mono ?_
              rintro e w3 ⟨rfl, hb⟩
              replace B := B.later hb
              replace HBr : Hid (Below w.heap.size w w3) := chain HBr.out hb
              clear c0 c1 c2 hb hfo
              obtain ⟨c0, c1, c2, _⟩ := B.cells
              go_wp2_with fail
              refine (vwakes_any V _).mono ?_
              rintro e w5 ⟨rfl, hb5⟩
              go_wp2
              go_ret
              exact ⟨rfl, chain HBr.out hb5⟩
            · have hfo := fitsV_out (v := ⟨1, i, s⟩) (t := t) (by omega)
              go_wp2_with fail
              refine (fits_of V _ _ _ _ _ hfo).mono ?_
              rintro e w3 ⟨rfl, hb⟩
              replace B := B.later hb
              replace HBr : Hid (Below w.heap.size w w3) := chain HBr.out hb
              clear c0 c1 c2 hb hfo
              obtain ⟨c0, c1, c2, _⟩ := B.cells
              go_wp2_with fail
              refine (vwakes_any V _).mono ?_
              rintro e w5 ⟨rfl, hb5⟩
              go_wp2
              go_ret
              exact ⟨rfl, chain HBr.out hb5⟩
            · go_wp2_with fail
              refine (vwakes_any V _).mono ?_
              rintro e w5 ⟨rfl, hb5⟩
              go_wp2
              go_ret
              exact ⟨rfl, chain HBr.out hb5⟩
          · rw [show wantV ⟨k, i, s⟩ = 1 from by simp [wantV, hok, hk]]
            have HOwn : Hid (fitsV ⟨k, i, s⟩ k = true) := fitsV_own hok hk
            go_wp2_with fail
            refine (rValue_of _ _ _ _ hok).mono ?_
            rintro e w2 ⟨rfl, hb⟩
            replace B := B.later hb
            replace HBr : Hid (Below w.heap.size w w2) := chain HBr.out hb
            clear c0 c1 c2 hb
            obtain ⟨c0, c1, c2, _⟩ := B.cells
            rcases (show t < 2 ∨ (2 ≤ t ∧ 4 < t) ∨ (2 ≤ t ∧ t ≤ 4) by omega) with ht | ⟨ht1, ht2⟩ | ⟨ht1, ht2⟩
            · have hfo := fitsV_out (v := ⟨k, i, s⟩) (t := t) (by omega)
              go_wp2_with fail
              refine (fits_of V _ _ _ _ _ hfo).mono ?_
              rintro e w3 ⟨rfl, hb⟩
              replace B := B.later hb
              replace HBr : Hid (Below w.heap.size w w3) := chain HBr.out hb
              clear c0 c1 c2 hb hfo
              obtain ⟨c0, c1, c2, _⟩ := B.cells
              go_wp2_with fail
              refine (fits_of V _ _ _ _ _ HOwn.out).mono ?_
              rintro e w4 ⟨rfl, hb⟩
              replace HBr : Hid (Below w.heap.size w w4) := chain HBr.out hb
              clear hb
              go_wp2_with fail
              refine (vwakes_any V _).mono ?_
              rintro e w5 ⟨rfl, hb5⟩
              go_wp2
              go_ret
              exact ⟨rfl, chain HBr.out hb5⟩
            · have hfo := fitsV_out (v := ⟨k, i, s⟩) (t := t) (by omega)
              go_wp2_with fail
              refine (fits_of V _ _ _ _ _ hfo).mono ?_
              rintro e w3 ⟨rfl, hb⟩
              replace B := B.later hb
              replace HBr : Hid (Below w.heap.size w w3) := chain HBr.out hb
              clear c0 c1 c2 hb hfo
              obtain ⟨c0, c1, c2, _⟩ := B.cells
              go_wp2_with fail
              refine (fits_of V _ _ _ _ _ HOwn.out).mono ?_
              rintro e w4 ⟨rfl, hb⟩
              replace HBr : Hid (Below w.heap.size w w4) := chain HBr.out hb
              clear hb
              go_wp2_with fail
              refine (vwakes_any V _).mono ?_
              rintro e w5 ⟨rfl, hb5⟩
              go_wp2
              go_ret
              exact ⟨rfl, chain HBr.out hb5⟩
            · go_wp2_with fail
              refine (fits_of V _ _ _ _ _ HOwn.out).mono ?_
              rintro e w4 ⟨rfl, hb⟩
              replace HBr : Hid (Below w.heap.size w w4) := chain HBr.out hb
              clear hb
              go_wp2_with fail
              refine (vwakes_any V _).mono ?_
              rintro e w5 ⟨rfl, hb5⟩
              go_wp2
              go_ret
              exact ⟨rfl, chain HBr.out hb5⟩

end Go.Proofs.Ytfjckfjaekpffaa
