/-
  Texts of the proof of OpKinds, one behind the other.
-/
import Derived.Test.YtjpcljmlkgjbgaaRows
import Derived.Test.YtjpcljmlkgjbgaaG22OpKinds
import Derived.Test.YtjpcljmlkgjbgaaG16OpKinds
namespace Go.Proofs.Ytjpcljmlkgjbgaa
open Go.RowKit Go.Lib
set_option linter.unusedVariables false

theorem valueCheck_of {c : Int} (k i : Int) (s : ByteArray) (w : World) (h : chkV ⟨k, i, s⟩ = c) :
    Calls Try.prog 97 #[.agg #[.int .i64 k, .int .i64 i, .string s]] w fun e w' => e = .returned (.int .i64 c) ∧ Below w.heap.size w w' := by
  subst h
  exact valueCheck k i s w

set_option maxHeartbeats 400000 in
theorem rowCheck_long (a : Option Addr) (n cap : Nat) (w : World) (h : 12 < n) (hb : n ≤ 65536) :
    Calls Try.prog 61 #[.slice a n cap] w fun e w' => e = .returned (.int .i64 2) ∧ Below w.heap.size w w' := by
  go_enter Try.func61, Try.ntmps61
  go_wp2
  go_ret
  exact ⟨rfl, Below.refl _ _⟩

set_option maxHeartbeats 400000 in
theorem rowCheck_few (a : Option Addr) (n cap : Nat) (vs : List PV) (w : World) (hn : vs.length = n) (h : n ≤ 12) (hr : RdV w a vs) :
    Calls Try.prog 61 #[.slice a n cap] w fun e w' => e = .returned (.int .i64 (errR vs)) ∧ Below w.heap.size w w' := by
  have HN : Hid (vs.length = n) := hn
  clear hn
  go_enter Try.func61, Try.ntmps61
  go_wp2
  go_loopw [11] (fun i wr => ∃ k : Nat, k ≤ n ∧ i = .int .i64 k ∧ Hid ((vs.take k).all okV = true) ∧ Hid (Below w.heap.size w wr)) (fun i _ => n - (RowKit.intOf i).toNat)
  case atStart => exact ⟨0, Nat.zero_le _, rfl, rfl, Below.refl _ _⟩
  case round =>
    obtain ⟨k, hk, rfl, hT, hB⟩ := hrel
    by_cases hlt : k < n
    · have hkl : k < vs.length := by rw [HN.out]; exact hlt
      obtain ⟨b, off, rfl, hc⟩ := hr (by omega)
      obtain ⟨x0, x1, x2⟩ := hc k hkl
      replace x0 := cell_later hB.out x0
      replace x1 := cell_later hB.out x1
      replace x2 := cell_later hB.out x2
      have HS : Hid ((vs.take (k + 1)).all okV = okV vs[k]) := all_take_succ hkl hT.out
      have HX : Hid (okV vs[k] = false → vs.all okV = false) := fun h => all_false_at hkl h
      clear hc hr
      generalize vs[k] = x at *
      obtain ⟨k0, i0, s0⟩ := x
      simp only at x0 x1 x2
      cases hok : okV ⟨k0, i0, s0⟩ with
      | true =>
        rw [hok] at HS
        have hcv : chkV ⟨k0, i0, s0⟩ = 0 := by simp [chkV, hok]
        go_wp2_with fail
        refine (valueCheck_of _ _ _ _ hcv).mono ?_
        rintro e w1 ⟨rfl, hb⟩
        go_wp2
        go_roundw
        case rel => exact ⟨k + 1, by omega, by go_num, HS, chain hB.out (chain (alloc_below _ _) hb)⟩
        case measure => simp [RowKit.intOf]; omega
      | false =>
        have HX' : Hid (vs.all okV = false) := HX.out hok
        have hcv : chkV ⟨k0, i0, s0⟩ = 1 := by simp [chkV, hok]
        go_wp2_with fail
        refine (valueCheck_of _ _ _ _ hcv).mono ?_
        rintro e w1 ⟨rfl, hb⟩
        go_wp2
        go_ret
        exact ⟨by rw [errR_no HX'.out]; rfl, chain hB.out (chain (alloc_below _ _) hb)⟩
    · have h1 := hT.out
      rw [List.take_of_length_le (by rw [HN.out]; omega)] at h1
      have HH : Hid (vs.all okV = true) := h1
      clear h1
      go_wp2
      go_ret
      exact ⟨by rw [errR_ok HH.out]; rfl, hB.out⟩

theorem rowCheck : RowCheck := by
  intro a n cap vs w hn h hr
  unfold chkR
  by_cases h12 : 12 < n
  · rw [if_pos (by omega)]
    exact rowCheck_long a n cap w h12 h
  · rw [if_neg (by omega)]
    exact rowCheck_few a n cap vs w hn (by omega) hr

end Go.Proofs.Ytjpcljmlkgjbgaa
