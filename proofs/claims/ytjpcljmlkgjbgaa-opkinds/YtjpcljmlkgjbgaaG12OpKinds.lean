/-
  Texts of the proof of OpKinds, one behind the other.
-/
import Derived.Test.YtjpcljmlkgjbgaaRows
import Derived.Test.YtjpcljmlkgjbgaaG2OpKinds
import Derived.Test.YtjpcljmlkgjbgaaG5OpKinds
import Derived.WalkKit
import Derived.WalkSpells
import Derived.WalkLawsBesides
import Derived.Deep.QuietTactic
import Derived.BigQuiet
namespace Go.Proofs.Ytjpcljmlkgjbgaa
open Go.RowKit Go.Lib

/-- A number within MaxValue, as within makes it. -/
def wi (n : Int) : Int := n.tmod 1152921504606846977

theorem wi_lo (n : Int) : -1152921504606846976 ≤ wi n := by
  unfold wi
  have := Int.lt_tmod_of_pos n (show (0 : Int) < 1152921504606846977 by decide)
  omega

theorem wi_hi (n : Int) : wi n ≤ 1152921504606846976 := by
  unfold wi
  have := Int.tmod_lt_of_pos n (show (0 : Int) < 1152921504606846977 by decide)
  omega

theorem take_eq_succ {l m : List UInt8} {k : Nat} (h : l.take k = m.take k) (hl : k < l.length) (hm : k < m.length) (hx : l[k].toNat = m[k].toNat) : l.take (k + 1) = m.take (k + 1) := by
  rw [List.take_succ_eq_append_getElem hl, List.take_succ_eq_append_getElem hm, h, UInt8.toNat_inj.1 hx]

theorem ne_of_at {l m : List UInt8} {k : Nat} (hl : k < l.length) (hm : k < m.length) (hx : l[k].toNat ≠ m[k].toNat) : l ≠ m := by
  intro e
  subst e
  exact hx rfl

set_option maxHeartbeats 400000 in
theorem bytes_any (a b : Option Addr) (n m cap dap : Nat) (l r : List UInt8) (w : World) (hn : l.length = n) (hm : r.length = m) (hl : n ≤ 4294967296) (hr : m ≤ 4294967296) (ha : Rd w a l) (hb : Rd w b r) :
    Calls Try.prog 12 #[.slice a n cap, .slice b m dap] w fun e w' => e = .returned (.bool (decide (l = r))) ∧ Below w.heap.size w w' := by
  by_cases hnm : n = m
  · subst hnm
    have HN : Hid (l.length = n) := hn
    have HM : Hid (r.length = n) := hm
    clear hn hm
    go_enter Try.func12, Try.ntmps12
    go_wp2
    go_loopw [5] (fun i wr => ∃ k : Nat, k ≤ n ∧ i = .int .i64 k ∧ Hid (l.take k = r.take k) ∧ Below w.heap.size w wr) (fun i _ => n - (intOf i).toNat)
    case atStart => exact ⟨0, Nat.zero_le _, rfl, by simp [Hid], Below.refl _ _⟩
    case round =>
      obtain ⟨k, hk, rfl, hT, hB⟩ := hrel
      by_cases hlt : k < n
      · have hkl : k < l.length := by rw [HN.out]; exact hlt
        have hkr : k < r.length := by rw [HM.out]; exact hlt
        obtain ⟨b1, o1, rfl, hc1⟩ := ha (by omega)
        obtain ⟨b2, o2, rfl, hc2⟩ := hb (by omega)
        have hx1 := cell_later hB (hc1 k hkl)
        have hx2 := cell_later hB (hc2 k hkr)
        have hy1 := l[k].toNat_lt
        have hy2 := r[k].toNat_lt
        have HQ : Hid (l[k].toNat = r[k].toNat → l.take (k + 1) = r.take (k + 1)) := fun hq => take_eq_succ hT.out hkl hkr hq
        have HF : Hid (l[k].toNat ≠ r[k].toNat → l ≠ r) := fun hq => ne_of_at hkl hkr hq
        have HB : Hid (Below w.heap.size w wr) := hB
        clear hc1 hc2 ha hb hB
        generalize l[k].toNat = x at *
        generalize r[k].toNat = y at *
        clear hkl hkr
        by_cases hq : x = y
        · have HT := HQ.out hq
          have HT' : Hid (l.take (k + 1) = r.take (k + 1)) := HT
          subst hq
          clear HT HQ HF
          go_wp2
          go_quiet (fail)
          go_wp2
          go_roundw
          case rel => exact ⟨k + 1, by omega, by go_num, HT', below_drewN HB.out _⟩
          case measure => simp [intOf]; omega
        · have HN' := HF.out hq
          have HNE : Hid (l ≠ r) := HN'
          have hbq : ((x : Int) != (y : Int)) = true := by simp; omega
          clear HN' HQ HF hq
          go_wp2
          go_quiet (fail)
          go_wp2
          go_ret
          exact ⟨by rw [decide_eq_false HNE.out]; rfl, below_drewN HB.out _⟩
      · have HE : Hid (l = r) := by
          have h1 := hT.out
          rw [List.take_of_length_le (by rw [HN.out]; omega), List.take_of_length_le (by rw [HM.out]; omega)] at h1
          exact h1
        go_wp2
        go_ret
        exact ⟨by rw [decide_eq_true HE.out]; rfl, hB⟩
  · have HNE : Hid (l ≠ r) := fun e => hnm (by rw [← hn, ← hm, e])
    have hbq : ((n : Int) != (m : Int)) = true := by simp; omega
    clear hn hm hnm
    go_enter Try.func12, Try.ntmps12
    go_wp2
    go_ret
    exact ⟨by rw [decide_eq_false HNE.out]; rfl, Below.refl _ _⟩

end Go.Proofs.Ytjpcljmlkgjbgaa
