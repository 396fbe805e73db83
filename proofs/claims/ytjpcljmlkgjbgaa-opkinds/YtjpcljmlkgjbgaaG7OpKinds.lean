/-
  Texts of the proof of OpKinds, one behind the other.
-/
import Derived.Test.YtjpcljmlkgjbgaaRows
import Derived.Test.YtjpcljmlkgjbgaaG5OpKinds
import Derived.WalkKit
import Derived.WalkSpells
import Derived.WalkLawsBesides
import Derived.Laws.BitsAllLaws
namespace Go.Proofs.Ytjpcljmlkgjbgaa
open Go.RowKit Go.Lib

theorem num_take_succ (l : List UInt8) (k : Nat) (h : k < l.length) : num (l.take (k + 1)) = num (l.take k) * 256 + l[k].toNat := by
  rw [List.take_succ_eq_append_getElem h, num_snoc]

theorem num_take_lt (l : List UInt8) (k : Nat) (h : k ≤ 7) : num (l.take k) < 72057594037927936 := by
  have h1 := num_lt (l.take k)
  have h2 : 256 ^ (l.take k).length ≤ 256 ^ 7 := Nat.pow_le_pow_right (by omega) (by simp; omega)
  omega

theorem or_mul (a b i m : Nat) (hm : m = 2 ^ i) (h : a < m) : (b * m) ||| a = b * m + a := by
  subst hm
  rw [← Nat.shiftLeft_eq, Nat.shiftLeft_add_eq_or_of_lt h]

theorem or_byte_u64 (n x : Nat) (hn : n < 72057594037927936) (hx : x < 256) : bits BinOp.or IntKind.u64 ((n : Int) * 256) (x : Int) = ((n * 256 + x : Nat) : Int) := by
  have e : ((n : Int) * 256) = ((n * 256 : Nat) : Int) := by omega
  rw [e, u64_or_nat (n * 256) x (by omega) (by omega), or_mul x n 8 256 (by decide) hx]

theorem ret_eq {u v : Value} (h : u = v) : Ending.returned u = .returned v := by rw [h]

set_option maxHeartbeats 400000 in
theorem number_any (a : Option Addr) (cap : Nat) (l : List UInt8) (w : World) (hl : l.length ≤ 8) (hr : Rd w a l) :
    Calls Try.prog 105 #[.slice a l.length cap] w fun e w' => e = .returned (.int .u64 (num l : Nat)) ∧ w' = w := by
  go_enter Try.func105, Try.ntmps105
  go_wp2
  go_loop [3, 8] (fun n i => ∃ k : Nat, k ≤ l.length ∧ i = .int .i64 k ∧ n = .int .u64 (num (l.take k) : Nat)) (fun _ i => l.length - (intOf i).toNat)
  case atStart => exact ⟨0, Nat.zero_le _, rfl, rfl⟩
  case round =>
    obtain ⟨k, hk, rfl, rfl⟩ := hrel
    by_cases hlt : k < l.length
    · obtain ⟨b, off, rfl, hc⟩ := hr (by omega)
      have hck := hc k hlt
      have hb := num_take_lt l k (by omega)
      have hx := l[k].toNat_lt
      have HN : Hid (bits BinOp.or IntKind.u64 ((num (l.take k) : Int) * 256) (l[k].toNat : Int) = (num (l.take (k + 1)) : Int)) := by
        have := or_byte_u64 (num (l.take k)) l[k].toNat hb (by omega)
        rw [← num_take_succ l k hlt] at this
        exact this
      clear hc hr
      go_wp2
      go_round
      case rel => exact ⟨k + 1, by omega, by go_num, by rw [HN.out]⟩
      case measure => simp [intOf]; omega
    · go_wp2
      go_ret
      exact ⟨by rw [List.take_of_length_le (by omega)]; rfl, rfl⟩

theorem number_len (a : Option Addr) (len cap : Nat) (l : List UInt8) (w : World) (hlen : l.length = len) (hl : len ≤ 8) (hr : Rd w a l) :
    Calls Try.prog 105 #[.slice a len cap] w fun e w' => e = .returned (.int .u64 (num l : Nat)) ∧ w' = w := by
  subst hlen
  exact number_any a cap l w hl hr

end Go.Proofs.Ytjpcljmlkgjbgaa
