/-
  What the document's own answers (raddleref01) do, layer 1: in, be, num, intBytes, Put, PutInt, PutText.
-/
import Derived.Test.YthmclopndmcojaaRows
import Derived.Test.YthmclopndmcojaaGrow
import Derived.Test.YthmclopndmcojaaApi
import Derived.Test.YthmclopndmcojaaNumber
import Derived.WalkKit
import Derived.WalkSpells
import Derived.WalkLawsBesides
import Derived.Laws.BitsAllLaws
namespace Go.Proofs.Ythmclopndmcojaa
open Go.RowKit Go.Lib

set_option maxHeartbeats 400000 in
theorem in_yes (n lo hi : Int) (w : World) (h1 : lo ≤ n) (h2 : n ≤ hi) :
    Calls Try.prog 36 #[.int .i64 n, .int .i64 lo, .int .i64 hi] w fun e w' => e = .returned (.bool true) ∧ w' = w := by
  go_enter Try.func36, Try.ntmps36
  go_wp2
  go_ret
  exact ⟨by simp, rfl⟩

set_option maxHeartbeats 400000 in
theorem in_no (n lo hi : Int) (w : World) (h : n < lo ∨ hi < n) :
    Calls Try.prog 36 #[.int .i64 n, .int .i64 lo, .int .i64 hi] w fun e w' => e = .returned (.bool false) ∧ w' = w := by
  by_cases h0 : n < lo
  · clear h
    go_enter Try.func36, Try.ntmps36
    go_wp2
    go_ret
    exact ⟨by simp, rfl⟩
  · have h1 : hi < n := by omega
    clear h
    go_enter Try.func36, Try.ntmps36
    go_wp2
    go_ret
    exact ⟨by simp; exact h1, rfl⟩

theorem alloc_below (w : World) (o : Obj) : Below w.heap.size w (w.alloc o) := (Below.refl _ _).alloc (Nat.le_refl _) o

/-- A new block of one byte, and what is read there. -/
theorem rd_one (w : World) (x : UInt8) (V : Int) (hV : V = (x.toNat : Int)) : Rd (w.alloc (.cells #[.int .u8 V] 5)) (some ⟨w.heap.size, 0, none⟩) [x] := by
  subst hV
  intro _
  refine ⟨_, _, rfl, fun i hi => ?_⟩
  have hi0 : i = 0 := by simpa using hi
  subst hi0
  have hh : (w.alloc (.cells #[.int .u8 (x.toNat : Int)] 5)).heap[w.heap.size]? = some (.cells #[.int .u8 (x.toNat : Int)] 5 (0, 0)) := by
    show (w.heap.push _)[w.heap.size]? = _
    simp
  rw [cell_of_row _ _ _ _ _ _ hh]
  rfl

theorem be_snoc (n j m : Nat) : be (n / 256 ^ j) (m + 1) = be (n / 256 ^ (j + 1)) m ++ [UInt8.ofNat (n / 256 ^ j % 256)] := by
  rw [be, Nat.div_div_eq_div_mul, ← Nat.pow_succ]

theorem byte_at (n j : Nat) : (n : Int) / 2 ^ (8 * j) % 256 = ((UInt8.ofNat (n / 256 ^ j % 256)).toNat : Int) := by
  rw [ofNat_mod]
  have h : (2 : Int) ^ (8 * j) = ((256 ^ j : Nat) : Int) := by
    rw [Int.pow_mul]
    simp
  rw [h]
  omega

set_option maxHeartbeats 400000 in
theorem rbe_any (n size : Nat) (w : World) (_hn : n ≤ 9223372036854775807) (hs : size ≤ 8) :
    Calls Try.prog 68 #[.int .i64 n, .int .i64 size] w fun e w' => ∃ a cap, e = .returned (.slice a size cap) ∧ size ≤ cap ∧ Own w' w.heap.size (.slice a size cap) (be n size) ∧ Rd w' a (be n size) ∧ (a = none → be n size = [] ∧ cap = 0) ∧ Below w.heap.size w w' := by
  go_enter Try.func68, Try.ntmps68
  go_wp2
  go_loopw [5, 6] (fun o i wr => ∃ (k m : Nat) (a : Option Addr) (cap : Nat), k ≤ size ∧ k + m = size ∧ i = .int .i64 ((k : Int) - 1) ∧ o = .slice a m cap ∧ m ≤ cap ∧ Hid (Own wr w.heap.size (.slice a m cap) (be (n / 256 ^ k) m)) ∧ Hid (Rd wr a (be (n / 256 ^ k) m)) ∧ Hid (a = none → be (n / 256 ^ k) m = [] ∧ cap = 0) ∧ Hid (Below w.heap.size w wr)) (fun _ i _ => (intOf i + 1).toNat)
  case atStart => exact ⟨size, 0, none, 0, Nat.le_refl _, by omega, rfl, rfl, Nat.le_refl _, Own.nought _ _, Rd.nil _ _, fun _ => ⟨rfl, rfl⟩, Below.refl _ _⟩
  case round =>
    obtain ⟨k, m, a, cap, hk, hkm, rfl, rfl, hc, hO, hR, hN, hB⟩ := hrel
    have HK : Hid (k + m = size) := hkm
    have hm8 : m ≤ 8 := by omega
    clear hkm
    rcases Nat.eq_zero_or_pos k with h0 | h0
    · subst h0
      obtain rfl : size = m := by have := HK.out; omega
      have e : n / 256 ^ 0 = n := by simp
      go_wp2
      go_ret
      rw [e] at hO hR hN
      exact ⟨a, cap, rfl, hc, hO.out, hR.out, hN.out, hB.out⟩
    · obtain ⟨j, rfl⟩ : ∃ j, k = j + 1 := ⟨k - 1, by omega⟩
      obtain ⟨a', cap', w2, hrun, hc2, hO2, hR2, hN2, _, hb2⟩ := run_append_form (t := 29) (ty := 29) (n := m) (m := 1) (l := [UInt8.ofNat (n / 256 ^ j % 256)]) (cap := 1) Try.underlying29 Try.info5 (Own.later hO.out (alloc_below wr _)) (be_length _ _) rfl (rd_one wr _ _ (byte_at n j)) (fun h => by cases h) (by omega) (by omega) (Nat.le_trans hB.out.size (by simp))
      rw [← be_snoc] at hO2 hR2 hN2
      have HO2 : Hid (Own w2 w.heap.size (.slice a' (m + 1) cap') (be (n / 256 ^ j) (m + 1))) := hO2
      have HR2 : Hid (Rd w2 a' (be (n / 256 ^ j) (m + 1))) := hR2
      have HN2 : Hid (a' = none → be (n / 256 ^ j) (m + 1) = [] ∧ cap' = 0) := hN2
      have HB2 : Hid (Below w.heap.size w w2) := (hB.out.trans ((alloc_below wr _).mono hB.out.size)).trans hb2
      clear hO hR hN hB hO2 hR2 hN2 hb2
      go_wp2_with (at_builtin; refine wpList_append_run rfl (.tmp 13) (.tmp 20) 29 29 rfl _ _ _ _ rfl rfl hrun ?_)
      go_roundw
      case rel => exact ⟨j, m + 1, a', cap', by omega, by have := HK.out; omega, rfl, rfl, hc2, HO2, HR2, HN2, HB2⟩
      case measure => simp [intOf]

theorem or_byte_i64 (n x : Nat) (hn : n * 256 + x ≤ 9223372036854775807) (hx : x < 256) : bits BinOp.or IntKind.i64 ((n : Int) * 256) (x : Int) = ((n * 256 + x : Nat) : Int) := by
  have e : ((n : Int) * 256) = ((n * 256 : Nat) : Int) := by omega
  have key : (BitVec.ofInt 64 ((n : Int) * 256) ||| BitVec.ofInt 64 (x : Int)).toNat = n * 256 + x := by
    rw [e, BitVec.toNat_or, BitVec.ofInt_natCast, BitVec.ofInt_natCast, BitVec.toNat_ofNat, BitVec.toNat_ofNat, Nat.mod_eq_of_lt (by omega), Nat.mod_eq_of_lt (by omega), or_mul x n 8 256 (by decide) hx]
  show IntKind.i64.wrap ((BitVec.ofInt 64 ((n : Int) * 256) ||| BitVec.ofInt 64 (x : Int)).toNat : Nat) = _
  rw [key, IntKind.wrap_i64]
  omega

theorem num_take_le (l : List UInt8) (k : Nat) : num (l.take k) ≤ num l := by
  have h : num l = num (l.take k) * 256 ^ (l.drop k).length + num (l.drop k) := by rw [← num_append, List.take_append_drop]
  have h2 : 1 ≤ 256 ^ (l.drop k).length := Nat.pos_of_ne_zero (by simp)
  have h3 : num (l.take k) * 1 ≤ num (l.take k) * 256 ^ (l.drop k).length := Nat.mul_le_mul_left _ h2
  omega

set_option maxHeartbeats 400000 in
theorem rnum_any (a : Option Addr) (len cap : Nat) (l : List UInt8) (w : World) (hlen : l.length = len) (hl : len ≤ 8) (hb63 : num l ≤ 9223372036854775807) (hr : Rd w a l) :
    Calls Try.prog 69 #[.slice a len cap] w fun e w' => e = .returned (.int .i64 (num l : Nat)) ∧ w' = w := by
  have HL : Hid (l.length = len) := hlen
  clear hlen
  go_enter Try.func69, Try.ntmps69
  go_wp2
  go_loop [3, 4] (fun n i => ∃ k : Nat, k ≤ len ∧ i = .int .i64 k ∧ n = .int .i64 (num (l.take k) : Nat)) (fun _ i => len - (intOf i).toNat)
  case atStart => exact ⟨0, Nat.zero_le _, rfl, rfl⟩
  case round =>
    obtain ⟨k, hk, rfl, rfl⟩ := hrel
    by_cases hlt : k < len
    · have hkl : k < l.length := by rw [HL.out]; exact hlt
      obtain ⟨b, off, rfl, hc⟩ := hr (by omega)
      have hck := hc k hkl
      have h1 := num_take_le l (k + 1)
      have h2 := num_take_succ l k hkl
      have hx := l[k].toNat_lt
      have HN : Hid (bits BinOp.or IntKind.i64 ((num (l.take k) : Int) * 256) (l[k].toNat : Int) = (num (l.take (k + 1)) : Int)) := by
        have := or_byte_i64 (num (l.take k)) l[k].toNat (by omega) (by omega)
        rw [← h2] at this
        exact this
      have hb : num (l.take k) * 256 ≤ 9223372036854775807 := by omega
      clear hc hr h1 h2
      go_wp2
      go_round
      case rel => exact ⟨k + 1, by omega, by go_num, by rw [HN.out]⟩
      case measure => simp [intOf]; omega
    · go_wp2
      go_ret
      exact ⟨by rw [List.take_of_length_le (by rw [HL.out]; omega)]; rfl, rfl⟩

/-- A new block of one byte is the call's own. -/
theorem own_one (w : World) (B : Nat) (hB : B ≤ w.heap.size) (x : UInt8) (V : Int) (hV : V = (x.toNat : Int)) : Own (w.alloc (.cells #[.int .u8 V] 5)) B (.slice (some ⟨w.heap.size, 0, none⟩) 1 1) [x] := by
  subst hV
  refine ⟨rfl, .inr ⟨w.heap.size, 1, #[.int .u8 (x.toNat : Int)], rfl, hB, ?_, Nat.le_refl _, by unfold maxLen; omega, rfl, rfl⟩⟩
  show (w.heap.push _)[w.heap.size]? = _
  simp

set_option maxHeartbeats 400000 in
theorem rintBytes_pos (n : Nat) (w : World) (hn : n ≤ 1152921504606846976) :
    Calls Try.prog 61 #[.int .i64 n] w fun e w' => ∃ a cap, e = .returned (.slice a 9 cap) ∧ 9 ≤ cap ∧ Own w' w.heap.size (.slice a 9 cap) ([0] ++ be n 8) ∧ Rd w' a ([0] ++ be n 8) ∧ (a = none → [0] ++ be n 8 = [] ∧ cap = 0) ∧ Below w.heap.size w w' := by
  go_enter Try.func61, Try.ntmps61
  go_wp2_with fail
  refine (rbe_any n 8 _ (by omega) (by omega)).mono ?_
  rintro e w1 ⟨a1, cap1, rfl, hc1, ho1, hr1, hn1, hb1⟩
  have ho := Own.later (own_one w w.heap.size (Nat.le_refl _) 0 0 rfl) hb1
  have hb := chain (alloc_below w _) hb1
  obtain ⟨a2, cap2, w2, hrun, hc2, ho2, hr2, hn2, _, hb2⟩ := run_append_form (t := 29) (ty := 29) (cap := cap1) Try.underlying29 Try.info5 ho (n := 1) rfl (be_length n 8) hr1 hn1 (by omega) (by omega) hb.size
  clear ho hr1 hn1 ho1
  go_wp2_with (at_builtin; refine wpList_append_run rfl (.tmp 10) (.tmp 12) 29 29 rfl _ _ _ _ rfl rfl hrun ?_)
  go_ret
  exact ⟨a2, cap2, rfl, hc2, ho2, hr2, hn2, hb.trans hb2⟩

set_option maxHeartbeats 400000 in
theorem rintBytes_neg (n : Nat) (w : World) (h1 : 1 ≤ n) (hn : n ≤ 1152921504606846976) :
    Calls Try.prog 61 #[.int .i64 (-(n : Int))] w fun e w' => ∃ a cap, e = .returned (.slice a 9 cap) ∧ 9 ≤ cap ∧ Own w' w.heap.size (.slice a 9 cap) ([1] ++ be n 8) ∧ Rd w' a ([1] ++ be n 8) ∧ (a = none → [1] ++ be n 8 = [] ∧ cap = 0) ∧ Below w.heap.size w w' := by
  go_enter Try.func61, Try.ntmps61
  go_wp2_with fail
  refine (rbe_any n 8 _ (by omega) (by omega)).mono ?_
  rintro e w1 ⟨a1, cap1, rfl, hc1, ho1, hr1, hn1, hb1⟩
  have ho := Own.later (own_one w w.heap.size (Nat.le_refl _) 1 1 rfl) hb1
  have hb := chain (alloc_below w _) hb1
  obtain ⟨a2, cap2, w2, hrun, hc2, ho2, hr2, hn2, _, hb2⟩ := run_append_form (t := 29) (ty := 29) (cap := cap1) Try.underlying29 Try.info5 ho (n := 1) rfl (be_length n 8) hr1 hn1 (by omega) (by omega) hb.size
  clear ho hr1 hn1 ho1
  go_wp2_with (at_builtin; refine wpList_append_run rfl (.tmp 5) (.tmp 8) 29 29 rfl _ _ _ _ rfl rfl hrun ?_)
  go_ret
  exact ⟨a2, cap2, rfl, hc2, ho2, hr2, hn2, hb.trans hb2⟩

theorem rintBytes_any (n : Int) (w : World) (h1 : -1152921504606846976 ≤ n) (h2 : n ≤ 1152921504606846976) :
    Calls Try.prog 61 #[.int .i64 n] w fun e w' => ∃ a cap, e = .returned (.slice a 9 cap) ∧ 9 ≤ cap ∧ Own w' w.heap.size (.slice a 9 cap) (intBytes n) ∧ Rd w' a (intBytes n) ∧ (a = none → intBytes n = [] ∧ cap = 0) ∧ Below w.heap.size w w' := by
  by_cases h : n < 0
  · obtain ⟨m, rfl⟩ : ∃ m : Nat, n = -(m : Int) := ⟨n.natAbs, by omega⟩
    have := rintBytes_neg m w (by omega) (by omega)
    simpa only [intBytes, if_pos h, Int.natAbs_neg, Int.natAbs_natCast, List.singleton_append] using this
  · obtain ⟨m, rfl⟩ : ∃ m : Nat, n = (m : Int) := ⟨n.natAbs, by omega⟩
    have := rintBytes_pos m w (by omega)
    simpa only [intBytes, if_neg h, Int.natAbs_natCast, List.singleton_append] using this

end Go.Proofs.Ythmclopndmcojaa
