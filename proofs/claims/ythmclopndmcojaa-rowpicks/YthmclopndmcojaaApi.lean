/-
  wire's calls, each by one contract that its callers use; and what 'wakes' answers.
-/
import Derived.Test.YthmclopndmcojaaRows
import Derived.Test.YthmclopndmcojaaPuts
import Derived.Test.YthmclopndmcojaaGets
import Derived.WalkKit
import Derived.WalkSpells
import Derived.WalkLawsBesides
namespace Go.Proofs.Ythmclopndmcojaa
open Go.RowKit Go.Lib

/-- What PutInt writes of n. -/
def intBytes (n : Int) : List UInt8 := (if n < 0 then 1 else 0) :: be n.natAbs 8
/-- What PutText writes of a text. -/
def textBytes (t : List UInt8) : List UInt8 := UInt8.ofNat t.length :: t

theorem intBytes_length (n : Int) : (intBytes n).length = 9 := by simp [intBytes, be_length]
theorem textBytes_length (t : List UInt8) : (textBytes t).length = 1 + t.length := by simp [textBytes]; omega

theorem put_len (a : Option Addr) (len cap n size : Nat) (l : List UInt8) (w : World) (hlen : l.length = len) (hl : len ≤ 1048576) (hs1 : 1 ≤ size) (hs7 : size ≤ 7) (hn : n < 256 ^ size) (hr : Rd w a l) :
    Calls Try.prog 35 #[.slice a len cap, .int .i64 n, .int .i64 size] w fun e w' => ∃ g, e = .returned (.tuple #[.slice (some ⟨g, 0, none⟩) (len + size) (len + size), .int .i64 0]) ∧ w.heap.size ≤ g ∧ Row w' g (l ++ be n size) ∧ Below w.heap.size w w' := by
  subst hlen
  exact put_ok a cap n size l w hl hs1 hs7 hn hr

theorem putInt_len (a : Option Addr) (len cap : Nat) (n : Int) (l : List UInt8) (w : World) (hlen : l.length = len) (hl : len ≤ 1048576) (hn1 : -1152921504606846976 ≤ n) (hn2 : n ≤ 1152921504606846976) (hr : Rd w a l) :
    Calls Try.prog 51 #[.slice a len cap, .int .i64 n] w fun e w' => ∃ g, e = .returned (.tuple #[.slice (some ⟨g, 0, none⟩) (len + 9) (len + 9), .int .i64 0]) ∧ w.heap.size ≤ g ∧ Row w' g (l ++ intBytes n) ∧ Below w.heap.size w w' := by
  subst hlen
  by_cases h : n < 0
  · obtain ⟨m, rfl⟩ : ∃ m : Nat, n = -(m : Int) := ⟨n.natAbs, by omega⟩
    refine (putInt_neg a cap m l w hl (by omega) (by omega) hr).mono ?_
    rintro e w' ⟨g, he, hg, hrow, hb⟩
    refine ⟨g, he, hg, ?_, hb⟩
    simp only [intBytes, if_pos h, Int.natAbs_neg, Int.natAbs_natCast]
    simpa using hrow
  · obtain ⟨m, rfl⟩ : ∃ m : Nat, n = (m : Int) := ⟨n.natAbs, by omega⟩
    refine (putInt_pos a cap m l w hl (by omega) hr).mono ?_
    rintro e w' ⟨g, he, hg, hrow, hb⟩
    refine ⟨g, he, hg, ?_, hb⟩
    simp only [intBytes, if_neg h, Int.natAbs_natCast]
    simpa using hrow

theorem putText_len (a : Option Addr) (len cap : Nat) (s : ByteArray) (l : List UInt8) (w : World) (hlen : l.length = len) (hl : len ≤ 1048576) (hs : s.size ≤ 24) (hr : Rd w a l) :
    Calls Try.prog 52 #[.slice a len cap, .string s] w fun e w' => ∃ g, e = .returned (.tuple #[.slice (some ⟨g, 0, none⟩) (len + (1 + s.size)) (len + (1 + s.size)), .int .i64 0]) ∧ w.heap.size ≤ g ∧ Row w' g (l ++ textBytes s.data.toList) ∧ Below w.heap.size w w' := by
  subst hlen
  rcases Nat.eq_zero_or_pos s.size with h0 | h0
  · obtain rfl : s = ByteArray.empty := by
      cases s with
      | mk d => simp [ByteArray.size] at h0; subst h0; rfl
    refine (putText_empty a cap l w hl hr).mono ?_
    rintro e w' ⟨g, he, hg, hrow, hb⟩
    exact ⟨g, he, hg, hrow, hb⟩
  · refine (putText_some a cap s l w hl h0 hs hr).mono ?_
    rintro e w' ⟨g, he, hg, hrow, hb⟩
    refine ⟨g, he, hg, ?_, hb⟩
    simpa [textBytes] using hrow

theorem get_back (a : Option Addr) (len cap p n size : Nat) (l r : List UInt8) (w : World) (hlen : l.length = len) (hl : len ≤ 1048576) (hcap : len ≤ cap) (hs1 : 1 ≤ size) (hs7 : size ≤ 7) (hn : n < 256 ^ size) (hd : l.drop p = be n size ++ r) (hr : Rd w a l) :
    Calls Try.prog 43 #[.slice a len cap, .int .i64 p, .int .i64 size] w fun e w' => e = .returned (.tuple #[.int .i64 n, .int .i64 ((p : Int) + size), .int .i64 0]) ∧ w' = w := by
  have := get_ok a len cap p size l (be n size) r w hlen hl hcap hs1 hs7 hd (be_length _ _) hr
  rw [num_be_of_lt hn] at this
  exact this

theorem pow8 : 256 ^ 8 = 18446744073709551616 := by decide

theorem getInt_back (a : Option Addr) (len cap p : Nat) (n : Int) (l r : List UInt8) (w : World) (hlen : l.length = len) (hl : len ≤ 1048576) (hcap : len ≤ cap) (hn1 : -1152921504606846976 ≤ n) (hn2 : n ≤ 1152921504606846976) (hd : l.drop p = intBytes n ++ r) (hr : Rd w a l) :
    Calls Try.prog 59 #[.slice a len cap, .int .i64 p] w fun e w' => e = .returned (.tuple #[.int .i64 n, .int .i64 ((p : Int) + 9), .int .i64 0]) ∧ w' = w := by
  have hb : n.natAbs < 256 ^ 8 := by rw [pow8]; omega
  have hq := num_be_of_lt hb
  by_cases h : n < 0
  · have hx := getInt_neg a len cap p l (be n.natAbs 8) r 1 w hlen hl hcap (by rw [hd]; simp [intBytes, h]) (be_length _ _) rfl (by rw [hq]; omega) (by rw [hq]; omega) hr
    rw [hq, show -((n.natAbs : Nat) : Int) = n from by omega] at hx
    exact hx
  · have hx := getInt_pos a len cap p l (be n.natAbs 8) r 0 w hlen hl hcap (by rw [hd]; simp [intBytes, h]) (be_length _ _) rfl (by rw [hq]; omega) hr
    rw [hq, show ((n.natAbs : Nat) : Int) = n from by omega] at hx
    exact hx

theorem ofNat_small {n : Nat} (h : n ≤ 24) : (UInt8.ofNat n).toNat = n := by simp [UInt8.toNat_ofNat']; omega

theorem getText_back (a : Option Addr) (len cap p : Nat) (l t r : List UInt8) (w : World) (hlen : l.length = len) (hl : len ≤ 1048576) (hcap : len ≤ cap) (ht : t.length ≤ 24) (hd : l.drop p = textBytes t ++ r) (hr : Rd w a l) :
    Calls Try.prog 60 #[.slice a len cap, .int .i64 p] w fun e w' => e = .returned (.tuple #[.string ⟨t.toArray⟩, .int .i64 ((p : Int) + 1 + t.length), .int .i64 0]) ∧ Below w.heap.size w w' := by
  have h := getText_ok a len cap p l t r (UInt8.ofNat t.length) w hlen hl hcap (by rw [hd]; simp [textBytes]) (ofNat_small ht).symm (by rw [ofNat_small ht]; exact ht) hr
  rw [ofNat_small ht] at h
  exact h

end Go.Proofs.Ythmclopndmcojaa
