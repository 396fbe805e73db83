/-
  WireOrder's walk: what the law answers, whatever its numbers.
-/
import Derived.Test.YtfppmdkjlmmbnaaRows
import Derived.Test.YtfppmdkjlmmbnaaApi
import Derived.Test.YtfppmdkjlmmbnaaKeep
import Derived.WalkKit
import Derived.WalkSpells
import Derived.WalkLawsBesides
import Derived.OpenShut
import Derived.Laws.BitsAllLaws
import Derived.Laws.Bits128
namespace Go.Proofs.Ytfppmdkjlmmbnaa
open Go.RowKit Go.Lib

theorem size_of (size : Int) : ∃ s : Nat, 1 ≤ s ∧ s ≤ 7 ∧ wrap64 (1 + wrap64 ((IntKind.u64.wrap size).tmod 7)) = (s : Int) := by
  have h0 : 0 ≤ IntKind.u64.wrap size := by rw [IntKind.wrap_u64]; omega
  have h1 : (IntKind.u64.wrap size).tmod 7 = IntKind.u64.wrap size % 7 := Int.tmod_eq_emod_of_nonneg h0
  have h2 : wrap64 ((IntKind.u64.wrap size).tmod 7) = (IntKind.u64.wrap size).tmod 7 := IntWalk.wrap64_in _ ⟨by omega, by omega⟩
  have h3 : wrap64 (1 + (IntKind.u64.wrap size).tmod 7) = 1 + (IntKind.u64.wrap size).tmod 7 := IntWalk.wrap64_in _ ⟨by omega, by omega⟩
  refine ⟨(1 + (IntKind.u64.wrap size).tmod 7).toNat, ?_, ?_, ?_⟩
  · omega
  · omega
  · rw [h2, h3]; omega

theorem num_cons (x : UInt8) (l : List UInt8) : num (x :: l) = x.toNat * 256 ^ l.length + num l := by
  have := num_append [x] l
  simpa [num] using this

theorem less_num : ∀ (l m : List UInt8), l.length = m.length → Op.bytesLess l m = decide (num l < num m)
  | [], [], _ => rfl
  | x :: l, y :: m, h => by
    have hl : l.length = m.length := by simpa using h
    have hb := num_lt l
    have hc := num_lt m
    rw [Op.bytesLess, less_num l m hl, num_cons, num_cons, hl]
    rw [hl] at hb
    rcases Nat.lt_trichotomy x.toNat y.toNat with hxy | hxy | hxy
    · have h1 : x < y := UInt8.lt_iff_toNat_lt.2 hxy
      have h2 : x.toNat * 256 ^ m.length + num l < y.toNat * 256 ^ m.length + num m := by
        have : (x.toNat + 1) * 256 ^ m.length ≤ y.toNat * 256 ^ m.length := Nat.mul_le_mul_right _ hxy
        rw [Nat.add_mul] at this
        omega
      simp [h1, h2]
    · have h1 : x = y := UInt8.toNat_inj.1 hxy
      subst h1
      simp
    · have h1 : ¬ x < y := fun h => by have := UInt8.lt_iff_toNat_lt.1 h; omega
      have h2 : ¬ x.toNat * 256 ^ m.length + num l < y.toNat * 256 ^ m.length + num m := by
        have : (y.toNat + 1) * 256 ^ m.length ≤ x.toNat * 256 ^ m.length := Nat.mul_le_mul_right _ hxy
        rw [Nat.add_mul] at this
        omega
      have h3 : x ≠ y := fun e => by subst e; omega
      simp [h1, h2, h3]

/-- n & (1<<uint(8*s) - 1): a number below 256 to the power s. -/
theorem mask_of (n : Int) (s : Nat) (h1 : 1 ≤ s) (h7 : s ≤ 7) : ∃ A : Nat, A < 256 ^ s ∧ bits BinOp.and IntKind.i64 n (wrap64 (wrap64 (2 ^ (8 * s)) - 1)) = (A : Int) := by
  rw [wrap_pow s h1 h7]
  have hp : 256 ^ s = 2 ^ (8 * s) := by rw [Nat.pow_mul]
  have h56 := pow_le56 s h7
  have hpos : 0 < 256 ^ s := Nat.pos_of_ne_zero (by simp)
  rw [IntWalk.wrap64_in _ ⟨by omega, by omega⟩]
  have em : ((256 ^ s : Nat) : Int) - 1 = ((256 ^ s - 1 : Nat) : Int) := by omega
  have hk : (BitVec.ofInt 64 ((256 ^ s : Nat) - 1 : Int)).toNat = 2 ^ (8 * s) - 1 := by
    rw [em, BitVec.ofInt_natCast, BitVec.toNat_ofNat, hp, Nat.mod_eq_of_lt]
    rw [← hp]; omega
  have key : (BitVec.ofInt 64 n &&& BitVec.ofInt 64 ((256 ^ s : Nat) - 1 : Int)).toNat = (n % ((2 ^ 64 : Nat) : Int)).toNat % 2 ^ (8 * s) := by
    rw [BitVec.toNat_and, BitVec.toNat_ofInt, hk, Nat.and_two_pow_sub_one_eq_mod]
  refine ⟨(n % ((2 ^ 64 : Nat) : Int)).toNat % 256 ^ s, Nat.mod_lt _ hpos, ?_⟩
  show IntKind.i64.wrap ((BitVec.ofInt 64 n &&& BitVec.ofInt 64 ((256 ^ s : Nat) - 1 : Int)).toNat : Nat) = _
  rw [key, ← hp, IntKind.wrap_i64]
  have := Nat.mod_lt ((n % ((2 ^ 64 : Nat) : Int)).toNat) hpos
  omega

theorem intBytes_inj {n m : Int} (h1 : -1152921504606846976 ≤ n) (h2 : n ≤ 1152921504606846976) (h3 : -1152921504606846976 ≤ m) (h4 : m ≤ 1152921504606846976) (h : intBytes n = intBytes m) : n = m := by
  simp only [intBytes, List.cons.injEq] at h
  have hn := be_inj (n := n.natAbs) (m := m.natAbs) (k := 8) (by rw [pow8]; omega) (by rw [pow8]; omega) h.2
  by_cases c1 : n < 0 <;> by_cases c2 : m < 0
  · omega
  · simp [c1, c2] at h
  · simp [c1, c2] at h
  · omega

theorem row_text {w : World} {g n cap : Nat} {l : List UInt8} (h : Row w g l) (hn : l.length = n) :
    ∃ X : ByteArray, (convert 22 9 (.slice (some ⟨g, 0, none⟩) n cap)).run Try.prog w = .ok (.string X) w ∧ X.toList = l :=
  ⟨⟨l.toArray⟩, run_convert_rd Try.underlying22 Try.underlying5 Try.underlying9 hn h.rd, ByteArray.toList_mk l⟩

set_option maxHeartbeats 400000 in
theorem order_walk (a b size : Int) (w : World) :
    Calls Try.prog 7 #[.int .i64 a, .int .i64 b, .int .i64 size] w fun e w' => e = .returned (.bool true) ∧ Below w.heap.size w w' := by
  obtain ⟨s, hs1, hs7, hse⟩ := size_of size
  obtain ⟨A, hA, hAe⟩ := mask_of a s hs1 hs7
  obtain ⟨B, hB, hBe⟩ := mask_of b s hs1 hs7
  go_enter Try.func7, Try.ntmps7
  go_wp2_with fail
  refine (put_len none 0 0 A s [] _ rfl (by omega) hs1 hs7 hA (Rd.nil _ _)).mono ?_
  rintro e w1 ⟨g1, rfl, hg1, hr1, hb1⟩
  go_wp2_with fail
  refine (put_len none 0 0 B s [] _ rfl (by omega) hs1 hs7 hB (Rd.nil _ _)).mono ?_
  rintro e w2 ⟨g2, rfl, hg2, hr2, hb2⟩
  go_wp2_with fail
  refine (within_any a _).mono ?_
  rintro e w2' ⟨rfl, hw⟩
  subst hw
  go_wp2_with fail
  refine (putInt_len none 0 0 (wi a) [] _ rfl (by omega) (wi_lo a) (wi_hi a) (Rd.nil _ _)).mono ?_
  rintro e w3 ⟨g3, rfl, hg3, hr3, hb3⟩
  go_wp2_with fail
  refine (within_any b _).mono ?_
  rintro e w3' ⟨rfl, hw⟩
  subst hw
  go_wp2_with fail
  refine (putInt_len none 0 0 (wi b) [] _ rfl (by omega) (wi_lo b) (wi_hi b) (Rd.nil _ _)).mono ?_
  rintro e w4 ⟨g4, rfl, hg4, hr4, hb4⟩
  have r1 := ((hr1.below hb2 hr1.lt).below hb3 (Nat.lt_of_lt_of_le hr1.lt hb2.size)).below hb4 (Nat.lt_of_lt_of_le hr1.lt (Nat.le_trans hb2.size hb3.size))
  have r2 := (hr2.below hb3 hr2.lt).below hb4 (Nat.lt_of_lt_of_le hr2.lt hb3.size)
  have r3 := hr3.below hb4 hr3.lt
  obtain ⟨X, hcx, hX⟩ := row_text r1 (n := s) (cap := s) (by simp [be_length])
  obtain ⟨Y, hcy, hY⟩ := row_text r2 (n := s) (cap := s) (by simp [be_length])
  have hless : Op.bytesLess X.toList Y.toList = decide ((A : Int) < (B : Int)) := by
    rw [hX, hY, less_num _ _ (by simp [be_length])]
    simp [num_be_of_lt hA, num_be_of_lt hB]
  have E1 : Hid (decide ([] ++ be A s = [] ++ be B s) = ((A : Int) == (B : Int))) := by
    have : (be A s = be B s) ↔ A = B := ⟨fun h => be_inj hA hB h, fun h => by rw [h]⟩
    show _ = _
    rw [Bool.eq_iff_iff]
    simp [this]
    omega
  have E2 : Hid (decide ([] ++ intBytes (wi a) = [] ++ intBytes (wi b)) = (wi a == wi b)) := by
    have : (intBytes (wi a) = intBytes (wi b)) ↔ wi a = wi b := ⟨fun h => intBytes_inj (wi_lo a) (wi_hi a) (wi_lo b) (wi_hi b) h, fun h => by rw [h]⟩
    show _ = _
    rw [Bool.eq_iff_iff]
    simp [this]
  have B4 : Below w.heap.size w w4 := chain (chain (chain hb1 hb2) hb3) hb4
  clear hX hY hr1 hr2 hr3 hb1 hb2 hb3 hb4
  go_wp2_with fail
  refine (bytes_any _ _ s s s s ([] ++ be A s) ([] ++ be B s) _ (by simp [be_length]) (by simp [be_length]) (by omega) (by omega) r1.rd r2.rd).mono ?_
  rintro e w5 ⟨rfl, hb5⟩
  rw [E1.out]
  go_wp2_with fail
  refine (bytes_any _ _ 9 9 9 9 ([] ++ intBytes (wi a)) ([] ++ intBytes (wi b)) _ (by simp [intBytes_length]) (by simp [intBytes_length]) (by omega) (by omega) (r3.rd.later hb5) (hr4.rd.later hb5)).mono ?_
  rintro e w6 ⟨rfl, hb6⟩
  rw [E2.out]
  go_wp2_with fail
  refine (within_any a _).mono ?_
  rintro e w6' ⟨rfl, hw⟩
  subst hw
  go_wp2_with fail
  refine (within_any b _).mono ?_
  rintro e w6' ⟨rfl, hw⟩
  subst hw
  go_wp2_with fail
  refine (wakes_any _).mono ?_
  rintro e w7 ⟨rfl, hb7⟩
  go_wp2
  go_ret
  exact ⟨rfl, chain (chain (chain B4 hb5) hb6) hb7⟩

end Go.Proofs.Ytfppmdkjlmmbnaa
