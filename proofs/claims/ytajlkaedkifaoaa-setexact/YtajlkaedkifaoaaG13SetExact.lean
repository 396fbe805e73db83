/-
  Texts of the proof of SetExact, one behind the other.
-/
import Derived.Test.YtajlkaedkifaoaaRows
import Derived.Test.YtajlkaedkifaoaaG8SetExact
import Derived.Test.YtajlkaedkifaoaaG12SetExact
import Derived.WalkKit
import Derived.WalkSpells
import Derived.WalkLawsBesides
import Derived.OpenShut
import Derived.Laws.BitsAllLaws
import Derived.Laws.Bits128
namespace Go.Proofs.Ytajlkaedkifaoaa
open Go.RowKit Go.Lib

theorem size_of (size : Int) : ∃ s : Nat, 1 ≤ s ∧ s ≤ 7 ∧ wrap64 (1 + wrap64 ((IntKind.u64.wrap size).tmod 7)) = (s : Int) := by
  have h0 : 0 ≤ IntKind.u64.wrap size := by rw [IntKind.wrap_u64]; omega
  have h1 : (IntKind.u64.wrap size).tmod 7 = IntKind.u64.wrap size % 7 := Int.tmod_eq_emod_of_nonneg h0
  have h2 : wrap64 ((IntKind.u64.wrap size).tmod 7) = (IntKind.u64.wrap size).tmod 7 := IntWalk.wrap64_in _ ⟨by omega, by omega⟩
  have h3 : wrap64 (1 + (IntKind.u64.wrap size).tmod 7) = 1 + (IntKind.u64.wrap size).tmod 7 := IntWalk.wrap64_in _ ⟨by omega, by omega⟩
  refine ⟨(1 + (IntKind.u64.wrap size).tmod 7).toNat, ?_, ?_, ?_⟩
  · omega
  · omega
  · rw [h2, h3]; omega

theorem num_cons (x : UInt8) (l : List UInt8) : num (x :: l) = x.toNat * 256 ^ l.length + num l := by
  have := num_append [x] l
  simpa [num] using this

theorem less_num : ∀ (l m : List UInt8), l.length = m.length → Op.bytesLess l m = decide (num l < num m)
  | [], [], _ => rfl
  | x :: l, y :: m, h => by
    have hl : l.length = m.length := by simpa using h
    have hb := num_lt l
    have hc := num_lt m
    rw [Op.bytesLess, less_num l m hl, num_cons, num_cons, hl]
    rw [hl] at hb
    rcases Nat.lt_trichotomy x.toNat y.toNat with hxy | hxy | hxy
    · have h1 : x < y := UInt8.lt_iff_toNat_lt.2 hxy
      have h2 : x.toNat * 256 ^ m.length + num l < y.toNat * 256 ^ m.length + num m := by
        have : (x.toNat + 1) * 256 ^ m.length ≤ y.toNat * 256 ^ m.length := Nat.mul_le_mul_right _ hxy
        rw [Nat.add_mul] at this
        omega
      simp [h1, h2]
    · have h1 : x = y := UInt8.toNat_inj.1 hxy
      subst h1
      simp
    · have h1 : ¬ x < y := fun h => by have := UInt8.lt_iff_toNat_lt.1 h; omega
      have h2 : ¬ x.toNat * 256 ^ m.length + num l < y.toNat * 256 ^ m.length + num m := by
        have : (y.toNat + 1) * 256 ^ m.length ≤ x.toNat * 256 ^ m.length := Nat.mul_le_mul_right _ hxy
        rw [Nat.add_mul] at this
        omega
      have h3 : x ≠ y := fun e => by subst e; omega
      simp [h1, h2, h3]

/-- n & (1<<uint(8*s) - 1): a number below 256 to the power s. -/
theorem mask_of (n : Int) (s : Nat) (h1 : 1 ≤ s) (h7 : s ≤ 7) : ∃ A : Nat, A < 256 ^ s ∧ bits BinOp.and IntKind.i64 n (wrap64 (wrap64 (2 ^ (8 * s)) - 1)) = (A : Int) := by
  rw [wrap_pow s h1 h7]
  have hp : 256 ^ s = 2 ^ (8 * s) := by rw [Nat.pow_mul]
  have h56 := pow_le56 s h7
  have hpos : 0 < 256 ^ s := Nat.pos_of_ne_zero (by simp)
  rw [IntWalk.wrap64_in _ ⟨by omega, by omega⟩]
  have em : ((256 ^ s : Nat) : Int) - 1 = ((256 ^ s - 1 : Nat) : Int) := by omega
  have hk : (BitVec.ofInt 64 ((256 ^ s : Nat) - 1 : Int)).toNat = 2 ^ (8 * s) - 1 := by
    rw [em, BitVec.ofInt_natCast, BitVec.toNat_ofNat, hp, Nat.mod_eq_of_lt]
    rw [← hp]; omega
  have key : (BitVec.ofInt 64 n &&& BitVec.ofInt 64 ((256 ^ s : Nat) - 1 : Int)).toNat = (n % ((2 ^ 64 : Nat) : Int)).toNat % 2 ^ (8 * s) := by
    rw [BitVec.toNat_and, BitVec.toNat_ofInt, hk, Nat.and_two_pow_sub_one_eq_mod]
  refine ⟨(n % ((2 ^ 64 : Nat) : Int)).toNat % 256 ^ s, Nat.mod_lt _ hpos, ?_⟩
  show IntKind.i64.wrap ((BitVec.ofInt 64 n &&& BitVec.ofInt 64 ((256 ^ s : Nat) - 1 : Int)).toNat : Nat) = _
  rw [key, ← hp, IntKind.wrap_i64]
  have := Nat.mod_lt ((n % ((2 ^ 64 : Nat) : Int)).toNat) hpos
  omega

theorem intBytes_inj {n m : Int} (h1 : -1152921504606846976 ≤ n) (h2 : n ≤ 1152921504606846976) (h3 : -1152921504606846976 ≤ m) (h4 : m ≤ 1152921504606846976) (h : intBytes n = intBytes m) : n = m := by
  simp only [intBytes, List.cons.injEq] at h
  have hn := be_inj (n := n.natAbs) (m := m.natAbs) (k := 8) (by rw [pow8]; omega) (by rw [pow8]; omega) h.2
  by_cases c1 : n < 0 <;> by_cases c2 : m < 0
  · omega
  · simp [c1, c2] at h
  · simp [c1, c2] at h
  · omega

end Go.Proofs.Ytajlkaedkifaoaa

namespace Go.Proofs.Ytajlkaedkifaoaa
open Go.RowKit Go.Lib

end Go.Proofs.Ytajlkaedkifaoaa
