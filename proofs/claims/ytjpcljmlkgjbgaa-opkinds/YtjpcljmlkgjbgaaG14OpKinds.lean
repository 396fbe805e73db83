/-
  Texts of the proof of OpKinds, one behind the other.
-/
import Derived.Test.YtjpcljmlkgjbgaaRows
import Derived.Test.YtjpcljmlkgjbgaaG9OpKinds
import Derived.Test.YtjpcljmlkgjbgaaG8OpKinds
import Derived.Test.YtjpcljmlkgjbgaaG13OpKinds
import Derived.WalkKit
import Derived.WalkSpells
import Derived.WalkLawsBesides
namespace Go.Proofs.Ytjpcljmlkgjbgaa
open Go.RowKit Go.Lib
set_option linter.unusedVariables false

set_option maxHeartbeats 400000 in
theorem rget_size (a : Option Addr) (len cap : Nat) (p size : Int) (w : World) (h : size < 1 ∨ 7 < size) :
    Calls Try.prog 122 #[.slice a len cap, .int .i64 p, .int .i64 size] w fun e w' => e = .returned (.tuple #[.int .i64 0, .int .i64 0, .int .i64 1]) ∧ w' = w := by
  go_enter Try.func122, Try.ntmps122
  go_wp2_with fail
  refine (in_no _ _ _ _ h).mono ?_
  rintro e w1 ⟨rfl, rfl⟩
  go_wp2
  go_ret3
  exact ⟨rfl, rfl⟩

set_option maxHeartbeats 400000 in
theorem rget_place (a : Option Addr) (len cap : Nat) (p size : Int) (w : World) (_hl : len ≤ 1048576) (hs1 : 1 ≤ size) (hs7 : size ≤ 7) (h : p < 0 ∨ (len : Int) < p) :
    Calls Try.prog 122 #[.slice a len cap, .int .i64 p, .int .i64 size] w fun e w' => e = .returned (.tuple #[.int .i64 0, .int .i64 0, .int .i64 1]) ∧ w' = w := by
  go_enter Try.func122, Try.ntmps122
  go_wp2_with fail
  refine (in_yes _ _ _ _ hs1 hs7).mono ?_
  rintro e w1 ⟨rfl, rfl⟩
  go_wp2_with fail
  refine (in_no _ _ _ _ h).mono ?_
  rintro e w1 ⟨rfl, rfl⟩
  go_wp2
  go_ret3
  exact ⟨rfl, rfl⟩

set_option maxHeartbeats 400000 in
theorem rget_short (a : Option Addr) (len cap : Nat) (p size : Int) (w : World) (hl : len ≤ 1048576) (hs1 : 1 ≤ size) (hs7 : size ≤ 7) (hp0 : 0 ≤ p) (hp1 : p ≤ len) (h : (len : Int) - p < size) :
    Calls Try.prog 122 #[.slice a len cap, .int .i64 p, .int .i64 size] w fun e w' => e = .returned (.tuple #[.int .i64 0, .int .i64 0, .int .i64 3]) ∧ w' = w := by
  go_enter Try.func122, Try.ntmps122
  go_wp2_with fail
  refine (in_yes _ _ _ _ hs1 hs7).mono ?_
  rintro e w1 ⟨rfl, rfl⟩
  go_wp2_with fail
  refine (in_yes _ _ _ _ hp0 hp1).mono ?_
  rintro e w1 ⟨rfl, rfl⟩
  go_wp2
  go_ret3
  exact ⟨rfl, rfl⟩

set_option maxHeartbeats 400000 in
theorem rget_ok (a : Option Addr) (len cap p size : Nat) (l t r : List UInt8) (w : World) (hlen : l.length = len) (hl : len ≤ 1048576) (hcap : len ≤ cap) (hs1 : 1 ≤ size) (hs7 : size ≤ 7) (hd : l.drop p = t ++ r) (ht : t.length = size) (hr : Rd w a l) :
    Calls Try.prog 122 #[.slice a len cap, .int .i64 p, .int .i64 size] w fun e w' => e = .returned (.tuple #[.int .i64 (num t : Nat), .int .i64 ((p : Int) + size), .int .i64 0]) ∧ w' = w := by
  have hp : p + size ≤ len := by have := length_of_drop hd (by simp; omega); simp at this; omega
  obtain ⟨b, off, rfl⟩ := hr.some_of (by omega)
  have hcut := hr.part hd
  have hb := num_lt7 (t := t) (by omega)
  have HL : Hid (t.length = size) := ht
  clear ht hd hlen
  go_enter Try.func122, Try.ntmps122
  go_wp2_with fail
  refine (in_yes _ _ _ _ (by omega) (by omega)).mono ?_
  rintro e w1 ⟨rfl, rfl⟩
  go_wp2_with fail
  refine (in_yes _ _ _ _ (by omega) (by omega)).mono ?_
  rintro e w1 ⟨rfl, rfl⟩
  go_wp2_with fail
  refine (rnum_any _ _ _ t _ HL.out (by omega) (by omega) hcut).mono ?_
  rintro e w1 ⟨rfl, rfl⟩
  go_wp2
  go_ret3
  exact ⟨rfl, rfl⟩

theorem rget_any (a : Option Addr) (len cap : Nat) (p size : Int) (l : List UInt8) (w : World) (hlen : l.length = len) (hl : len ≤ 1048576) (hcap : len ≤ cap) (hr : Rd w a l) :
    Calls Try.prog 122 #[.slice a len cap, .int .i64 p, .int .i64 size] w fun e w' => e = .returned (.tuple #[.int .i64 (rGet l p size).1, .int .i64 (rGet l p size).2.1, .int .i64 (rGet l p size).2.2]) ∧ w' = w := by
  by_cases h1 : size < 1 ∨ 7 < size
  · have e : rGet l p size = (0, 0, 1) := by unfold rGet; rw [if_pos (by omega)]
    rw [e]; exact rget_size a len cap p size w h1
  by_cases h2 : p < 0 ∨ (len : Int) < p
  · have e : rGet l p size = (0, 0, 1) := by unfold rGet; rw [if_pos (by omega)]
    rw [e]; exact rget_place a len cap p size w hl (by omega) (by omega) h2
  by_cases h3 : (len : Int) - p < size
  · have e : rGet l p size = (0, 0, 3) := by unfold rGet; rw [if_neg (by omega), if_pos (by omega)]
    rw [e]; exact rget_short a len cap p size w hl (by omega) (by omega) (by omega) (by omega) h3
  obtain ⟨q, rfl⟩ : ∃ q : Nat, p = q := ⟨p.toNat, by omega⟩
  obtain ⟨s, rfl⟩ : ∃ s : Nat, size = s := ⟨size.toNat, by omega⟩
  have e : rGet l q s = (((num ((l.drop q).take s) : Nat) : Int), (q : Int) + s, 0) := by unfold rGet; rw [if_neg (by omega), if_neg (by omega)]; simp
  rw [e]
  exact rget_ok a len cap q s l ((l.drop q).take s) ((l.drop q).drop s) w hlen hl hcap (by omega) (by omega) (List.take_append_drop s (l.drop q)).symm (by simp; omega) hr

theorem num_hi (y : UInt8) (t : List UInt8) (ht : t.length = 7) : (127 < y.toNat → 9223372036854775808 ≤ num (y :: t)) ∧ (y.toNat ≤ 127 → num (y :: t) ≤ 9223372036854775807) := by
  have h := num_cons y t
  have hb := num_lt t
  rw [ht] at h hb
  have e : (256 : Nat) ^ 7 = 72057594037927936 := by decide
  rw [e] at h hb
  constructor
  · intro hy; omega
  · intro hy; omega

set_option maxHeartbeats 400000 in
theorem rgetInt_place (a : Option Addr) (len cap : Nat) (p : Int) (w : World) (_hl : len ≤ 1048576) (h : p < 0 ∨ (len : Int) < p) :
    Calls Try.prog 123 #[.slice a len cap, .int .i64 p] w fun e w' => e = .returned (.tuple #[.int .i64 0, .int .i64 0, .int .i64 1]) ∧ w' = w := by
  go_enter Try.func123, Try.ntmps123
  go_wp2_with fail
  refine (in_no _ _ _ _ h).mono ?_
  rintro e w1 ⟨rfl, rfl⟩
  go_wp2
  go_ret3
  exact ⟨rfl, rfl⟩

set_option maxHeartbeats 400000 in
theorem rgetInt_short (a : Option Addr) (len cap : Nat) (p : Int) (w : World) (hl : len ≤ 1048576) (hp0 : 0 ≤ p) (hp1 : p ≤ len) (h : (len : Int) - p < 9) :
    Calls Try.prog 123 #[.slice a len cap, .int .i64 p] w fun e w' => e = .returned (.tuple #[.int .i64 0, .int .i64 0, .int .i64 3]) ∧ w' = w := by
  go_enter Try.func123, Try.ntmps123
  go_wp2_with fail
  refine (in_yes _ _ _ _ hp0 hp1).mono ?_
  rintro e w1 ⟨rfl, rfl⟩
  go_wp2
  go_ret3
  exact ⟨rfl, rfl⟩

set_option maxHeartbeats 400000 in
theorem rgetInt_sign (a : Option Addr) (len cap p : Nat) (l t r : List UInt8) (x y : UInt8) (w : World) (hlen : l.length = len) (hl : len ≤ 1048576) (hcap : len ≤ cap) (hd : l.drop p = x :: ((y :: t) ++ r)) (ht : t.length = 7) (hx : 1 < x.toNat) (hr : Rd w a l) :
    Calls Try.prog 123 #[.slice a len cap, .int .i64 p] w fun e w' => e = .returned (.tuple #[.int .i64 0, .int .i64 0, .int .i64 3]) ∧ w' = w := by
  have hp : p + 9 ≤ len := by have := length_of_drop hd (by simp); simp at this; omega
  obtain ⟨b, off, rfl⟩ := hr.some_of (by omega)
  have hat := hr.at_ hd
  have hat1 := hr.at_ (p := p + 1) (x := y) (r := t ++ r) (by rw [← List.drop_drop, hd]; simp)
  rw [← Nat.add_assoc] at hat1
  have hat2 : w.cell? ⟨b, off + (p + 1), none⟩ = some (.int .u8 (y.toNat : Int)) := by rw [← Nat.add_assoc]; exact hat1
  have hy2 := y.toNat_lt
  have hx2 := x.toNat_lt
  have hcut := hr.part (p := p + 1) (t := y :: t) (r := r) (by rw [← List.drop_drop, hd]; simp)
  have HL : Hid ((y :: t).length = 8) := by show (_ : Nat) = _; simp [ht]
  clear ht hd hlen hat1
  go_enter Try.func123, Try.ntmps123
  go_wp2_with fail
  refine (in_yes _ _ _ _ (by omega) (by omega)).mono ?_
  rintro e w1 ⟨rfl, rfl⟩
  go_wp2
  go_ret3
  exact ⟨rfl, rfl⟩

set_option maxHeartbeats 400000 in
theorem rgetInt_top (a : Option Addr) (len cap p : Nat) (l t r : List UInt8) (x y : UInt8) (w : World) (hlen : l.length = len) (hl : len ≤ 1048576) (hcap : len ≤ cap) (hd : l.drop p = x :: ((y :: t) ++ r)) (ht : t.length = 7) (hx : x.toNat ≤ 1) (hy : 127 < y.toNat) (hr : Rd w a l) :
    Calls Try.prog 123 #[.slice a len cap, .int .i64 p] w fun e w' => e = .returned (.tuple #[.int .i64 0, .int .i64 0, .int .i64 3]) ∧ w' = w := by
  have hp : p + 9 ≤ len := by have := length_of_drop hd (by simp); simp at this; omega
  obtain ⟨b, off, rfl⟩ := hr.some_of (by omega)
  have hat := hr.at_ hd
  have hat1 := hr.at_ (p := p + 1) (x := y) (r := t ++ r) (by rw [← List.drop_drop, hd]; simp)
  rw [← Nat.add_assoc] at hat1
  have hat2 : w.cell? ⟨b, off + (p + 1), none⟩ = some (.int .u8 (y.toNat : Int)) := by rw [← Nat.add_assoc]; exact hat1
  have hy2 := y.toNat_lt
  have hx2 := x.toNat_lt
  have hcut := hr.part (p := p + 1) (t := y :: t) (r := r) (by rw [← List.drop_drop, hd]; simp)
  have HL : Hid ((y :: t).length = 8) := by show (_ : Nat) = _; simp [ht]
  clear ht hd hlen hat1
  go_enter Try.func123, Try.ntmps123
  go_wp2_with fail
  refine (in_yes _ _ _ _ (by omega) (by omega)).mono ?_
  rintro e w1 ⟨rfl, rfl⟩
  go_wp2
  go_ret3
  exact ⟨rfl, rfl⟩

set_option maxHeartbeats 400000 in
theorem rgetInt_over (a : Option Addr) (len cap p : Nat) (l t r : List UInt8) (x y : UInt8) (w : World) (hlen : l.length = len) (hl : len ≤ 1048576) (hcap : len ≤ cap) (hd : l.drop p = x :: ((y :: t) ++ r)) (ht : t.length = 7) (hx : x.toNat ≤ 1) (hy : y.toNat ≤ 127) (hq : 1152921504606846976 < num (y :: t)) (hr : Rd w a l) :
    Calls Try.prog 123 #[.slice a len cap, .int .i64 p] w fun e w' => e = .returned (.tuple #[.int .i64 0, .int .i64 0, .int .i64 3]) ∧ w' = w := by
  have hp : p + 9 ≤ len := by have := length_of_drop hd (by simp); simp at this; omega
  obtain ⟨b, off, rfl⟩ := hr.some_of (by omega)
  have hat := hr.at_ hd
  have hat1 := hr.at_ (p := p + 1) (x := y) (r := t ++ r) (by rw [← List.drop_drop, hd]; simp)
  rw [← Nat.add_assoc] at hat1
  have hat2 : w.cell? ⟨b, off + (p + 1), none⟩ = some (.int .u8 (y.toNat : Int)) := by rw [← Nat.add_assoc]; exact hat1
  have hy2 := y.toNat_lt
  have hx2 := x.toNat_lt
  have hn63 := (num_hi y t ht).2 hy
  have hcut := hr.part (p := p + 1) (t := y :: t) (r := r) (by rw [← List.drop_drop, hd]; simp)
  have HL : Hid ((y :: t).length = 8) := by show (_ : Nat) = _; simp [ht]
  clear ht hd hlen hat1
  go_enter Try.func123, Try.ntmps123
  go_wp2_with fail
  refine (in_yes _ _ _ _ (by omega) (by omega)).mono ?_
  rintro e w1 ⟨rfl, rfl⟩
  go_wp2_with fail
  refine (rnum_any _ _ _ (y :: t) _ HL.out (by omega) (by omega) hcut).mono ?_
  rintro e w1 ⟨rfl, rfl⟩
  go_wp2
  go_ret3
  exact ⟨rfl, rfl⟩

set_option maxHeartbeats 400000 in
theorem rgetInt_nought (a : Option Addr) (len cap p : Nat) (l t r : List UInt8) (x y : UInt8) (w : World) (hlen : l.length = len) (hl : len ≤ 1048576) (hcap : len ≤ cap) (hd : l.drop p = x :: ((y :: t) ++ r)) (ht : t.length = 7) (hx : x.toNat = 1) (hy : y.toNat ≤ 127) (hq : num (y :: t) = 0) (hr : Rd w a l) :
    Calls Try.prog 123 #[.slice a len cap, .int .i64 p] w fun e w' => e = .returned (.tuple #[.int .i64 0, .int .i64 0, .int .i64 3]) ∧ w' = w := by
  have hp : p + 9 ≤ len := by have := length_of_drop hd (by simp); simp at this; omega
  obtain ⟨b, off, rfl⟩ := hr.some_of (by omega)
  have hat := hr.at_ hd
  have hat1 := hr.at_ (p := p + 1) (x := y) (r := t ++ r) (by rw [← List.drop_drop, hd]; simp)
  rw [← Nat.add_assoc] at hat1
  have hat2 : w.cell? ⟨b, off + (p + 1), none⟩ = some (.int .u8 (y.toNat : Int)) := by rw [← Nat.add_assoc]; exact hat1
  have hy2 := y.toNat_lt
  have hx2 := x.toNat_lt
  have hn63 := (num_hi y t ht).2 hy
  rw [hx] at hat
  clear hx
  have hcut := hr.part (p := p + 1) (t := y :: t) (r := r) (by rw [← List.drop_drop, hd]; simp)
  have HL : Hid ((y :: t).length = 8) := by show (_ : Nat) = _; simp [ht]
  clear ht hd hlen hat1
  go_enter Try.func123, Try.ntmps123
  go_wp2_with fail
  refine (in_yes _ _ _ _ (by omega) (by omega)).mono ?_
  rintro e w1 ⟨rfl, rfl⟩
  go_wp2_with fail
  refine (rnum_any _ _ _ (y :: t) _ HL.out (by omega) (by omega) hcut).mono ?_
  rintro e w1 ⟨rfl, rfl⟩
  rw [hq]
  go_wp2
  go_ret3
  exact ⟨rfl, rfl⟩

set_option maxHeartbeats 400000 in
theorem rgetInt_neg (a : Option Addr) (len cap p : Nat) (l t r : List UInt8) (x y : UInt8) (w : World) (hlen : l.length = len) (hl : len ≤ 1048576) (hcap : len ≤ cap) (hd : l.drop p = x :: ((y :: t) ++ r)) (ht : t.length = 7) (hx : x.toNat = 1) (hy : y.toNat ≤ 127) (hq0 : 1 ≤ num (y :: t)) (hq : num (y :: t) ≤ 1152921504606846976) (hr : Rd w a l) :
    Calls Try.prog 123 #[.slice a len cap, .int .i64 p] w fun e w' => e = .returned (.tuple #[.int .i64 (-((num (y :: t) : Nat) : Int)), .int .i64 ((p : Int) + 9), .int .i64 0]) ∧ w' = w := by
  have hp : p + 9 ≤ len := by have := length_of_drop hd (by simp); simp at this; omega
  obtain ⟨b, off, rfl⟩ := hr.some_of (by omega)
  have hat := hr.at_ hd
  have hat1 := hr.at_ (p := p + 1) (x := y) (r := t ++ r) (by rw [← List.drop_drop, hd]; simp)
  rw [← Nat.add_assoc] at hat1
  have hat2 : w.cell? ⟨b, off + (p + 1), none⟩ = some (.int .u8 (y.toNat : Int)) := by rw [← Nat.add_assoc]; exact hat1
  have hy2 := y.toNat_lt
  have hx2 := x.toNat_lt
  have hn63 := (num_hi y t ht).2 hy
  rw [hx] at hat
  clear hx
  have hcut := hr.part (p := p + 1) (t := y :: t) (r := r) (by rw [← List.drop_drop, hd]; simp)
  have HL : Hid ((y :: t).length = 8) := by show (_ : Nat) = _; simp [ht]
  clear ht hd hlen hat1
  go_enter Try.func123, Try.ntmps123
  go_wp2_with fail
  refine (in_yes _ _ _ _ (by omega) (by omega)).mono ?_
  rintro e w1 ⟨rfl, rfl⟩
  go_wp2_with fail
  refine (rnum_any _ _ _ (y :: t) _ HL.out (by omega) (by omega) hcut).mono ?_
  rintro e w1 ⟨rfl, rfl⟩
  have hz1 : decide (1152921504606846976 < ((num (y :: t) : Nat) : Int)) = false := by simp; omega
  have hz2 : (((num (y :: t) : Nat) : Int) == 0) = false := by simp; omega
  go_wp2
  go_ret3
  exact ⟨rfl, rfl⟩

set_option maxHeartbeats 400000 in
theorem rgetInt_pos (a : Option Addr) (len cap p : Nat) (l t r : List UInt8) (x y : UInt8) (w : World) (hlen : l.length = len) (hl : len ≤ 1048576) (hcap : len ≤ cap) (hd : l.drop p = x :: ((y :: t) ++ r)) (ht : t.length = 7) (hx : x.toNat = 0) (hy : y.toNat ≤ 127) (hq : num (y :: t) ≤ 1152921504606846976) (hr : Rd w a l) :
    Calls Try.prog 123 #[.slice a len cap, .int .i64 p] w fun e w' => e = .returned (.tuple #[.int .i64 (num (y :: t) : Nat), .int .i64 ((p : Int) + 9), .int .i64 0]) ∧ w' = w := by
  have hp : p + 9 ≤ len := by have := length_of_drop hd (by simp); simp at this; omega
  obtain ⟨b, off, rfl⟩ := hr.some_of (by omega)
  have hat := hr.at_ hd
  have hat1 := hr.at_ (p := p + 1) (x := y) (r := t ++ r) (by rw [← List.drop_drop, hd]; simp)
  rw [← Nat.add_assoc] at hat1
  have hat2 : w.cell? ⟨b, off + (p + 1), none⟩ = some (.int .u8 (y.toNat : Int)) := by rw [← Nat.add_assoc]; exact hat1
  have hy2 := y.toNat_lt
  have hx2 := x.toNat_lt
  have hn63 := (num_hi y t ht).2 hy
  rw [hx] at hat
  clear hx
  have hcut := hr.part (p := p + 1) (t := y :: t) (r := r) (by rw [← List.drop_drop, hd]; simp)
  have HL : Hid ((y :: t).length = 8) := by show (_ : Nat) = _; simp [ht]
  clear ht hd hlen hat1
  go_enter Try.func123, Try.ntmps123
  go_wp2_with fail
  refine (in_yes _ _ _ _ (by omega) (by omega)).mono ?_
  rintro e w1 ⟨rfl, rfl⟩
  go_wp2_with fail
  refine (rnum_any _ _ _ (y :: t) _ HL.out (by omega) (by omega) hcut).mono ?_
  rintro e w1 ⟨rfl, rfl⟩
  have hz1 : decide (1152921504606846976 < ((num (y :: t) : Nat) : Int)) = false := by simp; omega
  go_wp2
  go_ret3
  exact ⟨rfl, rfl⟩

theorem rgetInt_any (a : Option Addr) (len cap : Nat) (p : Int) (l : List UInt8) (w : World) (hlen : l.length = len) (hl : len ≤ 1048576) (hcap : len ≤ cap) (hr : Rd w a l) :
    Calls Try.prog 123 #[.slice a len cap, .int .i64 p] w fun e w' => e = .returned (.tuple #[.int .i64 (rGetInt l p).1, .int .i64 (rGetInt l p).2.1, .int .i64 (rGetInt l p).2.2]) ∧ w' = w := by
  by_cases h2 : p < 0 ∨ (len : Int) < p
  · have e : rGetInt l p = (0, 0, 1) := by unfold rGetInt; rw [if_pos (by omega)]
    rw [e]; exact rgetInt_place a len cap p w hl h2
  by_cases h3 : (len : Int) - p < 9
  · have e : rGetInt l p = (0, 0, 3) := by unfold rGetInt; rw [if_neg (by omega), if_pos (by omega)]
    rw [e]; exact rgetInt_short a len cap p w hl (by omega) (by omega) h3
  obtain ⟨q, rfl⟩ : ∃ q : Nat, p = q := ⟨p.toNat, by omega⟩
  have e : rGetInt l q = match rSign (l[q]?.getD 0).toNat (num ((l.drop (q + 1)).take 8)) with
    | none => (0, 0, 3)
    | some v => (v, (q : Int) + 9, 0) := by unfold rGetInt; rw [if_neg (by omega), if_neg (by omega)]; simp; rfl
  rw [e]
  have hd : l.drop q = (l[q]?.getD 0) :: ((l.drop (q + 1)).take 8 ++ (l.drop (q + 1)).drop 8) := by rw [List.take_append_drop]; exact drop_at (by omega)
  have ht : ((l.drop (q + 1)).take 8).length = 8 := by simp; omega
  generalize (l.drop (q + 1)).take 8 = t at *
  generalize (l.drop (q + 1)).drop 8 = r at *
  generalize l[q]?.getD 0 = x at *
  cases t with
  | nil => simp at ht
  | cons y t =>
  have ht7 : t.length = 7 := by simpa using ht
  have hhi := (num_hi y t ht7).1
  by_cases c1 : 1 < x.toNat
  · have : rSign x.toNat (num (y :: t)) = none := by unfold rSign; rw [if_pos (by omega)]
    rw [this]; exact rgetInt_sign a len cap q l t r x y w hlen hl hcap hd ht7 c1 hr
  by_cases c5 : 127 < y.toNat
  · have : rSign x.toNat (num (y :: t)) = none := by unfold rSign; rw [if_pos (by have := hhi c5; omega)]
    rw [this]; exact rgetInt_top a len cap q l t r x y w hlen hl hcap hd ht7 (by omega) c5 hr
  by_cases c2 : 1152921504606846976 < num (y :: t)
  · have : rSign x.toNat (num (y :: t)) = none := by unfold rSign; rw [if_pos (by omega)]
    rw [this]; exact rgetInt_over a len cap q l t r x y w hlen hl hcap hd ht7 (by omega) (by omega) c2 hr
  by_cases c3 : x.toNat = 1
  · by_cases c4 : num (y :: t) = 0
    · have : rSign x.toNat (num (y :: t)) = none := by unfold rSign; rw [if_pos (by omega)]
      rw [this]; exact rgetInt_nought a len cap q l t r x y w hlen hl hcap hd ht7 c3 (by omega) c4 hr
    · have : rSign x.toNat (num (y :: t)) = some (-((num (y :: t) : Nat) : Int)) := by unfold rSign; rw [if_neg (by omega), if_pos c3]
      rw [this]; exact rgetInt_neg a len cap q l t r x y w hlen hl hcap hd ht7 c3 (by omega) (by omega) (by omega) hr
  · have : rSign x.toNat (num (y :: t)) = some ((num (y :: t) : Nat) : Int) := by unfold rSign; rw [if_neg (by omega), if_neg c3]
    rw [this]; exact rgetInt_pos a len cap q l t r x y w hlen hl hcap hd ht7 (by omega) (by omega) (by omega) hr

set_option maxHeartbeats 400000 in
theorem rgetText_place (a : Option Addr) (len cap : Nat) (p : Int) (w : World) (hl : len ≤ 1048576) (h : p < 0 ∨ (len : Int) < p) :
    Calls Try.prog 109 #[.slice a len cap, .int .i64 p] w fun e w' => e = .returned (.tuple #[.string ByteArray.empty, .int .i64 0, .int .i64 1]) ∧ w' = w := by
  go_enter Try.func109, Try.ntmps109
  go_wp2_with fail
  refine (in_no _ _ _ _ h).mono ?_
  rintro e w1 ⟨rfl, rfl⟩
  go_wp2
  go_ret3
  exact ⟨rfl, rfl⟩

set_option maxHeartbeats 400000 in
theorem rgetText_end (a : Option Addr) (len cap : Nat) (w : World) (hl : len ≤ 1048576) :
    Calls Try.prog 109 #[.slice a len cap, .int .i64 len] w fun e w' => e = .returned (.tuple #[.string ByteArray.empty, .int .i64 0, .int .i64 3]) ∧ w' = w := by
  go_enter Try.func109, Try.ntmps109
  go_wp2_with fail
  refine (in_yes _ _ _ _ (by omega) (by omega)).mono ?_
  rintro e w1 ⟨rfl, rfl⟩
  go_wp2
  go_ret3
  exact ⟨rfl, rfl⟩

set_option maxHeartbeats 400000 in
theorem rgetText_long (a : Option Addr) (len cap p : Nat) (l r : List UInt8) (x : UInt8) (w : World) (hlen : l.length = len) (hl : len ≤ 1048576) (hd : l.drop p = x :: r) (h : 24 < x.toNat) (hr : Rd w a l) :
    Calls Try.prog 109 #[.slice a len cap, .int .i64 p] w fun e w' => e = .returned (.tuple #[.string ByteArray.empty, .int .i64 0, .int .i64 3]) ∧ w' = w := by
  have hp : p + (r.length + 1) = len := by have := length_of_drop hd (by simp); simp at this; omega
  obtain ⟨b, off, rfl⟩ := hr.some_of (by omega)
  have hat := hr.at_ hd
  have hx2 := x.toNat_lt
  have hp1 : p < len := by omega
  have hpe : ((p : Int) == (len : Int)) = false := by simp; omega
  clear hd hlen hp
  go_enter Try.func109, Try.ntmps109
  go_wp2_with fail
  refine (in_yes _ _ _ _ (by omega) (by omega)).mono ?_
  rintro e w1 ⟨rfl, rfl⟩
  go_wp2
  go_ret3
  exact ⟨rfl, rfl⟩

set_option maxHeartbeats 400000 in
theorem rgetText_short (a : Option Addr) (len cap p : Nat) (l r : List UInt8) (x : UInt8) (w : World) (hlen : l.length = len) (hl : len ≤ 1048576) (hd : l.drop p = x :: r) (h0 : x.toNat ≤ 24) (h : r.length < x.toNat) (hr : Rd w a l) :
    Calls Try.prog 109 #[.slice a len cap, .int .i64 p] w fun e w' => e = .returned (.tuple #[.string ByteArray.empty, .int .i64 0, .int .i64 3]) ∧ w' = w := by
  have hp : p + (r.length + 1) = len := by have := length_of_drop hd (by simp); simp at this; omega
  obtain ⟨b, off, rfl⟩ := hr.some_of (by omega)
  have hat := hr.at_ hd
  have hx2 := x.toNat_lt
  have hp1 : p < len := by omega
  have hpe : ((p : Int) == (len : Int)) = false := by simp; omega
  have h' : len - (p + 1) < x.toNat := by omega
  clear hd hlen hp h
  go_enter Try.func109, Try.ntmps109
  go_wp2_with fail
  refine (in_yes _ _ _ _ (by omega) (by omega)).mono ?_
  rintro e w1 ⟨rfl, rfl⟩
  go_wp2
  go_ret3
  exact ⟨rfl, rfl⟩

set_option maxHeartbeats 400000 in
theorem rgetText_ok (a : Option Addr) (len cap p : Nat) (l t r : List UInt8) (x : UInt8) (w : World) (hlen : l.length = len) (hl : len ≤ 1048576) (hcap : len ≤ cap) (hd : l.drop p = x :: (t ++ r)) (ht : t.length = x.toNat) (h0 : x.toNat ≤ 24) (hr : Rd w a l) :
    Calls Try.prog 109 #[.slice a len cap, .int .i64 p] w fun e w' => e = .returned (.tuple #[.string ⟨t.toArray⟩, .int .i64 ((p : Int) + 1 + x.toNat), .int .i64 0]) ∧ w' = w := by
  have hp : p + ((t ++ r).length + 1) = len := by have := length_of_drop hd (by simp); simp at this; simp; omega
  simp at hp
  obtain ⟨b, off, rfl⟩ := hr.some_of (by omega)
  have hat := hr.at_ hd
  have hx2 := x.toNat_lt
  have hp1 : p < len := by omega
  have hpe : ((p : Int) == (len : Int)) = false := by simp; omega
  have hcut := hr.part (p := p + 1) (t := t) (r := r) (by rw [← List.drop_drop, hd]; simp)
  have hq : p + 1 + x.toNat ≤ len := by omega
  have hcv : ∀ c, (convert 22 9 (.slice (some ⟨b, off + (p + 1), none⟩) x.toNat c)).run Try.prog w = .ok (.string ⟨t.toArray⟩) w := fun c => run_convert_rd Try.underlying22 Try.underlying5 Try.underlying9 ht hcut
  have hcv0 : x.toNat = 0 → ∀ c, (convert 22 9 (.slice (some ⟨b, off, none⟩) x.toNat c)).run Try.prog w = .ok (.string ⟨t.toArray⟩) w := fun hz c => run_convert_rd Try.underlying22 Try.underlying5 Try.underlying9 ht (by rw [List.eq_nil_of_length_eq_zero (ht.trans hz)]; exact Rd.nil _ _)
  have hcc : p + 1 < cap ∨ p + 1 = cap := by omega
  clear hd hlen hp ht hcut hr
  rcases hcc with hcc | hcc
  · clear hcv0
    go_enter Try.func109, Try.ntmps109
    go_wp2_with fail
    refine (in_yes _ _ _ _ (by omega) (by omega)).mono ?_
    rintro e w1 ⟨rfl, rfl⟩
    go_wp2
    go_ret3
    exact ⟨rfl, rfl⟩
  · have hcv1 := hcv0 (by omega)
    clear hcv0 hcv
    have hge : cap ≤ p + 1 := by omega
    clear hcc
    go_enter Try.func109, Try.ntmps109
    go_wp2_with fail
    refine (in_yes _ _ _ _ (by omega) (by omega)).mono ?_
    rintro e w1 ⟨rfl, rfl⟩
    go_wp2
    go_ret3
    exact ⟨rfl, rfl⟩

theorem rgetText_any (a : Option Addr) (len cap : Nat) (p : Int) (l : List UInt8) (w : World) (hlen : l.length = len) (hl : len ≤ 1048576) (hcap : len ≤ cap) (hr : Rd w a l) :
    Calls Try.prog 109 #[.slice a len cap, .int .i64 p] w fun e w' => e = .returned (.tuple #[.string ⟨(rGetText l p).1.toArray⟩, .int .i64 (rGetText l p).2.1, .int .i64 (rGetText l p).2.2]) ∧ w' = w := by
  by_cases h2 : p < 0 ∨ (len : Int) < p
  · have e : rGetText l p = ([], 0, 1) := by unfold rGetText; rw [if_pos (by omega)]
    rw [e]
    exact rgetText_place a len cap p w hl h2
  by_cases h3 : p = (len : Int)
  · subst h3
    have e : rGetText l len = ([], 0, 3) := by unfold rGetText; rw [if_neg (by omega), if_pos (by omega)]
    rw [e]
    exact rgetText_end a len cap w hl
  obtain ⟨q, rfl⟩ : ∃ q : Nat, p = q := ⟨p.toNat, by omega⟩
  have e : rGetText l q = if 24 < (l[q]?.getD 0).toNat ∨ l.length - (q + 1) < (l[q]?.getD 0).toNat then ([], 0, 3)
      else ((l.drop (q + 1)).take (l[q]?.getD 0).toNat, (q : Int) + 1 + ((l[q]?.getD 0).toNat : Int), 0) := by
    unfold rGetText; rw [if_neg (by omega), if_neg (by omega)]; simp
  rw [e]
  have hd : l.drop q = (l[q]?.getD 0) :: l.drop (q + 1) := drop_at (by omega)
  have hlr : (l.drop (q + 1)).length = l.length - (q + 1) := by simp
  generalize l[q]?.getD 0 = x at *
  by_cases c1 : 24 < x.toNat
  · rw [if_pos (Or.inl c1)]
    exact rgetText_long a len cap q l (l.drop (q + 1)) x w hlen hl hd c1 hr
  by_cases c2 : l.length - (q + 1) < x.toNat
  · rw [if_pos (Or.inr c2)]
    exact rgetText_short a len cap q l (l.drop (q + 1)) x w hlen hl hd (by omega) (by omega) hr
  rw [if_neg (by omega)]
  exact rgetText_ok a len cap q l ((l.drop (q + 1)).take x.toNat) ((l.drop (q + 1)).drop x.toNat) x w hlen hl hcap (by rw [List.take_append_drop]; exact hd) (by rw [List.length_take]; omega) (by omega) hr

end Go.Proofs.Ytjpcljmlkgjbgaa
