/-
  Texts of the proof of OpKinds, one behind the other.
-/
import Derived.Test.YtjpcljmlkgjbgaaRows
import Derived.Test.YtjpcljmlkgjbgaaG7OpKinds
import Derived.WalkKit
import Derived.WalkSpells
import Derived.WalkLawsBesides
import Derived.Deep.QuietTactic
import Derived.BigQuiet
import Derived.Test.YtjpcljmlkgjbgaaG5OpKinds
namespace Go.Proofs.Ytjpcljmlkgjbgaa
open Go.RowKit Go.Lib

theorem Rd.some_of {w : World} {a : Option Addr} {l : List UInt8} (h : Rd w a l) (h0 : 0 < l.length) : ∃ b off, a = some ⟨b, off, none⟩ := by
  obtain ⟨b, off, e, _⟩ := h h0
  exact ⟨b, off, e⟩

theorem Rd.part {w : World} {b off p : Nat} {l t r : List UInt8} (h : Rd w (some ⟨b, off, none⟩) l) (hd : l.drop p = t ++ r) : Rd w (some ⟨b, off + p, none⟩) t := by
  have := h.cut p t.length
  rw [hd, List.take_append_of_le_length (Nat.le_refl _), List.take_length] at this
  exact this

theorem Rd.at_ {w : World} {b off p : Nat} {l r : List UInt8} {x : UInt8} (h : Rd w (some ⟨b, off, none⟩) l) (hd : l.drop p = x :: r) : w.cell? ⟨b, off + p, none⟩ = some (.int .u8 (x.toNat : Int)) := by
  have h1 := h.part (t := [x]) (r := r) (by simpa using hd)
  obtain ⟨b', off', e, hc⟩ := h1 (by simp)
  cases e
  simpa using hc 0 (by simp)

theorem length_of_drop {l t : List UInt8} {p : Nat} (hd : l.drop p = t) (h0 : 0 < t.length) : l.length = p + t.length := by
  have := congrArg List.length hd
  simp at this
  omega

theorem num_lt8 {t : List UInt8} (h : t.length ≤ 8) : num t < 18446744073709551616 := by
  have h1 := num_lt t
  have h2 : 256 ^ t.length ≤ 256 ^ 8 := Nat.pow_le_pow_right (by omega) h
  omega

theorem num_lt7 {t : List UInt8} (h : t.length ≤ 7) : num t < 72057594037927936 := by
  have h1 := num_lt t
  have h2 : 256 ^ t.length ≤ 256 ^ 7 := Nat.pow_le_pow_right (by omega) h
  omega

set_option maxHeartbeats 400000 in
theorem get_ok (a : Option Addr) (len cap p size : Nat) (l t r : List UInt8) (w : World) (hlen : l.length = len) (hl : len ≤ 1048576) (hcap : len ≤ cap) (hs1 : 1 ≤ size) (hs7 : size ≤ 7) (hd : l.drop p = t ++ r) (ht : t.length = size) (hr : Rd w a l) :
    Calls Try.prog 68 #[.slice a len cap, .int .i64 p, .int .i64 size] w fun e w' => e = .returned (.tuple #[.int .i64 (num t : Nat), .int .i64 ((p : Int) + size), .int .i64 0]) ∧ w' = w := by
  have hp : p + size ≤ len := by have := length_of_drop hd (by simp; omega); simp at this; omega
  obtain ⟨b, off, rfl⟩ := hr.some_of (by omega)
  have hcut := hr.part hd
  have hb := num_lt7 (t := t) (by omega)
  have HL : Hid (t.length = size) := ht
  clear ht hd hlen
  go_enter Try.func68, Try.ntmps68
  go_wp2_with fail
  refine (isSize_yes _ _ (by omega) (by omega)).mono ?_
  rintro e w1 ⟨rfl, rfl⟩
  go_wp2_with fail
  refine (isPlace_yes _ _ _ _ _ (by omega) (by omega) (by omega)).mono ?_
  rintro e w1 ⟨rfl, rfl⟩
  go_wp2_with fail
  refine (number_len _ _ _ t _ HL.out (by omega) hcut).mono ?_
  rintro e w1 ⟨rfl, rfl⟩
  go_wp2
  go_ret3
  exact ⟨rfl, rfl⟩

set_option maxHeartbeats 400000 in
theorem get_size (a : Option Addr) (len cap : Nat) (p size : Int) (w : World) (h : size < 1 ∨ 7 < size) :
    Calls Try.prog 68 #[.slice a len cap, .int .i64 p, .int .i64 size] w fun e w' => e = .returned (.tuple #[.int .i64 0, .int .i64 0, .int .i64 1]) ∧ w' = w := by
  go_enter Try.func68, Try.ntmps68
  go_wp2_with fail
  refine (isSize_no _ _ h).mono ?_
  rintro e w1 ⟨rfl, rfl⟩
  go_wp2
  go_ret3
  exact ⟨rfl, rfl⟩

set_option maxHeartbeats 400000 in
theorem get_place (a : Option Addr) (len cap : Nat) (p size : Int) (w : World) (hl : len ≤ 1048576) (hs1 : 1 ≤ size) (hs7 : size ≤ 7) (h : p < 0 ∨ (len : Int) < p) :
    Calls Try.prog 68 #[.slice a len cap, .int .i64 p, .int .i64 size] w fun e w' => e = .returned (.tuple #[.int .i64 0, .int .i64 0, .int .i64 1]) ∧ w' = w := by
  go_enter Try.func68, Try.ntmps68
  go_wp2_with fail
  refine (isSize_yes _ _ hs1 hs7).mono ?_
  rintro e w1 ⟨rfl, rfl⟩
  go_wp2_with fail
  refine (isPlace_no _ _ _ _ _ (by omega) h).mono ?_
  rintro e w1 ⟨rfl, rfl⟩
  go_wp2
  go_ret3
  exact ⟨rfl, rfl⟩

set_option maxHeartbeats 400000 in
theorem get_short (a : Option Addr) (len cap : Nat) (p size : Int) (w : World) (hl : len ≤ 1048576) (hs1 : 1 ≤ size) (hs7 : size ≤ 7) (hp0 : 0 ≤ p) (hp1 : p ≤ len) (h : (len : Int) - p < size) :
    Calls Try.prog 68 #[.slice a len cap, .int .i64 p, .int .i64 size] w fun e w' => e = .returned (.tuple #[.int .i64 0, .int .i64 0, .int .i64 3]) ∧ w' = w := by
  go_enter Try.func68, Try.ntmps68
  go_wp2_with fail
  refine (isSize_yes _ _ hs1 hs7).mono ?_
  rintro e w1 ⟨rfl, rfl⟩
  go_wp2_with fail
  refine (isPlace_yes _ _ _ _ _ (by omega) hp0 hp1).mono ?_
  rintro e w1 ⟨rfl, rfl⟩
  go_wp2
  go_ret3
  exact ⟨rfl, rfl⟩

set_option maxHeartbeats 400000 in
theorem getInt_place (a : Option Addr) (len cap : Nat) (p : Int) (w : World) (hl : len ≤ 1048576) (h : p < 0 ∨ (len : Int) < p) :
    Calls Try.prog 106 #[.slice a len cap, .int .i64 p] w fun e w' => e = .returned (.tuple #[.int .i64 0, .int .i64 0, .int .i64 1]) ∧ w' = w := by
  go_enter Try.func106, Try.ntmps106
  go_wp2_with fail
  refine (isPlace_no _ _ _ _ _ (by omega) h).mono ?_
  rintro e w1 ⟨rfl, rfl⟩
  go_wp2
  go_ret3
  exact ⟨rfl, rfl⟩

set_option maxHeartbeats 400000 in
theorem getInt_short (a : Option Addr) (len cap : Nat) (p : Int) (w : World) (hl : len ≤ 1048576) (hp0 : 0 ≤ p) (hp1 : p ≤ len) (h : (len : Int) - p < 9) :
    Calls Try.prog 106 #[.slice a len cap, .int .i64 p] w fun e w' => e = .returned (.tuple #[.int .i64 0, .int .i64 0, .int .i64 3]) ∧ w' = w := by
  go_enter Try.func106, Try.ntmps106
  go_wp2_with fail
  refine (isPlace_yes _ _ _ _ _ (by omega) hp0 hp1).mono ?_
  rintro e w1 ⟨rfl, rfl⟩
  go_wp2
  go_ret3
  exact ⟨rfl, rfl⟩

set_option maxHeartbeats 400000 in
theorem getInt_pos (a : Option Addr) (len cap p : Nat) (l t r : List UInt8) (x : UInt8) (w : World) (hlen : l.length = len) (hl : len ≤ 1048576) (hcap : len ≤ cap) (hd : l.drop p = x :: (t ++ r)) (ht : t.length = 8) (hx : x.toNat = 0) (hq : num t ≤ 1152921504606846976) (hr : Rd w a l) :
    Calls Try.prog 106 #[.slice a len cap, .int .i64 p] w fun e w' => e = .returned (.tuple #[.int .i64 (num t : Nat), .int .i64 ((p : Int) + 9), .int .i64 0]) ∧ w' = w := by
  have hp : p + 9 ≤ len := by have := length_of_drop hd (by simp); simp at this; omega
  obtain ⟨b, off, rfl⟩ := hr.some_of (by omega)
  have hat := hr.at_ hd
  rw [hx] at hat
  have hcut := hr.part (p := p + 1) (t := t) (r := r) (by rw [← List.drop_drop, hd]; simp)
  have HL : Hid (t.length = 8) := ht
  clear ht hd hlen hx
  go_enter Try.func106, Try.ntmps106
  go_wp2_with fail
  refine (isPlace_yes _ _ _ _ _ (by omega) (by omega) (by omega)).mono ?_
  rintro e w1 ⟨rfl, rfl⟩
  go_wp2_with fail
  refine (number_len _ _ _ t _ HL.out (by omega) hcut).mono ?_
  rintro e w1 ⟨rfl, rfl⟩
  go_wp2
  go_ret3
  exact ⟨rfl, rfl⟩

set_option maxHeartbeats 400000 in
theorem getInt_neg (a : Option Addr) (len cap p : Nat) (l t r : List UInt8) (x : UInt8) (w : World) (hlen : l.length = len) (hl : len ≤ 1048576) (hcap : len ≤ cap) (hd : l.drop p = x :: (t ++ r)) (ht : t.length = 8) (hx : x.toNat = 1) (hq0 : 1 ≤ num t) (hq : num t ≤ 1152921504606846976) (hr : Rd w a l) :
    Calls Try.prog 106 #[.slice a len cap, .int .i64 p] w fun e w' => e = .returned (.tuple #[.int .i64 (-((num t : Nat) : Int)), .int .i64 ((p : Int) + 9), .int .i64 0]) ∧ w' = w := by
  have hp : p + 9 ≤ len := by have := length_of_drop hd (by simp); simp at this; omega
  obtain ⟨b, off, rfl⟩ := hr.some_of (by omega)
  have hat := hr.at_ hd
  rw [hx] at hat
  clear hx
  have hcut := hr.part (p := p + 1) (t := t) (r := r) (by rw [← List.drop_drop, hd]; simp)
  have hb8 := num_lt8 (t := t) (by omega)
  have HL : Hid (t.length = 8) := ht
  clear ht hd hlen
  go_enter Try.func106, Try.ntmps106
  go_wp2_with fail
  refine (isPlace_yes _ _ _ _ _ (by omega) (by omega) (by omega)).mono ?_
  rintro e w1 ⟨rfl, rfl⟩
  go_wp2_with fail
  refine (number_len _ _ _ t _ HL.out (by omega) hcut).mono ?_
  rintro e w1 ⟨rfl, rfl⟩
  have hz1 : decide (1152921504606846976 < ((num t : Nat) : Int)) = false := by simp; omega
  have hz2 : (((num t : Nat) : Int) == 0) = false := by simp; omega
  go_wp2
  go_ret3
  exact ⟨rfl, rfl⟩

set_option maxHeartbeats 400000 in
theorem getInt_sign (a : Option Addr) (len cap p : Nat) (l t r : List UInt8) (x : UInt8) (w : World) (hlen : l.length = len) (hl : len ≤ 1048576) (hcap : len ≤ cap) (hd : l.drop p = x :: (t ++ r)) (ht : t.length = 8) (hx : 1 < x.toNat) (hr : Rd w a l) :
    Calls Try.prog 106 #[.slice a len cap, .int .i64 p] w fun e w' => e = .returned (.tuple #[.int .i64 0, .int .i64 0, .int .i64 3]) ∧ w' = w := by
  have hp : p + 9 ≤ len := by have := length_of_drop hd (by simp); simp at this; omega
  obtain ⟨b, off, rfl⟩ := hr.some_of (by omega)
  have hat := hr.at_ hd
  have hx2 := x.toNat_lt
  have hcut := hr.part (p := p + 1) (t := t) (r := r) (by rw [← List.drop_drop, hd]; simp)
  have hb8 := num_lt8 (t := t) (by omega)
  have HL : Hid (t.length = 8) := ht
  clear ht hd hlen
  go_enter Try.func106, Try.ntmps106
  go_wp2_with fail
  refine (isPlace_yes _ _ _ _ _ (by omega) (by omega) (by omega)).mono ?_
  rintro e w1 ⟨rfl, rfl⟩
  go_wp2_with fail
  refine (number_len _ _ _ t _ HL.out (by omega) hcut).mono ?_
  rintro e w1 ⟨rfl, rfl⟩
  go_wp2
  go_ret3
  exact ⟨rfl, rfl⟩

set_option maxHeartbeats 400000 in
theorem getInt_over (a : Option Addr) (len cap p : Nat) (l t r : List UInt8) (x : UInt8) (w : World) (hlen : l.length = len) (hl : len ≤ 1048576) (hcap : len ≤ cap) (hd : l.drop p = x :: (t ++ r)) (ht : t.length = 8) (hq : 1152921504606846976 < num t) (hr : Rd w a l) :
    Calls Try.prog 106 #[.slice a len cap, .int .i64 p] w fun e w' => e = .returned (.tuple #[.int .i64 0, .int .i64 0, .int .i64 3]) ∧ w' = w := by
  have hp : p + 9 ≤ len := by have := length_of_drop hd (by simp); simp at this; omega
  obtain ⟨b, off, rfl⟩ := hr.some_of (by omega)
  have hat := hr.at_ hd
  have hx2 := x.toNat_lt
  have hcut := hr.part (p := p + 1) (t := t) (r := r) (by rw [← List.drop_drop, hd]; simp)
  have hb8 := num_lt8 (t := t) (by omega)
  have HL : Hid (t.length = 8) := ht
  clear ht hd hlen
  go_enter Try.func106, Try.ntmps106
  go_wp2_with fail
  refine (isPlace_yes _ _ _ _ _ (by omega) (by omega) (by omega)).mono ?_
  rintro e w1 ⟨rfl, rfl⟩
  go_wp2_with fail
  refine (number_len _ _ _ t _ HL.out (by omega) hcut).mono ?_
  rintro e w1 ⟨rfl, rfl⟩
  by_cases hx : 1 < x.toNat
  · go_wp2
    go_ret3
    exact ⟨rfl, rfl⟩
  go_wp2
  go_ret3
  exact ⟨rfl, rfl⟩

set_option maxHeartbeats 400000 in
theorem getInt_nought (a : Option Addr) (len cap p : Nat) (l t r : List UInt8) (x : UInt8) (w : World) (hlen : l.length = len) (hl : len ≤ 1048576) (hcap : len ≤ cap) (hd : l.drop p = x :: (t ++ r)) (ht : t.length = 8) (hx : x.toNat = 1) (hq : num t = 0) (hr : Rd w a l) :
    Calls Try.prog 106 #[.slice a len cap, .int .i64 p] w fun e w' => e = .returned (.tuple #[.int .i64 0, .int .i64 0, .int .i64 3]) ∧ w' = w := by
  have hp : p + 9 ≤ len := by have := length_of_drop hd (by simp); simp at this; omega
  obtain ⟨b, off, rfl⟩ := hr.some_of (by omega)
  have hat := hr.at_ hd
  rw [hx] at hat
  clear hx
  have hcut := hr.part (p := p + 1) (t := t) (r := r) (by rw [← List.drop_drop, hd]; simp)
  have hb8 := num_lt8 (t := t) (by omega)
  have HL : Hid (t.length = 8) := ht
  clear ht hd hlen
  go_enter Try.func106, Try.ntmps106
  go_wp2_with fail
  refine (isPlace_yes _ _ _ _ _ (by omega) (by omega) (by omega)).mono ?_
  rintro e w1 ⟨rfl, rfl⟩
  go_wp2_with fail
  refine (number_len _ _ _ t _ HL.out (by omega) hcut).mono ?_
  rintro e w1 ⟨rfl, rfl⟩
  rw [hq]
  go_wp2
  go_ret3
  exact ⟨rfl, rfl⟩

set_option maxHeartbeats 400000 in
theorem getText_place (a : Option Addr) (len cap : Nat) (p : Int) (w : World) (hl : len ≤ 1048576) (h : p < 0 ∨ (len : Int) < p) :
    Calls Try.prog 67 #[.slice a len cap, .int .i64 p] w fun e w' => e = .returned (.tuple #[.string ByteArray.empty, .int .i64 0, .int .i64 1]) ∧ w' = w := by
  go_enter Try.func67, Try.ntmps67
  go_wp2_with fail
  refine (isPlace_no _ _ _ _ _ (by omega) h).mono ?_
  rintro e w1 ⟨rfl, rfl⟩
  go_wp2
  go_ret3
  exact ⟨rfl, rfl⟩

set_option maxHeartbeats 400000 in
theorem getText_end (a : Option Addr) (len cap : Nat) (w : World) (hl : len ≤ 1048576) :
    Calls Try.prog 67 #[.slice a len cap, .int .i64 len] w fun e w' => e = .returned (.tuple #[.string ByteArray.empty, .int .i64 0, .int .i64 3]) ∧ w' = w := by
  go_enter Try.func67, Try.ntmps67
  go_wp2_with fail
  refine (isPlace_yes _ _ _ _ _ (by omega) (by omega) (by omega)).mono ?_
  rintro e w1 ⟨rfl, rfl⟩
  go_wp2
  go_ret3
  exact ⟨rfl, rfl⟩

theorem strOf_bytes (t : List UInt8) : strOfNums (t.map fun x => (x.toNat : Int)) = ⟨t.toArray⟩ := by
  simp [strOfNums, Function.comp_def]

/-- string(b): the bytes that are read there. -/
theorem run_convert_rd {P : Program} {w : World} {src dst b off n cap : Nat} {t : List UInt8} (hs : P.underlying src = some (.slice 5)) (he : P.underlying 5 = some (.int .u8)) (hd : P.underlying dst = some .string)
    (hn : t.length = n) (hr : Rd w (some ⟨b, off, none⟩) t) : (convert src dst (.slice (some ⟨b, off, none⟩) n cap)).run P w = .ok (.string ⟨t.toArray⟩) w := by
  subst hn
  rw [← strOf_bytes]
  refine run_convert_bytes_arg w src 5 hs he b off t.length cap (t.map fun x => (x.toNat : Int)) (by simp) (fun i hi => ?_) dst hd
  obtain ⟨b', off', e, hc⟩ := hr (by omega)
  cases e
  rw [hc i hi]
  simp [List.getElem?_eq_getElem hi]

theorem drawn_below (w : World) (k : Nat) : Below w.heap.size w (w.drewN k) := below_drewN (Below.refl _ _) k

set_option maxHeartbeats 400000 in
theorem getText_long (a : Option Addr) (len cap p : Nat) (l r : List UInt8) (x : UInt8) (w : World) (hlen : l.length = len) (hl : len ≤ 1048576) (_hcap : len ≤ cap) (hd : l.drop p = x :: r) (h : 24 < x.toNat) (hr : Rd w a l) :
    Calls Try.prog 67 #[.slice a len cap, .int .i64 p] w fun e w' => e = .returned (.tuple #[.string ByteArray.empty, .int .i64 0, .int .i64 3]) ∧ Below w.heap.size w w' := by
  have hp : p + (r.length + 1) = len := by have := length_of_drop hd (by simp); simp at this; omega
  obtain ⟨b, off, rfl⟩ := hr.some_of (by omega)
  have hat := hr.at_ hd
  have hx2 := x.toNat_lt
  have hp1 : p < len := by omega
  clear hd hlen hp
  go_enter Try.func67, Try.ntmps67
  go_wp2_with fail
  refine (isPlace_yes _ _ _ _ _ (by omega) (by omega) (by omega)).mono ?_
  rintro e w1 ⟨rfl, rfl⟩
  go_wp2_with fail
  go_quiet (fail)
  go_wp2
  go_ret3
  exact ⟨rfl, drawn_below _ _⟩

set_option maxHeartbeats 400000 in
theorem getText_short (a : Option Addr) (len cap p : Nat) (l r : List UInt8) (x : UInt8) (w : World) (hlen : l.length = len) (hl : len ≤ 1048576) (_hcap : len ≤ cap) (hd : l.drop p = x :: r) (h0 : x.toNat ≤ 24) (h : r.length < x.toNat) (hr : Rd w a l) :
    Calls Try.prog 67 #[.slice a len cap, .int .i64 p] w fun e w' => e = .returned (.tuple #[.string ByteArray.empty, .int .i64 0, .int .i64 3]) ∧ Below w.heap.size w w' := by
  have hp : p + (r.length + 1) = len := by have := length_of_drop hd (by simp); simp at this; omega
  obtain ⟨b, off, rfl⟩ := hr.some_of (by omega)
  have hat := hr.at_ hd
  have hx2 := x.toNat_lt
  have hp1 : p < len := by omega
  have h' : len - (p + 1) < x.toNat := by omega
  clear hd hlen hp h
  go_enter Try.func67, Try.ntmps67
  go_wp2_with fail
  refine (isPlace_yes _ _ _ _ _ (by omega) (by omega) (by omega)).mono ?_
  rintro e w1 ⟨rfl, rfl⟩
  go_wp2_with fail
  go_quiet (fail)
  go_wp2
  go_ret3
  exact ⟨rfl, drawn_below _ _⟩

set_option maxHeartbeats 400000 in
theorem getText_ok (a : Option Addr) (len cap p : Nat) (l t r : List UInt8) (x : UInt8) (w : World) (hlen : l.length = len) (hl : len ≤ 1048576) (hcap : len ≤ cap) (hd : l.drop p = x :: (t ++ r)) (ht : t.length = x.toNat) (h0 : x.toNat ≤ 24) (hr : Rd w a l) :
    Calls Try.prog 67 #[.slice a len cap, .int .i64 p] w fun e w' => e = .returned (.tuple #[.string ⟨t.toArray⟩, .int .i64 ((p : Int) + 1 + x.toNat), .int .i64 0]) ∧ Below w.heap.size w w' := by
  have hp : p + ((t ++ r).length + 1) = len := by have := length_of_drop hd (by simp); simp at this; simp; omega
  simp at hp
  obtain ⟨b, off, rfl⟩ := hr.some_of (by omega)
  have hat := hr.at_ hd
  have hx2 := x.toNat_lt
  have hp1 : p < len := by omega
  have hcut := hr.part (p := p + 1) (t := t) (r := r) (by rw [← List.drop_drop, hd]; simp)
  have hq : p + 1 + x.toNat ≤ len := by omega
  have hcv : ∀ nq c, (convert 22 9 (.slice (some ⟨b, off + (p + 1), none⟩) x.toNat c)).run Try.prog (w.drewN nq) = .ok (.string ⟨t.toArray⟩) (w.drewN nq) := fun nq c => run_convert_rd Try.underlying22 Try.underlying5 Try.underlying9 ht (hcut.later (drawn_below w nq))
  have hcv0 : x.toNat = 0 → ∀ nq c, (convert 22 9 (.slice (some ⟨b, off, none⟩) x.toNat c)).run Try.prog (w.drewN nq) = .ok (.string ⟨t.toArray⟩) (w.drewN nq) := fun hz nq c => run_convert_rd Try.underlying22 Try.underlying5 Try.underlying9 ht (by rw [List.eq_nil_of_length_eq_zero (ht.trans hz)]; exact Rd.nil _ _)
  have hcc : p + 1 < cap ∨ p + 1 = cap := by omega
  clear hd hlen hp ht hcut hr
  rcases hcc with hcc | hcc
  · clear hcv0
    go_enter Try.func67, Try.ntmps67
    go_wp2_with fail
    refine (isPlace_yes _ _ _ _ _ (by omega) (by omega) (by omega)).mono ?_
    rintro e w1 ⟨rfl, rfl⟩
    go_wp2_with fail
    go_quiet (fail)
    go_wp2
    go_ret3
    exact ⟨rfl, drawn_below _ _⟩
  · have hcv1 := hcv0 (by omega)
    clear hcv0 hcv
    have hge : cap ≤ p + 1 := by omega
    clear hcc
    go_enter Try.func67, Try.ntmps67
    go_wp2_with fail
    refine (isPlace_yes _ _ _ _ _ (by omega) (by omega) (by omega)).mono ?_
    rintro e w1 ⟨rfl, rfl⟩
    go_wp2_with fail
    go_quiet (fail)
    go_wp2
    go_ret3
    exact ⟨rfl, drawn_below _ _⟩

end Go.Proofs.Ytjpcljmlkgjbgaa

namespace Go.Proofs.Ytjpcljmlkgjbgaa
open Go.RowKit Go.Lib

/-- What PutInt writes of n. -/
def intBytes (n : Int) : List UInt8 := (if n < 0 then 1 else 0) :: be n.natAbs 8
/-- What PutText writes of a text. -/
def textBytes (t : List UInt8) : List UInt8 := UInt8.ofNat t.length :: t

theorem intBytes_length (n : Int) : (intBytes n).length = 9 := by simp [intBytes, be_length]
theorem textBytes_length (t : List UInt8) : (textBytes t).length = 1 + t.length := by simp [textBytes]; omega

theorem put_len (a : Option Addr) (len cap n size : Nat) (l : List UInt8) (w : World) (hlen : l.length = len) (hl : len ≤ 1048576) (hs1 : 1 ≤ size) (hs7 : size ≤ 7) (hn : n < 256 ^ size) (hr : Rd w a l) :
    Calls Try.prog 62 #[.slice a len cap, .int .i64 n, .int .i64 size] w fun e w' => ∃ g, e = .returned (.tuple #[.slice (some ⟨g, 0, none⟩) (len + size) (len + size), .int .i64 0]) ∧ w.heap.size ≤ g ∧ Row w' g (l ++ be n size) ∧ Below w.heap.size w w' := by
  subst hlen
  exact put_ok a cap n size l w hl hs1 hs7 hn hr

theorem putInt_len (a : Option Addr) (len cap : Nat) (n : Int) (l : List UInt8) (w : World) (hlen : l.length = len) (hl : len ≤ 1048576) (hn1 : -1152921504606846976 ≤ n) (hn2 : n ≤ 1152921504606846976) (hr : Rd w a l) :
    Calls Try.prog 101 #[.slice a len cap, .int .i64 n] w fun e w' => ∃ g, e = .returned (.tuple #[.slice (some ⟨g, 0, none⟩) (len + 9) (len + 9), .int .i64 0]) ∧ w.heap.size ≤ g ∧ Row w' g (l ++ intBytes n) ∧ Below w.heap.size w w' := by
  subst hlen
  by_cases h : n < 0
  · obtain ⟨m, rfl⟩ : ∃ m : Nat, n = -(m : Int) := ⟨n.natAbs, by omega⟩
    refine (putInt_neg a cap m l w hl (by omega) (by omega) hr).mono ?_
    rintro e w' ⟨g, he, hg, hrow, hb⟩
    refine ⟨g, he, hg, ?_, hb⟩
    simp only [intBytes, if_pos h, Int.natAbs_neg, Int.natAbs_natCast]
    simpa using hrow
  · obtain ⟨m, rfl⟩ : ∃ m : Nat, n = (m : Int) := ⟨n.natAbs, by omega⟩
    refine (putInt_pos a cap m l w hl (by omega) hr).mono ?_
    rintro e w' ⟨g, he, hg, hrow, hb⟩
    refine ⟨g, he, hg, ?_, hb⟩
    simp only [intBytes, if_neg h, Int.natAbs_natCast]
    simpa using hrow

theorem putText_len (a : Option Addr) (len cap : Nat) (s : ByteArray) (l : List UInt8) (w : World) (hlen : l.length = len) (hl : len ≤ 1048576) (hs : s.size ≤ 24) (hr : Rd w a l) :
    Calls Try.prog 79 #[.slice a len cap, .string s] w fun e w' => ∃ g, e = .returned (.tuple #[.slice (some ⟨g, 0, none⟩) (len + (1 + s.size)) (len + (1 + s.size)), .int .i64 0]) ∧ w.heap.size ≤ g ∧ Row w' g (l ++ textBytes s.data.toList) ∧ Below w.heap.size w w' := by
  subst hlen
  rcases Nat.eq_zero_or_pos s.size with h0 | h0
  · obtain rfl : s = ByteArray.empty := by
      cases s with
      | mk d => simp [ByteArray.size] at h0; subst h0; rfl
    refine (putText_empty a cap l w hl hr).mono ?_
    rintro e w' ⟨g, he, hg, hrow, hb⟩
    exact ⟨g, he, hg, hrow, hb⟩
  · refine (putText_some a cap s l w hl h0 hs hr).mono ?_
    rintro e w' ⟨g, he, hg, hrow, hb⟩
    refine ⟨g, he, hg, ?_, hb⟩
    simpa [textBytes] using hrow

theorem get_back (a : Option Addr) (len cap p n size : Nat) (l r : List UInt8) (w : World) (hlen : l.length = len) (hl : len ≤ 1048576) (hcap : len ≤ cap) (hs1 : 1 ≤ size) (hs7 : size ≤ 7) (hn : n < 256 ^ size) (hd : l.drop p = be n size ++ r) (hr : Rd w a l) :
    Calls Try.prog 68 #[.slice a len cap, .int .i64 p, .int .i64 size] w fun e w' => e = .returned (.tuple #[.int .i64 n, .int .i64 ((p : Int) + size), .int .i64 0]) ∧ w' = w := by
  have := get_ok a len cap p size l (be n size) r w hlen hl hcap hs1 hs7 hd (be_length _ _) hr
  rw [num_be_of_lt hn] at this
  exact this

theorem pow8 : 256 ^ 8 = 18446744073709551616 := by decide

theorem getInt_back (a : Option Addr) (len cap p : Nat) (n : Int) (l r : List UInt8) (w : World) (hlen : l.length = len) (hl : len ≤ 1048576) (hcap : len ≤ cap) (hn1 : -1152921504606846976 ≤ n) (hn2 : n ≤ 1152921504606846976) (hd : l.drop p = intBytes n ++ r) (hr : Rd w a l) :
    Calls Try.prog 106 #[.slice a len cap, .int .i64 p] w fun e w' => e = .returned (.tuple #[.int .i64 n, .int .i64 ((p : Int) + 9), .int .i64 0]) ∧ w' = w := by
  have hb : n.natAbs < 256 ^ 8 := by rw [pow8]; omega
  have hq := num_be_of_lt hb
  by_cases h : n < 0
  · have hx := getInt_neg a len cap p l (be n.natAbs 8) r 1 w hlen hl hcap (by rw [hd]; simp [intBytes, h]) (be_length _ _) rfl (by rw [hq]; omega) (by rw [hq]; omega) hr
    rw [hq, show -((n.natAbs : Nat) : Int) = n from by omega] at hx
    exact hx
  · have hx := getInt_pos a len cap p l (be n.natAbs 8) r 0 w hlen hl hcap (by rw [hd]; simp [intBytes, h]) (be_length _ _) rfl (by rw [hq]; omega) hr
    rw [hq, show ((n.natAbs : Nat) : Int) = n from by omega] at hx
    exact hx

theorem ofNat_small {n : Nat} (h : n ≤ 24) : (UInt8.ofNat n).toNat = n := by simp [UInt8.toNat_ofNat']; omega

theorem getText_back (a : Option Addr) (len cap p : Nat) (l t r : List UInt8) (w : World) (hlen : l.length = len) (hl : len ≤ 1048576) (hcap : len ≤ cap) (ht : t.length ≤ 24) (hd : l.drop p = textBytes t ++ r) (hr : Rd w a l) :
    Calls Try.prog 67 #[.slice a len cap, .int .i64 p] w fun e w' => e = .returned (.tuple #[.string ⟨t.toArray⟩, .int .i64 ((p : Int) + 1 + t.length), .int .i64 0]) ∧ Below w.heap.size w w' := by
  have h := getText_ok a len cap p l t r (UInt8.ofNat t.length) w hlen hl hcap (by rw [hd]; simp [textBytes]) (ofNat_small ht).symm (by rw [ofNat_small ht]; exact ht) hr
  rw [ofNat_small ht] at h
  exact h

end Go.Proofs.Ytjpcljmlkgjbgaa

namespace Go.Proofs.Ytjpcljmlkgjbgaa
open Go.RowKit Go.Lib

/-- Get: the number, the place behind it, the error's number. -/
def rGet (l : List UInt8) (p size : Int) : Int × Int × Int :=
  if size < 1 ∨ 7 < size ∨ p < 0 ∨ (l.length : Int) < p then (0, 0, 1)
  else if (l.length : Int) - p < size then (0, 0, 3)
  else ((num ((l.drop p.toNat).take size.toNat) : Nat), p + size, 0)

/-- What nine bytes are, as GetInt reads them: a sign's byte, and a size. -/
def rSign (x q : Nat) : Option Int := if 1 < x ∨ 1152921504606846976 < q ∨ (x = 1 ∧ q = 0) then none else some (if x = 1 then -(q : Int) else q)

def rGetInt (l : List UInt8) (p : Int) : Int × Int × Int :=
  if p < 0 ∨ (l.length : Int) < p then (0, 0, 1)
  else if (l.length : Int) - p < 9 then (0, 0, 3)
  else match rSign (l[p.toNat]?.getD 0).toNat (num ((l.drop (p.toNat + 1)).take 8)) with
    | none => (0, 0, 3)
    | some v => (v, p + 9, 0)

def rGetText (l : List UInt8) (p : Int) : List UInt8 × Int × Int :=
  if p < 0 ∨ (l.length : Int) < p then ([], 0, 1)
  else if p = (l.length : Int) then ([], 0, 3)
  else if 24 < (l[p.toNat]?.getD 0).toNat ∨ l.length - (p.toNat + 1) < (l[p.toNat]?.getD 0).toNat then ([], 0, 3)
  else ((l.drop (p.toNat + 1)).take (l[p.toNat]?.getD 0).toNat, p + 1 + ((l[p.toNat]?.getD 0).toNat : Int), 0)

theorem drop_at {l : List UInt8} {p : Nat} (h : p < l.length) : l.drop p = (l[p]?.getD 0) :: l.drop (p + 1) := by
  rw [List.drop_eq_getElem_cons h]
  simp [List.getElem?_eq_getElem h]

theorem get_any (a : Option Addr) (len cap : Nat) (p size : Int) (l : List UInt8) (w : World) (hlen : l.length = len) (hl : len ≤ 1048576) (hcap : len ≤ cap) (hr : Rd w a l) :
    Calls Try.prog 68 #[.slice a len cap, .int .i64 p, .int .i64 size] w fun e w' => e = .returned (.tuple #[.int .i64 (rGet l p size).1, .int .i64 (rGet l p size).2.1, .int .i64 (rGet l p size).2.2]) ∧ w' = w := by
  by_cases h1 : size < 1 ∨ 7 < size
  · have e : rGet l p size = (0, 0, 1) := by unfold rGet; rw [if_pos (by omega)]
    rw [e]; exact get_size a len cap p size w h1
  by_cases h2 : p < 0 ∨ (len : Int) < p
  · have e : rGet l p size = (0, 0, 1) := by unfold rGet; rw [if_pos (by omega)]
    rw [e]; exact get_place a len cap p size w hl (by omega) (by omega) h2
  by_cases h3 : (len : Int) - p < size
  · have e : rGet l p size = (0, 0, 3) := by unfold rGet; rw [if_neg (by omega), if_pos (by omega)]
    rw [e]; exact get_short a len cap p size w hl (by omega) (by omega) (by omega) (by omega) h3
  obtain ⟨q, rfl⟩ : ∃ q : Nat, p = q := ⟨p.toNat, by omega⟩
  obtain ⟨s, rfl⟩ : ∃ s : Nat, size = s := ⟨size.toNat, by omega⟩
  have e : rGet l q s = (((num ((l.drop q).take s) : Nat) : Int), (q : Int) + s, 0) := by unfold rGet; rw [if_neg (by omega), if_neg (by omega)]; simp
  rw [e]
  exact get_ok a len cap q s l ((l.drop q).take s) ((l.drop q).drop s) w hlen hl hcap (by omega) (by omega) (List.take_append_drop s (l.drop q)).symm (by simp; omega) hr

theorem getInt_any (a : Option Addr) (len cap : Nat) (p : Int) (l : List UInt8) (w : World) (hlen : l.length = len) (hl : len ≤ 1048576) (hcap : len ≤ cap) (hr : Rd w a l) :
    Calls Try.prog 106 #[.slice a len cap, .int .i64 p] w fun e w' => e = .returned (.tuple #[.int .i64 (rGetInt l p).1, .int .i64 (rGetInt l p).2.1, .int .i64 (rGetInt l p).2.2]) ∧ w' = w := by
  by_cases h2 : p < 0 ∨ (len : Int) < p
  · have e : rGetInt l p = (0, 0, 1) := by unfold rGetInt; rw [if_pos (by omega)]
    rw [e]; exact getInt_place a len cap p w hl h2
  by_cases h3 : (len : Int) - p < 9
  · have e : rGetInt l p = (0, 0, 3) := by unfold rGetInt; rw [if_neg (by omega), if_pos (by omega)]
    rw [e]; exact getInt_short a len cap p w hl (by omega) (by omega) h3
  obtain ⟨q, rfl⟩ : ∃ q : Nat, p = q := ⟨p.toNat, by omega⟩
  have e : rGetInt l q = match rSign (l[q]?.getD 0).toNat (num ((l.drop (q + 1)).take 8)) with
    | none => (0, 0, 3)
    | some v => (v, (q : Int) + 9, 0) := by unfold rGetInt; rw [if_neg (by omega), if_neg (by omega)]; simp
  rw [e]
  have hd : l.drop q = (l[q]?.getD 0) :: ((l.drop (q + 1)).take 8 ++ (l.drop (q + 1)).drop 8) := by rw [List.take_append_drop]; exact drop_at (by omega)
  have ht : ((l.drop (q + 1)).take 8).length = 8 := by simp; omega
  generalize (l.drop (q + 1)).take 8 = t at *
  generalize (l.drop (q + 1)).drop 8 = r at *
  generalize l[q]?.getD 0 = x at *
  by_cases c1 : 1 < x.toNat
  · have : rSign x.toNat (num t) = none := by unfold rSign; rw [if_pos (by omega)]
    rw [this]; exact getInt_sign a len cap q l t r x w hlen hl hcap hd ht c1 hr
  by_cases c2 : 1152921504606846976 < num t
  · have : rSign x.toNat (num t) = none := by unfold rSign; rw [if_pos (by omega)]
    rw [this]; exact getInt_over a len cap q l t r x w hlen hl hcap hd ht c2 hr
  by_cases c3 : x.toNat = 1
  · by_cases c4 : num t = 0
    · have : rSign x.toNat (num t) = none := by unfold rSign; rw [if_pos (by omega)]
      rw [this]; exact getInt_nought a len cap q l t r x w hlen hl hcap hd ht c3 c4 hr
    · have : rSign x.toNat (num t) = some (-((num t : Nat) : Int)) := by unfold rSign; rw [if_neg (by omega), if_pos c3]
      rw [this]; exact getInt_neg a len cap q l t r x w hlen hl hcap hd ht c3 (by omega) (by omega) hr
  · have : rSign x.toNat (num t) = some ((num t : Nat) : Int) := by unfold rSign; rw [if_neg (by omega), if_neg c3]
    rw [this]; exact getInt_pos a len cap q l t r x w hlen hl hcap hd ht (by omega) (by omega) hr

theorem getText_any (a : Option Addr) (len cap : Nat) (p : Int) (l : List UInt8) (w : World) (hlen : l.length = len) (hl : len ≤ 1048576) (hcap : len ≤ cap) (hr : Rd w a l) :
    Calls Try.prog 67 #[.slice a len cap, .int .i64 p] w fun e w' => e = .returned (.tuple #[.string ⟨(rGetText l p).1.toArray⟩, .int .i64 (rGetText l p).2.1, .int .i64 (rGetText l p).2.2]) ∧ Below w.heap.size w w' := by
  by_cases h2 : p < 0 ∨ (len : Int) < p
  · have e : rGetText l p = ([], 0, 1) := by unfold rGetText; rw [if_pos (by omega)]
    rw [e]
    refine (getText_place a len cap p w hl h2).mono ?_
    rintro e w' ⟨rfl, rfl⟩
    exact ⟨rfl, Below.refl _ _⟩
  by_cases h3 : p = (len : Int)
  · subst h3
    have e : rGetText l len = ([], 0, 3) := by unfold rGetText; rw [if_neg (by omega), if_pos (by omega)]
    rw [e]
    refine (getText_end a len cap w hl).mono ?_
    rintro e w' ⟨rfl, rfl⟩
    exact ⟨rfl, Below.refl _ _⟩
  obtain ⟨q, rfl⟩ : ∃ q : Nat, p = q := ⟨p.toNat, by omega⟩
  have e : rGetText l q = if 24 < (l[q]?.getD 0).toNat ∨ l.length - (q + 1) < (l[q]?.getD 0).toNat then ([], 0, 3)
      else ((l.drop (q + 1)).take (l[q]?.getD 0).toNat, (q : Int) + 1 + ((l[q]?.getD 0).toNat : Int), 0) := by
    unfold rGetText; rw [if_neg (by omega), if_neg (by omega)]; simp
  rw [e]
  have hd : l.drop q = (l[q]?.getD 0) :: l.drop (q + 1) := drop_at (by omega)
  have hlr : (l.drop (q + 1)).length = l.length - (q + 1) := by simp
  generalize l[q]?.getD 0 = x at *
  by_cases c1 : 24 < x.toNat
  · rw [if_pos (Or.inl c1)]
    exact getText_long a len cap q l (l.drop (q + 1)) x w hlen hl hcap hd c1 hr
  by_cases c2 : l.length - (q + 1) < x.toNat
  · rw [if_pos (Or.inr c2)]
    exact getText_short a len cap q l (l.drop (q + 1)) x w hlen hl hcap hd (by omega) (by omega) hr
  rw [if_neg (by omega)]
  exact getText_ok a len cap q l ((l.drop (q + 1)).take x.toNat) ((l.drop (q + 1)).drop x.toNat) x w hlen hl hcap (by rw [List.take_append_drop]; exact hd) (by rw [List.length_take]; omega) (by omega) hr

end Go.Proofs.Ytjpcljmlkgjbgaa
