/-
  What wire's Get, GetInt and GetText do.
-/
import Derived.Test.YthmclopndmcojaaRows
import Derived.Test.YthmclopndmcojaaNumber
import Derived.WalkKit
import Derived.WalkSpells
import Derived.WalkLawsBesides
import Derived.Deep.QuietTactic
import Derived.BigQuiet
namespace Go.Proofs.Ythmclopndmcojaa
open Go.RowKit Go.Lib

theorem Rd.some_of {w : World} {a : Option Addr} {l : List UInt8} (h : Rd w a l) (h0 : 0 < l.length) : ∃ b off, a = some ⟨b, off, none⟩ := by
  obtain ⟨b, off, e, _⟩ := h h0
  exact ⟨b, off, e⟩

theorem Rd.part {w : World} {b off p : Nat} {l t r : List UInt8} (h : Rd w (some ⟨b, off, none⟩) l) (hd : l.drop p = t ++ r) : Rd w (some ⟨b, off + p, none⟩) t := by
  have := h.cut p t.length
  rw [hd, List.take_append_of_le_length (Nat.le_refl _), List.take_length] at this
  exact this

theorem Rd.at_ {w : World} {b off p : Nat} {l r : List UInt8} {x : UInt8} (h : Rd w (some ⟨b, off, none⟩) l) (hd : l.drop p = x :: r) : w.cell? ⟨b, off + p, none⟩ = some (.int .u8 (x.toNat : Int)) := by
  have h1 := h.part (t := [x]) (r := r) (by simpa using hd)
  obtain ⟨b', off', e, hc⟩ := h1 (by simp)
  cases e
  simpa using hc 0 (by simp)

theorem length_of_drop {l t : List UInt8} {p : Nat} (hd : l.drop p = t) (h0 : 0 < t.length) : l.length = p + t.length := by
  have := congrArg List.length hd
  simp at this
  omega

theorem num_lt8 {t : List UInt8} (h : t.length ≤ 8) : num t < 18446744073709551616 := by
  have h1 := num_lt t
  have h2 : 256 ^ t.length ≤ 256 ^ 8 := Nat.pow_le_pow_right (by omega) h
  omega

theorem num_lt7 {t : List UInt8} (h : t.length ≤ 7) : num t < 72057594037927936 := by
  have h1 := num_lt t
  have h2 : 256 ^ t.length ≤ 256 ^ 7 := Nat.pow_le_pow_right (by omega) h
  omega

set_option maxHeartbeats 400000 in
theorem get_ok (a : Option Addr) (len cap p size : Nat) (l t r : List UInt8) (w : World) (hlen : l.length = len) (hl : len ≤ 1048576) (hcap : len ≤ cap) (hs1 : 1 ≤ size) (hs7 : size ≤ 7) (hd : l.drop p = t ++ r) (ht : t.length = size) (hr : Rd w a l) :
    Calls Try.prog 43 #[.slice a len cap, .int .i64 p, .int .i64 size] w fun e w' => e = .returned (.tuple #[.int .i64 (num t : Nat), .int .i64 ((p : Int) + size), .int .i64 0]) ∧ w' = w := by
  have hp : p + size ≤ len := by have := length_of_drop hd (by simp; omega); simp at this; omega
  obtain ⟨b, off, rfl⟩ := hr.some_of (by omega)
  have hcut := hr.part hd
  have hb := num_lt7 (t := t) (by omega)
  have HL : Hid (t.length = size) := ht
  clear ht hd hlen
  go_enter Try.func43, Try.ntmps43
  go_wp2_with fail
  refine (isSize_yes _ _ (by omega) (by omega)).mono ?_
  rintro e w1 ⟨rfl, rfl⟩
  go_wp2_with fail
  refine (isPlace_yes _ _ _ _ _ (by omega) (by omega) (by omega)).mono ?_
  rintro e w1 ⟨rfl, rfl⟩
  go_wp2_with fail
  refine (number_len _ _ _ t _ HL.out (by omega) hcut).mono ?_
  rintro e w1 ⟨rfl, rfl⟩
  go_wp2
  go_ret3
  exact ⟨rfl, rfl⟩

set_option maxHeartbeats 400000 in
theorem get_size (a : Option Addr) (len cap : Nat) (p size : Int) (w : World) (h : size < 1 ∨ 7 < size) :
    Calls Try.prog 43 #[.slice a len cap, .int .i64 p, .int .i64 size] w fun e w' => e = .returned (.tuple #[.int .i64 0, .int .i64 0, .int .i64 1]) ∧ w' = w := by
  go_enter Try.func43, Try.ntmps43
  go_wp2_with fail
  refine (isSize_no _ _ h).mono ?_
  rintro e w1 ⟨rfl, rfl⟩
  go_wp2
  go_ret3
  exact ⟨rfl, rfl⟩

set_option maxHeartbeats 400000 in
theorem get_place (a : Option Addr) (len cap : Nat) (p size : Int) (w : World) (hl : len ≤ 1048576) (hs1 : 1 ≤ size) (hs7 : size ≤ 7) (h : p < 0 ∨ (len : Int) < p) :
    Calls Try.prog 43 #[.slice a len cap, .int .i64 p, .int .i64 size] w fun e w' => e = .returned (.tuple #[.int .i64 0, .int .i64 0, .int .i64 1]) ∧ w' = w := by
  go_enter Try.func43, Try.ntmps43
  go_wp2_with fail
  refine (isSize_yes _ _ hs1 hs7).mono ?_
  rintro e w1 ⟨rfl, rfl⟩
  go_wp2_with fail
  refine (isPlace_no _ _ _ _ _ (by omega) h).mono ?_
  rintro e w1 ⟨rfl, rfl⟩
  go_wp2
  go_ret3
  exact ⟨rfl, rfl⟩

set_option maxHeartbeats 400000 in
theorem get_short (a : Option Addr) (len cap : Nat) (p size : Int) (w : World) (hl : len ≤ 1048576) (hs1 : 1 ≤ size) (hs7 : size ≤ 7) (hp0 : 0 ≤ p) (hp1 : p ≤ len) (h : (len : Int) - p < size) :
    Calls Try.prog 43 #[.slice a len cap, .int .i64 p, .int .i64 size] w fun e w' => e = .returned (.tuple #[.int .i64 0, .int .i64 0, .int .i64 3]) ∧ w' = w := by
  go_enter Try.func43, Try.ntmps43
  go_wp2_with fail
  refine (isSize_yes _ _ hs1 hs7).mono ?_
  rintro e w1 ⟨rfl, rfl⟩
  go_wp2_with fail
  refine (isPlace_yes _ _ _ _ _ (by omega) hp0 hp1).mono ?_
  rintro e w1 ⟨rfl, rfl⟩
  go_wp2
  go_ret3
  exact ⟨rfl, rfl⟩

set_option maxHeartbeats 400000 in
theorem getInt_place (a : Option Addr) (len cap : Nat) (p : Int) (w : World) (hl : len ≤ 1048576) (h : p < 0 ∨ (len : Int) < p) :
    Calls Try.prog 59 #[.slice a len cap, .int .i64 p] w fun e w' => e = .returned (.tuple #[.int .i64 0, .int .i64 0, .int .i64 1]) ∧ w' = w := by
  go_enter Try.func59, Try.ntmps59
  go_wp2_with fail
  refine (isPlace_no _ _ _ _ _ (by omega) h).mono ?_
  rintro e w1 ⟨rfl, rfl⟩
  go_wp2
  go_ret3
  exact ⟨rfl, rfl⟩

set_option maxHeartbeats 400000 in
theorem getInt_short (a : Option Addr) (len cap : Nat) (p : Int) (w : World) (hl : len ≤ 1048576) (hp0 : 0 ≤ p) (hp1 : p ≤ len) (h : (len : Int) - p < 9) :
    Calls Try.prog 59 #[.slice a len cap, .int .i64 p] w fun e w' => e = .returned (.tuple #[.int .i64 0, .int .i64 0, .int .i64 3]) ∧ w' = w := by
  go_enter Try.func59, Try.ntmps59
  go_wp2_with fail
  refine (isPlace_yes _ _ _ _ _ (by omega) hp0 hp1).mono ?_
  rintro e w1 ⟨rfl, rfl⟩
  go_wp2
  go_ret3
  exact ⟨rfl, rfl⟩

set_option maxHeartbeats 400000 in
theorem getInt_pos (a : Option Addr) (len cap p : Nat) (l t r : List UInt8) (x : UInt8) (w : World) (hlen : l.length = len) (hl : len ≤ 1048576) (hcap : len ≤ cap) (hd : l.drop p = x :: (t ++ r)) (ht : t.length = 8) (hx : x.toNat = 0) (hq : num t ≤ 1152921504606846976) (hr : Rd w a l) :
    Calls Try.prog 59 #[.slice a len cap, .int .i64 p] w fun e w' => e = .returned (.tuple #[.int .i64 (num t : Nat), .int .i64 ((p : Int) + 9), .int .i64 0]) ∧ w' = w := by
  have hp : p + 9 ≤ len := by have := length_of_drop hd (by simp); simp at this; omega
  obtain ⟨b, off, rfl⟩ := hr.some_of (by omega)
  have hat := hr.at_ hd
  rw [hx] at hat
  have hcut := hr.part (p := p + 1) (t := t) (r := r) (by rw [← List.drop_drop, hd]; simp)
  have HL : Hid (t.length = 8) := ht
  clear ht hd hlen hx
  go_enter Try.func59, Try.ntmps59
  go_wp2_with fail
  refine (isPlace_yes _ _ _ _ _ (by omega) (by omega) (by omega)).mono ?_
  rintro e w1 ⟨rfl, rfl⟩
  go_wp2_with fail
  refine (number_len _ _ _ t _ HL.out (by omega) hcut).mono ?_
  rintro e w1 ⟨rfl, rfl⟩
  go_wp2
  go_ret3
  exact ⟨rfl, rfl⟩

set_option maxHeartbeats 400000 in
theorem getInt_neg (a : Option Addr) (len cap p : Nat) (l t r : List UInt8) (x : UInt8) (w : World) (hlen : l.length = len) (hl : len ≤ 1048576) (hcap : len ≤ cap) (hd : l.drop p = x :: (t ++ r)) (ht : t.length = 8) (hx : x.toNat = 1) (hq0 : 1 ≤ num t) (hq : num t ≤ 1152921504606846976) (hr : Rd w a l) :
    Calls Try.prog 59 #[.slice a len cap, .int .i64 p] w fun e w' => e = .returned (.tuple #[.int .i64 (-((num t : Nat) : Int)), .int .i64 ((p : Int) + 9), .int .i64 0]) ∧ w' = w := by
  have hp : p + 9 ≤ len := by have := length_of_drop hd (by simp); simp at this; omega
  obtain ⟨b, off, rfl⟩ := hr.some_of (by omega)
  have hat := hr.at_ hd
  rw [hx] at hat
  clear hx
  have hcut := hr.part (p := p + 1) (t := t) (r := r) (by rw [← List.drop_drop, hd]; simp)
  have hb8 := num_lt8 (t := t) (by omega)
  have HL : Hid (t.length = 8) := ht
  clear ht hd hlen
  go_enter Try.func59, Try.ntmps59
  go_wp2_with fail
  refine (isPlace_yes _ _ _ _ _ (by omega) (by omega) (by omega)).mono ?_
  rintro e w1 ⟨rfl, rfl⟩
  go_wp2_with fail
  refine (number_len _ _ _ t _ HL.out (by omega) hcut).mono ?_
  rintro e w1 ⟨rfl, rfl⟩
  have hz1 : decide (1152921504606846976 < ((num t : Nat) : Int)) = false := by simp; omega
  have hz2 : (((num t : Nat) : Int) == 0) = false := by simp; omega
  go_wp2
  go_ret3
  exact ⟨rfl, rfl⟩

set_option maxHeartbeats 400000 in
theorem getInt_sign (a : Option Addr) (len cap p : Nat) (l t r : List UInt8) (x : UInt8) (w : World) (hlen : l.length = len) (hl : len ≤ 1048576) (hcap : len ≤ cap) (hd : l.drop p = x :: (t ++ r)) (ht : t.length = 8) (hx : 1 < x.toNat) (hr : Rd w a l) :
    Calls Try.prog 59 #[.slice a len cap, .int .i64 p] w fun e w' => e = .returned (.tuple #[.int .i64 0, .int .i64 0, .int .i64 3]) ∧ w' = w := by
  have hp : p + 9 ≤ len := by have := length_of_drop hd (by simp); simp at this; omega
  obtain ⟨b, off, rfl⟩ := hr.some_of (by omega)
  have hat := hr.at_ hd
  have hx2 := x.toNat_lt
  have hcut := hr.part (p := p + 1) (t := t) (r := r) (by rw [← List.drop_drop, hd]; simp)
  have hb8 := num_lt8 (t := t) (by omega)
  have HL : Hid (t.length = 8) := ht
  clear ht hd hlen
  go_enter Try.func59, Try.ntmps59
  go_wp2_with fail
  refine (isPlace_yes _ _ _ _ _ (by omega) (by omega) (by omega)).mono ?_
  rintro e w1 ⟨rfl, rfl⟩
  go_wp2_with fail
  refine (number_len _ _ _ t _ HL.out (by omega) hcut).mono ?_
  rintro e w1 ⟨rfl, rfl⟩
  go_wp2
  go_ret3
  exact ⟨rfl, rfl⟩

set_option maxHeartbeats 400000 in
theorem getInt_over (a : Option Addr) (len cap p : Nat) (l t r : List UInt8) (x : UInt8) (w : World) (hlen : l.length = len) (hl : len ≤ 1048576) (hcap : len ≤ cap) (hd : l.drop p = x :: (t ++ r)) (ht : t.length = 8) (hq : 1152921504606846976 < num t) (hr : Rd w a l) :
    Calls Try.prog 59 #[.slice a len cap, .int .i64 p] w fun e w' => e = .returned (.tuple #[.int .i64 0, .int .i64 0, .int .i64 3]) ∧ w' = w := by
  have hp : p + 9 ≤ len := by have := length_of_drop hd (by simp); simp at this; omega
  obtain ⟨b, off, rfl⟩ := hr.some_of (by omega)
  have hat := hr.at_ hd
  have hx2 := x.toNat_lt
  have hcut := hr.part (p := p + 1) (t := t) (r := r) (by rw [← List.drop_drop, hd]; simp)
  have hb8 := num_lt8 (t := t) (by omega)
  have HL : Hid (t.length = 8) := ht
  clear ht hd hlen
  go_enter Try.func59, Try.ntmps59
  go_wp2_with fail
  refine (isPlace_yes _ _ _ _ _ (by omega) (by omega) (by omega)).mono ?_
  rintro e w1 ⟨rfl, rfl⟩
  go_wp2_with fail
  refine (number_len _ _ _ t _ HL.out (by omega) hcut).mono ?_
  rintro e w1 ⟨rfl, rfl⟩
  by_cases hx : 1 < x.toNat
  · go_wp2
    go_ret3
    exact ⟨rfl, rfl⟩
  go_wp2
  go_ret3
  exact ⟨rfl, rfl⟩

set_option maxHeartbeats 400000 in
theorem getInt_nought (a : Option Addr) (len cap p : Nat) (l t r : List UInt8) (x : UInt8) (w : World) (hlen : l.length = len) (hl : len ≤ 1048576) (hcap : len ≤ cap) (hd : l.drop p = x :: (t ++ r)) (ht : t.length = 8) (hx : x.toNat = 1) (hq : num t = 0) (hr : Rd w a l) :
    Calls Try.prog 59 #[.slice a len cap, .int .i64 p] w fun e w' => e = .returned (.tuple #[.int .i64 0, .int .i64 0, .int .i64 3]) ∧ w' = w := by
  have hp : p + 9 ≤ len := by have := length_of_drop hd (by simp); simp at this; omega
  obtain ⟨b, off, rfl⟩ := hr.some_of (by omega)
  have hat := hr.at_ hd
  rw [hx] at hat
  clear hx
  have hcut := hr.part (p := p + 1) (t := t) (r := r) (by rw [← List.drop_drop, hd]; simp)
  have hb8 := num_lt8 (t := t) (by omega)
  have HL : Hid (t.length = 8) := ht
  clear ht hd hlen
  go_enter Try.func59, Try.ntmps59
  go_wp2_with fail
  refine (isPlace_yes _ _ _ _ _ (by omega) (by omega) (by omega)).mono ?_
  rintro e w1 ⟨rfl, rfl⟩
  go_wp2_with fail
  refine (number_len _ _ _ t _ HL.out (by omega) hcut).mono ?_
  rintro e w1 ⟨rfl, rfl⟩
  rw [hq]
  go_wp2
  go_ret3
  exact ⟨rfl, rfl⟩

set_option maxHeartbeats 400000 in
theorem getText_place (a : Option Addr) (len cap : Nat) (p : Int) (w : World) (hl : len ≤ 1048576) (h : p < 0 ∨ (len : Int) < p) :
    Calls Try.prog 60 #[.slice a len cap, .int .i64 p] w fun e w' => e = .returned (.tuple #[.string ByteArray.empty, .int .i64 0, .int .i64 1]) ∧ w' = w := by
  go_enter Try.func60, Try.ntmps60
  go_wp2_with fail
  refine (isPlace_no _ _ _ _ _ (by omega) h).mono ?_
  rintro e w1 ⟨rfl, rfl⟩
  go_wp2
  go_ret3
  exact ⟨rfl, rfl⟩

set_option maxHeartbeats 400000 in
theorem getText_end (a : Option Addr) (len cap : Nat) (w : World) (hl : len ≤ 1048576) :
    Calls Try.prog 60 #[.slice a len cap, .int .i64 len] w fun e w' => e = .returned (.tuple #[.string ByteArray.empty, .int .i64 0, .int .i64 3]) ∧ w' = w := by
  go_enter Try.func60, Try.ntmps60
  go_wp2_with fail
  refine (isPlace_yes _ _ _ _ _ (by omega) (by omega) (by omega)).mono ?_
  rintro e w1 ⟨rfl, rfl⟩
  go_wp2
  go_ret3
  exact ⟨rfl, rfl⟩

theorem strOf_bytes (t : List UInt8) : strOfNums (t.map fun x => (x.toNat : Int)) = ⟨t.toArray⟩ := by
  simp [strOfNums, Function.comp_def]

/-- string(b): the bytes that are read there. -/
theorem run_convert_rd {P : Program} {w : World} {src dst b off n cap : Nat} {t : List UInt8} (hs : P.underlying src = some (.slice 5)) (he : P.underlying 5 = some (.int .u8)) (hd : P.underlying dst = some .string)
    (hn : t.length = n) (hr : Rd w (some ⟨b, off, none⟩) t) : (convert src dst (.slice (some ⟨b, off, none⟩) n cap)).run P w = .ok (.string ⟨t.toArray⟩) w := by
  subst hn
  rw [← strOf_bytes]
  refine run_convert_bytes_arg w src 5 hs he b off t.length cap (t.map fun x => (x.toNat : Int)) (by simp) (fun i hi => ?_) dst hd
  obtain ⟨b', off', e, hc⟩ := hr (by omega)
  cases e
  rw [hc i hi]
  simp [List.getElem?_eq_getElem hi]

theorem drawn_below (w : World) (k : Nat) : Below w.heap.size w (w.drewN k) := below_drewN (Below.refl _ _) k

set_option maxHeartbeats 400000 in
theorem getText_long (a : Option Addr) (len cap p : Nat) (l r : List UInt8) (x : UInt8) (w : World) (hlen : l.length = len) (hl : len ≤ 1048576) (_hcap : len ≤ cap) (hd : l.drop p = x :: r) (h : 24 < x.toNat) (hr : Rd w a l) :
    Calls Try.prog 60 #[.slice a len cap, .int .i64 p] w fun e w' => e = .returned (.tuple #[.string ByteArray.empty, .int .i64 0, .int .i64 3]) ∧ Below w.heap.size w w' := by
  have hp : p + (r.length + 1) = len := by have := length_of_drop hd (by simp); simp at this; omega
  obtain ⟨b, off, rfl⟩ := hr.some_of (by omega)
  have hat := hr.at_ hd
  have hx2 := x.toNat_lt
  have hp1 : p < len := by omega
  clear hd hlen hp
  go_enter Try.func60, Try.ntmps60
  go_wp2_with fail
  refine (isPlace_yes _ _ _ _ _ (by omega) (by omega) (by omega)).mono ?_
  rintro e w1 ⟨rfl, rfl⟩
  go_wp2_with fail
  go_quiet (fail)
  go_wp2
  go_ret3
  exact ⟨rfl, drawn_below _ _⟩

set_option maxHeartbeats 400000 in
theorem getText_short (a : Option Addr) (len cap p : Nat) (l r : List UInt8) (x : UInt8) (w : World) (hlen : l.length = len) (hl : len ≤ 1048576) (_hcap : len ≤ cap) (hd : l.drop p = x :: r) (h0 : x.toNat ≤ 24) (h : r.length < x.toNat) (hr : Rd w a l) :
    Calls Try.prog 60 #[.slice a len cap, .int .i64 p] w fun e w' => e = .returned (.tuple #[.string ByteArray.empty, .int .i64 0, .int .i64 3]) ∧ Below w.heap.size w w' := by
  have hp : p + (r.length + 1) = len := by have := length_of_drop hd (by simp); simp at this; omega
  obtain ⟨b, off, rfl⟩ := hr.some_of (by omega)
  have hat := hr.at_ hd
  have hx2 := x.toNat_lt
  have hp1 : p < len := by omega
  have h' : len - (p + 1) < x.toNat := by omega
  clear hd hlen hp h
  go_enter Try.func60, Try.ntmps60
  go_wp2_with fail
  refine (isPlace_yes _ _ _ _ _ (by omega) (by omega) (by omega)).mono ?_
  rintro e w1 ⟨rfl, rfl⟩
  go_wp2_with fail
  go_quiet (fail)
  go_wp2
  go_ret3
  exact ⟨rfl, drawn_below _ _⟩

set_option maxHeartbeats 400000 in
theorem getText_ok (a : Option Addr) (len cap p : Nat) (l t r : List UInt8) (x : UInt8) (w : World) (hlen : l.length = len) (hl : len ≤ 1048576) (hcap : len ≤ cap) (hd : l.drop p = x :: (t ++ r)) (ht : t.length = x.toNat) (h0 : x.toNat ≤ 24) (hr : Rd w a l) :
    Calls Try.prog 60 #[.slice a len cap, .int .i64 p] w fun e w' => e = .returned (.tuple #[.string ⟨t.toArray⟩, .int .i64 ((p : Int) + 1 + x.toNat), .int .i64 0]) ∧ Below w.heap.size w w' := by
  have hp : p + ((t ++ r).length + 1) = len := by have := length_of_drop hd (by simp); simp at this; simp; omega
  simp at hp
  obtain ⟨b, off, rfl⟩ := hr.some_of (by omega)
  have hat := hr.at_ hd
  have hx2 := x.toNat_lt
  have hp1 : p < len := by omega
  have hcut := hr.part (p := p + 1) (t := t) (r := r) (by rw [← List.drop_drop, hd]; simp)
  have hq : p + 1 + x.toNat ≤ len := by omega
  have hcv : ∀ nq c, (convert 29 9 (.slice (some ⟨b, off + (p + 1), none⟩) x.toNat c)).run Try.prog (w.drewN nq) = .ok (.string ⟨t.toArray⟩) (w.drewN nq) := fun nq c => run_convert_rd Try.underlying29 Try.underlying5 Try.underlying9 ht (hcut.later (drawn_below w nq))
  have hcv0 : x.toNat = 0 → ∀ nq c, (convert 29 9 (.slice (some ⟨b, off, none⟩) x.toNat c)).run Try.prog (w.drewN nq) = .ok (.string ⟨t.toArray⟩) (w.drewN nq) := fun hz nq c => run_convert_rd Try.underlying29 Try.underlying5 Try.underlying9 ht (by rw [List.eq_nil_of_length_eq_zero (ht.trans hz)]; exact Rd.nil _ _)
  have hcc : p + 1 < cap ∨ p + 1 = cap := by omega
  clear hd hlen hp ht hcut hr
  rcases hcc with hcc | hcc
  · clear hcv0
    go_enter Try.func60, Try.ntmps60
    go_wp2_with fail
    refine (isPlace_yes _ _ _ _ _ (by omega) (by omega) (by omega)).mono ?_
    rintro e w1 ⟨rfl, rfl⟩
    go_wp2_with fail
    go_quiet (fail)
    go_wp2
    go_ret3
    exact ⟨rfl, drawn_below _ _⟩
  · have hcv1 := hcv0 (by omega)
    clear hcv0 hcv
    have hge : cap ≤ p + 1 := by omega
    clear hcc
    go_enter Try.func60, Try.ntmps60
    go_wp2_with fail
    refine (isPlace_yes _ _ _ _ _ (by omega) (by omega) (by omega)).mono ?_
    rintro e w1 ⟨rfl, rfl⟩
    go_wp2_with fail
    go_quiet (fail)
    go_wp2
    go_ret3
    exact ⟨rfl, drawn_below _ _⟩

end Go.Proofs.Ythmclopndmcojaa
