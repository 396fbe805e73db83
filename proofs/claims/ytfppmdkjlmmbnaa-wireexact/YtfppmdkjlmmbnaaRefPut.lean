/-
  What the document's own Put, PutInt and PutText answer, and that wire's answer the same: the bytes, and the error.
-/
import Derived.Test.YtfppmdkjlmmbnaaRows
import Derived.Test.YtfppmdkjlmmbnaaRef
import Derived.WalkKit
import Derived.WalkSpells
import Derived.WalkLawsBesides
namespace Go.Proofs.Ytfppmdkjlmmbnaa
open Go.RowKit Go.Lib

/-- Put: the bytes, the error's number. -/
def rPut (l : List UInt8) (n size : Int) : List UInt8 × Int :=
  if 1 ≤ size ∧ size ≤ 7 ∧ 0 ≤ n ∧ n < ((256 ^ size.toNat : Nat) : Int) then (l ++ be n.toNat size.toNat, 0) else ([], 1)
def rPutInt (l : List UInt8) (n : Int) : List UInt8 × Int := if -1152921504606846976 ≤ n ∧ n ≤ 1152921504606846976 then (l ++ intBytes n, 0) else ([], 1)
def rPutText (l : List UInt8) (s : ByteArray) : List UInt8 × Int := if s.size ≤ 24 then (l ++ textBytes s.data.toList, 0) else ([], 2)

/-- What a call that makes bytes hands back: bytes that can be read. -/
def Gives (w w' : World) (e : Ending) (r : List UInt8 × Int) : Prop :=
  ∃ a n cap, e = .returned (.tuple #[.slice a n cap, .int .i64 r.2]) ∧ r.1.length = n ∧ n ≤ 1048700 ∧ n ≤ cap ∧ Rd w' a r.1 ∧ Below w.heap.size w w'

/-- .. and in a block of its own. -/
def Makes (w w' : World) (e : Ending) (r : List UInt8 × Int) : Prop :=
  ∃ a n cap, e = .returned (.tuple #[.slice a n cap, .int .i64 r.2]) ∧ r.1.length = n ∧ n ≤ 1048700 ∧ n ≤ cap ∧ Rd w' a r.1 ∧ Below w.heap.size w w' ∧ (a = none ∧ n = 0 ∨ ∃ g, a = some ⟨g, 0, none⟩ ∧ w.heap.size ≤ g ∧ Row w' g r.1)

theorem Makes.of_row {w w' : World} {e : Ending} {l : List UInt8} {n : Nat} (h : ∃ g, e = .returned (.tuple #[.slice (some ⟨g, 0, none⟩) n n, .int .i64 0]) ∧ w.heap.size ≤ g ∧ Row w' g l ∧ Below w.heap.size w w') (hn : l.length = n) (h1 : n ≤ 1048700) : Makes w w' e (l, 0) := by
  obtain ⟨g, he, hg, hr, hb⟩ := h
  exact ⟨_, n, n, he, hn, h1, Nat.le_refl _, hr.rd, hb, Or.inr ⟨g, rfl, hg, hr⟩⟩

theorem Makes.of_no {w w' : World} {e : Ending} {k : Int} (h : e = .returned (.tuple #[.slice none 0 0, .int .i64 k]) ∧ w' = w) : Makes w w' e ([], k) := by
  obtain ⟨he, rfl⟩ := h
  exact ⟨none, 0, 0, he, rfl, Nat.zero_le _, Nat.le_refl _, Rd.nil _ _, Below.refl _ _, Or.inl ⟨rfl, rfl⟩⟩

theorem Gives.of_no {w w' : World} {e : Ending} {k : Int} (h : e = .returned (.tuple #[.slice none 0 0, .int .i64 k]) ∧ w' = w) : Gives w w' e ([], k) := by
  obtain ⟨he, rfl⟩ := h
  exact ⟨none, 0, 0, he, rfl, Nat.zero_le _, Nat.le_refl _, Rd.nil _ _, Below.refl _ _⟩

theorem wput_any (a : Option Addr) (len cap : Nat) (n size : Int) (l : List UInt8) (w : World) (hlen : l.length = len) (hl : len ≤ 1048576) (hr : Rd w a l) :
    Calls Try.prog 10 #[.slice a len cap, .int .i64 n, .int .i64 size] w fun e w' => Makes w w' e (rPut l n size) := by
  by_cases h1 : size < 1 ∨ 7 < size
  · have e : rPut l n size = ([], 1) := by unfold rPut; rw [if_neg (by omega)]
    rw [e]
    exact (put_size_no a len cap n size w h1).mono fun _ _ h => Makes.of_no h
  obtain ⟨s, rfl⟩ : ∃ s : Nat, size = s := ⟨size.toNat, by omega⟩
  by_cases h2 : n < 0 ∨ ((256 ^ s : Nat) : Int) ≤ n
  · have e : rPut l n s = ([], 1) := by unfold rPut; rw [Int.toNat_natCast, if_neg (by omega)]
    rw [e]
    exact (put_no a len cap s n w (by omega) (by omega) h2).mono fun _ _ h => Makes.of_no h
  obtain ⟨m, rfl⟩ : ∃ m : Nat, n = m := ⟨n.toNat, by omega⟩
  have e : rPut l m s = (l ++ be m s, 0) := by unfold rPut; rw [Int.toNat_natCast, if_pos (by omega), Int.toNat_natCast]
  rw [e]
  exact (put_len a len cap m s l w hlen hl (by omega) (by omega) (by omega) hr).mono fun _ _ h => Makes.of_row h (by simp [hlen, be_length]) (by omega)

theorem wputInt_any (a : Option Addr) (len cap : Nat) (n : Int) (l : List UInt8) (w : World) (hlen : l.length = len) (hl : len ≤ 1048576) (hr : Rd w a l) :
    Calls Try.prog 14 #[.slice a len cap, .int .i64 n] w fun e w' => Makes w w' e (rPutInt l n) := by
  by_cases h : -1152921504606846976 ≤ n ∧ n ≤ 1152921504606846976
  · have e : rPutInt l n = (l ++ intBytes n, 0) := by unfold rPutInt; rw [if_pos h]
    rw [e]
    exact (putInt_len a len cap n l w hlen hl h.1 h.2 hr).mono fun _ _ h => Makes.of_row h (by simp [hlen, intBytes_length]) (by omega)
  · have e : rPutInt l n = ([], 1) := by unfold rPutInt; rw [if_neg h]
    rw [e]
    exact (putInt_no a len cap n w (by omega)).mono fun _ _ h => Makes.of_no h

theorem wputText_any (a : Option Addr) (len cap : Nat) (s : ByteArray) (l : List UInt8) (w : World) (hlen : l.length = len) (hl : len ≤ 1048576) (hs : s.size ≤ 9223372036854775807) (hr : Rd w a l) :
    Calls Try.prog 16 #[.slice a len cap, .string s] w fun e w' => Makes w w' e (rPutText l s) := by
  by_cases h : s.size ≤ 24
  · have e : rPutText l s = (l ++ textBytes s.data.toList, 0) := by unfold rPutText; rw [if_pos h]
    rw [e]
    exact (putText_len a len cap s l w hlen hl h hr).mono fun _ _ h => Makes.of_row h (by rw [List.length_append, textBytes_length, hlen, size_eq]) (by omega)
  · have e : rPutText l s = ([], 2) := by unfold rPutText; rw [if_neg h]
    rw [e]
    exact (putText_no a len cap s w hs (by omega)).mono fun _ _ h => Makes.of_no h

set_option maxHeartbeats 400000 in
theorem rput_size_no (a : Option Addr) (len cap : Nat) (n size : Int) (w : World) (h : size < 1 ∨ 7 < size) :
    Calls Try.prog 11 #[.slice a len cap, .int .i64 n, .int .i64 size] w fun e w' => e = .returned (.tuple #[.slice none 0 0, .int .i64 1]) ∧ w' = w := by
  go_enter Try.func11, Try.ntmps11
  go_wp2_with fail
  refine (in_no _ _ _ _ h).mono ?_
  rintro e w1 ⟨rfl, rfl⟩
  go_wp2
  go_ret2
  exact ⟨rfl, rfl⟩

theorem shr_some (n s : Nat) (h : 256 ^ s ≤ n) : ((n : Int) / 2 ^ (8 * s) != 0) = true := by
  have e : (2 : Int) ^ (8 * s) = ((256 ^ s : Nat) : Int) := by rw [Int.pow_mul]; simp
  rw [e]
  have h2 : 1 ≤ n / 256 ^ s := (Nat.le_div_iff_mul_le (Nat.pos_of_ne_zero (by simp))).2 (by omega)
  rw [← Int.natCast_ediv, bne_iff_ne]
  omega

theorem shr_none (n s : Nat) (h : n < 256 ^ s) : ((n : Int) / 2 ^ (8 * s) != 0) = false := by
  have e : (2 : Int) ^ (8 * s) = ((256 ^ s : Nat) : Int) := by rw [Int.pow_mul]; simp
  rw [e]
  have h2 : n / 256 ^ s = 0 := Nat.div_eq_of_lt h
  rw [← Int.natCast_ediv, h2]
  rfl

set_option maxHeartbeats 400000 in
theorem rput_no (a : Option Addr) (len cap s : Nat) (n : Int) (w : World) (hs1 : 1 ≤ s) (hs7 : s ≤ 7) (h : n < 0 ∨ ((256 ^ s : Nat) : Int) ≤ n) :
    Calls Try.prog 11 #[.slice a len cap, .int .i64 n, .int .i64 s] w fun e w' => e = .returned (.tuple #[.slice none 0 0, .int .i64 1]) ∧ w' = w := by
  by_cases h0 : n < 0
  · clear h
    go_enter Try.func11, Try.ntmps11
    go_wp2_with fail
    refine (in_yes _ _ _ _ (by omega) (by omega)).mono ?_
    rintro e w1 ⟨rfl, rfl⟩
    go_wp2
    go_ret2
    exact ⟨rfl, rfl⟩
  · obtain ⟨m, rfl⟩ : ∃ m : Nat, n = m := ⟨n.toNat, by omega⟩
    have hq := shr_some m s (by omega)
    clear h
    go_enter Try.func11, Try.ntmps11
    go_wp2_with fail
    refine (in_yes _ _ _ _ (by omega) (by omega)).mono ?_
    rintro e w1 ⟨rfl, rfl⟩
    go_wp2
    go_ret2
    exact ⟨rfl, rfl⟩

set_option maxHeartbeats 400000 in
theorem rput_ok (a : Option Addr) (len cap n s : Nat) (l : List UInt8) (w : World) (hlen : l.length = len) (hl : len ≤ 1048576) (hs1 : 1 ≤ s) (hs7 : s ≤ 7) (hn : n < 256 ^ s) (hnil : a = none → l = [] ∧ cap = 0) (hr : Rd w a l) :
    Calls Try.prog 11 #[.slice a len cap, .int .i64 n, .int .i64 s] w fun e w' => Gives w w' e (l ++ be n s, 0) := by
  have hq := shr_none n s hn
  have h56 := pow_le56 s hs7
  have HL : Hid (l.length = len) := hlen
  have HN : Hid (a = none → l = [] ∧ cap = 0) := hnil
  clear hlen hnil
  go_enter Try.func11, Try.ntmps11
  go_wp2_with fail
  refine (in_yes _ _ _ _ (by omega) (by omega)).mono ?_
  rintro e w1 ⟨rfl, rfl⟩
  go_wp2_with fail
  refine (twin_any a len cap l _ HL.out hl HN.out hr).mono ?_
  rintro e w2 ⟨a2, cap2, rfl, hc2, ho2, hn2, hr2, hb2⟩
  go_wp2_with fail
  refine (rbe_any n s _ (by omega) (by omega)).mono ?_
  rintro e w3 ⟨a3, cap3, rfl, hc3, ho3, hr3, hn3, hb3⟩
  have hb := chain hb2 hb3
  obtain ⟨a4, cap4, w4, hrun, hc4, ho4, hr4, hn4, _, hb4⟩ := run_append_form (t := 22) (ty := 22) (cap := cap3) Try.underlying22 Try.info5 (Own.later ho2 hb3) HL.out (be_length n s) hr3 hn3 (by omega) (by omega) hb.size
  have LL : Hid ((l ++ be n s).length = len + s) := by show (_ : Nat) = _; rw [List.length_append, HL.out, be_length]
  have HB4 := hb.trans hb4
  clear ho2 ho3 hn2 hn3 hr2 hr3 ho4 hn4 hb2 hb3 hb4 hb
  go_wp2_with (at_builtin; refine wpList_append_run rfl (.tmp 24) (.tmp 27) 22 22 rfl _ _ _ _ rfl rfl hrun ?_)
  go_ret2
  exact ⟨a4, _, cap4, rfl, LL.out, by omega, hc4, hr4, HB4⟩

theorem rput_any (a : Option Addr) (len cap : Nat) (n size : Int) (l : List UInt8) (w : World) (hlen : l.length = len) (hl : len ≤ 1048576) (hnil : a = none → l = [] ∧ cap = 0) (hr : Rd w a l) :
    Calls Try.prog 11 #[.slice a len cap, .int .i64 n, .int .i64 size] w fun e w' => Gives w w' e (rPut l n size) := by
  by_cases h1 : size < 1 ∨ 7 < size
  · have e : rPut l n size = ([], 1) := by unfold rPut; rw [if_neg (by omega)]
    rw [e]
    exact (rput_size_no a len cap n size w h1).mono fun _ _ h => Gives.of_no h
  obtain ⟨s, rfl⟩ : ∃ s : Nat, size = s := ⟨size.toNat, by omega⟩
  by_cases h2 : n < 0 ∨ ((256 ^ s : Nat) : Int) ≤ n
  · have e : rPut l n s = ([], 1) := by unfold rPut; rw [Int.toNat_natCast, if_neg (by omega)]
    rw [e]
    exact (rput_no a len cap s n w (by omega) (by omega) h2).mono fun _ _ h => Gives.of_no h
  obtain ⟨m, rfl⟩ : ∃ m : Nat, n = m := ⟨n.toNat, by omega⟩
  have e : rPut l m s = (l ++ be m s, 0) := by unfold rPut; rw [Int.toNat_natCast, if_pos (by omega), Int.toNat_natCast]
  rw [e]
  exact rput_ok a len cap m s l w hlen hl (by omega) (by omega) (by omega) hnil hr

set_option maxHeartbeats 400000 in
theorem rputInt_no (a : Option Addr) (len cap : Nat) (n : Int) (w : World) (h : n < -1152921504606846976 ∨ 1152921504606846976 < n) :
    Calls Try.prog 15 #[.slice a len cap, .int .i64 n] w fun e w' => e = .returned (.tuple #[.slice none 0 0, .int .i64 1]) ∧ w' = w := by
  go_enter Try.func15, Try.ntmps15
  go_wp2_with fail
  refine (in_no _ _ _ _ h).mono ?_
  rintro e w1 ⟨rfl, rfl⟩
  go_wp2
  go_ret2
  exact ⟨rfl, rfl⟩

set_option maxHeartbeats 400000 in
theorem rputInt_ok (a : Option Addr) (len cap : Nat) (n : Int) (l : List UInt8) (w : World) (hlen : l.length = len) (hl : len ≤ 1048576) (h1 : -1152921504606846976 ≤ n) (h2 : n ≤ 1152921504606846976) (hnil : a = none → l = [] ∧ cap = 0) (hr : Rd w a l) :
    Calls Try.prog 15 #[.slice a len cap, .int .i64 n] w fun e w' => Gives w w' e (l ++ intBytes n, 0) := by
  have HL : Hid (l.length = len) := hlen
  have HN : Hid (a = none → l = [] ∧ cap = 0) := hnil
  clear hlen hnil
  go_enter Try.func15, Try.ntmps15
  go_wp2_with fail
  refine (in_yes _ _ _ _ h1 h2).mono ?_
  rintro e w1 ⟨rfl, rfl⟩
  go_wp2_with fail
  refine (twin_any a len cap l _ HL.out hl HN.out hr).mono ?_
  rintro e w2 ⟨a2, cap2, rfl, hc2, ho2, hn2, hr2, hb2⟩
  go_wp2_with fail
  refine (rintBytes_any n _ h1 h2).mono ?_
  rintro e w3 ⟨a3, cap3, rfl, hc3, ho3, hr3, hn3, hb3⟩
  have hb := chain hb2 hb3
  obtain ⟨a4, cap4, w4, hrun, hc4, ho4, hr4, hn4, _, hb4⟩ := run_append_form (t := 22) (ty := 22) (cap := cap3) Try.underlying22 Try.info5 (Own.later ho2 hb3) HL.out (intBytes_length n) hr3 hn3 (by omega) (by omega) hb.size
  have LL : Hid ((l ++ intBytes n).length = len + 9) := by show (_ : Nat) = _; rw [List.length_append, HL.out, intBytes_length]
  have HB4 := hb.trans hb4
  clear ho2 ho3 hn2 hn3 hr2 hr3 ho4 hn4 hb2 hb3 hb4 hb
  go_wp2_with (at_builtin; refine wpList_append_run rfl _ _ 22 22 rfl _ _ _ _ rfl rfl hrun ?_)
  go_ret2
  exact ⟨a4, _, cap4, rfl, LL.out, by omega, hc4, hr4, HB4⟩

theorem rputInt_any (a : Option Addr) (len cap : Nat) (n : Int) (l : List UInt8) (w : World) (hlen : l.length = len) (hl : len ≤ 1048576) (hnil : a = none → l = [] ∧ cap = 0) (hr : Rd w a l) :
    Calls Try.prog 15 #[.slice a len cap, .int .i64 n] w fun e w' => Gives w w' e (rPutInt l n) := by
  by_cases h : -1152921504606846976 ≤ n ∧ n ≤ 1152921504606846976
  · have e : rPutInt l n = (l ++ intBytes n, 0) := by unfold rPutInt; rw [if_pos h]
    rw [e]
    exact rputInt_ok a len cap n l w hlen hl h.1 h.2 hnil hr
  · have e : rPutInt l n = ([], 1) := by unfold rPutInt; rw [if_neg h]
    rw [e]
    exact (rputInt_no a len cap n w (by omega)).mono fun _ _ h => Gives.of_no h

set_option maxHeartbeats 400000 in
theorem rputText_no (a : Option Addr) (len cap : Nat) (s : ByteArray) (w : World) (hs : s.size ≤ 9223372036854775807) (h : 24 < s.size) :
    Calls Try.prog 17 #[.slice a len cap, .string s] w fun e w' => e = .returned (.tuple #[.slice none 0 0, .int .i64 2]) ∧ w' = w := by
  go_enter Try.func17, Try.ntmps17
  go_wp2
  go_ret2
  exact ⟨rfl, rfl⟩

set_option maxHeartbeats 400000 in
theorem rputText_ok (a : Option Addr) (len cap : Nat) (s : ByteArray) (l : List UInt8) (w : World) (hlen : l.length = len) (hl : len ≤ 1048576) (hs : s.size ≤ 24) (hnil : a = none → l = [] ∧ cap = 0) (hr : Rd w a l) :
    Calls Try.prog 17 #[.slice a len cap, .string s] w fun e w' => Gives w w' e (l ++ textBytes s.data.toList, 0) := by
  have HL : Hid (l.length = len) := hlen
  have HN : Hid (a = none → l = [] ∧ cap = 0) := hnil
  clear hlen hnil
  go_enter Try.func17, Try.ntmps17
  go_wp2_with fail
  refine (twin_any a len cap l _ HL.out hl HN.out hr).mono ?_
  rintro e w2 ⟨a2, cap2, rfl, hc2, ho2, hn2, hr2, hb2⟩
  have hx : ((s.size : Nat) : Int) = ((UInt8.ofNat s.data.toList.length).toNat : Int) := by rw [← size_eq, ofNat_small hs]
  obtain ⟨a4, cap4, w4, hrun4, hc4, ho4, hr4, hn4, _, hb4⟩ := run_append_form (t := 22) (ty := 22) (n := len) (m := 1) (l := [UInt8.ofNat s.data.toList.length]) (cap := 1) Try.underlying22 Try.info5 (Own.later ho2 (alloc_below w2 _)) HL.out rfl (rd_one w2 _ _ hx) (fun h => by cases h) (by omega) (by omega) (Nat.le_trans hb2.size (by simp))
  have hb24 := (hb2.trans ((alloc_below w2 (.cells #[.int .u8 (s.size : Int)] 5)).mono hb2.size)).trans hb4
  obtain ⟨a5, cap5, w5, hrun5, hc5, ho5, hr5, hn5, _, hb5⟩ := run_append_text (t := 22) (u := 9) (ty := 22) (n := len + 1) (s := s) Try.underlying22 Try.underlying9 Try.info5 ho4 (by simp [HL.out]) (by omega) (by omega) hb24.size
  have HB5 := hb24.trans hb5
  have LL : Hid ((l ++ textBytes s.data.toList).length = len + 1 + s.size) := by show (_ : Nat) = _; rw [List.length_append, textBytes_length, HL.out, size_eq]; omega
  have RR : Hid (Rd w5 a5 (l ++ textBytes s.data.toList)) := by rw [List.append_assoc] at hr5; exact hr5
  clear ho2 hn2 hr2 ho4 hr4 hn4 hb4 ho5 hr5 hn5 hb5 hb24 hb2 hx
  go_wp2_with (first | (at_builtin; refine wpList_append_run rfl (.tmp 10) (.tmp 14) 22 22 rfl _ _ _ _ rfl rfl hrun4 ?_) | (at_builtin; refine wpList_append_run rfl (.tmp 15) (.tmp 16) 22 9 rfl _ _ _ _ rfl rfl hrun5 ?_))
  go_ret2
  exact ⟨a5, _, cap5, rfl, LL.out, by omega, hc5, RR.out, HB5⟩

theorem rputText_any (a : Option Addr) (len cap : Nat) (s : ByteArray) (l : List UInt8) (w : World) (hlen : l.length = len) (hl : len ≤ 1048576) (hs : s.size ≤ 9223372036854775807) (hnil : a = none → l = [] ∧ cap = 0) (hr : Rd w a l) :
    Calls Try.prog 17 #[.slice a len cap, .string s] w fun e w' => Gives w w' e (rPutText l s) := by
  by_cases h : s.size ≤ 24
  · have e : rPutText l s = (l ++ textBytes s.data.toList, 0) := by unfold rPutText; rw [if_pos h]
    rw [e]
    exact rputText_ok a len cap s l w hlen hl h hnil hr
  · have e : rPutText l s = ([], 2) := by unfold rPutText; rw [if_neg h]
    rw [e]
    exact (rputText_no a len cap s w hs (by omega)).mono fun _ _ h => Gives.of_no h

end Go.Proofs.Ytfppmdkjlmmbnaa
