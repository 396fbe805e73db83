/-
  WireExact's walk: what the law answers, whatever its bytes, numbers and text.
-/
import Derived.Test.YtfppmdkjlmmbnaaRows
import Derived.Test.YtfppmdkjlmmbnaaRefPut
import Derived.Test.YtfppmdkjlmmbnaaRefGet
import Derived.Test.YtfppmdkjlmmbnaaKeep
import Derived.Test.YtfppmdkjlmmbnaaFrame
import Derived.WalkKit
import Derived.WalkSpells
import Derived.WalkLawsBesides
namespace Go.Proofs.Ytfppmdkjlmmbnaa
open Go.RowKit Go.Lib

set_option maxHeartbeats 400000 in
theorem spoil_row (g n cap : Nat) (l : List UInt8) (w : World) (hn : l.length = n) (hl : n ≤ 4294967296) (hr : Row w g l) :
    Calls Try.prog 13 #[.slice (some ⟨g, 0, none⟩) n cap] w fun e w' => e = .returned (.tuple #[]) ∧ w.grownBy w' (some g) := by
  go_enter Try.func13, Try.ntmps13
  go_wp2
  go_loopw [2] (fun i wr => ∃ (k : Nat) (t : List UInt8), k ≤ n ∧ i = .int .i64 k ∧ Hid (t.length = n) ∧ Hid (Row wr g t) ∧ Hid (w.grownBy wr (some g))) (fun i _ => n - (intOf i).toNat)
  case atStart => exact ⟨0, l, Nat.zero_le _, rfl, hn, hr, World.grownBy.refl _ _⟩
  case round =>
    obtain ⟨k, t, hk, rfl, hT, hR, hG⟩ := hrel
    by_cases hlt : k < n
    · have hkt : k < t.length := by rw [hT.out]; exact hlt
      have hc := Row.cell hR.out k hkt
      have hf := Row.free hR.out k
      have hx := t[k].toNat_lt
      have R2 := Row.set hR.out k (UInt8.ofNat ((t[k].toNat + 101) % 256))
      have e : ((UInt8.ofNat ((t[k].toNat + 101) % 256)).toNat : Int) = ((t[k].toNat : Int) + 101) % 256 := by rw [ofNat_mod]; omega
      rw [e] at R2
      have HR2 : Hid (Row (wr.setCell ⟨g, k, none⟩ (.int .u8 (((t[k].toNat : Int) + 101) % 256))) g (t.set k (UInt8.ofNat ((t[k].toNat + 101) % 256)))) := R2
      have HG2 : Hid (w.grownBy (wr.setCell ⟨g, k, none⟩ (.int .u8 (((t[k].toNat : Int) + 101) % 256))) (some g)) := grown_set hG.out
      have HT2 : Hid ((t.set k (UInt8.ofNat ((t[k].toNat + 101) % 256))).length = n) := by show (_ : Nat) = _; rw [List.length_set]; exact hT.out
      clear e R2
      go_wp2
      go_roundw
      case rel => exact ⟨k + 1, _, by omega, by go_num, HT2, HR2, HG2⟩
      case measure => simp [intOf]; omega
    · go_wp2
      go_end0
      exact ⟨rfl, hG.out⟩

set_option maxHeartbeats 400000 in
theorem spoil_none (a : Option Addr) (cap : Nat) (w : World) :
    Calls Try.prog 13 #[.slice a 0 cap] w fun e w' => e = .returned (.tuple #[]) ∧ w' = w := by
  go_enter Try.func13, Try.ntmps13
  go_wp2
  refine wp_loop_rounds 1 ?_
  rw [rounds_succ]
  go_wp2
  go_end0
  exact ⟨rfl, rfl⟩

theorem spoil_any (a : Option Addr) (n cap : Nat) (X : List UInt8) (w0 w : World) (hX : X.length = n) (hl : n ≤ 1048700) (h : a = none ∧ n = 0 ∨ ∃ g, a = some ⟨g, 0, none⟩ ∧ w0.heap.size ≤ g ∧ Row w g X) :
    Calls Try.prog 13 #[.slice a n cap] w fun e w' => e = .returned (.tuple #[]) ∧ Below w0.heap.size w w' := by
  rcases h with ⟨rfl, rfl⟩ | ⟨g, rfl, hg, hr⟩
  · refine (spoil_none none cap w).mono ?_
    rintro e w' ⟨rfl, rfl⟩
    exact ⟨rfl, Below.refl _ _⟩
  · refine (spoil_row g n cap X w hX (by omega) hr).mono ?_
    rintro e w' ⟨rfl, hgr⟩
    exact ⟨rfl, Below.of_grown hgr hg hr.lt⟩

theorem kept_row {a : Option Addr} {n : Nat} {w0 w w' : World} {X : List UInt8} (h : a = none ∧ n = 0 ∨ ∃ g, a = some ⟨g, 0, none⟩ ∧ w0.heap.size ≤ g ∧ Row w g X) (hb : Below w.heap.size w w') :
    a = none ∧ n = 0 ∨ ∃ g, a = some ⟨g, 0, none⟩ ∧ w0.heap.size ≤ g ∧ Row w' g X := by
  rcases h with h | ⟨g, h1, h2, h3⟩
  · exact Or.inl h
  · exact Or.inr ⟨g, h1, h2, h3.below hb h3.lt⟩

/-- What stays of bytes that were there, behind what is written into what came later. -/
theorem Rd.past {w0 w w' : World} {a : Option Addr} {l : List UInt8} (h : Rd w0 a l) (hb : Below w0.heap.size w0 w) (hb' : Below w0.heap.size w w') : Rd w' a l := h.later (hb.trans hb')

set_option maxRecDepth 100000 in
set_option maxHeartbeats 1000000 in
theorem exact_core (a0 : Option Addr) (len0 cap0 : Nat) (B : List UInt8) (n p size : Int) (s : ByteArray) (w : World) (hB : B.length = len0) (l0 : len0 ≤ 300) (ls : s.size ≤ 300) (r0 : Rd w a0 B) (n0 : a0 = none → B = [] ∧ cap0 = 0)
    (X1 X2 X3 : List UInt8) (v1 v2 v3 x4 i4 e4 x5 i5 e5 i6 e6 : Int) (t6 : ByteArray)
    (P1 : Hid (∀ w a cap, Rd w a B → Calls Try.prog 10 #[.slice a len0 cap, .int .i64 n, .int .i64 size] w fun e w' => Makes w w' e (X1, v1)))
    (Q1 : Hid (∀ w, Rd w a0 B → Calls Try.prog 11 #[.slice a0 len0 cap0, .int .i64 n, .int .i64 size] w fun e w' => Gives w w' e (X1, v1)))
    (P2 : Hid (∀ w a cap, Rd w a B → Calls Try.prog 14 #[.slice a len0 cap, .int .i64 n] w fun e w' => Makes w w' e (X2, v2)))
    (Q2 : Hid (∀ w, Rd w a0 B → Calls Try.prog 15 #[.slice a0 len0 cap0, .int .i64 n] w fun e w' => Gives w w' e (X2, v2)))
    (P3 : Hid (∀ w a cap, Rd w a B → Calls Try.prog 16 #[.slice a len0 cap, .string s] w fun e w' => Makes w w' e (X3, v3)))
    (Q3 : Hid (∀ w, Rd w a0 B → Calls Try.prog 17 #[.slice a0 len0 cap0, .string s] w fun e w' => Gives w w' e (X3, v3)))
    (P4 : Hid (∀ w a cap, len0 ≤ cap → Rd w a B → Calls Try.prog 18 #[.slice a len0 cap, .int .i64 p, .int .i64 size] w fun e w' => e = .returned (.tuple #[.int .i64 x4, .int .i64 i4, .int .i64 e4]) ∧ w' = w))
    (Q4 : Hid (∀ w, Rd w a0 B → Calls Try.prog 19 #[.slice a0 len0 cap0, .int .i64 p, .int .i64 size] w fun e w' => e = .returned (.tuple #[.int .i64 x4, .int .i64 i4, .int .i64 e4]) ∧ w' = w))
    (P5 : Hid (∀ w a cap, len0 ≤ cap → Rd w a B → Calls Try.prog 20 #[.slice a len0 cap, .int .i64 p] w fun e w' => e = .returned (.tuple #[.int .i64 x5, .int .i64 i5, .int .i64 e5]) ∧ w' = w))
    (Q5 : Hid (∀ w, Rd w a0 B → Calls Try.prog 21 #[.slice a0 len0 cap0, .int .i64 p] w fun e w' => e = .returned (.tuple #[.int .i64 x5, .int .i64 i5, .int .i64 e5]) ∧ w' = w))
    (P6 : Hid (∀ w a cap, len0 ≤ cap → Rd w a B → Calls Try.prog 22 #[.slice a len0 cap, .int .i64 p] w fun e w' => e = .returned (.tuple #[.string t6, .int .i64 i6, .int .i64 e6]) ∧ Below w.heap.size w w'))
    (Q6 : Hid (∀ w, Rd w a0 B → Calls Try.prog 23 #[.slice a0 len0 cap0, .int .i64 p] w fun e w' => e = .returned (.tuple #[.string t6, .int .i64 i6, .int .i64 e6]) ∧ w' = w)) :
    Calls Try.prog 3 #[.slice a0 len0 cap0, .int .i64 n, .int .i64 p, .int .i64 size, .string s] w fun e w' => e = .returned (.bool true) ∧ Below w.heap.size w w' := by
  have HB : Hid (B.length = len0) := hB
  have N0 : Hid (a0 = none → B = [] ∧ cap0 = 0) := n0
  have R0 : Hid (Rd w a0 B) := r0
  clear hB n0 r0
  go_enter Try.func3, Try.ntmps3
  go_wp2_with fail
  refine (twin_any a0 len0 cap0 B _ HB.out (by omega) N0.out R0.out).mono ?_
  rintro e w1 ⟨a1, cap1, rfl, hc1, _, _, r1, b1⟩
  have R1 : Hid (Rd w1 a1 B) := r1
  clear r1
  go_wp2_with fail
  refine (P1.out _ _ _ R1.out).mono ?_
  rintro e w2 ⟨ax, nx, cx, rfl, hx1, hx2, hx3, hx4, b2, hx5⟩
  go_wp2_with fail
  refine (Q1.out _ (Rd.later R0.out (chain b1 b2))).mono ?_
  rintro e w3 ⟨ay, ny, cy, rfl, hy1, hy2, hy3, hy4, b3⟩
  go_wp2_with fail
  refine (bytes_any _ _ _ _ _ _ X1 X1 _ hx1 hy1 (by omega) (by omega) (Rd.later hx4 b3) hy4).mono ?_
  rintro e w4 ⟨rfl, b4⟩
  rw [decide_eq_true rfl]
  go_wp2_with fail
  refine (spoil_any ax nx cx X1 w1 _ hx1 (by omega) (kept_row (kept_row hx5 b3) b4)).mono ?_
  rintro e w5 ⟨rfl, b5⟩
  have c5 : Below w1.heap.size w1 w5 := (chain (chain b2 b3) b4).trans b5
  have R5 : Hid (Rd w5 a1 B) := Rd.later R1.out c5
  have S5 : Hid (Rd w5 a0 B) := Rd.later R0.out (chain b1 c5)
  have B5 : Hid (Below w.heap.size w w5) := chain b1 c5
  clear b1 b2 b3 b4 b5 c5 hx1 hx2 hx3 hx4 hx5 hy1 hy2 hy3 hy4 R1 P1 Q1
  go_wp2_with fail
  refine (P2.out _ _ _ R5.out).mono ?_
  rintro e w6 ⟨bx, mx, dx, rfl, hx1, hx2, hx3, hx4, b2, hx5⟩
  go_wp2_with fail
  refine (Q2.out _ (Rd.later S5.out b2)).mono ?_
  rintro e w7 ⟨cy, ny2, dy, rfl, hy1, hy2, hy3, hy4, b3⟩
  go_wp2_with fail
  refine (bytes_any _ _ _ _ _ _ X2 X2 _ hx1 hy1 (by omega) (by omega) (Rd.later hx4 b3) hy4).mono ?_
  rintro e w8 ⟨rfl, b4⟩
  rw [decide_eq_true rfl]
  have c8 := chain (chain b2 b3) b4
  have R8 : Hid (Rd w8 a1 B) := Rd.later R5.out c8
  have S8 : Hid (Rd w8 a0 B) := Rd.later S5.out c8
  have B8 : Hid (Below w.heap.size w w8) := chain B5.out c8
  clear b2 b3 b4 c8 hx1 hx2 hx3 hx4 hx5 hy1 hy2 hy3 hy4 R5 S5 B5 P2 Q2
  go_wp2_with fail
  refine (P3.out _ _ _ R8.out).mono ?_
  rintro e w9 ⟨fx, ox, gx, rfl, hx1, hx2, hx3, hx4, b2, hx5⟩
  go_wp2_with fail
  refine (Q3.out _ (Rd.later S8.out b2)).mono ?_
  rintro e w10 ⟨fy, oy, gy, rfl, hy1, hy2, hy3, hy4, b3⟩
  go_wp2_with fail
  refine (bytes_any _ _ _ _ _ _ X3 X3 _ hx1 hy1 (by omega) (by omega) (Rd.later hx4 b3) hy4).mono ?_
  rintro e w11 ⟨rfl, b4⟩
  rw [decide_eq_true rfl]
  have c11 := chain (chain b2 b3) b4
  have R11 : Hid (Rd w11 a1 B) := Rd.later R8.out c11
  have S11 : Hid (Rd w11 a0 B) := Rd.later S8.out c11
  have B11 : Hid (Below w.heap.size w w11) := chain B8.out c11
  clear b2 b3 b4 c11 hx1 hx2 hx3 hx4 hx5 hy1 hy2 hy3 hy4 R8 S8 B8 P3 Q3
  go_wp2_with fail
  refine (P4.out _ _ _ hc1 R11.out).mono ?_
  rintro e w12 ⟨rfl, hw⟩
  subst hw
  go_wp2_with fail
  refine (Q4.out _ S11.out).mono ?_
  rintro e w12 ⟨rfl, hw⟩
  subst hw
  clear P4 Q4
  go_wp2_with fail
  refine (P5.out _ _ _ hc1 R11.out).mono ?_
  rintro e w12 ⟨rfl, hw⟩
  subst hw
  go_wp2_with fail
  refine (Q5.out _ S11.out).mono ?_
  rintro e w12 ⟨rfl, hw⟩
  subst hw
  clear P5 Q5
  go_wp2_with fail
  refine (P6.out _ _ _ hc1 R11.out).mono ?_
  rintro e w13 ⟨rfl, b13⟩
  go_wp2_with fail
  refine (Q6.out _ (Rd.later S11.out b13)).mono ?_
  rintro e w14 ⟨rfl, hw⟩
  subst hw
  clear P6 Q6
  go_wp2_with fail
  refine (bytes_any a1 a0 len0 len0 cap1 cap0 B B _ HB.out HB.out (by omega) (by omega) (Rd.later R11.out b13) (Rd.later S11.out b13)).mono ?_
  rintro e w15 ⟨rfl, b15⟩
  rw [decide_eq_true rfl]
  go_wp2_with fail
  refine (wakes_any _).mono ?_
  rintro e w16 ⟨rfl, b16⟩
  go_wp2
  go_ret
  exact ⟨rfl, chain (chain (chain B11.out b13) b15) b16⟩

set_option maxRecDepth 100000 in
set_option maxHeartbeats 400000 in
theorem exact_long (a0 : Option Addr) (len0 cap0 : Nat) (n p size : Int) (s : ByteArray) (w : World) (m0 : len0 ≤ 9223372036854775807) (m1 : s.size ≤ 9223372036854775807) (h : 300 < len0 ∨ 300 < s.size) :
    Calls Try.prog 3 #[.slice a0 len0 cap0, .int .i64 n, .int .i64 p, .int .i64 size, .string s] w fun e w' => e = .returned (.bool true) ∧ Below w.heap.size w w' := by
  by_cases h0 : 300 < len0
  · go_enter Try.func3, Try.ntmps3
    go_wp2_with fail
    go_ret
    exact ⟨rfl, Below.refl _ _⟩
  · have h1 : 300 < s.size := by omega
    clear h
    go_enter Try.func3, Try.ntmps3
    go_wp2_with fail
    go_ret
    exact ⟨rfl, Below.refl _ _⟩

theorem exact_walk (a0 : Option Addr) (len0 cap0 : Nat) (z0 : List Int) (n p size : Int) (s : ByteArray) (w : World) (k0 : IsInts .u8 w a0 len0 cap0 z0) (hs : s.size ≤ maxLen) :
    Calls Try.prog 3 #[.slice a0 len0 cap0, .int .i64 n, .int .i64 p, .int .i64 size, .string s] w fun e w' => e = .returned (.bool true) ∧ Below w.heap.size w w' := by
  have hs63 : s.size ≤ 9223372036854775807 := by unfold maxLen at hs; exact hs
  by_cases h : 300 < len0 ∨ 300 < s.size
  · exact exact_long a0 len0 cap0 n p size s w k0.small hs63 h
  obtain ⟨B, hB, c0, r0, n0⟩ := k0.bytes
  exact exact_core a0 len0 cap0 B n p size s w hB (by omega) (by omega) r0 n0 _ _ _ _ _ _ _ _ _ _ _ _ _ _ _
    (fun wx a cap hr => wput_any a len0 cap n size B wx hB (by omega) hr) (fun wx hr => rput_any a0 len0 cap0 n size B wx hB (by omega) n0 hr)
    (fun wx a cap hr => wputInt_any a len0 cap n B wx hB (by omega) hr) (fun wx hr => rputInt_any a0 len0 cap0 n B wx hB (by omega) n0 hr)
    (fun wx a cap hr => wputText_any a len0 cap s B wx hB (by omega) hs63 hr) (fun wx hr => rputText_any a0 len0 cap0 s B wx hB (by omega) hs63 n0 hr)
    (fun wx a cap hc hr => get_any a len0 cap p size B wx hB (by omega) hc hr) (fun wx hr => rget_any a0 len0 cap0 p size B wx hB (by omega) c0 hr)
    (fun wx a cap hc hr => getInt_any a len0 cap p B wx hB (by omega) hc hr) (fun wx hr => rgetInt_any a0 len0 cap0 p B wx hB (by omega) c0 hr)
    (fun wx a cap hc hr => getText_any a len0 cap p B wx hB (by omega) hc hr) (fun wx hr => rgetText_any a0 len0 cap0 p B wx hB (by omega) c0 hr)

end Go.Proofs.Ytfppmdkjlmmbnaa
