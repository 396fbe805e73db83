/-
  WireRest's walk: what the law answers, whatever its bytes and its size.
-/
import Derived.Test.YtfppmdkjlmmbnaaRows
import Derived.Test.YtfppmdkjlmmbnaaRestCalc
import Derived.Test.YtfppmdkjlmmbnaaGrow
import Derived.Test.YtfppmdkjlmmbnaaFrame
import Derived.WalkKit
import Derived.WalkSpells
import Derived.WalkLawsBesides
namespace Go.Proofs.Ytfppmdkjlmmbnaa
open Go.RowKit Go.Lib

set_option maxRecDepth 100000 in
set_option maxHeartbeats 1000000 in
theorem rest_core (a0 a1 a2 : Option Addr) (len0 cap0 len1 cap1 len2 cap2 : Nat) (A B C : List UInt8) (size : Int) (w : World)
    (hA : A.length = len0) (hB : B.length = len1) (hC : C.length = len2) (l0 : len0 ≤ 300) (l1 : len1 ≤ 300) (l2 : len2 ≤ 300)
    (r0 : Rd w a0 A) (r1 : Rd w a1 B) (r2 : Rd w a2 C) (n0 : a0 = none → A = [] ∧ cap0 = 0) (n1 : a1 = none → B = [] ∧ cap1 = 0) (n2 : a2 = none → C = [] ∧ cap2 = 0)
    (x1 i1 e1 x2 i2 e2 i3 e3 y1 j1 f1 y2 j2 f2 j3 f3 : Int) (s3 t3 : ByteArray)
    (G1 : Hid (∀ w, Rd w a1 B → Calls Try.prog 18 #[.slice a1 len1 cap1, .int .i64 0, .int .i64 size] w fun e w' => e = .returned (.tuple #[.int .i64 x1, .int .i64 i1, .int .i64 e1]) ∧ w' = w))
    (G2 : Hid (∀ w, Rd w a1 B → Calls Try.prog 20 #[.slice a1 len1 cap1, .int .i64 0] w fun e w' => e = .returned (.tuple #[.int .i64 x2, .int .i64 i2, .int .i64 e2]) ∧ w' = w))
    (G3 : Hid (∀ w, Rd w a1 B → Calls Try.prog 22 #[.slice a1 len1 cap1, .int .i64 0] w fun e w' => e = .returned (.tuple #[.string s3, .int .i64 i3, .int .i64 e3]) ∧ Below w.heap.size w w'))
    (F1 : Hid (∀ w a cap, len0 + len1 + len2 ≤ cap → Rd w a ((A ++ B) ++ C) → Calls Try.prog 18 #[.slice a (len0 + len1 + len2) cap, .int .i64 (len0 : Int), .int .i64 size] w fun e w' => e = .returned (.tuple #[.int .i64 y1, .int .i64 j1, .int .i64 f1]) ∧ w' = w))
    (F2 : Hid (∀ w a cap, len0 + len1 + len2 ≤ cap → Rd w a ((A ++ B) ++ C) → Calls Try.prog 20 #[.slice a (len0 + len1 + len2) cap, .int .i64 (len0 : Int)] w fun e w' => e = .returned (.tuple #[.int .i64 y2, .int .i64 j2, .int .i64 f2]) ∧ w' = w))
    (F3 : Hid (∀ w a cap, len0 + len1 + len2 ≤ cap → Rd w a ((A ++ B) ++ C) → Calls Try.prog 22 #[.slice a (len0 + len1 + len2) cap, .int .i64 (len0 : Int)] w fun e w' => e = .returned (.tuple #[.string t3, .int .i64 j3, .int .i64 f3]) ∧ Below w.heap.size w w'))
    (D1 : e1 ≠ 0 ∨ (e1 = 0 ∧ y1 = x1 ∧ j1 = i1 + len0 ∧ f1 = 0 ∧ 0 ≤ i1 ∧ i1 ≤ 300))
    (D2 : e2 ≠ 0 ∨ (e2 = 0 ∧ y2 = x2 ∧ j2 = i2 + len0 ∧ f2 = 0 ∧ 0 ≤ i2 ∧ i2 ≤ 300))
    (D3 : e3 ≠ 0 ∨ (e3 = 0 ∧ t3 = s3 ∧ j3 = i3 + len0 ∧ f3 = 0 ∧ 0 ≤ i3 ∧ i3 ≤ 300)) :
    Calls Try.prog 6 #[.slice a0 len0 cap0, .slice a1 len1 cap1, .slice a2 len2 cap2, .int .i64 size] w fun e w' => e = .returned (.bool true) ∧ Below w.heap.size w w' := by
  have HA : Hid (A.length = len0) := hA
  have HB : Hid (B.length = len1) := hB
  have HC : Hid (C.length = len2) := hC
  have N1 : Hid (a1 = none → B = [] ∧ cap1 = 0) := n1
  have N2 : Hid (a2 = none → C = [] ∧ cap2 = 0) := n2
  have N0 : Hid (a0 = none → A = [] ∧ cap0 = 0) := n0
  clear hA hB hC n0 n1 n2
  go_enter Try.func6, Try.ntmps6
  go_wp2_with fail
  refine (twin_any a0 len0 cap0 A _ HA.out (by omega) N0.out r0).mono ?_
  rintro e w1 ⟨a3, cap3, rfl, hc3, ho3, hn3, hr3, hb1⟩
  obtain ⟨a4, cap4, w2, hrun2, hc4, ho4, hr4, hn4, hz4, hb2⟩ := run_append_form (t := 22) (ty := 22) (cap := cap1) Try.underlying22 Try.info5 ho3 HA.out HB.out (r1.later hb1) N1.out (by omega) (by omega) hb1.size
  have hb12 := hb1.trans hb2
  obtain ⟨a5, cap5, w3, hrun3, hc5, ho5, hr5, hn5, hz5, hb3⟩ := run_append_form (t := 22) (ty := 22) (n := len0 + len1) (cap := cap2) Try.underlying22 Try.info5 ho4 (by rw [List.length_append, HA.out, HB.out]) HC.out (r2.later hb12) N2.out (by omega) (by omega) hb12.size
  have hb13 := hb12.trans hb3
  have q1 := r1.later hb13
  have R1 : Hid (Rd w3 a1 B) := q1
  have R5 : Hid (Rd w3 a5 ((A ++ B) ++ C)) := hr5
  have B3 : Hid (Below w.heap.size w w3) := hb13
  clear hb1 hb2 hb3 hb12 hb13 ho3 ho4 ho5 hn3 hn4 hn5 hr3 hr4 hr5 r0 r1 r2 q1 hz4 hz5
  go_wp2_with (first | (at_builtin; refine wpList_append_run rfl (.tmp 32) (.tmp 33) 22 22 rfl _ _ _ _ rfl rfl hrun2 ?_) | (at_builtin; refine wpList_append_run rfl (.tmp 34) (.tmp 35) 22 22 rfl _ _ _ _ rfl rfl hrun3 ?_))
  clear hrun2 hrun3
  refine (G1.out _ R1.out).mono ?_
  rintro e wa ⟨rfl, hx⟩
  subst hx
  go_wp2_with fail
  refine (F1.out _ _ _ hc5 R5.out).mono ?_
  rintro e wb ⟨rfl, hx⟩
  subst hx
  clear G1 F1
  have E1 : (e1 == 0) = false ∨ (e1 = 0 ∧ y1 = x1 ∧ j1 = i1 + len0 ∧ f1 = 0 ∧ 0 ≤ i1 ∧ i1 ≤ 300) := D1.imp (fun h => by simpa using h) id
  clear D1
  rcases E1 with d1 | ⟨rfl, rfl, rfl, rfl, b1, b2⟩
  all_goals
    go_wp2_with fail
    refine (G2.out _ R1.out).mono ?_
    rintro e wc ⟨rfl, hx⟩
    subst hx
    go_wp2_with fail
    refine (F2.out _ _ _ hc5 R5.out).mono ?_
    rintro e wd ⟨rfl, hx⟩
    subst hx
    clear G2 F2
    have E2 : (e2 == 0) = false ∨ (e2 = 0 ∧ y2 = x2 ∧ j2 = i2 + len0 ∧ f2 = 0 ∧ 0 ≤ i2 ∧ i2 ≤ 300) := D2.imp (fun h => by simpa using h) id
    clear D2
    rcases E2 with d2 | ⟨rfl, rfl, rfl, rfl, b3, b4⟩
    all_goals
      go_wp2_with fail
      refine (G3.out _ R1.out).mono ?_
      rintro e we ⟨rfl, hbe⟩
      go_wp2_with fail
      refine (F3.out _ _ _ hc5 (Rd.later R5.out hbe)).mono ?_
      rintro e wf ⟨rfl, hbf⟩
      clear G3 F3
      have E3 : (e3 == 0) = false ∨ (e3 = 0 ∧ t3 = s3 ∧ j3 = i3 + len0 ∧ f3 = 0 ∧ 0 ≤ i3 ∧ i3 ≤ 300) := D3.imp (fun h => by simpa using h) id
      clear D3
      rcases E3 with d3 | ⟨rfl, rfl, rfl, rfl, b5, b6⟩
      all_goals
        go_wp2_with fail
        refine (wakes_any _).mono ?_
        rintro e wg ⟨rfl, hbg⟩
        go_wp2
        go_ret
        exact ⟨rfl, chain (chain (chain B3.out hbe) hbf) hbg⟩

set_option maxRecDepth 100000 in
set_option maxHeartbeats 400000 in
theorem rest_long (a0 a1 a2 : Option Addr) (len0 cap0 len1 cap1 len2 cap2 : Nat) (size : Int) (w : World) (m0 : len0 ≤ 9223372036854775807) (m1 : len1 ≤ 9223372036854775807) (m2 : len2 ≤ 9223372036854775807) (h : 300 < len0 ∨ 300 < len1 ∨ 300 < len2) :
    Calls Try.prog 6 #[.slice a0 len0 cap0, .slice a1 len1 cap1, .slice a2 len2 cap2, .int .i64 size] w fun e w' => e = .returned (.bool true) ∧ Below w.heap.size w w' := by
  by_cases h0 : 300 < len0
  · go_enter Try.func6, Try.ntmps6
    go_wp2_with fail
    go_ret
    exact ⟨rfl, Below.refl _ _⟩
  by_cases h1 : 300 < len1
  · clear h
    go_enter Try.func6, Try.ntmps6
    go_wp2_with fail
    go_ret
    exact ⟨rfl, Below.refl _ _⟩
  · have h2 : 300 < len2 := by omega
    clear h
    go_enter Try.func6, Try.ntmps6
    go_wp2_with fail
    go_ret
    exact ⟨rfl, Below.refl _ _⟩

theorem rest_walk (a0 a1 a2 : Option Addr) (len0 cap0 len1 cap1 len2 cap2 : Nat) (z0 z1 z2 : List Int) (size : Int) (w : World) (k0 : IsInts .u8 w a0 len0 cap0 z0) (k1 : IsInts .u8 w a1 len1 cap1 z1) (k2 : IsInts .u8 w a2 len2 cap2 z2) :
    Calls Try.prog 6 #[.slice a0 len0 cap0, .slice a1 len1 cap1, .slice a2 len2 cap2, .int .i64 size] w fun e w' => e = .returned (.bool true) ∧ Below w.heap.size w w' := by
  by_cases h : 300 < len0 ∨ 300 < len1 ∨ 300 < len2
  · exact rest_long a0 a1 a2 len0 cap0 len1 cap1 len2 cap2 size w k0.small k1.small k2.small h
  obtain ⟨A, hA, c0, r0, n0⟩ := k0.bytes
  obtain ⟨B, hB, c1, r1, n1⟩ := k1.bytes
  obtain ⟨C, hC, c2, r2, n2⟩ := k2.bytes
  have hall : ((A ++ B) ++ C).length = len0 + len1 + len2 := by simp [hA, hB, hC]; omega
  have d1 := rest_get A B C size
  have d2 := rest_int A B C
  have d3 := rest_text A B C
  rw [hA, hB] at d1 d2 d3
  refine rest_core a0 a1 a2 len0 cap0 len1 cap1 len2 cap2 A B C size w hA hB hC (by omega) (by omega) (by omega) r0 r1 r2 n0 n1 n2 _ _ _ _ _ _ _ _ _ _ _ _ _ _ _ _ _ _
    (fun wx hr => get_any a1 len1 cap1 0 size B wx hB (by omega) c1 hr) (fun wx hr => getInt_any a1 len1 cap1 0 B wx hB (by omega) c1 hr) (fun wx hr => getText_any a1 len1 cap1 0 B wx hB (by omega) c1 hr)
    (fun wx a cap hc hr => get_any a _ cap len0 size _ wx hall (by omega) hc hr) (fun wx a cap hc hr => getInt_any a _ cap len0 _ wx hall (by omega) hc hr) (fun wx a cap hc hr => getText_any a _ cap len0 _ wx hall (by omega) hc hr) ?_ ?_ ?_
  · by_cases he : (rGet B 0 size).2.2 = 0
    · obtain ⟨e, b1, b2⟩ := d1 he
      rw [e]
      exact Or.inr ⟨he, rfl, rfl, rfl, b1, by omega⟩
    · exact Or.inl he
  · by_cases he : (rGetInt B 0).2.2 = 0
    · obtain ⟨e, b1, b2⟩ := d2 he
      rw [e]
      exact Or.inr ⟨he, rfl, rfl, rfl, b1, by omega⟩
    · exact Or.inl he
  · by_cases he : (rGetText B 0).2.2 = 0
    · obtain ⟨e, b1, b2⟩ := d3 he
      rw [e]
      exact Or.inr ⟨he, rfl, rfl, rfl, b1, by omega⟩
    · exact Or.inl he

end Go.Proofs.Ytfppmdkjlmmbnaa
