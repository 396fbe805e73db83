/-
  WireBack's walk: what the law answers, whatever its numbers, texts and size.
-/
import Derived.Test.YtfppmdkjlmmbnaaRows
import Derived.Test.YtfppmdkjlmmbnaaBackCalc
import Derived.Test.YtfppmdkjlmmbnaaApi
import Derived.Test.YtfppmdkjlmmbnaaKeep
import Derived.WalkKit
import Derived.WalkSpells
import Derived.WalkLawsBesides
namespace Go.Proofs.Ytfppmdkjlmmbnaa
open Go.RowKit Go.Lib

theorem get_at (a : Option Addr) (len cap n size q : Nat) (p : Int) (hp : p = (q : Int)) (l r : List UInt8) (w : World) (hlen : l.length = len) (hl : len ≤ 1048576) (hcap : len ≤ cap) (hs1 : 1 ≤ size) (hs7 : size ≤ 7) (hn : n < 256 ^ size) (hd : l.drop q = be n size ++ r) (hr : Rd w a l) :
    Calls Try.prog 18 #[.slice a len cap, .int .i64 p, .int .i64 size] w fun e w' => e = .returned (.tuple #[.int .i64 n, .int .i64 (p + size), .int .i64 0]) ∧ w' = w := by
  subst hp
  exact get_back a len cap q n size l r w hlen hl hcap hs1 hs7 hn hd hr

theorem getInt_at (a : Option Addr) (len cap q : Nat) (p n : Int) (hp : p = (q : Int)) (l r : List UInt8) (w : World) (hlen : l.length = len) (hl : len ≤ 1048576) (hcap : len ≤ cap) (hn1 : -1152921504606846976 ≤ n) (hn2 : n ≤ 1152921504606846976) (hd : l.drop q = intBytes n ++ r) (hr : Rd w a l) :
    Calls Try.prog 20 #[.slice a len cap, .int .i64 p] w fun e w' => e = .returned (.tuple #[.int .i64 n, .int .i64 (p + 9), .int .i64 0]) ∧ w' = w := by
  subst hp
  exact getInt_back a len cap q n l r w hlen hl hcap hn1 hn2 hd hr

theorem getText_at (a : Option Addr) (len cap q : Nat) (p : Int) (X : ByteArray) (hp : p = (q : Int)) (l r : List UInt8) (w : World) (hlen : l.length = len) (hl : len ≤ 1048576) (hcap : len ≤ cap) (hX : X.size ≤ 24) (hd : l.drop q = textBytes X.data.toList ++ r) (hr : Rd w a l) :
    Calls Try.prog 22 #[.slice a len cap, .int .i64 p] w fun e w' => e = .returned (.tuple #[.string X, .int .i64 (p + 1 + (X.size : Int)), .int .i64 0]) ∧ Below w.heap.size w w' := by
  subst hp
  have e : (⟨X.data.toList.toArray⟩ : ByteArray) = X := by cases X; simp
  have h := getText_back a len cap q l X.data.toList r w hlen hl hcap (by rw [← size_eq]; exact hX) hd hr
  rw [e, ← size_eq] at h
  exact h

theorem drop_more {l a b : List UInt8} {p k : Nat} (h : l.drop p = a ++ b) (hk : a.length = k) : l.drop (p + k) = b := by
  rw [← List.drop_drop, h, List.drop_append_of_le_length (by omega), List.drop_of_length_le (by omega), List.nil_append]

set_option maxRecDepth 100000 in
set_option maxHeartbeats 2000000 in
theorem back_core (a0 a1 : Option Addr) (len0 cap0 len1 cap1 s : Nat) (N : List Int) (T : List ByteArray) (size : Int) (w : World)
    (hN : N.length = len0) (hT : T.length = len1) (l0 : len0 ≤ 30) (l1 : len1 ≤ 30) (hs1 : 1 ≤ s) (hs7 : s ≤ 7) (hse : wrap64 (1 + wrap64 ((IntKind.u64.wrap size).tmod 7)) = (s : Int))
    (r0 : Hid (RdI .i64 w a0 N)) (r1 : Hid (RdS w a1 T)) (hsz : Hid (∀ t ∈ T, t.size ≤ 9223372036854775807)) :
    Calls Try.prog 4 #[.slice a0 len0 cap0, .slice a1 len1 cap1, .int .i64 size] w fun e w' => e = .returned (.bool true) ∧ Below w.heap.size w w' := by
  have HN : Hid (N.length = len0) := hN
  have HT : Hid (T.length = len1) := hT
  clear hN hT
  go_enter Try.func4, Try.ntmps4
  go_wp2_with fail
  rw [hse]
  clear hse
  go_loopw [7, 8] (fun b i wr => ∃ (k n : Nat) (a : Option Addr), k ≤ len0 ∧ n ≤ 16 * k ∧ i = .int .i64 k ∧ b = .slice a n n ∧ Hid ((encN s (N.take k)).length = n) ∧ Hid (Rd wr a (encN s (N.take k))) ∧ Hid (Below w.heap.size w wr)) (fun _ i _ => len0 - (intOf i).toNat)
  case atStart => exact ⟨0, 0, none, Nat.zero_le _, Nat.zero_le _, rfl, rfl, rfl, Rd.nil _ _, Below.refl _ _⟩
  case round =>
    obtain ⟨k, n, a, hk, hn, rfl, rfl, hL, hR, hB⟩ := hrel
    by_cases hlt : k < len0
    · have hkl : k < N.length := by rw [HN.out]; exact hlt
      obtain ⟨b0, o0, rfl, hc⟩ := r0.out (by omega)
      have hx := cell_later hB.out (hc k hkl)
      have S1 : Hid (encN s (N.take (k + 1)) = (encN s (N.take k) ++ be (mk s N[k]) s) ++ intBytes (wi N[k])) := encN_take s N k hkl
      have S2 : Hid ((encN s (N.take (k + 1))).length = (encN s (N.take k)).length + s + 9) := encN_length_take s N k hkl
      clear hc r0
      generalize N[k] = x at *
      obtain ⟨hm, hmb⟩ := mk_spec s x hs1 hs7
      generalize mk s x = A at *
      clear hkl
      go_wp2_with fail
      refine (put_len a n n A s _ _ hL.out (by omega) hs1 hs7 hmb hR.out).mono ?_
      rintro e w1 ⟨g1, rfl, hg1, hr1, hb1⟩
      have hx1 := cell_later hb1 hx
      go_wp2_with fail
      refine (within_any x _).mono ?_
      rintro e w1' ⟨rfl, hw⟩
      subst hw
      go_wp2_with fail
      refine (putInt_len _ (n + s) _ (wi x) _ _ (by rw [List.length_append, hL.out, be_length]) (by omega) (wi_lo x) (wi_hi x) hr1.rd).mono ?_
      rintro e w2 ⟨g2, rfl, hg2, hr2, hb2⟩
      have RR : Hid (Rd w2 (some ⟨g2, 0, none⟩) (encN s (N.take (k + 1)))) := by rw [S1.out]; exact hr2.rd
      have LL : Hid ((encN s (N.take (k + 1))).length = n + s + 9) := by rw [S2.out, hL.out]; rfl
      have BB : Hid (Below w.heap.size w w2) := chain (chain hB.out hb1) hb2
      clear hr1 hr2 hb1 hb2 hL hR hB S1 S2
      go_wp2_with fail
      go_roundw
      case rel => exact ⟨k + 1, n + s + 9, _, by omega, by omega, by go_num, rfl, LL, RR, BB⟩
      case measure => simp [intOf]; omega
    · obtain rfl : len0 = k := by omega
      have LN : Hid ((encN s N).length = n) := by have h := hL.out; rw [List.take_of_length_le (by rw [HN.out]; exact Nat.le_refl _)] at h; exact h
      have RN : Hid (Rd wr a (encN s N)) := by have h := hR.out; rw [List.take_of_length_le (by rw [HN.out]; exact Nat.le_refl _)] at h; exact h
      clear hL hR
      go_wp2_with fail
      go_loopw [7, 13] (fun b i wq => ∃ (j m : Nat) (c : Option Addr), j ≤ len1 ∧ m ≤ 480 + 25 * j ∧ i = .int .i64 j ∧ b = .slice c m m ∧ Hid ((encN s N ++ encT (T.take j)).length = m) ∧ Hid (Rd wq c (encN s N ++ encT (T.take j))) ∧ Hid (∀ t ∈ T.take j, t.size ≤ 24) ∧ Hid (Below w.heap.size w wq)) (fun _ i _ => len1 - (intOf i).toNat)
      case atStart => exact ⟨0, n, a, Nat.zero_le _, by omega, rfl, rfl, by show (_ : Nat) = _; simpa [encT] using LN.out, by show Rd _ _ _; simpa [encT] using RN.out, by simp [Hid], hB⟩
      case round =>
        obtain ⟨j, m, c, hj, hm, rfl, rfl, hL, hR, hS, hB2⟩ := hrel
        by_cases hjt : j < len1
        · have hjl : j < T.length := by rw [HT.out]; exact hjt
          obtain ⟨b1, o1, rfl, hc⟩ := r1.out (by omega)
          have hx := cell_later hB2.out (hc j hjl)
          have hx63 := hsz.out T[j] (List.getElem_mem hjl)
          have S1 : Hid (encT (T.take (j + 1)) = encT (T.take j) ++ textBytes T[j].data.toList) := encT_take T j hjl
          have S2 : Hid ((encT (T.take (j + 1))).length = (encT (T.take j)).length + (1 + T[j].size)) := encT_length_take T j hjl
          have S3 : Hid (T[j].size ≤ 24 → ∀ t ∈ T.take (j + 1), t.size ≤ 24) := by
            intro h24 t ht
            rw [List.take_succ_eq_append_getElem hjl, List.mem_append] at ht
            rcases ht with ht | ht
            · exact hS.out t ht
            · rw [List.mem_singleton] at ht; subst ht; exact h24
          clear hc hS
          generalize T[j] = X at *
          clear hjl
          by_cases hX : 24 < X.size
          · go_wp2_with fail
            go_ret
            exact ⟨rfl, hB2.out⟩
          · have S4 : Hid (∀ t ∈ T.take (j + 1), t.size ≤ 24) := S3.out (by omega)
            clear S3
            go_wp2_with fail
            refine (putText_len c m m X _ _ hL.out (by omega) (by omega) hR.out).mono ?_
            rintro e w1 ⟨g1, rfl, hg1, hr1, hb1⟩
            have hx1 := cell_later hb1 hx
            have RR : Hid (Rd w1 (some ⟨g1, 0, none⟩) (encN s N ++ encT (T.take (j + 1)))) := by rw [S1.out, ← List.append_assoc]; exact hr1.rd
            have LL : Hid ((encN s N ++ encT (T.take (j + 1))).length = m + (1 + X.size)) := by have h := hL.out; rw [List.length_append] at h; show (_ : Nat) = _; rw [List.length_append, S2.out]; omega
            have BB : Hid (Below w.heap.size w w1) := chain hB2.out hb1
            clear hr1 hb1 hL hR hB2 S1 S2
            go_wp2_with fail
            go_roundw
            case rel => exact ⟨j + 1, m + (1 + X.size), _, by omega, by omega, by go_num, rfl, LL, RR, S4, BB⟩
            case measure => simp [intOf]; omega
        · obtain rfl : len1 = j := by omega
          have TT : Hid (T.take len1 = T) := List.take_of_length_le (by rw [HT.out]; exact Nat.le_refl _)
          have LA : Hid ((encN s N ++ encT T).length = m) := by have h := hL.out; rw [TT.out] at h; exact h
          have RA : Hid (Rd wr c (encN s N ++ encT T)) := by have h := hR.out; rw [TT.out] at h; exact h
          have SA : Hid (∀ t ∈ T, t.size ≤ 24) := by have h := hS.out; rw [TT.out] at h; exact h
          clear hL hR hS RN hB TT hsz
          go_wp2_with fail
          go_loop [16, 17] (fun p i => ∃ k q : Nat, k ≤ len0 ∧ q ≤ 16 * k ∧ i = .int .i64 k ∧ p = .int .i64 q ∧ Hid ((encN s (N.take k)).length = q)) (fun _ i => len0 - (intOf i).toNat)
          case atStart => exact ⟨0, 0, Nat.zero_le _, Nat.zero_le _, rfl, rfl, rfl⟩
          case round =>
            obtain ⟨k, q, hk, hq, rfl, rfl, hQ⟩ := hrel
            by_cases hlt : k < len0
            · have hkl : k < N.length := by rw [HN.out]; exact hlt
              obtain ⟨b0, o0, rfl, hc⟩ := r0.out (by omega)
              have hx := cell_later hB2.out (hc k hkl)
              have D1 := encN_split s N k hkl (encT T)
              have S2 := encN_length_take s N k hkl
              rw [hQ.out] at D1 S2
              have HS2 : Hid ((encN s (N.take (k + 1))).length = q + s + 9) := S2
              generalize encN s (N.drop (k + 1)) ++ encT T = R at D1
              clear hc S2
              generalize N[k] = x at *
              obtain ⟨hmk, hmb⟩ := mk_spec s x hs1 hs7
              generalize mk s x = A at *
              have D2 := drop_more D1 (be_length A s)
              have HD1 : Hid ((encN s N ++ encT T).drop q = be A s ++ (intBytes (wi x) ++ R)) := D1
              have HD2 : Hid ((encN s N ++ encT T).drop (q + s) = intBytes (wi x) ++ R) := D2
              clear hkl D1 D2 hQ
              go_wp2_with fail
              refine (get_at c m m A s q _ rfl _ _ _ LA.out (by omega) (by omega) hs1 hs7 hmb HD1.out RA.out).mono ?_
              rintro e w1 ⟨rfl, hw⟩
              subst hw
              go_wp2_with fail
              refine (getInt_at c m m (q + s) _ (wi x) (by omega) _ _ _ LA.out (by omega) (by omega) (wi_lo x) (wi_hi x) HD2.out RA.out).mono ?_
              rintro e w1 ⟨rfl, hw⟩
              subst hw
              go_wp2_with fail
              refine (within_any x _).mono ?_
              rintro e w1 ⟨rfl, hw⟩
              subst hw
              go_wp2_with fail
              go_round
              case rel => exact ⟨k + 1, q + s + 9, by omega, by omega, by go_num, by go_num, HS2⟩
              case measure => simp [intOf]; omega
            · obtain rfl : len0 = k := by omega
              have QN : Hid ((encN s N).length = q) := by have h := hQ.out; rw [List.take_of_length_le (by rw [HN.out]; exact Nat.le_refl _)] at h; exact h
              clear hQ
              go_wp2_with fail
              go_loopw [16, 24] (fun p i wq => ∃ j z : Nat, j ≤ len1 ∧ z ≤ 480 + 25 * j ∧ i = .int .i64 j ∧ p = .int .i64 z ∧ Hid ((encN s N).length + (encT (T.take j)).length = z) ∧ Hid (Rd wq c (encN s N ++ encT T)) ∧ Hid (Below w.heap.size w wq)) (fun _ i _ => len1 - (intOf i).toNat)
              case atStart => exact ⟨0, q, Nat.zero_le _, by omega, rfl, rfl, by show (_ : Nat) = _; simpa [encT] using QN.out, RA, hB2⟩
              case round =>
                obtain ⟨j, z, hj, hz, rfl, rfl, hZ, hR, hB3⟩ := hrel
                by_cases hjt : j < len1
                · have hjl : j < T.length := by rw [HT.out]; exact hjt
                  obtain ⟨b1, o1, rfl, hc⟩ := r1.out (by omega)
                  have hx := cell_later hB3.out (hc j hjl)
                  have hx24 := SA.out T[j] (List.getElem_mem hjl)
                  have D1 := encT_split T j hjl (encN s N)
                  have S2 := encT_length_take T j hjl
                  rw [hZ.out] at D1
                  have HS2 : Hid ((encN s N).length + (encT (T.take (j + 1))).length = z + (1 + T[j].size)) := by show (_ : Nat) = _; rw [S2, ← hZ.out]; omega
                  have HD1 : Hid ((encN s N ++ encT T).drop z = textBytes T[j].data.toList ++ encT (T.drop (j + 1))) := D1
                  clear hc S2 D1 hZ
                  generalize T[j] = X at *
                  clear hjl
                  go_wp2_with fail
                  refine (getText_at c m m z _ X rfl _ _ _ LA.out (by omega) (by omega) hx24 HD1.out hR.out).mono ?_
                  rintro e w1 ⟨rfl, hb1⟩
                  have hx1 := cell_later hb1 hx
                  have RR : Hid (Rd w1 c (encN s N ++ encT T)) := Rd.later hR.out hb1
                  have BB : Hid (Below w.heap.size w w1) := chain hB3.out hb1
                  clear hb1 hR hB3 hx HD1
                  go_wp2_with fail
                  go_roundw
                  case rel => exact ⟨j + 1, z + (1 + X.size), by omega, by omega, by go_num, by go_num, HS2, RR, BB⟩
                  case measure => simp [intOf]; omega
                · obtain rfl : len1 = j := by omega
                  have hzm : z = m := by
                    have h1 := hZ.out
                    have h2 := LA.out
                    rw [List.take_of_length_le (by rw [HT.out]; exact Nat.le_refl _)] at h1
                    rw [List.length_append] at h2
                    omega
                  have hzb : ((z : Int) == (m : Int)) = true := by simp [hzm]
                  clear hzm hZ
                  go_wp2_with fail
                  refine (wakes_any _).mono ?_
                  rintro e w7 ⟨rfl, hb7⟩
                  go_wp2
                  go_ret
                  exact ⟨rfl, chain hB3.out hb7⟩

set_option maxRecDepth 100000 in
set_option maxHeartbeats 400000 in
theorem back_long (a0 a1 : Option Addr) (len0 cap0 len1 cap1 : Nat) (size : Int) (w : World) (m0 : len0 ≤ 9223372036854775807) (m1 : len1 ≤ 9223372036854775807) (h : 30 < len0 ∨ 30 < len1) :
    Calls Try.prog 4 #[.slice a0 len0 cap0, .slice a1 len1 cap1, .int .i64 size] w fun e w' => e = .returned (.bool true) ∧ Below w.heap.size w w' := by
  by_cases h0 : 30 < len0
  · go_enter Try.func4, Try.ntmps4
    go_wp2_with fail
    go_ret
    exact ⟨rfl, Below.refl _ _⟩
  · have h1 : 30 < len1 := by omega
    clear h
    go_enter Try.func4, Try.ntmps4
    go_wp2_with fail
    go_ret
    exact ⟨rfl, Below.refl _ _⟩

theorem back_walk (a0 a1 : Option Addr) (len0 cap0 len1 cap1 : Nat) (z0 : List Int) (z1 : List ByteArray) (size : Int) (w : World) (k0 : IsInts .i64 w a0 len0 cap0 z0) (k1 : IsStrs w a1 len1 cap1 z1) :
    Calls Try.prog 4 #[.slice a0 len0 cap0, .slice a1 len1 cap1, .int .i64 size] w fun e w' => e = .returned (.bool true) ∧ Below w.heap.size w w' := by
  by_cases h : 30 < len0 ∨ 30 < len1
  · exact back_long a0 a1 len0 cap0 len1 cap1 size w k0.small k1.small h
  obtain ⟨N, hN, _, r0, _, _⟩ := k0.ints
  obtain ⟨T, hT, _, r1, hsz⟩ := k1.texts
  obtain ⟨s, hs1, hs7, hse⟩ := size_of size
  exact back_core a0 a1 len0 cap0 len1 cap1 s N T size w hN hT (by omega) (by omega) hs1 hs7 hse r0 r1 hsz

end Go.Proofs.Ytfppmdkjlmmbnaa
