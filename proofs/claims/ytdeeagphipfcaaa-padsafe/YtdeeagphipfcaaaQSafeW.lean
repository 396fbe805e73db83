/-
  PadSafe's walk: what the law answers, whatever its rows and its acts.
-/
import Derived.Test.YtdeeagphipfcaaaRows
import Derived.Test.YtdeeagphipfcaaaQSafe
import Derived.Test.YtdeeagphipfcaaaQChoice
namespace Go.Proofs.Ytdeeagphipfcaaa
open Go.RowKit Go.Lib
set_option linter.unusedVariables false

theorem SlO.keepR {K : Nat → Prop} {w w' : World} {a : Option Addr} {L : List Bool} {cap : Nat} (h : RdO w a L) (hK : ∀ b, b < w.heap.size → K b) (hs : Stay K w w') : KeepR K w' a L := h.kept hK hs

set_option maxRecDepth 100000 in
set_option maxHeartbeats 8000000 in
theorem psafe_walk (a0 a1 : Option Addr) (n0 n1 cap0 cap1 : Nat) (R : List (List UInt8)) (L : List PA) (w : World) (h0 : IsByteRows w a0 n0 R) (h1 : IsActs w a1 n1 L) :
    Calls Try.prog 4 #[.slice a0 n0 cap0, .slice a1 n1 cap1] w fun e w' => e = .returned (.bool true) ∧ Below w.heap.size w w' := by
  obtain ⟨hR1, hR2, hR3, hR4⟩ := h0
  obtain ⟨hL1, hL2, hL3, hL4⟩ := h1
  have HR1 : Hid (R.length = n0) := hR1
  have HR3 : Hid (RdBB w a0 R) := hR3
  have HR4 : Hid (∀ l ∈ R, l.length ≤ 9223372036854775807) := hR4
  have HL1 : Hid (L.length = n1) := hL1
  have HL3 : Hid (RdA w a1 L) := hL3
  have HL4 : Hid (∀ x ∈ L, x.Ok) := hL4
  clear hR1 hR3 hR4 hL1 hL3 hL4
  obtain ⟨K, hKd⟩ : ∃ K : Nat → Prop, K = fun b => b < w.heap.size := ⟨_, rfl⟩
  have HK : Hid (∀ b, K b → b < w.heap.size) := by rw [hKd]; exact fun _ h => h
  have HKK : Hid (∀ b, b < w.heap.size → K b) := by rw [hKd]; exact fun _ h => h
  have HKB : Hid (∀ w1, Stay K w w1 → Below w.heap.size w w1) := by rw [hKd]; exact fun w1 h => below_of_stay h
  have HKw : Hid (∀ w', Stay K w w' → ∀ b, K b → b < w'.heap.size) := fun w' h b hb => Nat.lt_of_lt_of_le (HK.out b hb) h.size
  clear hKd
  go_enter Try.func4, Try.ntmps4
  go_wp2_with fail
  refine (heavyQ_any a1 n1 cap1 L w HL1.out hL2 HL3.out HL4.out).mono ?_
  rintro e w0 ⟨hv, rfl, hw0, hH⟩
  subst hw0
  cases hv
  case true =>
    go_wp2
    go_ret
    exact ⟨rfl, Below.refl _ _⟩
  have HH : Hid (∀ i (hi : i < L.length), i < 60 → L[i].b.length ≤ 300 ∧ L[i].k.length ≤ 300) := hH rfl
  clear hH
  by_cases hbig : 20 < n0
  · go_wp2
    go_ret
    exact ⟨rfl, Below.refl _ _⟩
  go_wp2_with fail
  refine (new_any K w0 HK.out).mono ?_
  rintro e w1 ⟨rfl, hp1, hb1⟩
  have HP1 : Hid (PadAt K w1 w0.heap.size (stR (R.take 0) 0)) := hp1
  have HS1 : Hid (Stay K w0 w1) := Stay.of_below hb1 HK.out
  clear hp1 hb1
  generalize w0.heap.size = g at HP1 ⊢
  go_wp2_with fail
  go_loopw [6] (fun i wr => ∃ k : Nat, k ≤ n0 ∧ i = .int .i64 k ∧ Hid (PadAt K wr g (stR (R.take k) 0)) ∧ Hid (Stay K w0 wr) ∧ Hid (∀ i (hi : i < R.length), i < k → R[i].length ≤ 300)) (fun i _ => n0 - (RowKit.intOf i).toNat)
  case atStart => exact ⟨0, Nat.zero_le _, rfl, HP1, HS1, fun i _ h => absurd h (by omega)⟩
  case round =>
    obtain ⟨k, hk, rfl, hP, hS, hT⟩ := hrel
    by_cases hlt : k < n0
    · have hkR : k < R.length := by rw [HR1.out]; exact hlt
      obtain ⟨b0, o0, rfl, hc0⟩ := HR3.out (by omega)
      obtain ⟨u, hu, ar, capr, rfl, hr1, hr2, hr3⟩ := hc0 k hkR
      have x0 := cell_later (HKB.out _ hS.out) hu
      have HRr : Hid (Rd wr ar R[k]) := hr2.later (HKB.out _ hS.out)
      have hl64 := HR4.out R[k] (List.getElem_mem hkR)
      clear hc0 hu hr2 hr3
      by_cases h300 : 300 < R[k].length
      · have HSx : Hid (Below w0.heap.size w0 wr) := HKB.out _ hS.out
        go_wp2
        go_ret
        exact ⟨rfl, HSx.out⟩
      · have HT' : Hid (∀ i (hi : i < R.length), i < k + 1 → R[i].length ≤ 300) := fun i hi hik => by
          rcases Nat.lt_or_ge i k with h | h
          · exact hT.out i hi h
          · obtain rfl : i = k := by omega
            omega
        have HE : Hid (stR (R.take (k + 1)) 0 = stR (R.take k ++ [R[k]]) 0) := by rw [List.take_succ_eq_append_getElem hkR]; rfl
        go_wp2_with fail
        refine (append_of _ (stR_append (R.take k) R[k] (by simp; omega) (by omega)) (HKw.out _ hS.out) hP.out rfl (by omega) HRr.out).mono ?_
        rintro e w2 ⟨rfl, hp2, hs2⟩
        rw [← HE.out] at hp2
        have HP2 : Hid _ := hp2
        have HS2 : Hid _ := hS.out.trans hs2
        clear hp2 hs2 hP hS
        go_wp2
        exact ⟨⟨k + 1, by omega, by go_num, HP2.out, HS2.out, HT'.out⟩, by simp [RowKit.intOf]; omega⟩
    · obtain rfl : k = n0 := by omega
      have HP1' : Hid (PadAt K wr g (stR R 0)) := by
        have := hP.out
        rw [List.take_of_length_le (by rw [HR1.out]; exact Nat.le_refl _)] at this
        exact this
      clear HP1 HS1 hlt hk hP
      go_wp2_with fail
      refine (sync_of _ (stR_sync R) HP1'.out).mono ?_
      rintro e w2 ⟨rfl, hp2, hs2⟩
      have HP2 : Hid _ := hp2
      have HS2 : Hid _ := hS.out.trans hs2
      have HI2 : Hid (SafeI R (stR R R.length)) := stR_safe R
      clear hp2 hs2 HP1' hS
      generalize stR R R.length = s0 at HP2 HI2
      go_wp2_with fail
      go_loopw [7] (fun i wr => ∃ (j : Nat) (s : PadS), j ≤ n1 ∧ j ≤ 60 ∧ i = .int .i64 j ∧ Hid (SafeI R s) ∧ Hid (PadAt K wr g s) ∧ Hid (Stay K w0 wr)) (fun i _ => n1 - (RowKit.intOf i).toNat)
      case atStart => exact ⟨0, s0, Nat.zero_le _, Nat.zero_le _, rfl, HI2, HP2, HS2⟩
      case round =>
        obtain ⟨j, s, hj, hj60, rfl, hI, hP, hS⟩ := hrel
        clear HP2 HS2 HI2
        by_cases hlt : j < n1 ∧ j < 60
        · obtain ⟨hlt, hlt60⟩ := hlt
          have hjL : j < L.length := by rw [HL1.out]; exact hlt
          obtain ⟨b1, o1, rfl, hc1⟩ := HL3.out (by omega)
          obtain ⟨m1, m2⟩ := HH.out j hjL hlt60
          obtain ⟨x, hx⟩ : ∃ x, x = L[j] := ⟨_, rfl⟩
          have hxk := HL4.out L[j] (List.getElem_mem hjL)
          have hA := (hc1 j hjL).later (HKB.out _ hS.out)
          have hA0 := hc1 j hjL
          rw [← hx] at m1 m2 hxk hA hA0
          obtain ⟨c0, c1, ⟨ub, c2, ab, capb, rfl, hb1, hb2, hb3⟩, ⟨uk, c3, ak, capk, rfl, hk1, hk2, hk3⟩, c4⟩ := hA
          have HRB : Hid (Rd wr ab x.b) := hb2
          have HRK : Hid (RdO w0 ak x.k) := by
            obtain ⟨_, _, _, ⟨uk', c3', ak', capk', e', _, hk2', _⟩, _⟩ := hA0
            have := cell_later (HKB.out _ hS.out) c3'
            rw [c3] at this
            cases this
            cases e'
            exact hk2'
          have HNK : Hid (ak = none → x.k = [] ∧ capk = 0) := hk3
          obtain ⟨y1, y2, y3, y4, y5⟩ := hxk
          obtain ⟨v, hv, hv9⟩ := modK x.d 9 (by omega)
          simp only [Int.cast_ofNat_Int] at hv
          clear hc1 hA0 hx hb2 hb3 hk2 hk3
          by_cases v3 : v = 3
          · subst v3
            go_wp2_with fail
            refine (sync_any K g s _ (by exact hP.out.later (bxA _ _))).mono ?_
            rintro e w3 ⟨rfl, hp3, hs3⟩
            have HI4 : Hid _ := hI.out.sync
            have HP4 : Hid _ := hp3
            have HS4 : Hid _ := (stay_later hS.out HK.out (bxA _ _)).trans hs3
            clear hp3 hs3 hI hP hS
            generalize s.sync.1 = s4 at HI4 HP4
            go_wp2_with fail
            refine (safe_any K g _ _ HP4.out).mono ?_
            rintro e w5 ⟨rfl, hw5⟩
            subst hw5
            obtain ⟨z1, z2, z3⟩ := HI4.out
            have z1' : k ≤ s4.safe := by rw [← HR1.out]; exact z1
            have zr := HP4.out.ok.room
            clear z1 z3
            go_wp2_with fail
            refine (len_any K g _ _ HP4.out).mono ?_
            rintro e w5 ⟨rfl, hw5⟩
            subst hw5
            go_wp2_with fail
            refine (safe_any K g _ _ HP4.out).mono ?_
            rintro e w5 ⟨rfl, hw5⟩
            subst hw5
            go_wp2
            exact ⟨⟨j + 1, s4, by omega, by omega, by go_num, HI4.out, HP4.out, HS4.out⟩, by simp [RowKit.intOf]; omega⟩
          by_cases v4 : v = 4
          · subst v4
            go_wp2_with fail
            refine (read_any K g x.n s _ (by exact hP.out.later (bxA _ _))).mono ?_
            rintro e w3 hg3
            obtain ⟨a3, cap3, rfl, _, _, hb3⟩ := hg3.rd
            have HI4 : Hid _ := hI.out
            have HP4 : Hid _ := (hP.out.later (bxA _ _)).later hb3
            have HS4 : Hid _ := stay_later (stay_later hS.out HK.out (bxA _ _)) HK.out hb3
            clear hg3 hb3 hI hP hS
            generalize s = s4 at HI4 HP4
            go_wp2_with fail
            refine (safe_any K g _ _ HP4.out).mono ?_
            rintro e w5 ⟨rfl, hw5⟩
            subst hw5
            obtain ⟨z1, z2, z3⟩ := HI4.out
            have z1' : k ≤ s4.safe := by rw [← HR1.out]; exact z1
            have zr := HP4.out.ok.room
            clear z1 z3
            go_wp2_with fail
            refine (len_any K g _ _ HP4.out).mono ?_
            rintro e w5 ⟨rfl, hw5⟩
            subst hw5
            go_wp2_with fail
            refine (safe_any K g _ _ HP4.out).mono ?_
            rintro e w5 ⟨rfl, hw5⟩
            subst hw5
            go_wp2
            exact ⟨⟨j + 1, s4, by omega, by omega, by go_num, HI4.out, HP4.out, HS4.out⟩, by simp [RowKit.intOf]; omega⟩
          by_cases v5 : v = 5
          · subst v5
            go_wp2_with fail
            refine (read_any K g x.n s _ (by exact hP.out.later (bxA _ _))).mono ?_
            rintro e w3 hg3
            obtain ⟨a3, cap3, rfl, _, _, hb3⟩ := hg3.rd
            have HI4 : Hid _ := hI.out
            have HP4 : Hid _ := (hP.out.later (bxA _ _)).later hb3
            have HS4 : Hid _ := stay_later (stay_later hS.out HK.out (bxA _ _)) HK.out hb3
            clear hg3 hb3 hI hP hS
            generalize s = s4 at HI4 HP4
            go_wp2_with fail
            refine (safe_any K g _ _ HP4.out).mono ?_
            rintro e w5 ⟨rfl, hw5⟩
            subst hw5
            obtain ⟨z1, z2, z3⟩ := HI4.out
            have z1' : k ≤ s4.safe := by rw [← HR1.out]; exact z1
            have zr := HP4.out.ok.room
            clear z1 z3
            go_wp2_with fail
            refine (len_any K g _ _ HP4.out).mono ?_
            rintro e w5 ⟨rfl, hw5⟩
            subst hw5
            go_wp2_with fail
            refine (safe_any K g _ _ HP4.out).mono ?_
            rintro e w5 ⟨rfl, hw5⟩
            subst hw5
            go_wp2
            exact ⟨⟨j + 1, s4, by omega, by omega, by go_num, HI4.out, HP4.out, HS4.out⟩, by simp [RowKit.intOf]; omega⟩
          by_cases v6 : v = 6
          · subst v6
            go_wp2_with fail
            refine (crash_any K g ak _ capk x.k x.t s _ (by exact hP.out.later (bxA _ _)) rfl (by omega) (by exact HRK.out.kept HKK.out (stay_later hS.out HK.out (bxA _ _)))).mono ?_
            rintro e w3 ⟨rfl, hp3, hs3⟩
            have HI4 : Hid _ := hI.out.crash x.k x.t
            have HP4 : Hid _ := hp3
            have HS4 : Hid _ := (stay_later hS.out HK.out (bxA _ _)).trans hs3
            clear hp3 hs3 hI hP hS
            generalize s.crash x.k x.t = s4 at HI4 HP4
            go_wp2_with fail
            refine (safe_any K g _ _ HP4.out).mono ?_
            rintro e w5 ⟨rfl, hw5⟩
            subst hw5
            obtain ⟨z1, z2, z3⟩ := HI4.out
            have z1' : k ≤ s4.safe := by rw [← HR1.out]; exact z1
            have zr := HP4.out.ok.room
            clear z1 z3
            go_wp2_with fail
            refine (len_any K g _ _ HP4.out).mono ?_
            rintro e w5 ⟨rfl, hw5⟩
            subst hw5
            go_wp2_with fail
            refine (safe_any K g _ _ HP4.out).mono ?_
            rintro e w5 ⟨rfl, hw5⟩
            subst hw5
            go_wp2
            exact ⟨⟨j + 1, s4, by omega, by omega, by go_num, HI4.out, HP4.out, HS4.out⟩, by simp [RowKit.intOf]; omega⟩
          by_cases v7 : v = 7
          · subst v7
            go_wp2_with fail
            refine (start_any K g s _ (by exact hP.out.later (bxA _ _))).mono ?_
            rintro e w3 ⟨rfl, hp3, hs3⟩
            have HI4 : Hid _ := hI.out.start
            have HP4 : Hid _ := hp3
            have HS4 : Hid _ := (stay_later hS.out HK.out (bxA _ _)).trans hs3
            clear hp3 hs3 hI hP hS
            generalize s.start = s4 at HI4 HP4
            go_wp2_with fail
            refine (safe_any K g _ _ HP4.out).mono ?_
            rintro e w5 ⟨rfl, hw5⟩
            subst hw5
            obtain ⟨z1, z2, z3⟩ := HI4.out
            have z1' : k ≤ s4.safe := by rw [← HR1.out]; exact z1
            have zr := HP4.out.ok.room
            clear z1 z3
            go_wp2_with fail
            refine (len_any K g _ _ HP4.out).mono ?_
            rintro e w5 ⟨rfl, hw5⟩
            subst hw5
            go_wp2_with fail
            refine (safe_any K g _ _ HP4.out).mono ?_
            rintro e w5 ⟨rfl, hw5⟩
            subst hw5
            go_wp2
            exact ⟨⟨j + 1, s4, by omega, by omega, by go_num, HI4.out, HP4.out, HS4.out⟩, by simp [RowKit.intOf]; omega⟩
          by_cases v8 : v = 8
          · subst v8
            go_wp2_with fail
            refine (trip_any K g x.n ak _ capk x.k x.t s _ (by exact HKw.out _ (stay_later hS.out HK.out (bxA _ _))) (by omega) (by exact hP.out.later (bxA _ _)) rfl (by omega) (by omega) HNK.out (by exact HRK.out.later (HKB.out _ (stay_later hS.out HK.out (bxA _ _))))).mono ?_
            rintro e w3 ⟨rfl, hp3, hs3⟩
            have HI4 : Hid _ := hI.out.trip x.n x.k x.t
            have HP4 : Hid _ := hp3
            have HS4 : Hid _ := (stay_later hS.out HK.out (bxA _ _)).trans hs3
            clear hp3 hs3 hI hP hS
            generalize s.trip x.n x.k x.t = s4 at HI4 HP4
            go_wp2_with fail
            refine (safe_any K g _ _ HP4.out).mono ?_
            rintro e w5 ⟨rfl, hw5⟩
            subst hw5
            obtain ⟨z1, z2, z3⟩ := HI4.out
            have z1' : k ≤ s4.safe := by rw [← HR1.out]; exact z1
            have zr := HP4.out.ok.room
            clear z1 z3
            go_wp2_with fail
            refine (len_any K g _ _ HP4.out).mono ?_
            rintro e w5 ⟨rfl, hw5⟩
            subst hw5
            go_wp2_with fail
            refine (safe_any K g _ _ HP4.out).mono ?_
            rintro e w5 ⟨rfl, hw5⟩
            subst hw5
            go_wp2
            exact ⟨⟨j + 1, s4, by omega, by omega, by go_num, HI4.out, HP4.out, HS4.out⟩, by simp [RowKit.intOf]; omega⟩
          have e3 : ((v : Int) == 3) = false := by simp; omega
          have e4 : ((v : Int) == 4) = false := by simp; omega
          have e5 : ((v : Int) == 5) = false := by simp; omega
          have e6 : ((v : Int) == 6) = false := by simp; omega
          have e7 : ((v : Int) == 7) = false := by simp; omega
          have e8 : ((v : Int) == 8) = false := by simp; omega
          clear v3 v4 v5 v6 v7 v8
          go_wp2_with fail
          refine (append_any K g ab _ capb x.b s _ (by exact HKw.out _ (stay_later hS.out HK.out (bxA _ _))) (by exact hP.out.later (bxA _ _)) rfl (by omega) (by exact HRB.out.later (bxA _ _))).mono ?_
          rintro e w3 ⟨rfl, hp3, hs3⟩
          have HI4 : Hid _ := hI.out.append x.b
          have HP4 : Hid _ := hp3
          have HS4 : Hid _ := (stay_later hS.out HK.out (bxA _ _)).trans hs3
          clear hp3 hs3 hI hP hS
          generalize (s.append x.b).1 = s4 at HI4 HP4
          go_wp2_with fail
          refine (safe_any K g _ _ HP4.out).mono ?_
          rintro e w5 ⟨rfl, hw5⟩
          subst hw5
          obtain ⟨z1, z2, z3⟩ := HI4.out
          have z1' : k ≤ s4.safe := by rw [← HR1.out]; exact z1
          have zr := HP4.out.ok.room
          clear z1 z3
          go_wp2_with fail
          refine (len_any K g _ _ HP4.out).mono ?_
          rintro e w5 ⟨rfl, hw5⟩
          subst hw5
          go_wp2_with fail
          refine (safe_any K g _ _ HP4.out).mono ?_
          rintro e w5 ⟨rfl, hw5⟩
          subst hw5
          go_wp2
          exact ⟨⟨j + 1, s4, by omega, by omega, by go_num, HI4.out, HP4.out, HS4.out⟩, by simp [RowKit.intOf]; omega⟩
        · have hdone : n1 ≤ j ∨ 60 ≤ j := by omega
          have HIc : Hid (SafeI R (s.crash [] (-1)).start) := (hI.out.crash [] (-1)).start
          rcases Nat.lt_or_ge j n1 with hjn | hjn
          focus
            have hj6 : 60 ≤ j := by omega
            go_wp2_with fail
            clear hj6
          rotate_left
          focus
            go_wp2_with fail
          all_goals
            refine (crash_of (keep := []) (kn := 0) _ rfl hP.out rfl (by omega) (KeepR.nil _ _ _)).mono ?_
            rintro e w3 ⟨rfl, hp3, hs3⟩
            have HP3 : Hid _ := hp3
            have HS3 : Hid _ := hS.out.trans hs3
            clear hp3 hs3 hP hS
            go_wp2_with fail
            refine (start_of _ rfl HP3.out).mono ?_
            rintro e w4 ⟨rfl, hp4, hs4⟩
            have HP4 : Hid _ := hp4
            have HS4 : Hid _ := HS3.out.trans hs4
            have HO4 : Hid ((s.crash [] (-1)).start.off = false) := rfl
            clear hp4 hs4 HP3 HS3
            generalize (s.crash [] (-1)).start = s4 at HP4 HIc HO4
            go_wp2_with fail
            go_loopw [9] (fun i wr => ∃ i' : Nat, i' ≤ k ∧ i = .int .i64 i' ∧ Hid (PadAt K wr g s4) ∧ Hid (Stay K w0 wr)) (fun i _ => k - (RowKit.intOf i).toNat)
            case atStart => exact ⟨0, Nat.zero_le _, rfl, HP4, HS4⟩
            case round =>
              obtain ⟨i, hi, rfl, hP, hS⟩ := hrel
              clear HP4 HS4
              by_cases hlt : i < k
              · have hiR : i < R.length := by rw [HR1.out]; exact hlt
                obtain ⟨b0, o0, rfl, hc0⟩ := HR3.out (by omega)
                obtain ⟨u, hu, ar, capr, rfl, hr1, hr2, hr3⟩ := hc0 i hiR
                go_wp2_with fail
                refine (read_of _ (HIc.out.read HO4.out i hiR) hP.out).mono ?_
                rintro e w9 hg9
                obtain ⟨a9, cap9, rfl, _, hr9, hb9⟩ := hg9.rd
                have HP9 : Hid _ := hP.out.later hb9
                have HS9 : Hid (Stay K w0 w9) := stay_later hS.out HK.out hb9
                have HR9 : Hid (Rd w9 a9 R[i]) := hr9
                have x0 := cell_later (HKB.out _ HS9.out) hu
                have HRr : Hid (Rd w9 ar R[i]) := hr2.later (HKB.out _ HS9.out)
                have hl64 := HR4.out R[i] (List.getElem_mem hiR)
                have hl300 := hT.out i hiR hlt
                clear hc0 hu hr2 hr3 hg9 hr9 hb9 hl64
                go_wp2_with fail
                refine (bytes_any _ _ _ _ _ _ R[i] R[i] _ rfl rfl (by omega) (by omega) HR9.out HRr.out).mono ?_
                rintro e w10 ⟨rfl, hb10⟩
                have HB10 : Hid (Below w9.heap.size w9 w10) := hb10
                clear hb10
                rw [decide_eq_true rfl]
                go_wp2
                exact ⟨⟨i + 1, by omega, by go_num, HP9.out.later HB10.out, stay_later HS9.out HK.out HB10.out⟩, by simp [RowKit.intOf]; omega⟩
              · go_wp2_with fail
                refine (pwakes_any _).mono ?_
                rintro e w10 ⟨rfl, hb10⟩
                have HB10 : Hid _ := hb10
                clear hb10
                go_wp2
                go_ret
                exact ⟨rfl, HKB.out _ (stay_later hS.out HK.out HB10.out)⟩

end Go.Proofs.Ytdeeagphipfcaaa
