/-
  PadTwo's walk: what the law answers, whatever its rows and its acts.
-/
import Derived.Test.YtdeeagphipfcaabRows
import Derived.Test.YtdeeagphipfcaabQSafe
import Derived.Test.YtdeeagphipfcaabQChoice
import Derived.Deep.RegionWith
namespace Go.Proofs.Ytdeeagphipfcaab
open Go.RowKit Go.Lib
set_option linter.unusedVariables false

set_option maxHeartbeats 400000 in
theorem new_box (w : World) :
    Calls Try.prog 5 #[] w fun e w' => e = .returned (vP w.heap.size) ∧ PadBox w' w.heap.size (.slice none 0 0) 0 false 0 0 (.slice none 0 0) 0 ∧ Below w.heap.size w w' := by
  go_enter Try.func5, Try.ntmps5
  go_wp2
  go_ret
  exact ⟨rfl, PadBox.made rfl, (Below.refl _ _).alloc (Nat.le_refl _) _⟩

theorem pad0_box {K : Nat → Prop} {w : World} {g : Nat} (h : PadBox w g (.slice none 0 0) 0 false 0 0 (.slice none 0 0) 0) (hK : ¬ K g) : PadAt K w g pad0 :=
  ⟨pad0_ok, hK, .slice none 0 0, [], .slice none 0 0, h, rfl, World.ownsRow_nil _ _ _ _, fun b h => (by cases h), fun p hp => (by cases hp), KeepV.nought _ _⟩

/-- Bools that can be read in blocks that K names. -/
theorem RdO.keptB {K : Nat → Prop} {w w' : World} {a : Option Addr} {L : List Bool} (h : RdO w a L) (hK : ∀ b, b < w.heap.size → K b) (hs : Below w.heap.size w w') : KeepR K w' a L := by
  intro h0
  obtain ⟨b, off, e, hc⟩ := h h0
  have hlt := World.block_lt_of_cell? _ _ (hc 0 h0)
  exact ⟨b, off, e, fun i hi => cell_later hs (hc i hi), .inl (hK b hlt)⟩

theorem stR_read (R : List (List UInt8)) (i : Nat) (hi : i < R.length) : (stR R 0).read (i : Int) = (R[i], 0) := by
  have e : (stR R 0).slots[i]? = some (some R[i]) := by simp [stR, List.getElem?_eq_getElem hi]
  unfold PadS.read
  rw [if_neg (by simp [stR]), if_neg (by simp [stR]; omega), Int.toNat_natCast, e]
  rfl

set_option maxRecDepth 100000 in
set_option maxHeartbeats 8000000 in
theorem ptwo_walk (a0 a1 : Option Addr) (n0 n1 cap0 cap1 : Nat) (R : List (List UInt8)) (L : List PA) (w : World) (h0 : IsByteRows w a0 n0 R) (h1 : IsActs w a1 n1 L) :
    Calls Try.prog 4 #[.slice a0 n0 cap0, .slice a1 n1 cap1] w fun e w' => e = .returned (.bool true) ∧ Below w.heap.size w w' := by
  obtain ⟨hR1, hR2, hR3, hR4⟩ := h0
  obtain ⟨hL1, hL2, hL3, hL4⟩ := h1
  have HR1 : Hid (R.length = n0) := hR1
  have HR3 : Hid (RdBB w a0 R) := hR3
  have HR4 : Hid (∀ l ∈ R, l.length ≤ 9223372036854775807) := hR4
  have HL1 : Hid (L.length = n1) := hL1
  have HL3 : Hid (RdA w a1 L) := hL3
  have HL4 : Hid (∀ x ∈ L, x.Ok) := hL4
  clear hR1 hR3 hR4 hL1 hL3 hL4
  go_enter Try.func4, Try.ntmps4
  go_wp2_with fail
  refine (heavyQ_any a1 n1 cap1 L w HL1.out hL2 HL3.out HL4.out).mono ?_
  rintro e w0 ⟨hv, rfl, hw0, hH⟩
  subst hw0
  cases hv
  case true =>
    go_wp2
    go_ret
    exact ⟨rfl, Below.refl _ _⟩
  have HH : Hid (∀ i (hi : i < L.length), i < 60 → L[i].b.length ≤ 300 ∧ L[i].k.length ≤ 300) := hH rfl
  clear hH
  by_cases hbig : 20 < n0
  · go_wp2
    go_ret
    exact ⟨rfl, Below.refl _ _⟩
  go_wp2_with fail
  refine (new_any (fun b => b < w0.heap.size) w0 (fun _ h => h)).mono ?_
  rintro e w1 ⟨rfl, hp1, hb1⟩
  have HP1 : Hid (PadAt (fun b => b < w0.heap.size) w1 w0.heap.size pad0) := hp1
  have HB1 : Hid (Below w0.heap.size w0 w1) := hb1
  clear hp1 hb1
  go_wp2_with fail
  refine (new_box w1).mono ?_
  rintro e w2 ⟨rfl, hx2, hb2⟩
  obtain ⟨gb, hgb⟩ : ∃ gb, gb = w1.heap.size := ⟨_, rfl⟩
  obtain ⟨K, hKd⟩ : ∃ K : Nat → Prop, K = fun b => b < w0.heap.size ∨ b = gb := ⟨_, rfl⟩
  have hgb0 : w0.heap.size < gb := by rw [hgb]; exact HP1.out.lt
  have hp2 : PadAt K w2 w0.heap.size (stR (R.take 0) 0) := HP1.out.stay (fun b hb1 hb2' => ⟨hb2.block b hb1, fun h => by rw [hKd] at h; rcases h with h | h; exact hb2' h; rw [hgb] at h; omega⟩)
  rw [← hgb] at hx2 ⊢
  have HX2 : Hid (PadBox w2 gb (.slice none 0 0) 0 false 0 0 (.slice none 0 0) 0) := hx2
  have HK : Hid (∀ b, K b → b < w2.heap.size) := by
    rw [hKd]
    rintro b (h | h)
    · have := hx2.lt
      omega
    · rw [h]
      exact hx2.lt
  have HKD : Hid (K = fun b => b < w0.heap.size ∨ b = gb) := hKd
  have HB2 : Hid (Below w0.heap.size w0 w2) := HB1.out.trans (hb2.mono HB1.out.size)
  have HKB : Hid (∀ w', Stay K w2 w' → Below w0.heap.size w0 w') := fun w' h => HB2.out.trans (h.below (fun b hb => by rw [HKD.out]; exact .inl hb))
  have HKw : Hid (∀ w', Stay K w2 w' → ∀ b, K b → b < w'.heap.size) := fun w' h b hb => Nat.lt_of_lt_of_le (HK.out b hb) h.size
  have HG : Hid (w0.heap.size < gb) := hgb0
  have HP2 : Hid (PadAt K w2 w0.heap.size (stR (R.take 0) 0)) := hp2
  have HGB : Hid (gb < w2.heap.size) := hx2.lt
  clear hp2 hx2 hb2 hgb hKd hgb0 HP1 HB1
  obtain ⟨N0, hN0⟩ : ∃ N0, N0 = w0.heap.size := ⟨_, rfl⟩
  rw [← hN0] at HP2 ⊢
  have HN0 : Hid (N0 = w0.heap.size) := hN0
  clear hN0
  go_wp2_with fail
  go_loopw [7] (fun i wr => ∃ k : Nat, k ≤ n0 ∧ i = .int .i64 k ∧ Hid (PadAt K wr N0 (stR (R.take k) 0)) ∧ Hid (Stay K w2 wr) ∧ Hid (∀ i (hi : i < R.length), i < k → R[i].length ≤ 300)) (fun i _ => n0 - (RowKit.intOf i).toNat)
  case atStart => exact ⟨0, Nat.zero_le _, rfl, HP2, Stay.refl _ _, fun i _ h => absurd h (by omega)⟩
  case round =>
    obtain ⟨k, hk, rfl, hP, hS, hT⟩ := hrel
    clear HP2
    by_cases hlt : k < n0
    · have hkR : k < R.length := by rw [HR1.out]; exact hlt
      obtain ⟨b0, o0, rfl, hc0⟩ := HR3.out (by omega)
      obtain ⟨u, hu, ar, capr, rfl, hr1, hr2, hr3⟩ := hc0 k hkR
      have x0 := cell_later (HKB.out _ hS.out) hu
      have HRr : Hid (Rd wr ar R[k]) := hr2.later (HKB.out _ hS.out)
      have hl64 := HR4.out R[k] (List.getElem_mem hkR)
      clear hc0 hu hr2 hr3
      by_cases h300 : 300 < R[k].length
      · have HSx : Hid (Below w0.heap.size w0 wr) := HKB.out _ hS.out
        go_wp2
        go_ret
        exact ⟨rfl, HSx.out⟩
      · have HT' : Hid (∀ i (hi : i < R.length), i < k + 1 → R[i].length ≤ 300) := fun i hi hik => by
          rcases Nat.lt_or_ge i k with h | h
          · exact hT.out i hi h
          · obtain rfl : i = k := by omega
            omega
        have HE : Hid (stR (R.take (k + 1)) 0 = stR (R.take k ++ [R[k]]) 0) := by rw [List.take_succ_eq_append_getElem hkR]; rfl
        go_wp2_with fail
        refine (append_of _ (stR_append (R.take k) R[k] (by simp; omega) (by omega)) (HKw.out _ hS.out) hP.out rfl (by omega) HRr.out).mono ?_
        rintro e w3 ⟨rfl, hp3, hs3⟩
        rw [← HE.out] at hp3
        have HP3 : Hid _ := hp3
        have HS3 : Hid _ := hS.out.trans hs3
        clear hp3 hs3 hP hS
        go_wp2
        exact ⟨⟨k + 1, by omega, by go_num, HP3.out, HS3.out, HT'.out⟩, by simp [RowKit.intOf]; omega⟩
    · obtain rfl : k = n0 := by omega
      have HPA : Hid (PadAt K wr N0 (stR R 0)) := by
        have := hP.out
        rw [List.take_of_length_le (by rw [HR1.out]; exact Nat.le_refl _)] at this
        exact this
      have HXB : Hid (PadBox wr gb (.slice none 0 0) 0 false 0 0 (.slice none 0 0) 0) := HX2.out.same (hS.out.block gb (by rw [HKD.out]; exact .inr rfl))
      have HB3 : Hid (Below w0.heap.size w0 wr) := HKB.out _ hS.out
      obtain ⟨Kb, hKb⟩ : ∃ Kb : Nat → Prop, Kb = fun b => b < wr.heap.size ∧ b ≠ gb := ⟨_, rfl⟩
      obtain ⟨W3, hW3⟩ : ∃ W3, W3 = wr := ⟨_, rfl⟩
      have HKb : Hid (∀ b, Kb b → b < W3.heap.size) := by rw [hKb, hW3]; exact fun b h => h.1
      have HKb0 : Hid (∀ b, b < w0.heap.size → Kb b) := by
        rw [hKb]
        intro b hb
        have h1 := HB3.out.size
        have h2 := HG.out
        exact ⟨by omega, by omega⟩
      have HPB : Hid (PadAt Kb wr gb pad0) := pad0_box HXB.out (by rw [hKb]; exact fun h => h.2 rfl)
      have HBB : Hid (∀ w', Stay Kb W3 w' → Below w0.heap.size w0 w') := fun w' h => by
        have h1 : Below w0.heap.size W3 w' := h.below HKb0.out
        rw [hW3] at h1
        exact HB3.out.trans h1
      have HAA : Hid (∀ w', Stay Kb W3 w' → PadAt K w' N0 (stR R 0)) := fun w' h => by
        rw [hW3] at h
        refine HPA.out.stay fun b hb1 hb2 => ⟨h.block b ?_, hb2⟩
        rw [hKb]
        exact ⟨hb1, fun e => hb2 (by rw [HKD.out]; exact .inr e)⟩
      have HSB : Hid (Stay Kb W3 wr) := by rw [hW3]; exact Stay.refl _ _
      have HKbw : Hid (∀ w', Stay Kb W3 w' → ∀ b, Kb b → b < w'.heap.size) := fun w' h b hb => Nat.lt_of_lt_of_le (HKb.out b hb) h.size
      clear hKb hW3 HPA HXB HB3 hP hS hlt hk HX2 HK HKD HB2 HKB HKw HG HGB
      go_wp2_with fail
      go_loopw [8] (fun i wr => ∃ (j : Nat) (s : PadS), j ≤ n1 ∧ j ≤ 60 ∧ i = .int .i64 j ∧ Hid (PadAt Kb wr gb s) ∧ Hid (Stay Kb W3 wr)) (fun i _ => n1 - (RowKit.intOf i).toNat)
      case atStart => exact ⟨0, pad0, Nat.zero_le _, Nat.zero_le _, rfl, HPB, HSB⟩
      case round =>
        obtain ⟨j, s, hj, hj60, rfl, hP, hS⟩ := hrel
        clear HPB HSB
        by_cases hlt : j < n1 ∧ j < 60
        · obtain ⟨hlt, hlt60⟩ := hlt
          have hjL : j < L.length := by rw [HL1.out]; exact hlt
          obtain ⟨b1, o1, rfl, hc1⟩ := HL3.out (by omega)
          obtain ⟨m1, m2⟩ := HH.out j hjL hlt60
          obtain ⟨x, hx⟩ : ∃ x, x = L[j] := ⟨_, rfl⟩
          have hxk := HL4.out L[j] (List.getElem_mem hjL)
          have hA := (hc1 j hjL).later (HBB.out _ hS.out)
          have hA0 := hc1 j hjL
          rw [← hx] at m1 m2 hxk hA hA0
          obtain ⟨c0, c1, ⟨ub, c2, ab, capb, rfl, hb1, hb2, hb3⟩, ⟨uk, c3, ak, capk, rfl, hk1, hk2, hk3⟩, c4⟩ := hA
          have HRB : Hid (Rd wr ab x.b) := hb2
          have HRK : Hid (RdO w0 ak x.k) := by
            obtain ⟨_, _, _, ⟨uk', c3', ak', capk', e', _, hk2', _⟩, _⟩ := hA0
            have := cell_later (HBB.out _ hS.out) c3'
            rw [c3] at this
            cases this
            cases e'
            exact hk2'
          have HNK : Hid (ak = none → x.k = [] ∧ capk = 0) := hk3
          obtain ⟨y1, y2, y3, y4, y5⟩ := hxk
          obtain ⟨v, hv, hv9⟩ := modK x.d 9 (by omega)
          simp only [Int.cast_ofNat_Int] at hv
          clear hc1 hA0 hx hb2 hb3 hk2 hk3
          by_cases v3 : v = 3
          · subst v3
            go_wp2_with fail
            refine (sync_any Kb gb s _ hP.out).mono ?_
            rintro e w3 ⟨rfl, hp3, hs3⟩
            have HP4 : Hid _ := hp3
            have HS4 : Hid _ := hS.out.trans hs3
            clear hp3 hs3
            clear hP hS
            go_wp2
            exact ⟨⟨j + 1, _, by omega, by omega, by go_num, HP4.out, HS4.out⟩, by simp [RowKit.intOf]; omega⟩
          by_cases v4 : v = 4
          · subst v4
            go_wp2_with fail
            refine (trim_any Kb gb x.n s _ (HKbw.out _ hS.out) hP.out).mono ?_
            rintro e w3 ⟨rfl, hp3, hs3⟩
            have HP4 : Hid _ := hp3
            have HS4 : Hid _ := hS.out.trans hs3
            clear hp3 hs3
            clear hP hS
            go_wp2
            exact ⟨⟨j + 1, _, by omega, by omega, by go_num, HP4.out, HS4.out⟩, by simp [RowKit.intOf]; omega⟩
          by_cases v5 : v = 5
          · subst v5
            go_wp2_with fail
            refine (cut_any Kb gb x.n s _ (HKbw.out _ hS.out) hP.out).mono ?_
            rintro e w3 ⟨rfl, hp3, hs3⟩
            have HP4 : Hid _ := hp3
            have HS4 : Hid _ := hS.out.trans hs3
            clear hp3 hs3
            clear hP hS
            go_wp2
            exact ⟨⟨j + 1, _, by omega, by omega, by go_num, HP4.out, HS4.out⟩, by simp [RowKit.intOf]; omega⟩
          by_cases v6 : v = 6
          · subst v6
            go_wp2_with fail
            go_region_with (first | (go_at_call 14; refine (crash_any Kb gb ak _ capk x.k x.t s _ (by exact hP.out.drew) rfl (by omega) (by exact HRK.out.keptB HKb0.out (HBB.out _ hS.out.drew))).mono ?_; rintro e w3 ⟨rfl, hp3, hs3⟩; have HP4 : Hid _ := hp3; have HS4 : Hid _ := hS.out.drewN 1 |>.trans hs3; clear hp3 hs3))
            all_goals
              clear hP hS
              go_wp2
              exact ⟨⟨j + 1, _, by omega, by omega, by go_num, HP4.out, HS4.out⟩, by simp [RowKit.intOf]; omega⟩
          by_cases v7 : v = 7
          · subst v7
            go_wp2_with fail
            refine (start_any Kb gb s _ hP.out).mono ?_
            rintro e w3 ⟨rfl, hp3, hs3⟩
            have HP4 : Hid _ := hp3
            have HS4 : Hid _ := hS.out.trans hs3
            clear hp3 hs3
            clear hP hS
            go_wp2
            exact ⟨⟨j + 1, _, by omega, by omega, by go_num, HP4.out, HS4.out⟩, by simp [RowKit.intOf]; omega⟩
          by_cases v8 : v = 8
          · subst v8
            go_wp2_with fail
            go_region_with (first | (go_at_call 16; refine (trip_any Kb gb x.n ak _ capk x.k x.t s _ (by exact HKbw.out _ hS.out.drew) (by omega) (by exact hP.out.drew) rfl (by omega) (by omega) HNK.out (by exact HRK.out.later (HBB.out _ hS.out.drew))).mono ?_; rintro e w3 ⟨rfl, hp3, hs3⟩; have HP4 : Hid _ := hp3; have HS4 : Hid _ := hS.out.drewN 1 |>.trans hs3; clear hp3 hs3))
            all_goals
              clear hP hS
              go_wp2
              exact ⟨⟨j + 1, _, by omega, by omega, by go_num, HP4.out, HS4.out⟩, by simp [RowKit.intOf]; omega⟩
          have e3 : ((v : Int) == 3) = false := by simp; omega
          have e4 : ((v : Int) == 4) = false := by simp; omega
          have e5 : ((v : Int) == 5) = false := by simp; omega
          have e6 : ((v : Int) == 6) = false := by simp; omega
          have e7 : ((v : Int) == 7) = false := by simp; omega
          have e8 : ((v : Int) == 8) = false := by simp; omega
          clear v3 v4 v5 v6 v7 v8
          go_wp2_with fail
          refine (append_any Kb gb ab _ capb x.b s _ (HKbw.out _ hS.out) hP.out rfl (by omega) HRB.out).mono ?_
          rintro e w3 ⟨rfl, hp3, hs3⟩
          have HP4 : Hid _ := hp3
          have HS4 : Hid _ := hS.out.trans hs3
          clear hp3 hs3
          clear hP hS
          go_wp2
          exact ⟨⟨j + 1, _, by omega, by omega, by go_num, HP4.out, HS4.out⟩, by simp [RowKit.intOf]; omega⟩
        · have HPa : Hid (PadAt K wr N0 (stR R 0)) := HAA.out _ hS.out
          have HBa : Hid (Below w0.heap.size w0 wr) := HBB.out _ hS.out
          clear hP hS
          rcases Nat.lt_or_ge j n1 with hjn | hjn
          focus
            have hj6 : 60 ≤ j := by omega
            go_wp2_with fail
            clear hj6
          rotate_left
          focus
            go_wp2_with fail
          all_goals
            refine (len_any K N0 _ _ HPa.out).mono ?_
            rintro e w5 ⟨rfl, hw5⟩
            subst hw5
            rw [show (stR R 0).slots.length = k from by rw [show (stR R 0).slots = R.map some from rfl, List.length_map]; exact HR1.out]
            go_wp2_with fail
            refine (safe_any K N0 _ _ HPa.out).mono ?_
            rintro e w5 ⟨rfl, hw5⟩
            subst hw5
            rw [show (stR R 0).safe = 0 from rfl]
            go_wp2_with fail
            refine (off_any K N0 _ _ HPa.out).mono ?_
            rintro e w5 ⟨rfl, hw5⟩
            subst hw5
            rw [show (stR R 0).off = false from rfl]
            go_wp2_with fail
            refine (life_any K N0 _ _ HPa.out).mono ?_
            rintro e w5 ⟨rfl, hw5⟩
            subst hw5
            rw [show (stR R 0).life = 0 from rfl]
            go_wp2_with fail
            go_loopw [9] (fun i wr => ∃ i' : Nat, i' ≤ k ∧ i = .int .i64 i' ∧ Hid (PadAt K wr N0 (stR R 0)) ∧ Hid (Below w0.heap.size w0 wr)) (fun i _ => k - (RowKit.intOf i).toNat)
            case atStart => exact ⟨0, Nat.zero_le _, rfl, HPa, HBa⟩
            case round =>
              obtain ⟨i, hi, rfl, hP, hS⟩ := hrel
              clear HPa HBa
              by_cases hlt : i < k
              · have hiR : i < R.length := by rw [HR1.out]; exact hlt
                obtain ⟨b0, o0, rfl, hc0⟩ := HR3.out (by omega)
                obtain ⟨u, hu, ar, capr, rfl, hr1, hr2, hr3⟩ := hc0 i hiR
                go_wp2_with fail
                refine (read_of _ (stR_read R i hiR) hP.out).mono ?_
                rintro e w9 hg9
                obtain ⟨a9, cap9, rfl, _, hr9, hb9⟩ := hg9.rd
                have HP9 : Hid _ := hP.out.later hb9
                have HS9 : Hid (Below w0.heap.size w0 w9) := chain hS.out hb9
                have HR9 : Hid (Rd w9 a9 R[i]) := hr9
                have x0 := cell_later HS9.out hu
                have HRr : Hid (Rd w9 ar R[i]) := hr2.later HS9.out
                have hl300 := hT.out i hiR hlt
                clear hc0 hu hr2 hr3 hg9 hr9 hb9
                go_wp2_with fail
                refine (bytes_any _ _ _ _ _ _ R[i] R[i] _ rfl rfl (by omega) (by omega) HR9.out HRr.out).mono ?_
                rintro e w10 ⟨rfl, hb10⟩
                have HB10 : Hid (Below w9.heap.size w9 w10) := hb10
                clear hb10
                rw [decide_eq_true rfl]
                go_wp2
                exact ⟨⟨i + 1, by omega, by go_num, HP9.out.later HB10.out, chain HS9.out HB10.out⟩, by simp [RowKit.intOf]; omega⟩
              · go_wp2_with fail
                refine (pwakes_any _).mono ?_
                rintro e w10 ⟨rfl, hb10⟩
                have HB10 : Hid _ := hb10
                clear hb10
                go_wp2
                go_ret
                exact ⟨rfl, chain hS.out HB10.out⟩

end Go.Proofs.Ytdeeagphipfcaab
