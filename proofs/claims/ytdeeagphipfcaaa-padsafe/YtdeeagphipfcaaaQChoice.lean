/-
  PadChoice's walk: what the law answers, whatever is kept.
-/
import Derived.Test.YtdeeagphipfcaaaRows
import Derived.Test.YtdeeagphipfcaaaQLives
namespace Go.Proofs.Ytdeeagphipfcaaa
open Go.RowKit Go.Lib
set_option linter.unusedVariables false

theorem RdO.kept {K : Nat → Prop} {w w' : World} {a : Option Addr} {L : List Bool} (h : RdO w a L) (hK : ∀ b, b < w.heap.size → K b) (hs : Stay K w w') : KeepR K w' a L := by
  intro h0
  obtain ⟨b, off, e, hc⟩ := h h0
  have hb := hK b (World.block_lt_of_cell? _ _ (hc 0 h0))
  exact ⟨b, off, e, fun i hi => (World.cell?_of_block (w := w) (a := ⟨b, off + i, none⟩) (hs.block b hb)).trans (hc i hi), .inl hb⟩

/-- How many are safe, ahead of round k. -/
def sfA (sf k : Nat) : Nat := if k ≤ sf then 0 else sf

theorem sfA_le {sf k : Nat} (h : k ≤ sf) : sfA sf k = 0 := if_pos h

theorem sfA_gt {sf k : Nat} (h : sf < k) : sfA sf k = sf := if_neg (by omega)

/-- Behind the crash. -/
def chC (keep : List Bool) (torn : Int) (sf lo : Nat) (off : Bool) : PadS := ⟨spoilTo keep torn sf lo (rowsN (sf + lo)), sf + lo, off, 1, 0, [], 0⟩

theorem chC_crash (keep : List Bool) (torn : Int) (sf lo : Nat) : (stN (sf + lo) sf).crash keep torn = chC keep torn sf lo true := by
  unfold PadS.crash
  rw [if_neg (by simp [stN])]
  simp only [stN, chC, rowsN_length]
  rw [show sf + lo - sf = lo by omega, show wrap64 (0 + 1) = 1 from by simp [wrap64]]

theorem chC_start (keep : List Bool) (torn : Int) (sf lo : Nat) : (chC keep torn sf lo true).start = chC keep torn sf lo false := rfl

theorem chC_length (keep : List Bool) (torn : Int) (sf lo : Nat) (off : Bool) : (chC keep torn sf lo off).slots.length = sf + lo := by simp [chC, spoilTo_length, rowsN_length]

theorem chC_off_read (keep : List Bool) (torn : Int) (sf lo : Nat) (i : Int) : (chC keep torn sf lo true).read i = ([], 5) := by simp [PadS.read, chC]

theorem chC_off_append (keep : List Bool) (torn : Int) (sf lo : Nat) (l : List UInt8) : (chC keep torn sf lo true).append l = (chC keep torn sf lo true, 5) := by simp [PadS.append, chC]

theorem chC_get (keep : List Bool) (torn : Int) (sf lo i : Nat) (h : i < sf + lo) : (chC keep torn sf lo false).slots[i]? = some (if sf ≤ i ∧ i < sf + lo ∧ kept keep torn (i - sf) = false then none else some [UInt8.ofNat i]) := by
  simp only [chC]
  rw [spoilTo_get, rowsN_get _ _ h]
  rfl

theorem chC_read_yes (keep : List Bool) (torn : Int) (sf lo i : Nat) (h : i < sf + lo) (hk : i < sf ∨ kept keep torn (i - sf) = true) : (chC keep torn sf lo false).read (i : Int) = ([UInt8.ofNat i], 0) := by
  have hno : ¬ (sf ≤ i ∧ i < sf + lo ∧ kept keep torn (i - sf) = false) := by
    rintro ⟨h1, _, h2⟩
    rcases hk with hk | hk
    · omega
    · rw [hk] at h2
      cases h2
  unfold PadS.read
  rw [if_neg (by simp [chC]), if_neg (by rw [chC_length]; omega), Int.toNat_natCast, chC_get _ _ _ _ _ h, if_neg hno]
  rfl

theorem chC_read_no (keep : List Bool) (torn : Int) (sf lo i : Nat) (h : i < sf + lo) (h1 : sf ≤ i) (hk : kept keep torn (i - sf) = false) : (chC keep torn sf lo false).read (i : Int) = ([], 13) := by
  unfold PadS.read
  rw [if_neg (by simp [chC]), if_neg (by rw [chC_length]; omega), Int.toNat_natCast, chC_get _ _ _ _ _ h, if_pos ⟨h1, h, hk⟩]
  rfl

set_option maxRecDepth 100000 in
set_option maxHeartbeats 8000000 in
theorem pchoice_walk (a0 a1 : Int) (ka : Option Addr) (kn kc : Nat) (torn : Int) (keep : List Bool) (w : World) (hkeep : IsBoolsQ w ka kn kc keep) (ht : -9223372036854775808 ≤ torn ∧ torn ≤ 9223372036854775807) :
    Calls Try.prog 5 #[.int .i64 a0, .int .i64 a1, .slice ka kn kc, .int .i64 torn] w fun e w' => e = .returned (.bool true) ∧ Below w.heap.size w w' := by
  obtain ⟨hlen, hcap, h64, hrd, hnil⟩ := hkeep
  have HN : Hid (keep.length = kn) := hlen
  have HR : Hid (RdO w ka keep) := hrd
  clear hlen hrd hnil
  obtain ⟨K, hKd⟩ : ∃ K : Nat → Prop, K = fun b => b < w.heap.size := ⟨_, rfl⟩
  have HK : Hid (∀ b, K b → b < w.heap.size) := by rw [hKd]; exact fun _ h => h
  have HKK : Hid (∀ b, b < w.heap.size → K b) := by rw [hKd]; exact fun _ h => h
  have HKB : Hid (∀ w1, Stay K w w1 → Below w.heap.size w w1) := by rw [hKd]; exact fun w1 h => below_of_stay h
  have HKw : Hid (∀ w', Stay K w w' → ∀ b, K b → b < w'.heap.size) := fun w' h b hb => Nat.lt_of_lt_of_le (HK.out b hb) h.size
  clear hKd
  obtain ⟨sf, hsf, hsf20⟩ := modQ a0 20 (by omega) (by omega)
  obtain ⟨lo, hlo, hlo20⟩ := modQ a1 20 (by omega) (by omega)
  simp only [Int.cast_ofNat_Int] at hsf hlo
  by_cases hbig : 100 < kn
  · go_enter Try.func5, Try.ntmps5
    go_wp2
    go_ret
    exact ⟨rfl, Below.refl _ _⟩
  go_enter Try.func5, Try.ntmps5
  go_wp2_with fail
  refine (new_any K w HK.out).mono ?_
  rintro e w1 ⟨rfl, hp1, hb1⟩
  have HP1 : Hid (PadAt K w1 w.heap.size (stN 0 (sfA sf 0))) := by
    rw [sfA_le (Nat.zero_le _)]
    exact hp1
  have HS1 : Hid (Stay K w w1) := Stay.of_below hb1 HK.out
  clear hp1 hb1
  generalize w.heap.size = g at HP1 ⊢
  go_wp2_with fail
  go_loopw [10] (fun i wr => ∃ k : Nat, k ≤ sf + lo ∧ i = .int .i64 k ∧ Hid (PadAt K wr g (stN k (sfA sf k))) ∧ Hid (Stay K w wr)) (fun i _ => sf + lo - (RowKit.intOf i).toNat)
  case atStart => exact ⟨0, Nat.zero_le _, rfl, HP1, HS1⟩
  case round =>
    obtain ⟨k, hk, rfl, hP, hS⟩ := hrel
    by_cases hlt : k < sf + lo
    · rcases Nat.lt_trichotomy k sf with h1 | h1 | h1
      · have d1 : ((k : Int) == (sf : Int)) = false := by simp; omega
        go_wp2_with fail
        refine (append_one (UInt8.ofNat k) (ofNat_to (by omega)) (stN_append k _ (by omega)) HK.out hS.out hP.out rfl).mono ?_
        rintro e w2 ⟨rfl, hp2, hs2⟩
        rw [sfA_le (show k ≤ sf by omega), ← sfA_le (show k + 1 ≤ sf by omega)] at hp2
        have HP2 : Hid _ := hp2
        have HS2 : Hid _ := hs2
        clear hp2 hs2
        go_wp2
        exact ⟨⟨k + 1, by omega, by go_num, HP2.out, HS2.out⟩, by simp [RowKit.intOf]; omega⟩
      · subst h1
        go_wp2_with fail
        refine (sync_of _ (stN_sync k _) hP.out).mono ?_
        rintro e w2 ⟨rfl, hp2, hs2⟩
        have HP2 : Hid _ := hp2
        have HS2 : Hid _ := hS.out.trans hs2
        clear hp2 hs2
        go_wp2_with fail
        refine (append_one (UInt8.ofNat k) (ofNat_to (by omega)) (stN_append k _ (by omega)) HK.out HS2.out HP2.out rfl).mono ?_
        rintro e w3 ⟨rfl, hp3, hs3⟩
        have HP3 : Hid (PadAt K w3 g (stN (k + 1) (sfA k (k + 1)))) := by
          rw [sfA_gt (show k < k + 1 by omega)]
          exact hp3
        have HS3 : Hid _ := hs3
        clear hp3 hs3
        go_wp2
        exact ⟨⟨k + 1, by omega, by go_num, HP3.out, HS3.out⟩, by simp [RowKit.intOf]; omega⟩
      · have d1 : ((k : Int) == (sf : Int)) = false := by simp; omega
        go_wp2_with fail
        refine (append_one (UInt8.ofNat k) (ofNat_to (by omega)) (stN_append k _ (by omega)) HK.out hS.out hP.out rfl).mono ?_
        rintro e w2 ⟨rfl, hp2, hs2⟩
        rw [sfA_gt (show sf < k by omega), ← sfA_gt (show sf < k + 1 by omega)] at hp2
        have HP2 : Hid _ := hp2
        have HS2 : Hid _ := hs2
        clear hp2 hs2
        go_wp2
        exact ⟨⟨k + 1, by omega, by go_num, HP2.out, HS2.out⟩, by simp [RowKit.intOf]; omega⟩
    · obtain rfl : k = sf + lo := by omega
      clear HP1 HS1 hlt hk
      rcases Nat.eq_zero_or_pos lo with hz | hz
      · subst hz
        go_wp2_with fail
        refine (sync_of _ (stN_sync (sf + 0) _) hP.out).mono ?_
        rintro e w2 ⟨rfl, hp2, hs2⟩
        have HP2 : Hid (PadAt K w2 g (stN (sf + 0) sf)) := hp2
        have HS2 : Hid _ := hS.out.trans hs2
        clear hp2 hs2 hP hS
        go_wp2_with fail
        refine (crash_of (keep := keep) _ (chC_crash keep torn sf 0) HP2.out HN.out (by omega) (HR.out.kept HKK.out HS2.out)).mono ?_
        rintro e w3 ⟨rfl, hp3, hs3⟩
        have HP3 : Hid _ := hp3
        have HS3 : Hid _ := HS2.out.trans hs3
        clear hp3 hs3 HP2 HS2
        go_wp2_with fail
        refine (read_of _ (chC_off_read keep torn sf 0 0) HP3.out).mono ?_
        rintro e w4 hg4
        obtain ⟨a4, cap4, rfl, _, hr4, hb4⟩ := hg4.rd
        have HP4 : Hid _ := HP3.out.later hb4
        have HS4 : Hid _ := stay_later HS3.out HK.out hb4
        clear hg4 hr4 hb4 HP3 HS3
        go_wp2_with fail
        refine (append_of (l := []) (n := 0) _ (chC_off_append keep torn sf 0 []) (HKw.out _ HS4.out) HP4.out rfl (by omega) (Rd.nil _ _)).mono ?_
        rintro e w5 ⟨rfl, hp5, hs5⟩
        have HP5 : Hid _ := hp5
        have HS5 : Hid _ := HS4.out.trans hs5
        clear hp5 hs5 HP4 HS4
        go_wp2_with fail
        refine (start_of _ (chC_start keep torn sf 0) HP5.out).mono ?_
        rintro e w6 ⟨rfl, hp6, hs6⟩
        have HP6 : Hid _ := hp6
        have HS6 : Hid _ := HS5.out.trans hs6
        clear hp6 hs6 HP5 HS5
        go_wp2_with fail
        refine (len_any K g _ _ HP6.out).mono ?_
        rintro e w7 ⟨rfl, hw7⟩
        subst hw7
        rw [show (chC keep torn sf 0 false).slots.length = sf from chC_length keep torn sf 0 false]
        go_wp2_with fail
        refine (safe_any K g _ _ HP6.out).mono ?_
        rintro e w7 ⟨rfl, hw7⟩
        subst hw7
        rw [show (chC keep torn sf 0 false).safe = sf from rfl]
        go_wp2_with fail
        go_loopw [13] (fun i wr => ∃ k : Nat, k ≤ sf ∧ i = .int .i64 k ∧ Hid (PadAt K wr g (chC keep torn sf 0 false)) ∧ Hid (Stay K w wr)) (fun i _ => sf - (RowKit.intOf i).toNat)
        case atStart => exact ⟨0, Nat.zero_le _, rfl, HP6, HS6⟩
        case round =>
          obtain ⟨i, hi, rfl, hP, hS⟩ := hrel
          clear HP6 HS6
          by_cases hlt : i < sf
          · by_cases his : i < sf
            · go_wp2_with fail
              refine (read_of _ (chC_read_yes keep torn sf 0 i (by omega) (.inl his)) hP.out).mono ?_
              rintro e w9 hg9
              obtain ⟨a9, cap9, rfl, _, hr9, hb9⟩ := hg9.rd
              have HP9 : Hid _ := hP.out.later hb9
              have HS9 : Hid _ := stay_later hS.out HK.out hb9
              have HR9 : Hid (Rd w9 a9 [UInt8.ofNat i]) := hr9
              clear hg9 hr9 hb9
              rw [show ([UInt8.ofNat i] : List UInt8).length = 1 from rfl]
              go_wp2_with fail
              refine (bytes_any _ _ 1 1 _ _ [UInt8.ofNat i] [UInt8.ofNat i] _ rfl rfl (by omega) (by omega) (by exact HR9.out.later ((Below.refl _ _).alloc (Nat.le_refl _) _)) (by exact (row_oneZ (UInt8.ofNat i) (ofNat_to (by omega)) rfl).rd)).mono ?_
              rintro e w10 ⟨rfl, hb10⟩
              have HB10 : Hid (Below w9.heap.size w9 w10) := chain ((Below.refl _ _).alloc (Nat.le_refl _) _) hb10
              clear hb10
              rw [decide_eq_true rfl]
              go_wp2
              exact ⟨⟨i + 1, by omega, by go_num, HP9.out.later HB10.out, stay_later HS9.out HK.out HB10.out⟩, by simp [RowKit.intOf]; omega⟩
            · obtain ⟨j, rfl⟩ : ∃ j, i = sf + j := ⟨i - sf, by omega⟩
              exact absurd hlt (by omega)
          · go_wp2_with fail
            refine (pwakes_any _).mono ?_
            rintro e w10 ⟨rfl, hb10⟩
            have HB10 : Hid _ := hb10
            clear hb10
            go_wp2
            go_ret
            exact ⟨rfl, HKB.out _ (stay_later hS.out HK.out HB10.out)⟩
      · have d0 : ((lo : Int) == 0) = false := by simp; omega
        have HP2 : Hid (PadAt K wr g (stN (sf + lo) sf)) := by
          have := hP.out
          rw [sfA_gt (by omega)] at this
          exact this
        have HS2 : Hid (Stay K w wr) := hS
        clear hP hS
        go_wp2_with fail
        clear hz d0
        refine (crash_of (keep := keep) _ (chC_crash keep torn sf lo) HP2.out HN.out (by omega) (HR.out.kept HKK.out HS2.out)).mono ?_
        rintro e w3 ⟨rfl, hp3, hs3⟩
        have HP3 : Hid _ := hp3
        have HS3 : Hid _ := HS2.out.trans hs3
        clear hp3 hs3 HP2 HS2
        go_wp2_with fail
        refine (read_of _ (chC_off_read keep torn sf lo 0) HP3.out).mono ?_
        rintro e w4 hg4
        obtain ⟨a4, cap4, rfl, _, hr4, hb4⟩ := hg4.rd
        have HP4 : Hid _ := HP3.out.later hb4
        have HS4 : Hid _ := stay_later HS3.out HK.out hb4
        clear hg4 hr4 hb4 HP3 HS3
        go_wp2_with fail
        refine (append_of (l := []) (n := 0) _ (chC_off_append keep torn sf lo []) (HKw.out _ HS4.out) HP4.out rfl (by omega) (Rd.nil _ _)).mono ?_
        rintro e w5 ⟨rfl, hp5, hs5⟩
        have HP5 : Hid _ := hp5
        have HS5 : Hid _ := HS4.out.trans hs5
        clear hp5 hs5 HP4 HS4
        go_wp2_with fail
        refine (start_of _ (chC_start keep torn sf lo) HP5.out).mono ?_
        rintro e w6 ⟨rfl, hp6, hs6⟩
        have HP6 : Hid _ := hp6
        have HS6 : Hid _ := HS5.out.trans hs6
        clear hp6 hs6 HP5 HS5
        go_wp2_with fail
        refine (len_any K g _ _ HP6.out).mono ?_
        rintro e w7 ⟨rfl, hw7⟩
        subst hw7
        rw [chC_length, Int.natCast_add]
        go_wp2_with fail
        refine (safe_any K g _ _ HP6.out).mono ?_
        rintro e w7 ⟨rfl, hw7⟩
        subst hw7
        rw [show (chC keep torn sf lo false).safe = sf + lo from rfl, Int.natCast_add]
        go_wp2_with fail
        go_loopw [13] (fun i wr => ∃ k : Nat, k ≤ (sf + lo) ∧ i = .int .i64 k ∧ Hid (PadAt K wr g (chC keep torn sf lo false)) ∧ Hid (Stay K w wr)) (fun i _ => (sf + lo) - (RowKit.intOf i).toNat)
        case atStart => exact ⟨0, Nat.zero_le _, rfl, HP6, HS6⟩
        case round =>
          obtain ⟨i, hi, rfl, hP, hS⟩ := hrel
          clear HP6 HS6
          by_cases hlt : i < (sf + lo)
          · by_cases his : i < sf
            · go_wp2_with fail
              refine (read_of _ (chC_read_yes keep torn sf lo i (by omega) (.inl his)) hP.out).mono ?_
              rintro e w9 hg9
              obtain ⟨a9, cap9, rfl, _, hr9, hb9⟩ := hg9.rd
              have HP9 : Hid _ := hP.out.later hb9
              have HS9 : Hid _ := stay_later hS.out HK.out hb9
              have HR9 : Hid (Rd w9 a9 [UInt8.ofNat i]) := hr9
              clear hg9 hr9 hb9
              rw [show ([UInt8.ofNat i] : List UInt8).length = 1 from rfl]
              go_wp2_with fail
              refine (bytes_any _ _ 1 1 _ _ [UInt8.ofNat i] [UInt8.ofNat i] _ rfl rfl (by omega) (by omega) (by exact HR9.out.later ((Below.refl _ _).alloc (Nat.le_refl _) _)) (by exact (row_oneZ (UInt8.ofNat i) (ofNat_to (by omega)) rfl).rd)).mono ?_
              rintro e w10 ⟨rfl, hb10⟩
              have HB10 : Hid (Below w9.heap.size w9 w10) := chain ((Below.refl _ _).alloc (Nat.le_refl _) _) hb10
              clear hb10
              rw [decide_eq_true rfl]
              go_wp2
              exact ⟨⟨i + 1, by omega, by go_num, HP9.out.later HB10.out, stay_later HS9.out HK.out HB10.out⟩, by simp [RowKit.intOf]; omega⟩
            · obtain ⟨j, rfl⟩ : ∃ j, i = sf + j := ⟨i - sf, by omega⟩
              have hjk : sf + j - sf = j := by omega
              have HJ : Hid (sf + j - sf = j) := hjk
              clear hjk his
              have ejs : ((sf + j : Nat) : Int) = (sf : Int) + (j : Int) := Int.natCast_add sf j
              have ej : (sf : Int) + (j : Int) - (sf : Int) = (j : Int) := by omega
              by_cases hjn : j < kn
              · have hjl : j < keep.length := by rw [HN.out]; exact hjn
                obtain ⟨kb, ko, rfl, hkc⟩ := HR.out (by omega)
                have e4 := hkc j hjl
                clear hkc
                by_cases h3 : keep[j] = true
                · rw [h3] at e4
                  by_cases h4 : (j : Int) = torn
                  · subst h4
                    go_wp2_with fail
                    refine (read_of _ (chC_read_no keep (j : Int) sf lo (sf + j) hlt (by omega) (by rw [HJ.out]; exact kept_torn rfl)) hP.out).mono ?_
                    rintro e w9 hg9
                    obtain ⟨a9, cap9, rfl, _, hr9, hb9⟩ := hg9.rd
                    have HP9 : Hid _ := hP.out.later hb9
                    have HS9 : Hid _ := stay_later hS.out HK.out hb9
                    have x1 : w9.cell? ⟨kb, ko + j, none⟩ = some (.bool true) := cell_later (HKB.out _ HS9.out) e4
                    clear hg9 hr9 hb9
                    go_wp2
                    exact ⟨⟨sf + j + 1, by omega, by go_num, HP9.out, HS9.out⟩, by simp [RowKit.intOf]; omega⟩
                  · have HQ : Hid (kept keep torn j = true) := by rw [kept_at hjl h4]; exact h3
                    have d4 : ((j : Int) != torn) = true := by simpa using h4
                    clear h4
                    go_wp2_with fail
                    refine (read_of _ (chC_read_yes keep torn sf lo (sf + j) hlt (.inr (by rw [HJ.out]; exact HQ.out))) hP.out).mono ?_
                    rintro e w9 hg9
                    obtain ⟨a9, cap9, rfl, _, hr9, hb9⟩ := hg9.rd
                    have HP9 : Hid _ := hP.out.later hb9
                    have HS9 : Hid _ := stay_later hS.out HK.out hb9
                    have HR9 : Hid (Rd w9 a9 [UInt8.ofNat (sf + j)]) := hr9
                    have x1 : w9.cell? ⟨kb, ko + j, none⟩ = some (.bool true) := cell_later (HKB.out _ HS9.out) e4
                    clear hg9 hr9 hb9
                    rw [show ([UInt8.ofNat (sf + j)] : List UInt8).length = 1 from rfl]
                    go_wp2_with fail
                    refine (bytes_any _ _ 1 1 _ _ [UInt8.ofNat (sf + j)] [UInt8.ofNat (sf + j)] _ rfl rfl (by omega) (by omega) (by exact HR9.out.later ((Below.refl _ _).alloc (Nat.le_refl _) _)) (by exact (row_oneZ (UInt8.ofNat (sf + j)) (by have := ofNat_to (k := sf + j) (by omega); omega) rfl).rd)).mono ?_
                    rintro e w10 ⟨rfl, hb10⟩
                    have HB10 : Hid (Below w9.heap.size w9 w10) := chain ((Below.refl _ _).alloc (Nat.le_refl _) _) hb10
                    clear hb10
                    rw [decide_eq_true rfl]
                    go_wp2
                    exact ⟨⟨(sf + j) + 1, by omega, by go_num, HP9.out.later HB10.out, stay_later HS9.out HK.out HB10.out⟩, by simp [RowKit.intOf]; omega⟩
                · have h3' : keep[j] = false := by simpa using h3
                  rw [h3'] at e4
                  have HQ : Hid (kept keep torn j = false) := by
                    by_cases h4 : (j : Int) = torn
                    · exact kept_torn h4
                    · rw [kept_at hjl h4]; exact h3'
                  go_wp2_with fail
                  refine (read_of _ (chC_read_no keep torn sf lo (sf + j) hlt (by omega) (by rw [HJ.out]; exact HQ.out)) hP.out).mono ?_
                  rintro e w9 hg9
                  obtain ⟨a9, cap9, rfl, _, hr9, hb9⟩ := hg9.rd
                  have HP9 : Hid _ := hP.out.later hb9
                  have HS9 : Hid _ := stay_later hS.out HK.out hb9
                  have x1 : w9.cell? ⟨kb, ko + j, none⟩ = some (.bool false) := cell_later (HKB.out _ HS9.out) e4
                  clear hg9 hr9 hb9
                  go_wp2
                  exact ⟨⟨sf + j + 1, by omega, by go_num, HP9.out, HS9.out⟩, by simp [RowKit.intOf]; omega⟩
              · have HQ : Hid (kept keep torn j = false) := kept_none (by rw [HN.out]; omega)
                go_wp2_with fail
                refine (read_of _ (chC_read_no keep torn sf lo (sf + j) hlt (by omega) (by rw [HJ.out]; exact HQ.out)) hP.out).mono ?_
                rintro e w9 hg9
                obtain ⟨a9, cap9, rfl, _, hr9, hb9⟩ := hg9.rd
                have HP9 : Hid _ := hP.out.later hb9
                have HS9 : Hid _ := stay_later hS.out HK.out hb9
                clear hg9 hr9 hb9
                go_wp2
                exact ⟨⟨sf + j + 1, by omega, by go_num, HP9.out, HS9.out⟩, by simp [RowKit.intOf]; omega⟩
          · go_wp2_with fail
            refine (pwakes_any _).mono ?_
            rintro e w10 ⟨rfl, hb10⟩
            have HB10 : Hid _ := hb10
            clear hb10
            go_wp2
            go_ret
            exact ⟨rfl, HKB.out _ (stay_later hS.out HK.out HB10.out)⟩

end Go.Proofs.Ytdeeagphipfcaaa
