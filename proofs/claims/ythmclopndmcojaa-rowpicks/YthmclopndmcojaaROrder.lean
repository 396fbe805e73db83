/-
  The order of rows is total; RowOrder's walk.
-/
import Derived.Test.YthmclopndmcojaaRows
import Derived.Test.YthmclopndmcojaaRReads
import Derived.Test.YthmclopndmcojaaRFits
import Derived.Deep.Cut
namespace Go.Proofs.Ythmclopndmcojaa
open Go.RowKit Go.Lib
set_option linter.unusedVariables false

theorem cmpR_self : ∀ l : List PV, cmpR l l = 0
  | [] => rfl
  | v :: l => by rw [cmpR, cmpV_self, if_neg (by simp), cmpR_self l]

theorem cmpR_range : ∀ l r : List PV, cmpR l r = -1 ∨ cmpR l r = 0 ∨ cmpR l r = 1
  | [], [] => .inr (.inl rfl)
  | [], _ :: _ => .inl rfl
  | _ :: _, [] => .inr (.inr rfl)
  | v :: l, u :: r => by
    rw [cmpR]
    split
    · exact cmpV_range v u
    · exact cmpR_range l r

theorem cmpR_zero : ∀ l r : List PV, cmpR l r = 0 ↔ l = r
  | [], [] => by simp [cmpR]
  | [], _ :: _ => by simp [cmpR]
  | _ :: _, [] => by simp [cmpR]
  | v :: l, u :: r => by
    rw [cmpR]
    split
    · rename_i h
      constructor
      · intro h'; exact absurd h' h
      · intro h'; simp only [List.cons.injEq] at h'; rw [h'.1, cmpV_self] at h; exact absurd rfl h
    · rename_i h
      have e := (cmpV_zero v u).1 (Decidable.of_not_not h)
      rw [cmpR_zero l r]
      simp [e]

theorem cmpR_flip : ∀ l r : List PV, cmpR r l = -cmpR l r
  | [], [] => rfl
  | [], _ :: _ => rfl
  | _ :: _, [] => rfl
  | v :: l, u :: r => by
    rw [cmpR, cmpR, cmpV_flip v u, cmpR_flip l r]
    by_cases h : cmpV v u = 0
    · rw [if_neg (by omega), if_neg (by omega)]
    · rw [if_pos (by omega), if_pos (by omega)]

theorem cmpR_le_trans : ∀ {l r s : List PV}, cmpR l r ≤ 0 → cmpR r s ≤ 0 → cmpR l s ≤ 0
  | [], _, [], _, _ => by simp [cmpR]
  | [], _, _ :: _, _, _ => by simp [cmpR]
  | v :: l, [], _, h, _ => by simp [cmpR] at h
  | v :: l, u :: r, [], _, h => by simp [cmpR] at h
  | v :: l, u :: r, x :: s, h, h' => by
    rw [cmpR] at h h' ⊢
    by_cases e1 : cmpV v u = 0
    · rw [if_neg (by omega)] at h
      have e := (cmpV_zero v u).1 e1
      subst e
      by_cases e2 : cmpV v x = 0
      · rw [if_neg (by omega)] at h' ⊢
        exact cmpR_le_trans h h'
      · rw [if_pos e2] at h' ⊢
        exact h'
    · rw [if_pos e1] at h
      by_cases e2 : cmpV u x = 0
      · have e := (cmpV_zero u x).1 e2
        subst e
        rw [if_pos e1]
        exact h
      · rw [if_pos e2] at h'
        have h1 := cmpV_le_trans h h'
        have n1 : cmpV v u = -1 := by rcases cmpV_range v u with h | h | h <;> omega
        have n2 : cmpV u x = -1 := by rcases cmpV_range u x with h | h | h <;> omega
        have n3 : cmpV v x = -1 := (cmpV_neg v x).2 (ltV_trans ((cmpV_neg v u).1 n1) ((cmpV_neg u x).1 n2))
        rw [if_pos (by omega)]
        omega

theorem cmpR_ge_trans {l r s : List PV} (h : 0 ≤ cmpR l r) (h' : 0 ≤ cmpR r s) : 0 ≤ cmpR l s := by
  have := cmpR_le_trans (l := s) (r := r) (s := l) (by rw [cmpR_flip]; omega) (by rw [cmpR_flip]; omega)
  rw [cmpR_flip] at this
  omega

theorem cmpR_take : ∀ (l : List PV) (j : Nat), j < l.length → cmpR (l.take j) l = -1
  | [], _, h => by simp at h
  | v :: l, 0, _ => by simp [cmpR]
  | v :: l, j + 1, h => by
    rw [List.take_succ_cons, cmpR, cmpV_self, if_neg (by simp)]
    exact cmpR_take l j (by simpa using h)

theorem sameVs_eq (l r : List PV) : sameVs l r = decide (cmpR l r = 0) := by
  rw [Bool.eq_iff_iff, sameVs_iff, decide_eq_true_eq, cmpR_zero]

set_option maxRecDepth 100000 in
set_option maxHeartbeats 4000000 in
theorem rorder_some (VC : ValueCompare) (R : RowApi) (a b c : Option Addr) (n m o cap dap eap : Nat) (l r s : List PV) (cut : Int) (w : World) (hn : l.length = n) (hm : r.length = m) (ho : s.length = o) (hn40 : n ≤ 40) (hm40 : m ≤ 40) (ho40 : o ≤ 40) (hl : heavyV l = false) (hr : heavyV r = false) (hs : heavyV s = false) (hcap : n ≤ cap) (ha : RdV w a l) (hb : RdV w b r) (hc : RdV w c s) :
    Calls Try.prog 5 #[.slice a n cap, .slice b m dap, .slice c o eap, .int .i64 cut] w fun e w' => e = .returned (.bool true) ∧ Below w.heap.size w w' := by
  have HN : Hid (l.length = n) := hn
  have HM : Hid (r.length = m) := hm
  have HO : Hid (s.length = o) := ho
  have HA : Hid (RdV w a l) := ha
  have HB : Hid (RdV w b r) := hb
  have HC : Hid (RdV w c s) := hc
  have HA0 : Hid (RdV w a l) := ha
  have HB0 : Hid (RdV w b r) := hb
  have HL : Hid (heavyV l = false) := hl
  have HR : Hid (heavyV r = false) := hr
  have HS : Hid (heavyV s = false) := hs
  clear hn hm ho ha hb hc hl hr hs
  go_enter Try.func5, Try.ntmps5
  go_wp2_with fail
  refine (heavy_few a n cap l _ HN.out hn40 HA.out).mono ?_
  rintro e w1 ⟨rfl, hw1⟩
  subst w1
  rw [HL.out]
  go_wp2_with fail
  refine (heavy_few b m dap r _ HM.out hm40 HB.out).mono ?_
  rintro e w1 ⟨rfl, hw1⟩
  subst w1
  rw [HR.out]
  go_wp2_with fail
  refine (heavy_few c o eap s _ HO.out ho40 HC.out).mono ?_
  rintro e w1 ⟨rfl, hw1⟩
  subst w1
  rw [HS.out]
  go_wp2_with fail
  refine (R.compare a b n m cap dap l r _ HN.out HM.out (by omega) (by omega) HA.out HB.out).mono ?_
  rintro e w1 ⟨rfl, hb1⟩
  replace HA : Hid (RdV w1 a l) := HA.out.later hb1
  replace HB : Hid (RdV w1 b r) := HB.out.later hb1
  replace HC : Hid (RdV w1 c s) := HC.out.later hb1
  have HX : Hid (Below w.heap.size w w1) := hb1
  clear hb1
  go_wp2_with fail
  refine (R.compare b c m o dap eap r s _ HM.out HO.out (by omega) (by omega) HB.out HC.out).mono ?_
  rintro e w2 ⟨rfl, hb1⟩
  replace HA : Hid (RdV w2 a l) := HA.out.later hb1
  replace HB : Hid (RdV w2 b r) := HB.out.later hb1
  replace HC : Hid (RdV w2 c s) := HC.out.later hb1
  replace HX : Hid (Below w.heap.size w w2) := chain HX.out hb1
  clear hb1
  go_wp2_with fail
  refine (R.compare a c n o cap eap l s _ HN.out HO.out (by omega) (by omega) HA.out HC.out).mono ?_
  rintro e w3 ⟨rfl, hb1⟩
  replace HA : Hid (RdV w3 a l) := HA.out.later hb1
  replace HB : Hid (RdV w3 b r) := HB.out.later hb1
  replace HX : Hid (Below w.heap.size w w3) := chain HX.out hb1
  clear hb1 HC HO HS
  have hXr := cmpR_range l r
  have hYr := cmpR_range r s
  have hZr := cmpR_range l s
  have hT1 := cmpR_le_trans (l := l) (r := r) (s := s)
  have hT2 := cmpR_ge_trans (l := l) (r := r) (s := s)
  have hf := cmpR_flip l r
  have hself := cmpR_self l
  have hsame := sameVs_eq l r
  have Cf := fun W h1 h2 => R.compare b a m n dap cap r l W HM.out HN.out (by omega) (by omega) h1 h2
  have Cs := fun W h1 => R.compare a a n n cap cap l l W HN.out HN.out (by omega) (by omega) h1 h1
  have Ck := fun W h1 h2 => keepRow_any a b n m cap dap l r W HN.out HM.out (by omega) (by omega) h1 h2
  rw [hf] at Cf
  rw [hself] at Cs
  rw [hsame] at Ck
  clear hf hself hsame
  have HE : Hid (cmpR l r = cmpR (l.drop 0) (r.drop 0)) := rfl
  generalize hX : cmpR l r = X at *
  generalize cmpR r s = Y at *
  generalize cmpR l s = Z at *
  have x1 : -1 ≤ X := by omega
  have x2 : X ≤ 1 := by omega
  have H1 : Hid (X = -1 ∨ X = 0 ∨ X = 1) := hXr
  have H2 : Hid (Y = -1 ∨ Y = 0 ∨ Y = 1) := hYr
  have H3 : Hid (Z = -1 ∨ Z = 0 ∨ Z = 1) := hZr
  have HT1 : Hid (X ≤ 0 → Y ≤ 0 → Z ≤ 0) := hT1
  have HT2 : Hid (0 ≤ X → 0 ≤ Y → 0 ≤ Z) := hT2
  have HXX : Hid (cmpR l r = X) := hX
  clear hXr hYr hZr hT1 hT2 hX
  go_upto_region 4 with fail
  go_cut [86] from 15 (fun s86 wx => s86 = .bool false ∧ Hid (Below w3.heap.size w3 wx))
  case first =>
    go_wp2_with fail
    refine (Cf _ HB.out HA.out).mono ?_
    rintro e w4 ⟨rfl, hb4⟩
    go_wp2_with fail
    refine (Cs _ (HA.out.later hb4)).mono ?_
    rintro e w5 ⟨rfl, hb5⟩
    go_wp2_with fail
    refine (Ck _ (HA.out.later (chain hb4 hb5)) (HB.out.later (chain hb4 hb5))).mono ?_
    rintro e w6 ⟨rfl, hb6⟩
    rcases H1.out with rfl | rfl | rfl <;> rcases H2.out with rfl | rfl | rfl <;> rcases H3.out with rfl | rfl | rfl
    all_goals first
      | (exfalso; have h1 := HT1.out (by omega) (by omega); omega)
      | (exfalso; have h1 := HT2.out (by omega) (by omega); omega)
      | skip
    all_goals (go_wp2; go_meet; exact ⟨rfl, chain hb4 (chain hb5 hb6)⟩)
  case rest =>
    obtain ⟨rfl, HW⟩ := hcut
    replace HA : Hid (RdV wc a l) := HA.out.later HW.out
    replace HB : Hid (RdV wc b r) := HB.out.later HW.out
    replace HX : Hid (Below w.heap.size w wc) := chain HX.out HW.out
    clear HW Cf Cs Ck H2 H3 HT1 HT2
    obtain ⟨j, hj, hje⟩ := modLen cut (n + 1) (by omega) (by omega)
    have hj2 : (j : Int) ≤ (cap : Int) := by omega
    have hcast : (((n + 1 : Nat) : Nat) : Int) = (n : Int) + 1 := by omega
    rw [hcast] at hje
    have HT : Hid ((l.take j).length = j) := by show _ = _; rw [List.length_take, HN.out]; omega
    have Cj := fun W h1 h2 => R.compare a a j n cap cap (l.take j) l W HT.out HN.out (by omega) (by omega) h1 h2
    have hj3 : (j : Int) ≤ (n : Int) := by omega
    have go : ∀ q : Int, cmpR (l.take j) l = q → (q == -1) = decide ((j : Int) < (n : Int)) → True := fun _ _ _ => trivial
    have hq : cmpR (l.take j) l = if j < n then -1 else 0 := by
      by_cases h : j < n
      · rw [if_pos h]; exact cmpR_take l j (by rw [HN.out]; exact h)
      · rw [if_neg h, List.take_of_length_le (by rw [HN.out]; omega), cmpR_self]
    clear go
    go_upto_region 7 with fail
    rw [hje]
    clear hje
    go_cut [105] from 87 (fun s105 wx => s105 = .bool false ∧ Hid (Below wc.heap.size wc wx))
    case first =>
      by_cases h : j < n
      · rw [if_pos h] at hq
        rw [hq] at Cj
        go_wp2_with fail
        refine (Cj _ (HA.out.take j) HA.out).mono ?_
        rintro e w4 ⟨rfl, hb4⟩
        go_wp2
        go_meet
        exact ⟨rfl, hb4⟩
      · rw [if_neg h] at hq
        rw [hq] at Cj
        go_wp2_with fail
        refine (Cj _ (HA.out.take j) HA.out).mono ?_
        rintro e w4 ⟨rfl, hb4⟩
        go_wp2
        go_meet
        exact ⟨rfl, hb4⟩
    case rest =>
      obtain ⟨rfl, HW⟩ := hcut
      replace HA : Hid (RdV wc a l) := HA.out.later HW.out
      replace HB : Hid (RdV wc b r) := HB.out.later HW.out
      replace HX : Hid (Below w.heap.size w wc) := chain HX.out HW.out
      clear HW Cj hq
      go_wp2
      go_loopw [13] (fun i wr => ∃ k : Nat, k ≤ n ∧ k ≤ m ∧ i = .int .i64 k ∧ Hid (cmpR l r = cmpR (l.drop k) (r.drop k)) ∧ Hid (Below w.heap.size w wr)) (fun i _ => n - (RowKit.intOf i).toNat)
      case atStart => exact ⟨0, Nat.zero_le _, Nat.zero_le _, rfl, rfl, HX⟩
      case round =>
        obtain ⟨k, hk, hk', rfl, hT, hBw⟩ := hrel
        clear HA HB HX
        by_cases hlt : k < n ∧ k < m
        · obtain ⟨hlt1, hlt2⟩ := hlt
          have hkl : k < l.length := by rw [HN.out]; exact hlt1
          have hkr : k < r.length := by rw [HM.out]; exact hlt2
          obtain ⟨b1, o1, rfl, hc1⟩ := HA0.out (by omega)
          obtain ⟨b2, o2, rfl, hc2⟩ := HB0.out (by omega)
          obtain ⟨x0, x1, x2⟩ := hc1 k hkl
          obtain ⟨y0, y1, y2⟩ := hc2 k hkr
          have HS := And.intro (cell_later hBw.out x0) (And.intro (cell_later hBw.out x1) (And.intro (cell_later hBw.out x2) (And.intro (cell_later hBw.out y0) (And.intro (cell_later hBw.out y1) (And.intro (cell_later hBw.out y2) hBw)))))
          have HQ : Hid (cmpR l r = if cmpV l[k] r[k] ≠ 0 then cmpV l[k] r[k] else cmpR (l.drop (k + 1)) (r.drop (k + 1))) := by
            rw [← cmpR_step hkl hkr]; exact hT
          clear hc1 hc2 x0 x1 x2 y0 y1 y2
          generalize l[k] = x at *
          generalize r[k] = y at *
          clear hkl hkr
          obtain ⟨k0, i0, s0⟩ := x
          obtain ⟨k1, i1, s1⟩ := y
          simp only at HS
          have C := VC k0 i0 s0 k1 i1 s1
          generalize cmpV ⟨k0, i0, s0⟩ ⟨k1, i1, s1⟩ = V at *
          have b1' : (0 : Int) ≤ (k : Int) := by omega
          have b2' : (k : Int) < (n : Int) := by omega
          have b3' : (k : Int) < (m : Int) := by omega
          by_cases hV : V = 0
          · subst hV
            have HT' : Hid (cmpR l r = cmpR (l.drop (k + 1)) (r.drop (k + 1))) := by have := HQ.out; rwa [if_neg (by simp)] at this
            clear HQ hT hBw
            go_wp2
            go_region_held3 (fun w' => w'.cell? ⟨b1, o1 + k * 3, none⟩ = some (.int .i64 k0) ∧ w'.cell? ⟨b1, o1 + k * 3 + 1, none⟩ = some (.int .i64 i0) ∧ w'.cell? ⟨b1, o1 + k * 3 + 2, none⟩ = some (.string s0) ∧ w'.cell? ⟨b2, o2 + k * 3, none⟩ = some (.int .i64 k1) ∧ w'.cell? ⟨b2, o2 + k * 3 + 1, none⟩ = some (.int .i64 i1) ∧ w'.cell? ⟨b2, o2 + k * 3 + 2, none⟩ = some (.string s1) ∧ Hid (Below w.heap.size w w')) (first | exact keepAt (by assumption) (by assumption) | exact keepAt (Below.refl _ _).drew (by assumption)) (first | (go_at_call 30; refine (C _).mono ?_; rintro e w' ⟨rfl, hb⟩))
            have HS1 : w'.cell? ⟨b1, o1 + k * 3, none⟩ = some (.int .i64 k0) ∧ w'.cell? ⟨b1, o1 + k * 3 + 1, none⟩ = some (.int .i64 i0) ∧ w'.cell? ⟨b1, o1 + k * 3 + 2, none⟩ = some (.string s0) ∧ w'.cell? ⟨b2, o2 + k * 3, none⟩ = some (.int .i64 k1) ∧ w'.cell? ⟨b2, o2 + k * 3 + 1, none⟩ = some (.int .i64 i1) ∧ w'.cell? ⟨b2, o2 + k * 3 + 2, none⟩ = some (.string s1) ∧ Hid (Below w.heap.size w w') := by assumption
            obtain ⟨_, _, _, _, _, _, HB1⟩ := HS1
            go_wp2
            go_roundw
            case rel => exact ⟨k + 1, by omega, by omega, by go_num, HT', HB1⟩
            case measure => simp [RowKit.intOf]; omega
          · obtain rfl : X = V := by have := HQ.out; rw [if_pos hV] at this; rw [← HXX.out]; exact this
            have hVn : (X != 0) = true := by simp [hV]
            clear HQ hT hBw hV
            go_wp2
            go_region_held3 (fun w' => w'.cell? ⟨b1, o1 + k * 3, none⟩ = some (.int .i64 k0) ∧ w'.cell? ⟨b1, o1 + k * 3 + 1, none⟩ = some (.int .i64 i0) ∧ w'.cell? ⟨b1, o1 + k * 3 + 2, none⟩ = some (.string s0) ∧ w'.cell? ⟨b2, o2 + k * 3, none⟩ = some (.int .i64 k1) ∧ w'.cell? ⟨b2, o2 + k * 3 + 1, none⟩ = some (.int .i64 i1) ∧ w'.cell? ⟨b2, o2 + k * 3 + 2, none⟩ = some (.string s1) ∧ Hid (Below w.heap.size w w')) (first | exact keepAt (by assumption) (by assumption) | exact keepAt (Below.refl _ _).drew (by assumption)) (first | (go_at_call 30; refine (C _).mono ?_; rintro e w' ⟨rfl, hb⟩))
            have HS1 : w'.cell? ⟨b1, o1 + k * 3, none⟩ = some (.int .i64 k0) ∧ w'.cell? ⟨b1, o1 + k * 3 + 1, none⟩ = some (.int .i64 i0) ∧ w'.cell? ⟨b1, o1 + k * 3 + 2, none⟩ = some (.string s0) ∧ w'.cell? ⟨b2, o2 + k * 3, none⟩ = some (.int .i64 k1) ∧ w'.cell? ⟨b2, o2 + k * 3 + 1, none⟩ = some (.int .i64 i1) ∧ w'.cell? ⟨b2, o2 + k * 3 + 2, none⟩ = some (.string s1) ∧ Hid (Below w.heap.size w w') := by assumption
            obtain ⟨_, _, _, _, _, _, HB1⟩ := HS1
            go_wp2_with fail
            refine (rwakes_any R _).mono ?_
            rintro e w6 ⟨rfl, hb6⟩
            go_wp2
            go_ret
            exact ⟨rfl, chain HB1.out hb6⟩
        · have HE : Hid (X = if n = m then 0 else sgnB (decide (n < m))) := by
            have h1 := cmpR_end (l := l) (r := r) (k := k) (by rw [HN.out]; exact hk) (by rw [HM.out]; exact hk') (by rw [HN.out, HM.out]; exact hlt)
            rw [HN.out, HM.out] at h1
            show _ = _
            rw [← h1, ← HXX.out]
            exact hT.out
          clear hT
          by_cases hnm : n = m
          · subst hnm
            obtain rfl : X = 0 := by have := HE.out; rwa [if_pos rfl] at this
            have hkn : k = n := by omega
            subst hkn
            go_wp2_with fail
            refine (rwakes_any R _).mono ?_
            rintro e w6 ⟨rfl, hb6⟩
            go_wp2
            go_ret
            exact ⟨rfl, chain hBw.out hb6⟩
          · have hX0 : (X == 0) = false := by
              have h1 := HE.out
              rw [if_neg hnm] at h1
              have := sgnB_ne (decide (n < m))
              simp
              omega
            have hne : ((n : Int) == (m : Int)) = false := by simp; omega
            by_cases h1 : k < n
            · have h2 : ¬ k < m := by omega
              go_wp2_with fail
              refine (rwakes_any R _).mono ?_
              rintro e w6 ⟨rfl, hb6⟩
              go_wp2
              go_ret
              exact ⟨rfl, chain hBw.out hb6⟩
            · have h2 : k = n := by omega
              go_wp2_with fail
              refine (rwakes_any R _).mono ?_
              rintro e w6 ⟨rfl, hb6⟩
              go_wp2
              go_ret
              exact ⟨rfl, chain hBw.out hb6⟩

set_option maxHeartbeats 400000 in
theorem rorder_heavy1 (a b c : Option Addr) (n m o cap dap eap : Nat) (cut : Int) (w : World) (C : Calls Try.prog 9 #[.slice a n cap] w fun e w' => e = .returned (.bool true) ∧ w' = w) :
    Calls Try.prog 5 #[.slice a n cap, .slice b m dap, .slice c o eap, .int .i64 cut] w fun e w' => e = .returned (.bool true) ∧ Below w.heap.size w w' := by
  go_enter Try.func5, Try.ntmps5
  go_wp2_with fail
  refine C.mono ?_
  rintro e w1 ⟨rfl, rfl⟩
  go_wp2
  go_ret
  exact ⟨rfl, Below.refl _ _⟩

set_option maxHeartbeats 400000 in
theorem rorder_heavy2 (a b c : Option Addr) (n m o cap dap eap : Nat) (cut : Int) (w : World) (C : Calls Try.prog 9 #[.slice a n cap] w fun e w' => e = .returned (.bool false) ∧ w' = w) (D : Calls Try.prog 9 #[.slice b m dap] w fun e w' => e = .returned (.bool true) ∧ w' = w) :
    Calls Try.prog 5 #[.slice a n cap, .slice b m dap, .slice c o eap, .int .i64 cut] w fun e w' => e = .returned (.bool true) ∧ Below w.heap.size w w' := by
  go_enter Try.func5, Try.ntmps5
  go_wp2_with fail
  refine C.mono ?_
  rintro e w1 ⟨rfl, hw1⟩
  subst w1
  go_wp2_with fail
  refine D.mono ?_
  rintro e w1 ⟨rfl, rfl⟩
  go_wp2
  go_ret
  exact ⟨rfl, Below.refl _ _⟩

set_option maxHeartbeats 400000 in
theorem rorder_heavy3 (a b c : Option Addr) (n m o cap dap eap : Nat) (cut : Int) (w : World) (C : Calls Try.prog 9 #[.slice a n cap] w fun e w' => e = .returned (.bool false) ∧ w' = w) (D : Calls Try.prog 9 #[.slice b m dap] w fun e w' => e = .returned (.bool false) ∧ w' = w) (E : Calls Try.prog 9 #[.slice c o eap] w fun e w' => e = .returned (.bool true) ∧ w' = w) :
    Calls Try.prog 5 #[.slice a n cap, .slice b m dap, .slice c o eap, .int .i64 cut] w fun e w' => e = .returned (.bool true) ∧ Below w.heap.size w w' := by
  go_enter Try.func5, Try.ntmps5
  go_wp2_with fail
  refine C.mono ?_
  rintro e w1 ⟨rfl, hw1⟩
  subst w1
  go_wp2_with fail
  refine D.mono ?_
  rintro e w1 ⟨rfl, hw1⟩
  subst w1
  go_wp2_with fail
  refine E.mono ?_
  rintro e w1 ⟨rfl, rfl⟩
  go_wp2
  go_ret
  exact ⟨rfl, Below.refl _ _⟩

/-- Heavy, of a row that came in: it answers, and either it answers true, or there are at most 40 values, none of them too long. -/
theorem heavy_in (a : Option Addr) (n cap : Nat) (vs : List PV) (w : World) (hv : IsVals w a n cap vs) :
    (Calls Try.prog 9 #[.slice a n cap] w fun e w' => e = .returned (.bool true) ∧ w' = w) ∨ (n ≤ 40 ∧ heavyV vs = false ∧ Calls Try.prog 9 #[.slice a n cap] w fun e w' => e = .returned (.bool false) ∧ w' = w) := by
  obtain ⟨hn, hcap, hr, hnil⟩ := hv.vals
  by_cases h40 : 40 < n
  · exact .inl (heavy_long a n cap w h40 hv.small)
  have C := heavy_few a n cap vs w hn (by omega) hr
  cases hh : heavyV vs with
  | true => rw [hh] at C; exact .inl C
  | false => rw [hh] at C; exact .inr ⟨by omega, rfl, C⟩

theorem rorder_walk (VC : ValueCompare) (R : RowApi) (a b c : Option Addr) (n m o cap dap eap : Nat) (x y z : List PV) (cut : Int) (w : World) (hx : IsVals w a n cap x) (hy : IsVals w b m dap y) (hz : IsVals w c o eap z) :
    Calls Try.prog 5 #[.slice a n cap, .slice b m dap, .slice c o eap, .int .i64 cut] w fun e w' => e = .returned (.bool true) ∧ Below w.heap.size w w' := by
  rcases heavy_in a n cap x w hx with C | ⟨h1, h2, C⟩
  · exact rorder_heavy1 a b c n m o cap dap eap cut w C
  rcases heavy_in b m dap y w hy with D | ⟨h3, h4, D⟩
  · exact rorder_heavy2 a b c n m o cap dap eap cut w C D
  rcases heavy_in c o eap z w hz with E | ⟨h5, h6, E⟩
  · exact rorder_heavy3 a b c n m o cap dap eap cut w C D E
  obtain ⟨hn, hcap, hr, _⟩ := hx.vals
  obtain ⟨hm, _, hr2, _⟩ := hy.vals
  obtain ⟨ho, _, hr3, _⟩ := hz.vals
  exact rorder_some VC R a b c n m o cap dap eap x y z cut w hn hm ho h1 h3 h5 h2 h4 h6 hcap hr hr2 hr3

end Go.Proofs.Ythmclopndmcojaa
