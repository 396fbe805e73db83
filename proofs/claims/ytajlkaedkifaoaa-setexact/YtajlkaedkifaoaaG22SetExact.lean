/-
  Texts of the proof of SetExact, one behind the other.
-/
import Derived.Test.YtajlkaedkifaoaaRows
import Derived.Test.YtajlkaedkifaoaaG20SetExact
import Derived.Test.YtajlkaedkifaoaaG21SetExact
namespace Go.Proofs.Ytajlkaedkifaoaa
open Go.RowKit Go.Lib
set_option linter.unusedVariables false

theorem valueCheck_of {c : Int} (k i : Int) (s : ByteArray) (w : World) (h : chkV ⟨k, i, s⟩ = c) :
    Calls Try.prog 61 #[.agg #[.int .i64 k, .int .i64 i, .string s]] w fun e w' => e = .returned (.int .i64 c) ∧ Below w.heap.size w w' := by
  subst h
  exact valueCheck k i s w

set_option maxHeartbeats 400000 in
theorem rowCheck_long (a : Option Addr) (n cap : Nat) (w : World) (h : 12 < n) (hb : n ≤ 65536) :
    Calls Try.prog 49 #[.slice a n cap] w fun e w' => e = .returned (.int .i64 2) ∧ Below w.heap.size w w' := by
  go_enter Try.func49, Try.ntmps49
  go_wp2
  go_ret
  exact ⟨rfl, Below.refl _ _⟩

set_option maxHeartbeats 400000 in
theorem rowCheck_few (a : Option Addr) (n cap : Nat) (vs : List PV) (w : World) (hn : vs.length = n) (h : n ≤ 12) (hr : RdV w a vs) :
    Calls Try.prog 49 #[.slice a n cap] w fun e w' => e = .returned (.int .i64 (errR vs)) ∧ Below w.heap.size w w' := by
  have HN : Hid (vs.length = n) := hn
  clear hn
  go_enter Try.func49, Try.ntmps49
  go_wp2
  go_loopw [11] (fun i wr => ∃ k : Nat, k ≤ n ∧ i = .int .i64 k ∧ Hid ((vs.take k).all okV = true) ∧ Hid (Below w.heap.size w wr)) (fun i _ => n - (RowKit.intOf i).toNat)
  case atStart => exact ⟨0, Nat.zero_le _, rfl, rfl, Below.refl _ _⟩
  case round =>
    obtain ⟨k, hk, rfl, hT, hB⟩ := hrel
    by_cases hlt : k < n
    · have hkl : k < vs.length := by rw [HN.out]; exact hlt
      obtain ⟨b, off, rfl, hc⟩ := hr (by omega)
      obtain ⟨x0, x1, x2⟩ := hc k hkl
      replace x0 := cell_later hB.out x0
      replace x1 := cell_later hB.out x1
      replace x2 := cell_later hB.out x2
      have HS : Hid ((vs.take (k + 1)).all okV = okV vs[k]) := all_take_succ hkl hT.out
      have HX : Hid (okV vs[k] = false → vs.all okV = false) := fun h => all_false_at hkl h
      clear hc hr
      generalize vs[k] = x at *
      obtain ⟨k0, i0, s0⟩ := x
      simp only at x0 x1 x2
      cases hok : okV ⟨k0, i0, s0⟩ with
      | true =>
        rw [hok] at HS
        have hcv : chkV ⟨k0, i0, s0⟩ = 0 := by simp [chkV, hok]
        go_wp2_with fail
        refine (valueCheck_of _ _ _ _ hcv).mono ?_
        rintro e w1 ⟨rfl, hb⟩
        go_wp2
        go_roundw
        case rel => exact ⟨k + 1, by omega, by go_num, HS, chain hB.out (chain (alloc_below _ _) hb)⟩
        case measure => simp [RowKit.intOf]; omega
      | false =>
        have HX' : Hid (vs.all okV = false) := HX.out hok
        have hcv : chkV ⟨k0, i0, s0⟩ = 1 := by simp [chkV, hok]
        go_wp2_with fail
        refine (valueCheck_of _ _ _ _ hcv).mono ?_
        rintro e w1 ⟨rfl, hb⟩
        go_wp2
        go_ret
        exact ⟨by rw [errR_no HX'.out]; rfl, chain hB.out (chain (alloc_below _ _) hb)⟩
    · have h1 := hT.out
      rw [List.take_of_length_le (by rw [HN.out]; omega)] at h1
      have HH : Hid (vs.all okV = true) := h1
      clear h1
      go_wp2
      go_ret
      exact ⟨by rw [errR_ok HH.out]; rfl, hB.out⟩

theorem rowCheck : RowCheck := by
  intro a n cap vs w hn h hr
  unfold chkR
  by_cases h12 : 12 < n
  · rw [if_pos (by omega)]
    exact rowCheck_long a n cap w h12 h
  · rw [if_neg (by omega)]
    exact rowCheck_few a n cap vs w hn (by omega) hr

theorem valueCompare_of {c : Int} (k i : Int) (s : ByteArray) (k' i' : Int) (s' : ByteArray) (w : World) (h : cmpV ⟨k, i, s⟩ ⟨k', i', s'⟩ = c) :
    Calls Try.prog 59 #[.agg #[.int .i64 k, .int .i64 i, .string s], .agg #[.int .i64 k', .int .i64 i', .string s']] w fun e w' => e = .returned (.int .i64 c) ∧ Below w.heap.size w w' := by
  subst h
  exact valueCompare k i s k' i' s' w

set_option maxHeartbeats 1000000 in
theorem compareFunc_any (a b : Option Addr) (n m cap dap : Nat) (l r : List PV) (w : World) (hn : l.length = n) (hm : r.length = m) (hl : n ≤ 65536) (hr : m ≤ 65536) (ha : RdV w a l) (hb : RdV w b r) :
    Calls Try.prog 58 #[.slice a n cap, .slice b m dap, .func (.func 59) #[] #[]] w fun e w' => e = .returned (.int .i64 (cmpR l r)) ∧ Below w.heap.size w w' := by
  have HN : Hid (l.length = n) := hn
  have HM : Hid (r.length = m) := hm
  clear hn hm
  go_enter Try.func58, Try.ntmps58
  go_wp2
  go_loopw [13] (fun i wr => ∃ k : Nat, k ≤ n ∧ k ≤ m ∧ i = .int .i64 k ∧ Hid (cmpR l r = cmpR (l.drop k) (r.drop k)) ∧ Hid (Below w.heap.size w wr)) (fun i _ => n - (RowKit.intOf i).toNat)
  case atStart => exact ⟨0, Nat.zero_le _, Nat.zero_le _, rfl, rfl, Below.refl _ _⟩
  case round =>
    obtain ⟨k, hk, hk', rfl, hT, hB⟩ := hrel
    by_cases hlt : k < n
    · have hkl : k < l.length := by rw [HN.out]; exact hlt
      obtain ⟨b1, o1, rfl, hc1⟩ := ha (by omega)
      obtain ⟨x0, x1, x2⟩ := hc1 k hkl
      replace x0 := cell_later hB.out x0
      replace x1 := cell_later hB.out x1
      replace x2 := cell_later hB.out x2
      by_cases hlt2 : k < m
      · have hkr : k < r.length := by rw [HM.out]; exact hlt2
        obtain ⟨b2, o2, rfl, hc2⟩ := hb (by omega)
        obtain ⟨y0, y1, y2⟩ := hc2 k hkr
        have HQ : Hid (cmpR l r = if cmpV l[k] r[k] ≠ 0 then cmpV l[k] r[k] else cmpR (l.drop (k + 1)) (r.drop (k + 1))) := by
          rw [← cmpR_step hkl hkr]; exact hT
        replace y0 := cell_later hB.out y0
        replace y1 := cell_later hB.out y1
        replace y2 := cell_later hB.out y2
        clear hc1 hc2 ha hb
        generalize l[k] = x at *
        generalize r[k] = y at *
        clear hkl hkr
        obtain ⟨k0, i0, s0⟩ := x
        obtain ⟨k1, i1, s1⟩ := y
        simp only at x0 x1 x2 y0 y1 y2
        obtain ⟨X, hX⟩ : ∃ X, cmpV ⟨k0, i0, s0⟩ ⟨k1, i1, s1⟩ = X := ⟨_, rfl⟩
        rw [hX] at HQ
        have HX : Hid (cmpV ⟨k0, i0, s0⟩ ⟨k1, i1, s1⟩ = X) := hX
        clear hX
        have z0 := cell_later (alloc_below wr (.cells #[.int .i64 k0, .int .i64 i0, .string s0] 65)) y0
        have z1 := cell_later (alloc_below wr (.cells #[.int .i64 k0, .int .i64 i0, .string s0] 65)) y1
        have z2 := cell_later (alloc_below wr (.cells #[.int .i64 k0, .int .i64 i0, .string s0] 65)) y2
        by_cases hX0 : X = 0
        · subst hX0
          have HT' : Hid (cmpR l r = cmpR (l.drop (k + 1)) (r.drop (k + 1))) := by have := HQ.out; rwa [if_neg (by simp)] at this
          clear HQ hT
          go_wp2_with fail
          refine (valueCompare_of _ _ _ _ _ _ _ HX.out).mono ?_
          rintro e w1 ⟨rfl, hb⟩
          go_wp2
          go_roundw
          case rel => exact ⟨k + 1, by omega, by omega, by go_num, HT', chain hB.out (chain (below_two _ _ _) hb)⟩
          case measure => simp [RowKit.intOf]; omega
        · have HT' : Hid (cmpR l r = X) := by have := HQ.out; rwa [if_pos hX0] at this
          have hXn : (X != 0) = true := by simp [hX0]
          clear HQ hT hX0
          go_wp2_with fail
          refine (valueCompare_of _ _ _ _ _ _ _ HX.out).mono ?_
          rintro e w1 ⟨rfl, hb⟩
          go_wp2
          go_ret
          exact ⟨by rw [HT'.out]; rfl, chain hB.out (chain (below_two _ _ _) hb)⟩
      · have HE : Hid (cmpR l r = 1) := by
          have h1 := cmpR_end (l := l) (r := r) (k := k) (by rw [HN.out]; exact hk) (by rw [HM.out]; exact hk') (by rw [HN.out, HM.out]; omega)
          rw [HN.out, HM.out, if_neg (by omega), decide_eq_false (by omega)] at h1
          exact hT.out.trans h1
        clear hc1 ha hb hT
        generalize l[k] = x at *
        clear hkl
        obtain ⟨k0, i0, s0⟩ := x
        simp only at x0 x1 x2
        go_wp2
        go_ret
        exact ⟨by rw [HE.out]; rfl, chain hB.out (alloc_below _ _)⟩
    · have h1 := cmpR_end (l := l) (r := r) (k := k) (by rw [HN.out]; exact hk) (by rw [HM.out]; exact hk') (by rw [HN.out, HM.out]; omega)
      rw [HN.out, HM.out] at h1
      by_cases hnm : n < m
      · rw [if_neg (by omega), decide_eq_true hnm] at h1
        have HE : Hid (cmpR l r = -1) := hT.out.trans h1
        clear h1 hT
        go_wp2
        go_ret
        exact ⟨by rw [HE.out]; rfl, hB.out⟩
      · rw [if_pos (by omega)] at h1
        have HE : Hid (cmpR l r = 0) := hT.out.trans h1
        clear h1 hT
        go_wp2
        go_ret
        exact ⟨by rw [HE.out]; rfl, hB.out⟩

set_option maxHeartbeats 400000 in
theorem rowCompare : RowCompare := by
  intro a b n m cap dap l r w hn hm hl hr ha hb
  have C := compareFunc_any a b n m cap dap l r w hn hm hl hr ha hb
  generalize cmpR l r = X at *
  clear hn hm
  go_enter Try.func42, Try.ntmps42
  go_wp2_with fail
  refine C.mono ?_
  rintro e w1 ⟨rfl, hb1⟩
  go_wp2
  go_ret
  exact ⟨rfl, hb1⟩

end Go.Proofs.Ytajlkaedkifaoaa
