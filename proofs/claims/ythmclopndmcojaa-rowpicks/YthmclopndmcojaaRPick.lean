/-
  What the document's own Pick and RowBytes do.
-/
import Derived.Test.YthmclopndmcojaaRows
import Derived.Test.YthmclopndmcojaaRRef
import Derived.Test.YthmclopndmcojaaVBytes
namespace Go.Proofs.Ythmclopndmcojaa
open Go.RowKit Go.Lib
set_option linter.unusedVariables false

/-- Is each a place? -/
def inCols (n : Nat) (cols : List Int) : Bool := cols.all fun c => decide (0 ≤ c ∧ c ≤ (n : Int) - 1)

/-- The values at these places. -/
def pickAt (vs : List PV) (cols : List Int) : List PV := cols.map fun c => vs[c.toNat]?.getD noV

/-- Pick's answer. -/
def pickR (vs : List PV) (cols : List Int) : List PV × Int := if inCols vs.length cols = true then (if 12 < cols.length then ([], 2) else (pickAt vs cols, 0)) else ([], 1)

/-- What a call that makes a row hands back. -/
def GivesR (w w' : World) (e : Ending) (r : List PV × Int) : Prop :=
  ∃ a n cap, e = .returned (.tuple #[.slice a n cap, .int .i64 r.2]) ∧ r.1.length = n ∧ n ≤ 65536 ∧ n ≤ cap ∧ OwnV w' w.heap.size (.slice a n cap) r.1 ∧ RdV w' a r.1 ∧ (a = none → r.1 = [] ∧ cap = 0) ∧ Below w.heap.size w w'

theorem GivesR.of_no {w w' : World} {e : Ending} {k : Int} (h : e = .returned (.tuple #[.slice none 0 0, .int .i64 k]) ∧ w' = w) : GivesR w w' e ([], k) := by
  obtain ⟨he, rfl⟩ := h
  exact ⟨none, 0, 0, he, rfl, by omega, Nat.le_refl _, OwnV.nought _ _, RdV.nil _ _, fun _ => ⟨rfl, rfl⟩, Below.refl _ _⟩

theorem rdV_at (w : World) (g : Nat) (hg : w.heap.size = g) (k i : Int) (s : ByteArray) : RdV (w.alloc (.cells #[.int .i64 k, .int .i64 i, .string s] 50)) (some ⟨g, 0, none⟩) [⟨k, i, s⟩] := by
  have B := Box.made (w := w) (g := g) (k := k) (i := i) (s := s) hg
  obtain ⟨c0, c1, c2, _⟩ := B.cells
  refine fun _ => ⟨g, 0, rfl, fun j hj => ?_⟩
  obtain rfl : j = 0 := by simp at hj; omega
  exact ⟨by simpa using c0, by simpa using c1, by simpa using c2⟩

/-- append(out, v): out the call's own. -/
theorem run_append_val {w : World} {B n : Nat} {v : Value} {xs : List PV} (g : Nat) (hg : w.heap.size = g) (k i : Int) (s : ByteArray) (hown : OwnV w B v xs) (hn : xs.length = n) (h1 : n ≤ 65536) (hB : B ≤ w.heap.size) :
    ∃ a' cap' w', (Builtin.append_ #[22, 22] 22 #[v, .slice (some ⟨g, 0, none⟩) 1 1]).run Try.prog (w.alloc (.cells #[.int .i64 k, .int .i64 i, .string s] 50)) = .ok (.slice a' (n + 1) cap') w' ∧ n + 1 ≤ cap' ∧ OwnV w' B (.slice a' (n + 1) cap') (xs ++ [⟨k, i, s⟩]) ∧ RdV w' a' (xs ++ [⟨k, i, s⟩]) ∧ (a' = none → xs ++ [⟨k, i, s⟩] = [] ∧ cap' = 0) ∧ Below B w w' := by
  obtain ⟨a', cap', w', hrun, hc, ho, hrd, hnl, _, hb⟩ := run_append_vals (ty := 22) (cap := 1) (hown.later (alloc_below w (.cells #[.int .i64 k, .int .i64 i, .string s] 50))) hn (m := 1) rfl (rdV_at w g hg k i s) (fun h => by cases h) h1 (by omega) (Nat.le_trans hB (by simp))
  exact ⟨a', cap', w', hrun, hc, ho, hrd, hnl, ((alloc_below w _).mono hB).trans hb⟩

set_option maxHeartbeats 1000000 in
theorem rPick_out (a b : Option Addr) (n m cap dap : Nat) (vs : List PV) (cols : List Int) (w : World) (hn : vs.length = n) (hm : cols.length = m) (hl : n ≤ 65536) (hr : m ≤ 65536) (ha : RdV w a vs) (hb : RdI .i64 w b cols) :
    Calls Try.prog 15 #[.slice a n cap, .slice b m dap] w fun e w' => GivesR w w' e (pickR vs cols) := by
  have HN : Hid (vs.length = n) := hn
  have HM : Hid (cols.length = m) := hm
  have HA : Hid (RdV w a vs) := ha
  clear hn hm ha
  go_enter Try.func15, Try.ntmps15
  go_wp2
  go_loop [6] (fun i => ∃ k : Nat, k ≤ m ∧ i = .int .i64 k ∧ Hid (inCols n (cols.take k) = true)) (fun i => m - (RowKit.intOf i).toNat)
  case atStart => exact ⟨0, Nat.zero_le _, rfl, rfl⟩
  case round =>
    obtain ⟨k, hk, rfl, hT⟩ := hrel
    by_cases hlt : k < m
    · have hkr : k < cols.length := by rw [HM.out]; exact hlt
      obtain ⟨b2, o2, rfl, hc2⟩ := hb (by omega)
      have y0 := hc2 k hkr
      have HQ : Hid (inCols n (cols.take (k + 1)) = decide (0 ≤ cols[k] ∧ cols[k] ≤ (n : Int) - 1)) := by
        have h := hT.out
        unfold inCols at h ⊢
        show _ = _
        rw [List.take_succ_eq_append_getElem hkr, List.all_append, h]
        simp
      have HF : Hid (¬ (0 ≤ cols[k] ∧ cols[k] ≤ (n : Int) - 1) → inCols n cols = false) := fun h => by
        unfold inCols
        rw [List.all_eq_false]
        exact ⟨_, List.getElem_mem hkr, by simpa using h⟩
      clear hc2 hb
      generalize cols[k] = c at *
      by_cases hc : 0 ≤ c ∧ c ≤ (n : Int) - 1
      · have HT' : Hid (inCols n (cols.take (k + 1)) = true) := by rw [HQ.out]; show _ = _; simpa using hc
        go_wp2_with fail
        refine (in_yes _ _ _ _ hc.1 hc.2).mono ?_
        rintro e w1 ⟨rfl, rfl⟩
        go_wp2
        go_round
        case rel => exact ⟨k + 1, by omega, by go_num, HT'⟩
        case measure => simp [RowKit.intOf]; omega
      · have HT' : Hid (inCols n cols = false) := HF.out hc
        go_wp2_with fail
        refine (in_no _ _ _ _ (by omega)).mono ?_
        rintro e w1 ⟨rfl, rfl⟩
        go_wp2
        go_ret2
        have e : pickR vs cols = ([], 1) := by unfold pickR; rw [HN.out, HT'.out]; rfl
        rw [e]
        exact GivesR.of_no ⟨rfl, rfl⟩
    · have h1 := hT.out
      rw [List.take_of_length_le (by rw [HM.out]; omega)] at h1
      have HI : Hid (inCols n cols = true) := h1
      clear h1 hT
      by_cases h12 : 12 < m
      · go_wp2
        go_ret2
        have e : pickR vs cols = ([], 2) := by unfold pickR; rw [HN.out, HI.out, HM.out, if_pos rfl, if_pos h12]
        rw [e]
        exact GivesR.of_no ⟨rfl, rfl⟩
      · have HE : Hid (pickR vs cols = (pickAt vs cols, 0)) := by show _ = _; unfold pickR; rw [HN.out, HI.out, HM.out, if_pos rfl, if_neg h12]
        go_wp2
        go_loopw [7, 8] (fun o i wr => ∃ (k cp : Nat) (aw : Option Addr), k ≤ m ∧ i = .int .i64 k ∧ o = .slice aw k cp ∧ k ≤ cp ∧ Hid (OwnV wr w.heap.size (.slice aw k cp) (pickAt vs (cols.take k))) ∧ Hid (RdV wr aw (pickAt vs (cols.take k))) ∧ Hid (aw = none → pickAt vs (cols.take k) = [] ∧ cp = 0) ∧ Hid (Below w.heap.size w wr)) (fun _ i _ => m - (RowKit.intOf i).toNat)
        case atStart => exact ⟨0, 0, none, Nat.zero_le _, rfl, rfl, Nat.le_refl _, OwnV.nought _ _, RdV.nil _ _, fun _ => ⟨rfl, rfl⟩, Below.refl _ _⟩
        case round =>
          obtain ⟨k, cp, aw, hk, rfl, rfl, hcp, hO, hR, hNl, hB⟩ := hrel
          by_cases hlt : k < m
          · have hkr : k < cols.length := by rw [HM.out]; exact hlt
            obtain ⟨b2, o2, rfl, hc2⟩ := hb (by omega)
            have y0 := cell_later hB.out (hc2 k hkr)
            have hin : 0 ≤ cols[k] ∧ cols[k] ≤ (n : Int) - 1 := by
              have h := HI.out
              unfold inCols at h
              rw [List.all_eq_true] at h
              simpa using h _ (List.getElem_mem hkr)
            have HP : Hid (pickAt vs (cols.take (k + 1)) = pickAt vs (cols.take k) ++ [vs[cols[k].toNat]?.getD noV]) := by
              show _ = _
              unfold pickAt
              rw [List.take_succ_eq_append_getElem hkr, List.map_append]
              rfl
            clear hc2
            generalize cols[k] = c at *
            obtain ⟨j, rfl⟩ : ∃ j : Nat, c = j := ⟨c.toNat, by omega⟩
            have hj : j < n := by omega
            have hjl : j < vs.length := by rw [HN.out]; exact hj
            obtain ⟨b1, o1, rfl, hc1⟩ := HA.out (by omega)
            obtain ⟨x0, x1, x2⟩ := hc1 j hjl
            replace x0 := cell_later hB.out x0
            replace x1 := cell_later hB.out x1
            replace x2 := cell_later hB.out x2
            rw [show ((j : Int).toNat) = j from by omega, List.getElem?_eq_getElem hjl, Option.getD_some] at HP
            clear hc1
            generalize vs[j] = x at *
            clear hjl
            obtain ⟨k0, i0, s0⟩ := x
            simp only at x0 x1 x2
            obtain ⟨a', cap', w', hrun, hc', ho', hr', hn', hb'⟩ := run_append_val _ rfl k0 i0 s0 hO.out (n := k) (by simp [pickAt, HM.out]; omega) (by omega) hB.out.size
            rw [← HP.out] at ho' hr' hn'
            have HO' : Hid _ := ho'
            have HR' : Hid _ := hr'
            have HN' : Hid _ := hn'
            have HB' : Hid (Below w.heap.size w w') := hB.out.trans hb'
            clear hO hR hNl hB ho' hr' hn' hb' HP hin
            go_wp2_with (at_builtin; refine wpList_append_run rfl (.tmp 33) (.tmp 41) 22 22 rfl _ _ _ _ rfl rfl hrun ?_)
            go_roundw
            case rel => exact ⟨k + 1, cap', a', by omega, by go_num, rfl, hc', HO', HR', HN', HB'⟩
            case measure => simp [RowKit.intOf]; omega
          · obtain rfl : k = m := by omega
            have hT2 : cols.take k = cols := List.take_of_length_le (by rw [HM.out]; omega)
            rw [hT2] at hO hR hNl
            go_wp2
            go_ret2
            rw [HE.out]
            exact ⟨_, _, _, rfl, by simp [pickAt, HM.out], by omega, hcp, hO.out, hR.out, hNl.out, hB.out⟩

end Go.Proofs.Ythmclopndmcojaa
