/-
  RowArity's walk: what the law answers, whatever its number and its value.
-/
import Derived.Test.YthmclopndmcojabRows
import Derived.Test.YthmclopndmcojabRReads
import Derived.Test.YthmclopndmcojabRFrame
import Derived.Deep.RegionWith
import Derived.Deep.Cut
namespace Go.Proofs.Ythmclopndmcojab
open Go.RowKit Go.Lib
set_option linter.unusedVariables false

theorem arity_of (k : Int) : ∃ n : Nat, (n = 11 ∨ n = 12 ∨ n = 13) ∧ wrap64 (11 + wrap64 ((IntKind.u64.wrap k).tmod 3)) = (n : Int) := by
  have h0 : 0 ≤ IntKind.u64.wrap k := by rw [IntKind.wrap_u64]; omega
  have h1 : (IntKind.u64.wrap k).tmod 3 = IntKind.u64.wrap k % 3 := Int.tmod_eq_emod_of_nonneg h0
  have h2 : wrap64 ((IntKind.u64.wrap k).tmod 3) = (IntKind.u64.wrap k).tmod 3 := IntWalk.wrap64_in _ ⟨by omega, by omega⟩
  have h3 : wrap64 (11 + (IntKind.u64.wrap k).tmod 3) = 11 + (IntKind.u64.wrap k).tmod 3 := IntWalk.wrap64_in _ ⟨by omega, by omega⟩
  rw [h2, h3]
  exact ⟨(11 + (IntKind.u64.wrap k).tmod 3).toNat, by omega, by omega⟩

/-- A new row of so many noughts. -/
structure NoughtI (n : Nat) (Z : Array Value) : Prop where
  make : ∀ W : World, (Instr.makeSlice 34 (.int .i64 (n : Int)) (.int .i64 (n : Int))).run Try.prog W = .ok (.slice (some ⟨W.heap.size, 0, none⟩) n n) (W.alloc (.cells Z 3))
  cell : ∀ i, i < n → Z[i]? = some (.int .i64 0)

def zI (n : Nat) : Array Value := (List.replicate n (.int .i64 0)).toArray

theorem make11 (W : World) : (Instr.makeSlice 34 (.int .i64 ((11 : Nat) : Int)) (.int .i64 ((11 : Nat) : Int))).run Try.prog W = .ok (.slice (some ⟨W.heap.size, 0, none⟩) 11 11) (W.alloc (.cells (zI 11) 3)) := by kernel_rfl

theorem make12 (W : World) : (Instr.makeSlice 34 (.int .i64 ((12 : Nat) : Int)) (.int .i64 ((12 : Nat) : Int))).run Try.prog W = .ok (.slice (some ⟨W.heap.size, 0, none⟩) 12 12) (W.alloc (.cells (zI 12) 3)) := by kernel_rfl

theorem make13 (W : World) : (Instr.makeSlice 34 (.int .i64 ((13 : Nat) : Int)) (.int .i64 ((13 : Nat) : Int))).run Try.prog W = .ok (.slice (some ⟨W.heap.size, 0, none⟩) 13 13) (W.alloc (.cells (zI 13) 3)) := by kernel_rfl

theorem zI_cell {n i : Nat} (h : i < n) : (zI n)[i]? = some (.int .i64 0) := by simp [zI, h]

theorem noughtI (n : Nat) (h : n = 11 ∨ n = 12 ∨ n = 13) : ∃ Z, NoughtI n Z := by
  rcases h with rfl | rfl | rfl
  · exact ⟨_, make11, fun i hi => zI_cell hi⟩
  · exact ⟨_, make12, fun i hi => zI_cell hi⟩
  · exact ⟨_, make13, fun i hi => zI_cell hi⟩

theorem alloc_at {w : World} {xs : Array Value} {t g i : Nat} {v : Value} (hg : w.heap.size = g) (h : xs[i]? = some v) : (w.alloc (.cells xs t)).cell? ⟨g, i, none⟩ = some v := by
  subst hg
  rw [cell_of_row (w.alloc (.cells xs t)) w.heap.size i xs t (0, 0) (by show (w.heap.push _)[w.heap.size]? = _; simp)]
  exact h

theorem NoughtI.rd {n : Nat} {Z : Array Value} (H : NoughtI n Z) (W : World) (g : Nat) (hg : W.heap.size = g) : RdI .i64 (W.alloc (.cells Z 3)) (some ⟨g, 0, none⟩) (List.replicate n 0) := by
  intro _
  refine ⟨g, 0, rfl, fun i hi => ?_⟩
  have hi' : i < n := by simpa using hi
  rw [Nat.zero_add, alloc_at hg (H.cell i hi')]
  simp

theorem all_rep {v : PV} (h : okV v = true) (n : Nat) : (List.replicate n v).all okV = true := by
  rw [List.all_eq_true]
  intro x hx
  rw [List.eq_of_mem_replicate hx]
  exact h

theorem chk_rep {v : PV} (h : okV v = true) (n : Nat) : chkR (List.replicate n v) = if 12 < n then 2 else 0 := by
  unfold chkR
  rw [List.length_replicate, errR_ok (all_rep h n)]

theorem pick_rep (v : PV) (n : Nat) : pickR [v] (List.replicate n 0) = if 12 < n then ([], 2) else (List.replicate n v, 0) := by
  have h1 : inCols [v].length (List.replicate n 0) = true := by
    unfold inCols
    rw [List.all_eq_true]
    intro x hx
    rw [List.eq_of_mem_replicate hx]
    simp
  have h2 : pickAt [v] (List.replicate n 0) = List.replicate n v := by
    unfold pickAt
    rw [List.map_replicate]
    simp
  unfold pickR
  rw [h1, if_pos rfl, h2, List.length_replicate]

theorem pickA (RP : RowPick) (n : Nat) (Z : Array Value) (HZ : NoughtI n Z) (h13 : n ≤ 13) (k i : Int) (s : ByteArray) (W : World) (g g' : Nat) (hg : W.heap.size = g) (hg' : W.heap.size + 1 = g') :
    Calls Try.prog 7 #[.slice (some ⟨g, 0, none⟩) 1 1, .slice (some ⟨g', 0, none⟩) n n] ((W.alloc (.cells #[.int .i64 k, .int .i64 i, .string s] 23)).alloc (.cells Z 3)).drew fun e w' => ∃ a m cap, e = .returned (.tuple #[.slice a m cap, .int .i64 (pickR [⟨k, i, s⟩] (List.replicate n 0)).2]) ∧ (pickR [⟨k, i, s⟩] (List.replicate n 0)).1.length = m ∧ m ≤ 65536 ∧ RdV w' a (pickR [⟨k, i, s⟩] (List.replicate n 0)).1 ∧ Below W.heap.size W w' := by
  have hv := (rdV_at W g hg k i s).later ((alloc_below _ (.cells Z 3)).drew)
  have hz : RdI .i64 ((W.alloc (.cells #[.int .i64 k, .int .i64 i, .string s] 23)).alloc (.cells Z 3)).drew (some ⟨g', 0, none⟩) (List.replicate n 0) := HZ.rd _ g' (by simp; omega)
  refine (RP _ _ 1 n 1 n [⟨k, i, s⟩] (List.replicate n 0) _ rfl (by simp) (by omega) (by omega) hv hz).mono ?_
  rintro e w' ⟨a, m, cap, rfl, hm, h64, _, _, hr, _, hb⟩
  exact ⟨a, m, cap, rfl, hm, h64, hr, (below_two W _ _).drew.trans (hb.mono (by simp; omega))⟩

theorem pickB (RP : RowPick) (n : Nat) (Z : Array Value) (HZ : NoughtI n Z) (h13 : n ≤ 13) (k i : Int) (s : ByteArray) (W : World) (g g' : Nat) (hg : W.heap.size + 1 = g) (hg' : W.heap.size = g') :
    Calls Try.prog 7 #[.slice (some ⟨g, 0, none⟩) 1 1, .slice (some ⟨g', 0, none⟩) n n] ((W.alloc (.cells Z 3)).alloc (.cells #[.int .i64 k, .int .i64 i, .string s] 23)).drew fun e w' => ∃ a m cap, e = .returned (.tuple #[.slice a m cap, .int .i64 (pickR [⟨k, i, s⟩] (List.replicate n 0)).2]) ∧ (pickR [⟨k, i, s⟩] (List.replicate n 0)).1.length = m ∧ m ≤ 65536 ∧ RdV w' a (pickR [⟨k, i, s⟩] (List.replicate n 0)).1 ∧ Below W.heap.size W w' := by
  have hz := (HZ.rd W g' hg').later ((alloc_below _ (.cells #[.int .i64 k, .int .i64 i, .string s] 23)).drew)
  have hv : RdV ((W.alloc (.cells Z 3)).alloc (.cells #[.int .i64 k, .int .i64 i, .string s] 23)).drew (some ⟨g, 0, none⟩) [⟨k, i, s⟩] := rdV_at _ g (by simp; omega) k i s
  refine (RP _ _ 1 n 1 n [⟨k, i, s⟩] (List.replicate n 0) _ rfl (by simp) (by omega) (by omega) hv hz).mono ?_
  rintro e w' ⟨a, m, cap, rfl, hm, h64, _, _, hr, _, hb⟩
  exact ⟨a, m, cap, rfl, hm, h64, hr, (below_two W _ _).drew.trans (hb.mono (by simp; omega))⟩

set_option maxRecDepth 100000 in
set_option maxHeartbeats 4000000 in
theorem rarity_walk (RC : RowCheck) (RP : RowPick) (RB : RowBytesC) (RR : RowRead) (RCm : RowCompare) (num : Int) (k i : Int) (s : ByteArray) (w : World) :
    Calls Try.prog 3 #[.int .i64 num, .agg #[.int .i64 k, .int .i64 i, .string s]] w fun e w' => e = .returned (.bool true) ∧ Below w.heap.size w w' := by
  have HV : Hid (RdV ((w.alloc (.cells #[.int .i64 k, .int .i64 i, .string s] 23)).alloc (.cells #[.int .i64 k, .int .i64 i, .string s] 23)) (some ⟨w.heap.size + 1, 0, none⟩) [⟨k, i, s⟩]) := rdV_at _ _ (by simp) k i s
  have B0 : Box ((w.alloc (.cells #[.int .i64 k, .int .i64 i, .string s] 23)).alloc (.cells #[.int .i64 k, .int .i64 i, .string s] 23)) w.heap.size k i s := (Box.made rfl).later (alloc_below _ _)
  have HX : Hid (Below w.heap.size w ((w.alloc (.cells #[.int .i64 k, .int .i64 i, .string s] 23)).alloc (.cells #[.int .i64 k, .int .i64 i, .string s] 23))) := below_two _ _ _
  obtain ⟨n, hn, hne⟩ := arity_of num
  obtain ⟨Z, HZ⟩ := noughtI n hn
  have hn1 : 11 ≤ n := by omega
  have hn2 : n ≤ 13 := by omega
  clear hn
  go_enter Try.func3, Try.ntmps3
  go_wp2_with fail
  refine (heavy_few (some ⟨w.heap.size + 1, 0, none⟩) 1 1 [⟨k, i, s⟩] _ rfl (by omega) HV.out).mono ?_
  rintro e w1 ⟨rfl, hw1⟩
  subst w1
  generalize (w.alloc (.cells #[.int .i64 k, .int .i64 i, .string s] 23)).alloc (.cells #[.int .i64 k, .int .i64 i, .string s] 23) = W at *
  obtain ⟨c0, c1, c2, _⟩ := B0.cells
  cases heavyV [⟨k, i, s⟩] with
  | true =>
    go_wp2
    go_ret
    exact ⟨rfl, HX.out⟩
  | false =>
    cases hok : okV ⟨k, i, s⟩ with
    | false =>
      go_wp2_with fail
      refine (rValue_of _ _ _ _ hok).mono ?_
      rintro e w1 ⟨rfl, hb⟩
      go_wp2
      go_ret
      exact ⟨rfl, chain HX.out hb⟩
    | true =>
      go_wp2_with fail
      refine (rValue_of _ _ _ _ hok).mono ?_
      rintro e w1 ⟨rfl, hb⟩
      replace B0 := B0.later hb
      replace HX : Hid (Below w.heap.size w w1) := chain HX.out hb
      clear hb c0 c1 c2 HV
      go_wp2
      rw [hne]
      clear hne
      go_loopw [5, 6] (fun o x wr => ∃ (j cp : Nat) (aw : Option Addr), j ≤ n ∧ x = .int .i64 j ∧ o = .slice aw j cp ∧ j ≤ cp ∧ Hid (OwnV wr w1.heap.size (.slice aw j cp) (List.replicate j ⟨k, i, s⟩)) ∧ Hid (Below w1.heap.size w1 wr)) (fun _ x _ => n - (RowKit.intOf x).toNat)
      case atStart => exact ⟨0, 0, none, Nat.zero_le _, rfl, rfl, Nat.le_refl _, OwnV.nought _ _, Below.refl _ _⟩
      case round =>
        obtain ⟨j, cp, aw, hj, rfl, rfl, hcp, hO, hB⟩ := hrel
        obtain ⟨c0, c1, c2, _⟩ := (B0.later hB.out).cells
        by_cases hlt : j < n
        · obtain ⟨a', cap', w', hrun, hc', ho', hr', hn', hb'⟩ := run_append_val _ rfl k i s hO.out (n := j) (by simp) (by omega) hB.out.size
          rw [show List.replicate j (PV.mk k i s) ++ [⟨k, i, s⟩] = List.replicate (j + 1) ⟨k, i, s⟩ from by rw [List.replicate_succ']] at ho' hr' hn'
          have HO' : Hid _ := ho'
          have HB' : Hid (Below w1.heap.size w1 w') := hB.out.trans hb'
          clear hO hB ho' hr' hn' hb'
          go_wp2_with (at_builtin; refine wpList_append_run rfl (.tmp 29) (.tmp 31) 25 25 rfl _ _ _ _ rfl rfl hrun ?_)
          go_roundw
          case rel => exact ⟨j + 1, cap', a', by omega, by go_num, rfl, hc', HO', HB'⟩
          case measure => simp [RowKit.intOf]; omega
        · obtain rfl : j = n := by omega
          obtain ⟨a5, cap5, e5, _, hr5, _⟩ := hO.out.form
          simp only [Value.slice.injEq, List.length_replicate] at e5
          obtain ⟨rfl, _, rfl⟩ := e5
          have RV : Hid (RdV wr aw (List.replicate j ⟨k, i, s⟩)) := hr5
          replace HX : Hid (Below w.heap.size w wr) := chain HX.out hB.out
          replace B0 := B0.later hB.out
          clear hO hB hr5 c0 c1 c2
          go_wp2_with fail
          refine (RB aw j cp (List.replicate j ⟨k, i, s⟩) _ (by simp) (by omega) RV.out).mono ?_
          rintro e w2 ⟨ab, nb, cb, rfl, hnb, _, _, _, _, hb⟩
          replace HX : Hid (Below w.heap.size w w2) := chain HX.out hb
          replace RV : Hid (RdV w2 aw (List.replicate j ⟨k, i, s⟩)) := RV.out.later hb
          replace B0 := B0.later hb
          obtain ⟨c0, c1, c2, _⟩ := B0.cells
          have hmk := HZ.make
          clear hb
          by_cases h12 : 12 < j
          · have PR : Hid (pickR [⟨k, i, s⟩] (List.replicate j 0) = ([], 2)) := by show _ = _; rw [pick_rep, if_pos h12]
            have CR : Hid (chkR (List.replicate j ⟨k, i, s⟩) = 2) := by show _ = _; rw [chk_rep hok, if_pos h12]
            rw [putR_no (by rw [CR.out]; decide)] at hnb ⊢
            rw [CR.out] at ⊢
            simp only [List.length_nil] at hnb ⊢
            subst hnb
            go_wp2
            go_region_with (first
            | (go_at_call_of 7 (Value.slice (some ⟨w2.heap.size, 0, none⟩) 1 1); refine (pickA RP j Z HZ hn2 k i s w2 w2.heap.size (w2.heap.size + 1) rfl rfl).mono ?_; rintro e w' ⟨ap, np, cp', rfl, hnp, h64, hrp, hbp⟩)
            | (go_at_call 7; refine (pickB RP j Z HZ hn2 k i s w2 (w2.heap.size + 1) w2.heap.size rfl rfl).mono ?_; rintro e w' ⟨ap, np, cp', rfl, hnp, h64, hrp, hbp⟩))
            all_goals
              rw [PR.out] at hnp hrp ⊢
              simp only [List.length_nil] at hnp ⊢
              subst hnp
              go_wp2_with fail
              refine (RC aw j cp (List.replicate j ⟨k, i, s⟩) _ (by simp) (by omega) (RV.out.later hbp)).mono ?_
              rintro e w3 ⟨rfl, hb3⟩
              rw [CR.out]
              go_wp2_with fail
              refine (rwakes_of RB RR RCm _).mono ?_
              rintro e w4 ⟨rfl, hb4⟩
              go_wp2
              go_ret
              exact ⟨rfl, chain HX.out (chain hbp (chain hb3 hb4))⟩
          · have PR : Hid (pickR [⟨k, i, s⟩] (List.replicate j 0) = (List.replicate j ⟨k, i, s⟩, 0)) := by show _ = _; rw [pick_rep, if_neg h12]
            have CR : Hid (chkR (List.replicate j ⟨k, i, s⟩) = 0) := by show _ = _; rw [chk_rep hok, if_neg h12]
            rw [putR_ok CR.out] at hnb ⊢
            simp only at hnb ⊢
            clear hnb
            go_wp2
            go_region_with (first
            | (go_at_call_of 7 (Value.slice (some ⟨w2.heap.size, 0, none⟩) 1 1); refine (pickA RP j Z HZ hn2 k i s w2 w2.heap.size (w2.heap.size + 1) rfl rfl).mono ?_; rintro e w' ⟨ap, np, cp', rfl, hnp, h64, hrp, hbp⟩)
            | (go_at_call 7; refine (pickB RP j Z HZ hn2 k i s w2 (w2.heap.size + 1) w2.heap.size rfl rfl).mono ?_; rintro e w' ⟨ap, np, cp', rfl, hnp, h64, hrp, hbp⟩))
            all_goals
              rw [PR.out] at hnp hrp ⊢
              simp only at hnp hrp ⊢
              have HNP : Hid _ := hnp
              have HRP : Hid (RdV w' ap (List.replicate j ⟨k, i, s⟩)) := hrp
              clear hnp hrp
              go_wp2_with fail
              refine (RC aw j cp (List.replicate j ⟨k, i, s⟩) _ (by simp) (by omega) (RV.out.later hbp)).mono ?_
              rintro e w3 ⟨rfl, hb3⟩
              rw [CR.out]
              go_wp2_with fail
              refine (keepRow_any ap aw np j cp' cp _ (List.replicate j ⟨k, i, s⟩) _ HNP.out (by simp) h64 (by omega) (HRP.out.later hb3) (RV.out.later (chain hbp hb3))).mono ?_
              rintro e w4 ⟨rfl, hb4⟩
              rw [(sameVs_iff _ _).2 rfl]
              go_wp2_with fail
              refine (rwakes_of RB RR RCm _).mono ?_
              rintro e w5 ⟨rfl, hb5⟩
              go_wp2
              go_ret
              exact ⟨rfl, chain HX.out (chain hbp (chain hb3 (chain hb4 hb5)))⟩

end Go.Proofs.Ythmclopndmcojab
