/-
  DotSteps' walk: what the law answers, whatever its numbers and its dot.
-/
import Derived.Test.YtmdjmkpalnhkoaaRows
import Derived.Test.YtmdjmkpalnhkoaaDLaws
import Derived.Laws.OwnMore
namespace Go.Proofs.Ytmdjmkpalnhkoaa
open Go.RowKit Go.Lib
set_option linter.unusedVariables false

/-- A new row of noughts. -/
theorem run_make_ints (w : World) (n : Nat) (h : n ≤ 65536) :
    ∃ w', (Instr.makeSlice 22 (.int .i64 (n : Int)) (.int .i64 (n : Int))).run Try.prog w = .ok (.slice (some ⟨w.heap.size, 0, none⟩) n n) w' ∧ OwnI w' w.heap.size (.slice (some ⟨w.heap.size, 0, none⟩) n n) (List.replicate n 0) ∧ Below w.heap.size w w' := by
  obtain ⟨i0, hi, hz0, hz1, hz2⟩ := info_parts Try.infoI
  obtain ⟨w', hrun, ho, hg⟩ := run_make_full (P := Try.prog) w w.heap.size 22 3 i0 (.int .i64 0) 1 Try.underlying22 hi hz0 hz1 .i64 .i64 n (by rw [hz2]; omega) (by unfold maxLen; omega) (Nat.le_refl _)
  refine ⟨w', hrun, ?_, (Below.refl _ _).grown hg (Nat.le_refl _) (fun k hk => by cases hk)⟩
  unfold OwnI
  have e : (madeCells (Value.int .i64 0).cells (n * 1)).toList = cellsI (List.replicate n 0) := by
    rw [Nat.mul_one, show (Value.int .i64 0).cells = #[.int .i64 0] from rfl, toList_madeCells_one]
    simp [cellsI]
  rw [List.length_replicate, ← e]
  exact ho

theorem peers_of (k : Int) : ∃ n : Nat, (1 ≤ n ∧ n ≤ 5) ∧ wrap64 (1 + wrap64 ((IntKind.u64.wrap k).tmod 5)) = (n : Int) := by
  have h0 : 0 ≤ IntKind.u64.wrap k := by rw [IntKind.wrap_u64]; omega
  have h1 : (IntKind.u64.wrap k).tmod 5 = IntKind.u64.wrap k % 5 := Int.tmod_eq_emod_of_nonneg h0
  have h2 : wrap64 ((IntKind.u64.wrap k).tmod 5) = (IntKind.u64.wrap k).tmod 5 := IntWalk.wrap64_in _ ⟨by omega, by omega⟩
  have h3 : wrap64 (1 + (IntKind.u64.wrap k).tmod 5) = 1 + (IntKind.u64.wrap k).tmod 5 := IntWalk.wrap64_in _ ⟨by omega, by omega⟩
  rw [h2, h3]
  exact ⟨(1 + (IntKind.u64.wrap k).tmod 5).toNat, by omega, by omega⟩

theorem modPlace (k : Int) (m : Nat) (h1 : 1 ≤ m) (h40 : m ≤ 1000) : ∃ j : Nat, j < m ∧ wrap64 ((IntKind.u64.wrap k).tmod (m : Int)) = (j : Int) := by
  have h0 : 0 ≤ IntKind.u64.wrap k := by rw [IntKind.wrap_u64]; omega
  have h2 : (IntKind.u64.wrap k).tmod (m : Int) = IntKind.u64.wrap k % (m : Int) := Int.tmod_eq_emod_of_nonneg h0
  have h3 := Int.emod_nonneg (IntKind.u64.wrap k) (show (m : Int) ≠ 0 by omega)
  have h4 := Int.emod_lt_of_pos (IntKind.u64.wrap k) (show (0 : Int) < (m : Int) by omega)
  refine ⟨(IntKind.u64.wrap k % (m : Int)).toNat, by omega, ?_⟩
  rw [h2, IntWalk.wrap64_in _ ⟨by omega, by omega⟩]
  omega

/-- Noughts, and so many steps from there. -/
def Stepped (N : List Int) (n k : Nat) : Prop := N.length = n ∧ (∀ x ∈ N, 0 ≤ x) ∧ N.sum = (k : Int)

theorem sum_nonneg : ∀ {N : List Int}, (∀ x ∈ N, 0 ≤ x) → 0 ≤ N.sum
  | [], _ => by simp
  | x :: N, h => by
    have h1 := h x (by simp)
    have h2 := sum_nonneg (N := N) (fun y hy => h y (by simp [hy]))
    rw [List.sum_cons]
    omega

theorem le_sum : ∀ {N : List Int}, (∀ x ∈ N, 0 ≤ x) → ∀ x ∈ N, x ≤ N.sum
  | [], _, x, hx => by cases hx
  | y :: N, h, x, hx => by
    have h1 := h y (by simp)
    have hn := sum_nonneg (N := N) (fun z hz => h z (by simp [hz]))
    rw [List.sum_cons]
    rcases List.mem_cons.1 hx with rfl | hx
    · omega
    · have := le_sum (N := N) (fun z hz => h z (by simp [hz])) x hx
      omega

theorem sum_set : ∀ {N : List Int} {i : Nat} (h : i < N.length) (x : Int), (N.set i x).sum = N.sum - N[i] + x
  | [], _, h, _ => absurd h (by simp)
  | y :: N, 0, _, x => by simp; omega
  | y :: N, i + 1, h, x => by
    have ih := sum_set (N := N) (i := i) (by simpa using h) x
    simp only [List.set_cons_succ, List.sum_cons, ih, List.getElem_cons_succ]
    omega

theorem Stepped.small {N : List Int} {n k : Nat} (h : Stepped N n k) {i : Nat} (hi : i < N.length) : 0 ≤ N[i] ∧ N[i] ≤ k := by
  have h1 := h.2.1 _ (List.getElem_mem hi)
  have h2 := le_sum h.2.1 _ (List.getElem_mem hi)
  rw [h.2.2] at h2
  exact ⟨h1, h2⟩

theorem Stepped.right {N : List Int} {n k : Nat} (h : Stepped N n k) (hk : k ≤ 101) : rightD N = true := rightD_iff.2 fun i hi => by
  have := h.small hi
  omega

theorem Stepped.step {N : List Int} {n k z : Nat} (h : Stepped N n k) (hz : z < N.length) : Stepped (N.set z (N[z] + 1)) n (k + 1) := by
  refine ⟨by rw [List.length_set]; exact h.1, fun x hx => ?_, ?_⟩
  · rcases List.mem_or_eq_of_mem_set hx with hx | rfl
    · exact h.2.1 x hx
    · have := (h.small hz).1
      omega
  · rw [sum_set hz, h.2.2]
    omega

theorem Stepped.zero (n : Nat) : Stepped (List.replicate n 0) n 0 := by
  refine ⟨by simp, fun x hx => ?_, by simp⟩
  rw [List.eq_of_mem_replicate hx]
  exact Int.le_refl _

/-- All that the law asks of one step. -/
theorem step_facts {N : List Int} {n k z : Nat} (h : Stepped N n k) (hk : k ≤ 100) (h1 : 1 ≤ n) (h5 : n ≤ 5) (hz : z < N.length) :
    hasD N (z : Int) (N[z] + 1) = false ∧ nextD N (z : Int) (N[z] + 1) = true ∧ addD N (z : Int) (N[z] + 1) = (N.set z (N[z] + 1), 0) ∧ hasD (N.set z (N[z] + 1)) (z : Int) (N[z] + 1) = true ∧
      leD N (N.set z (N[z] + 1)) = true ∧ leD (N.set z (N[z] + 1)) N = false ∧ nextD (N.set z (N[z] + 1)) (z : Int) (N[z] + 1) = false ∧ addD (N.set z (N[z] + 1)) (z : Int) (N[z] + 1) = ([], 1) := by
  have hs := h.small hz
  have hp : placeD N (z : Int) = true := by simp [placeD]; omega
  have hp' : placeD (N.set z (N[z] + 1)) (z : Int) = true := by rw [placeD_eq (List.length_set ..)]; exact hp
  have hat : atD N (z : Int) = N[z] := by simp [atD, List.getElem?_eq_getElem hz]
  have hat' : atD (N.set z (N[z] + 1)) (z : Int) = N[z] + 1 := by simp [atD, hz]
  have c0 : chkD N = 0 := chkD_ok.2 ⟨by rw [h.1]; exact h1, by rw [h.1]; exact h5, h.right (by omega)⟩
  have h' := h.step hz
  have c1 : chkD (N.set z (N[z] + 1)) = 0 := chkD_ok.2 ⟨by rw [h'.1]; exact h1, by rw [h'.1]; exact h5, h'.right (by omega)⟩
  have e1 : hasD N (z : Int) (N[z] + 1) = false := by simp [hasD, hat]; omega
  have e2 : nextD N (z : Int) (N[z] + 1) = true := by simp [nextD, hp, hat]
  have e3 : nextD (N.set z (N[z] + 1)) (z : Int) (N[z] + 1) = false := by simp [nextD, hat']; omega
  refine ⟨e1, e2, ?_, ?_, ?_, ?_, e3, ?_⟩
  · unfold addD
    rw [if_neg (by simp [c0]), if_pos ⟨e2, by omega⟩, show ((z : Int).toNat) = z from by omega]
  · simp [hasD, hp', hat']
    omega
  · refine leD_of (List.length_set ..).symm fun i a1 a2 => ?_
    rw [List.getElem_set]
    split
    · subst_vars; omega
    · exact Int.le_refl _
  · cases hh : leD (N.set z (N[z] + 1)) N with
    | false => rfl
    | true =>
      have := (leD_iff.1 hh).2 z (by simpa using hz) hz
      simp at this
      omega
  · unfold addD
    rw [if_neg (by simp [c1]), if_neg (by simp [e3])]

set_option maxRecDepth 100000 in
set_option maxHeartbeats 4000000 in
theorem dsteps_some (D : DotApi) (num : Int) (b : Option Addr) (q cap : Nat) (xs : List Int) (dp dk : Int) (w : World) (hq : xs.length = q) (hq100 : q ≤ 100) (hb : RdI .i64 w b xs) (i0 : In64 dp) (i1 : In64 dk) :
    Calls Try.prog 5 #[.int .i64 num, .slice b q cap, .agg #[.int .i64 dp, .int .i64 dk]] w fun e w' => e = .returned (.bool true) ∧ Below w.heap.size w w' := by
  have HQ : Hid (xs.length = q) := hq
  have HI : Hid (RdI .i64 w b xs) := hb
  obtain ⟨n, ⟨n1, n5⟩, hne⟩ := peers_of num
  obtain ⟨w0, hmake, hO0, hB0⟩ := run_make_ints (w.alloc (.cells #[.int .i64 dp, .int .i64 dk] 24)) n (by omega)
  have HO0 : Hid (RdI .i64 w0 (some ⟨w.heap.size + 1, 0, none⟩) (List.replicate n 0)) := by
    obtain ⟨a5, cap5, e5, _, hr5, _⟩ := hO0.form
    simp only [Value.slice.injEq] at e5
    obtain ⟨e6, _, _⟩ := e5
    rw [← e6, show (w.alloc (.cells #[.int .i64 dp, .int .i64 dk] 24)).heap.size = w.heap.size + 1 from by simp] at hr5
    exact hr5
  have HX0 : Hid (Below w.heap.size w w0) := chain (alloc_below _ _) hB0
  have bx := box2 w w.heap.size rfl (.int .i64 dp) (.int .i64 dk) 24
  have HBX : Hid (w0.cell? ⟨w.heap.size, 0, none⟩ = some (.int .i64 dp) ∧ w0.cell? ⟨w.heap.size, 1, none⟩ = some (.int .i64 dk)) := ⟨cell_later hB0 bx.1, cell_later hB0 bx.2⟩
  clear hq hb hO0 hB0 bx
  rw [show (w.alloc (.cells #[.int .i64 dp, .int .i64 dk] 24)).heap.size = w.heap.size + 1 from by simp] at hmake
  go_enter Try.func5, Try.ntmps5
  go_wp2
  rw [hne]
  clear hne
  go_wp2
  go_loopw [7, 8] (fun o i wr => ∃ (k cp : Nat) (av : Option Addr) (N : List Int), k ≤ q ∧ i = .int .i64 k ∧ o = .slice av n cp ∧ n ≤ cp ∧ Hid (Stepped N n k) ∧ Hid (RdI .i64 wr av N) ∧ Hid (wr.cell? ⟨w.heap.size, 0, none⟩ = some (.int .i64 dp) ∧ wr.cell? ⟨w.heap.size, 1, none⟩ = some (.int .i64 dk)) ∧ Hid (Below w.heap.size w wr)) (fun _ i _ => q - (RowKit.intOf i).toNat)
  case atStart => exact ⟨0, n, _, List.replicate n 0, Nat.zero_le _, rfl, rfl, Nat.le_refl _, Stepped.zero n, HO0, HBX, HX0⟩
  case round =>
  clear hmake HO0 HX0 HBX
  obtain ⟨k, cp, av, N, hk, rfl, rfl, hcp, hS, hR, hBX, hB⟩ := hrel
  have LN : Hid (N.length = n) := hS.out.1
  have N64 : Hid (All64 N) := right64 (hS.out.right (by omega))
  by_cases hlt : k < q
  · have hkx : k < xs.length := by rw [HQ.out]; exact hlt
    obtain ⟨b2, o2, rfl, hc2⟩ := (HI.out.later hB.out) (by omega)
    have y0 := hc2 k hkx
    clear hc2
    generalize xs[k] = x at *
    clear hkx
    obtain ⟨z, hz, hze⟩ := modPlace x n n1 (by omega)
    have hn0 : (n : Int) ≠ 0 := by omega
    have hzN : z < N.length := by rw [LN.out]; exact hz
    obtain ⟨b3, o3, rfl, hc3⟩ := hR.out (by omega)
    have yz := hc3 z hzN
    clear hc3
    have F := step_facts hS.out (by omega) n1 n5 hzN
    have hsm := hS.out.small hzN
    have hS' := hS.out.step hzN
    have S64 : Hid (All64 (N.set z (N[z] + 1))) := right64 (hS'.right (by omega))
    have LS : Hid ((N.set z (N[z] + 1)).length = n) := hS'.1
    generalize N.set z (N[z] + 1) = M at *
    generalize N[z] = v at *
    clear hzN
    obtain ⟨s1, s2⟩ := hsm
    obtain ⟨f1, f2, f3, f4, f5, f6, f7, f8⟩ := F
    have F1 : Hid _ := f1
    have F2 : Hid _ := f2
    have F3 : Hid _ := f3
    have F4 : Hid _ := f4
    have F5 : Hid _ := f5
    have F6 : Hid _ := f6
    have F7 : Hid _ := f7
    have F8 : Hid _ := f8
    have HS' : Hid (Stepped M n (k + 1)) := hS'
    have iz : In64 (z : Int) := by unfold In64; omega
    have iv : In64 (v + 1) := by unfold In64; omega
    clear f1 f2 f3 f4 f5 f6 f7 f8 hS'
    have bz1 : (0 : Int) ≤ (z : Int) := by omega
    have bz2 : (z : Int) < (n : Int) := by omega
    have bb := box2 wr wr.heap.size rfl (.int .i64 (z : Int)) (.int .i64 (v + 1)) 24
    have HR1 : Hid (RdI .i64 (wr.alloc (.cells #[.int .i64 (z : Int), .int .i64 (v + 1)] 24)) (some ⟨b3, o3, none⟩) N) := hR.out.later (alloc_below _ _)
    have HBX1 : Hid ((wr.alloc (.cells #[.int .i64 (z : Int), .int .i64 (v + 1)] 24)).cell? ⟨w.heap.size, 0, none⟩ = some (.int .i64 dp) ∧ (wr.alloc (.cells #[.int .i64 (z : Int), .int .i64 (v + 1)] 24)).cell? ⟨w.heap.size, 1, none⟩ = some (.int .i64 dk)) := ⟨cell_later (alloc_below _ _) hBX.out.1, cell_later (alloc_below _ _) hBX.out.2⟩
    have HB1 : Hid (Below w.heap.size w (wr.alloc (.cells #[.int .i64 (z : Int), .int .i64 (v + 1)] 24))) := chain hB.out (alloc_below _ _)
    have HBB : Hid _ := bb
    clear hR hBX hB bb
    go_wp2_with fail
    refine (D.has _ n cp (z : Int) (v + 1) N _ LN.out (by omega) N64.out iz iv HR1.out).mono ?_
    rintro e w1 ⟨rfl, hb⟩
    rw [F1.out]
    generalize hW : wr.alloc (.cells #[.int .i64 (z : Int), .int .i64 (v + 1)] 24) = W at *
    have g0 := cell_later hb HBB.out.1
    have g1 := cell_later hb HBB.out.2
    have HR2 : Hid (RdI .i64 w1 (some ⟨b3, o3, none⟩) N) := HR1.out.later hb
    have HBX2 : Hid (w1.cell? ⟨w.heap.size, 0, none⟩ = some (.int .i64 dp) ∧ w1.cell? ⟨w.heap.size, 1, none⟩ = some (.int .i64 dk)) := ⟨cell_later hb HBX1.out.1, cell_later hb HBX1.out.2⟩
    have HB2 : Hid (Below w.heap.size w w1) := chain HB1.out hb
    clear hb HR1 HBX1 HB1 HBB hW
    go_wp2_with fail
    refine (D.next _ n cp (z : Int) (v + 1) N _ LN.out (by omega) N64.out iz iv HR2.out).mono ?_
    rintro e w2 ⟨rfl, hb⟩
    rw [F2.out]
    replace g0 := cell_later hb g0
    replace g1 := cell_later hb g1
    have HR3 : Hid (RdI .i64 w2 (some ⟨b3, o3, none⟩) N) := HR2.out.later hb
    have HBX3 : Hid (w2.cell? ⟨w.heap.size, 0, none⟩ = some (.int .i64 dp) ∧ w2.cell? ⟨w.heap.size, 1, none⟩ = some (.int .i64 dk)) := ⟨cell_later hb HBX2.out.1, cell_later hb HBX2.out.2⟩
    have HB3 : Hid (Below w.heap.size w w2) := chain HB2.out hb
    clear hb HR2 HBX2 HB2
    go_wp2_with fail
    refine (D.add _ n cp (z : Int) (v + 1) N _ LN.out (by omega) N64.out iz iv HR3.out).mono ?_
    rintro e w3 ⟨a4, n4, c4, rfl, hn4, _, hc4, _, hr4, _, hb⟩
    rw [F3.out] at hn4 hr4 ⊢
    simp only at hn4 hr4 ⊢
    rw [LS.out] at hn4
    subst n4
    replace g0 := cell_later hb g0
    replace g1 := cell_later hb g1
    have HM4 : Hid (RdI .i64 w3 a4 M) := hr4
    have HR4 : Hid (RdI .i64 w3 (some ⟨b3, o3, none⟩) N) := HR3.out.later hb
    have HBX4 : Hid (w3.cell? ⟨w.heap.size, 0, none⟩ = some (.int .i64 dp) ∧ w3.cell? ⟨w.heap.size, 1, none⟩ = some (.int .i64 dk)) := ⟨cell_later hb HBX3.out.1, cell_later hb HBX3.out.2⟩
    have HB4 : Hid (Below w.heap.size w w3) := chain HB3.out hb
    clear hb HR3 HBX3 HB3 hr4
    go_wp2_with fail
    refine (D.has _ n c4 (z : Int) (v + 1) M _ LS.out (by omega) S64.out iz iv HM4.out).mono ?_
    rintro e w4 ⟨rfl, hb⟩
    rw [F4.out]
    replace g0 := cell_later hb g0
    replace g1 := cell_later hb g1
    have HM5 : Hid (RdI .i64 w4 a4 M) := HM4.out.later hb
    have HR5 : Hid (RdI .i64 w4 (some ⟨b3, o3, none⟩) N) := HR4.out.later hb
    have HBX5 : Hid (w4.cell? ⟨w.heap.size, 0, none⟩ = some (.int .i64 dp) ∧ w4.cell? ⟨w.heap.size, 1, none⟩ = some (.int .i64 dk)) := ⟨cell_later hb HBX4.out.1, cell_later hb HBX4.out.2⟩
    have HB5 : Hid (Below w.heap.size w w4) := chain HB4.out hb
    clear hb HM4 HR4 HBX4 HB4
    go_wp2_with fail
    refine (D.le _ _ n n cp c4 N M _ LN.out LS.out (by omega) (by omega) N64.out S64.out HR5.out HM5.out).mono ?_
    rintro e w5 ⟨rfl, hb⟩
    rw [F5.out]
    replace g0 := cell_later hb g0
    replace g1 := cell_later hb g1
    have HM6 : Hid (RdI .i64 w5 a4 M) := HM5.out.later hb
    have HR6 : Hid (RdI .i64 w5 (some ⟨b3, o3, none⟩) N) := HR5.out.later hb
    have HBX6 : Hid (w5.cell? ⟨w.heap.size, 0, none⟩ = some (.int .i64 dp) ∧ w5.cell? ⟨w.heap.size, 1, none⟩ = some (.int .i64 dk)) := ⟨cell_later hb HBX5.out.1, cell_later hb HBX5.out.2⟩
    have HB6 : Hid (Below w.heap.size w w5) := chain HB5.out hb
    clear hb HM5 HR5 HBX5 HB5
    go_wp2_with fail
    refine (D.le _ _ n n c4 cp M N _ LS.out LN.out (by omega) (by omega) S64.out N64.out HM6.out HR6.out).mono ?_
    rintro e w6 ⟨rfl, hb⟩
    rw [F6.out]
    replace g0 := cell_later hb g0
    replace g1 := cell_later hb g1
    have HM7 : Hid (RdI .i64 w6 a4 M) := HM6.out.later hb
    have HR7 : Hid (RdI .i64 w6 (some ⟨b3, o3, none⟩) N) := HR6.out.later hb
    have HBX7 : Hid (w6.cell? ⟨w.heap.size, 0, none⟩ = some (.int .i64 dp) ∧ w6.cell? ⟨w.heap.size, 1, none⟩ = some (.int .i64 dk)) := ⟨cell_later hb HBX6.out.1, cell_later hb HBX6.out.2⟩
    have HB7 : Hid (Below w.heap.size w w6) := chain HB6.out hb
    clear hb HM6 HR6 HBX6 HB6
    go_wp2_with fail
    refine (D.next _ n c4 (z : Int) (v + 1) M _ LS.out (by omega) S64.out iz iv HM7.out).mono ?_
    rintro e w7 ⟨rfl, hb⟩
    rw [F7.out]
    replace g0 := cell_later hb g0
    replace g1 := cell_later hb g1
    have HM8 : Hid (RdI .i64 w7 a4 M) := HM7.out.later hb
    have HR8 : Hid (RdI .i64 w7 (some ⟨b3, o3, none⟩) N) := HR7.out.later hb
    have HBX8 : Hid (w7.cell? ⟨w.heap.size, 0, none⟩ = some (.int .i64 dp) ∧ w7.cell? ⟨w.heap.size, 1, none⟩ = some (.int .i64 dk)) := ⟨cell_later hb HBX7.out.1, cell_later hb HBX7.out.2⟩
    have HB8 : Hid (Below w.heap.size w w7) := chain HB7.out hb
    clear hb HM7 HR7 HBX7 HB7
    go_wp2_with fail
    refine (D.add _ n c4 (z : Int) (v + 1) M _ LS.out (by omega) S64.out iz iv HM8.out).mono ?_
    rintro e w8 ⟨a9, n9, c9, rfl, _, _, _, _, _, _, hb⟩
    rw [F8.out]
    simp only
    replace g0 := cell_later hb g0
    replace g1 := cell_later hb g1
    have HM9 : Hid (RdI .i64 w8 a4 M) := HM8.out.later hb
    have HR9 : Hid (RdI .i64 w8 (some ⟨b3, o3, none⟩) N) := HR8.out.later hb
    have HBX9 : Hid (w8.cell? ⟨w.heap.size, 0, none⟩ = some (.int .i64 dp) ∧ w8.cell? ⟨w.heap.size, 1, none⟩ = some (.int .i64 dk)) := ⟨cell_later hb HBX8.out.1, cell_later hb HBX8.out.2⟩
    have HB9 : Hid (Below w.heap.size w w8) := chain HB8.out hb
    clear hb HM8 HR8 HBX8 HB8
    obtain ⟨q0, q1⟩ := HBX9.out
    have HH : Hid (hasD N dp dk = true → hasD M dp dk = true) := fun h => has_le F5.out h
    go_wp2_with fail
    refine (D.has _ n cp dp dk N _ LN.out (by omega) N64.out i0 i1 HR9.out).mono ?_
    rintro e w9 ⟨rfl, hb⟩
    replace q0 := cell_later hb q0
    replace q1 := cell_later hb q1
    have HM10 : Hid (RdI .i64 w9 a4 M) := HM9.out.later hb
    have HB10 : Hid (Below w.heap.size w w9) := chain HB9.out hb
    clear hb HM9 HR9 HBX9 HB9 g0 g1
    cases hd : hasD N dp dk with
    | false =>
      go_wp2
      go_roundw
      case rel => exact ⟨k + 1, c4, a4, M, by omega, by go_num, rfl, hc4, HS', HM10, ⟨q0, q1⟩, HB10⟩
      case measure => simp [RowKit.intOf]; omega
    | true =>
      have hd2 := HH.out hd
      go_wp2_with fail
      refine (D.has _ n c4 dp dk M _ LS.out (by omega) S64.out i0 i1 HM10.out).mono ?_
      rintro e w10 ⟨rfl, hb⟩
      rw [hd2]
      have HQ0 : Hid (w10.cell? ⟨w.heap.size, 0, none⟩ = some (.int .i64 dp) ∧ w10.cell? ⟨w.heap.size, 1, none⟩ = some (.int .i64 dk)) := ⟨cell_later hb q0, cell_later hb q1⟩
      have HM11 : Hid (RdI .i64 w10 a4 M) := HM10.out.later hb
      have HB11 : Hid (Below w.heap.size w w10) := chain HB10.out hb
      clear hb HM10 HB10 q0 q1
      go_wp2
      go_roundw
      case rel => exact ⟨k + 1, c4, a4, M, by omega, by go_num, rfl, hc4, HS', HM11, HQ0, HB11⟩
      case measure => simp [RowKit.intOf]; omega
  obtain rfl : k = q := by omega
  clear hlt
  go_wp2
  go_loop [15, 16] (fun s i => ∃ j : Nat, j ≤ n ∧ i = .int .i64 j ∧ s = .int .i64 ((N.take j).sum)) (fun _ i => n - (RowKit.intOf i).toNat)
  case atStart => exact ⟨0, Nat.zero_le _, rfl, by simp⟩
  case round =>
  obtain ⟨j, hj, rfl, rfl⟩ := hrel
  by_cases hlt : j < n
  · have hjN : j < N.length := by rw [LN.out]; exact hlt
    obtain ⟨b3, o3, rfl, hc3⟩ := hR.out (by omega)
    have yz := hc3 j hjN
    clear hc3
    have HT : Hid ((N.take (j + 1)).sum = (N.take j).sum + N[j]) := by
      show _ = _
      rw [List.take_succ_eq_append_getElem hjN, List.sum_append]
      simp
    have hsm := hS.out.small hjN
    have hp1 : 0 ≤ (N.take j).sum := sum_nonneg (fun x hx => hS.out.2.1 x (List.mem_of_mem_take hx))
    have hp2 : (N.take j).sum ≤ 100 := by
      have h1 : N.sum = (N.take j).sum + (N.drop j).sum := by rw [← List.sum_append, List.take_append_drop]
      have h2 : 0 ≤ (N.drop j).sum := sum_nonneg (fun x hx => hS.out.2.1 x (List.mem_of_mem_drop hx))
      have h3 := hS.out.2.2
      omega
    generalize N[j] = v at *
    generalize (N.take j).sum = s at *
    obtain ⟨s1, s2⟩ := hsm
    go_wp2
    go_round
    case rel => exact ⟨j + 1, by omega, by go_num, by rw [HT.out]⟩
    case measure => simp [RowKit.intOf]; omega
  have hT1 : (N.take j).sum = (k : Int) := by rw [List.take_of_length_le (by rw [LN.out]; omega)]; exact hS.out.2.2
  rw [hT1]
  clear hT1
  go_wp2_with fail
  refine (dwakes_any D _).mono ?_
  rintro e w9 ⟨rfl, hb9⟩
  go_wp2
  go_ret
  exact ⟨rfl, chain hB.out hb9⟩

set_option maxHeartbeats 400000 in
theorem dsteps_long (num : Int) (b : Option Addr) (q cap : Nat) (dp dk : Int) (w : World) (hq : 100 < q) (hs : q ≤ 9223372036854775807) :
    Calls Try.prog 5 #[.int .i64 num, .slice b q cap, .agg #[.int .i64 dp, .int .i64 dk]] w fun e w' => e = .returned (.bool true) ∧ Below w.heap.size w w' := by
  go_enter Try.func5, Try.ntmps5
  go_wp2
  go_ret
  exact ⟨rfl, alloc_below _ _⟩

theorem dsteps_walk (D : DotApi) (num : Int) (b : Option Addr) (q cap : Nat) (zs : List Int) (dp dk : Int) (w : World) (hb : IsInts .i64 w b q cap zs) (i0 : In64 dp) (i1 : In64 dk) :
    Calls Try.prog 5 #[.int .i64 num, .slice b q cap, .agg #[.int .i64 dp, .int .i64 dk]] w fun e w' => e = .returned (.bool true) ∧ Below w.heap.size w w' := by
  by_cases h : 100 < q
  · exact dsteps_long num b q cap dp dk w h hb.small
  · obtain ⟨N, h1, _, h3, _, _⟩ := hb.ints
    exact dsteps_some D num b q cap N dp dk w h1 (by omega) h3 i0 i1

end Go.Proofs.Ytmdjmkpalnhkoaa
