/-
  HlcWalls' walk: what the law answers, whatever its time, wall and peer.
-/
import Derived.Test.YtncidjlobjgibaaRows
import Derived.Test.YtncidjlobjgibaaHLaws
namespace Go.Proofs.Ytncidjlobjgibaa
open Go.RowKit Go.Lib
set_option linter.unusedVariables false

theorem modTo (k m : Int) (h : 0 < m) (h' : m ≤ 4611686018427387904) : ∃ v : Int, wrap64 ((IntKind.u64.wrap k).tmod m) = v ∧ 0 ≤ v ∧ v < m := by
  have h0 : 0 ≤ IntKind.u64.wrap k := by rw [IntKind.wrap_u64]; omega
  have h2 : (IntKind.u64.wrap k).tmod m = IntKind.u64.wrap k % m := Int.tmod_eq_emod_of_nonneg h0
  have h3 := Int.emod_nonneg (IntKind.u64.wrap k) (show m ≠ 0 by omega)
  have h4 := Int.emod_lt_of_pos (IntKind.u64.wrap k) h
  refine ⟨IntKind.u64.wrap k % m, ?_, h3, h4⟩
  rw [h2]
  exact IntWalk.wrap64_in _ ⟨by omega, by omega⟩

theorem placeTo (k : Int) (m : Nat) (h : 1 ≤ m) (h' : m ≤ 1048576) : ∃ j : Nat, j < m ∧ wrap64 ((IntKind.u64.wrap k).tmod (m : Int)) = (j : Int) := by
  obtain ⟨v, h1, h2, h3⟩ := modTo k m (by omega) (by omega)
  exact ⟨v.toNat, by omega, by rw [h1]; omega⟩

set_option maxRecDepth 100000 in
set_option maxHeartbeats 4000000 in
theorem hwalls_walk (D : HlcApi) (p l q wall peer : Int) (w : World) (i0 : In64 p) (i1 : In64 l) (i2 : In64 q) :
    Calls Try.prog 7 #[vS p l q, .int .i64 wall, .int .i64 peer] w fun e w' => e = .returned (.bool true) ∧ Below w.heap.size w w' := by
  have HA : Hid (BoxS (w.alloc (.cells #[.int .i64 (p), .int .i64 (l), .int .i64 (q)] 23)) w.heap.size p l q) := BoxS.made rfl
  obtain ⟨v, hv, hv0, hv1⟩ := modTo wall 1099511627777 (by omega) (by omega)
  obtain ⟨u, hu, hu0, hu1⟩ := modTo peer 5 (by omega) (by omega)
  have CW := fun (W : World) => hwakes_any D W
  cases hok : okS ⟨p, l, q⟩ with
  | false =>
    go_enter Try.func7, Try.ntmps7
    go_wp2_with fail
    refine (rStamp_of _ _ _ _ hok).mono ?_
    rintro e w1 ⟨rfl, hb1⟩
    have HB : Hid (Below w.heap.size w w1) := chain (alloc_below _ _) hb1
    clear hok hb1
    go_wp2
    go_ret
    exact ⟨rfl, HB.out⟩
  | true =>
    have hm : mayN ⟨p, l, q⟩ v u = true := mayN_iff.2 ⟨hok, by omega, by omega⟩
    have CN := fun (W : World) => D.next p l q v u W ⟨i0, i1, i2⟩ (in64' (by omega)) (in64' (by omega))
    have CZ := fun (W : World) => D.next p l q 0 u W ⟨i0, i1, i2⟩ (in64' (by omega)) (in64' (by omega))
    unfold TellsS at CN CZ
    by_cases h1 : p < v
    · rw [nextS_ahead hm h1] at CN
      simp only at CN
      clear hm CZ
      go_enter Try.func7, Try.ntmps7
      go_wp2_with fail
      refine (rStamp_of _ _ _ _ hok).mono ?_
      rintro e w1 ⟨rfl, hb1⟩
      have HB : Hid (Below w.heap.size w w1) := chain (alloc_below _ _) hb1
      replace HA : Hid (BoxS w1 w.heap.size p l q) := HA.out.later hb1
      clear hok hb1
      obtain ⟨a0, a1, a2⟩ := HA.out.cells
      go_wp2_with fail
      refine (CN _).mono ?_
      rintro e w2 ⟨rfl, hb⟩
      obtain ⟨gn, hgn⟩ : ∃ x, w2.heap.size = x := ⟨_, rfl⟩
      clear a0 a1 a2
      replace HA : Hid (BoxS (w2.alloc (.cells #[.int .i64 (v), .int .i64 (0), .int .i64 (u)] 23)) w.heap.size p l q) := (HA.out.later hb).later (alloc_below _ _)
      replace HB : Hid (Below w.heap.size w (w2.alloc (.cells #[.int .i64 (v), .int .i64 (0), .int .i64 (u)] 23))) := chain HB.out (chain hb (alloc_below _ _))
      clear hb
      obtain ⟨a0, a1, a2⟩ := HA.out.cells
      go_wp2_with fail
      refine (CW _).mono ?_
      rintro e ww ⟨rfl, hbw⟩
      have HBW : Hid (Below w.heap.size w ww) := chain HB.out hbw
      clear hbw
      go_wp2
      go_ret
      exact ⟨rfl, HBW.out⟩
    · have h1d : decide (p < v) = false := by simpa using h1
      by_cases h2 : l = 65536
      · rw [nextS_full hm h1 h2] at CN
        simp only [noS] at CN
        clear hm CZ
        subst h2
        go_enter Try.func7, Try.ntmps7
        go_wp2_with fail
        refine (rStamp_of _ _ _ _ hok).mono ?_
        rintro e w1 ⟨rfl, hb1⟩
        have HB : Hid (Below w.heap.size w w1) := chain (alloc_below _ _) hb1
        replace HA : Hid (BoxS w1 w.heap.size p 65536 q) := HA.out.later hb1
        clear hok hb1
        obtain ⟨a0, a1, a2⟩ := HA.out.cells
        go_wp2_with fail
        refine (CN _).mono ?_
        rintro e w2 ⟨rfl, hb⟩
        obtain ⟨gn, hgn⟩ : ∃ x, w2.heap.size = x := ⟨_, rfl⟩
        clear a0 a1 a2
        replace HA : Hid (BoxS (w2.alloc (.cells #[.int .i64 (0), .int .i64 (0), .int .i64 (0)] 23)) w.heap.size p 65536 q) := (HA.out.later hb).later (alloc_below _ _)
        replace HB : Hid (Below w.heap.size w (w2.alloc (.cells #[.int .i64 (0), .int .i64 (0), .int .i64 (0)] 23))) := chain HB.out (chain hb (alloc_below _ _))
        clear hb
        obtain ⟨a0, a1, a2⟩ := HA.out.cells
        go_wp2_with fail
        refine (CW _).mono ?_
        rintro e ww ⟨rfl, hbw⟩
        have HBW : Hid (Below w.heap.size w ww) := chain HB.out hbw
        clear hbw
        go_wp2
        go_ret
        exact ⟨rfl, HBW.out⟩
      · rw [nextS_more hm h1 h2] at CN
        have hr := okS_iff.1 hok
        simp only at hr
        obtain ⟨r0, r1, r2, r3, _⟩ := hr
        rw [nextS_more (mayN_iff.2 ⟨hok, by omega, by omega⟩) (by simp only; omega) h2] at CZ
        simp only at CN CZ
        have h2d : (l == 65536) = false := by simp [h2]
        clear hm
        go_enter Try.func7, Try.ntmps7
        go_wp2_with fail
        refine (rStamp_of _ _ _ _ hok).mono ?_
        rintro e w1 ⟨rfl, hb1⟩
        have HB : Hid (Below w.heap.size w w1) := chain (alloc_below _ _) hb1
        replace HA : Hid (BoxS w1 w.heap.size p l q) := HA.out.later hb1
        clear hok hb1
        obtain ⟨a0, a1, a2⟩ := HA.out.cells
        go_wp2_with fail
        refine (CN _).mono ?_
        rintro e w2 ⟨rfl, hb⟩
        obtain ⟨gn, hgn⟩ : ∃ x, w2.heap.size = x := ⟨_, rfl⟩
        clear a0 a1 a2
        replace HA : Hid (BoxS (w2.alloc (.cells #[.int .i64 (p), .int .i64 (l + 1), .int .i64 (u)] 23)) w.heap.size p l q) := (HA.out.later hb).later (alloc_below _ _)
        replace HB : Hid (Below w.heap.size w (w2.alloc (.cells #[.int .i64 (p), .int .i64 (l + 1), .int .i64 (u)] 23))) := chain HB.out (chain hb (alloc_below _ _))
        clear hb
        obtain ⟨a0, a1, a2⟩ := HA.out.cells
        have HX : Hid (BoxS (w2.alloc (.cells #[.int .i64 (p), .int .i64 (l + 1), .int .i64 (u)] 23)) gn p (l + 1) u) := BoxS.made hgn
        go_wp2_with fail
        refine (CZ _).mono ?_
        rintro e w3 ⟨rfl, hb⟩
        replace HX : Hid (BoxS (w3.alloc (.cells #[.int .i64 (p), .int .i64 (l + 1), .int .i64 (u)] 23)) gn p (l + 1) u) := (HX.out.later hb).later (alloc_below _ _)
        obtain ⟨gm, hgm⟩ : ∃ x, w3.heap.size = x := ⟨_, rfl⟩
        clear a0 a1 a2
        replace HA : Hid (BoxS (w3.alloc (.cells #[.int .i64 (p), .int .i64 (l + 1), .int .i64 (u)] 23)) w.heap.size p l q) := (HA.out.later hb).later (alloc_below _ _)
        replace HB : Hid (Below w.heap.size w (w3.alloc (.cells #[.int .i64 (p), .int .i64 (l + 1), .int .i64 (u)] 23))) := chain HB.out (chain hb (alloc_below _ _))
        clear hb
        obtain ⟨a0, a1, a2⟩ := HA.out.cells
        obtain ⟨x0, x1, x2⟩ := HX.out.cells
        clear HX
        go_wp2_with fail
        refine (CW _).mono ?_
        rintro e ww ⟨rfl, hbw⟩
        have HBW : Hid (Below w.heap.size w ww) := chain HB.out hbw
        clear hbw
        go_wp2
        go_ret
        exact ⟨rfl, HBW.out⟩

end Go.Proofs.Ytncidjlobjgibaa
