/-
  ValueEnds' walk: what the law answers, whatever its number and its sign.
-/
import Derived.Test.YtfjckfjaekpffaaRows
import Derived.Test.YtfjckfjaekpffaaVLaws
import Derived.Test.YtfjckfjaekpffaaVExact
import Derived.Deep.Cut
namespace Go.Proofs.Ytfjckfjaekpffaa
open Go.RowKit Go.Lib
set_option linter.unusedVariables false

theorem Box.up {w : World} {g : Nat} {k i : Int} {s : ByteArray} {o : Obj} (h : Box w g k i s) : Box (w.alloc o) g k i s := h.later (alloc_below _ _)

theorem Box.drew {w : World} {g : Nat} {k i : Int} {s : ByteArray} (h : Box w g k i s) : Box w.drew g k i s := h

/-- A new row of so many noughts, and the text that it is. -/
structure Noughts (O : Int) (L : Nat) (Z : Array Value) (S : ByteArray) : Prop where
  make : ∀ W : World, (Instr.makeSlice 26 (.int .i64 (24 + O)) (.int .i64 (24 + O))).run Try.prog W = .ok (.slice (some ⟨W.heap.size, 0, none⟩) L L) (W.alloc (.cells Z 5))
  text : ∀ (W : World) (g : Nat), W.heap[g]? = some (.cells Z 5 (0, 0)) → (convert 26 9 (.slice (some ⟨g, 0, none⟩) L L)).run Try.prog W = .ok (.string S) W
  size : (S.size : Int) = 24 + O

def z24 : Array Value := (List.replicate 24 (.int .u8 0)).toArray
def z25 : Array Value := (List.replicate 25 (.int .u8 0)).toArray

theorem make24 (W : World) : (Instr.makeSlice 26 (.int .i64 (24 + 0)) (.int .i64 (24 + 0))).run Try.prog W = .ok (.slice (some ⟨W.heap.size, 0, none⟩) 24 24) (W.alloc (.cells z24 5)) := by kernel_rfl

theorem make25 (W : World) : (Instr.makeSlice 26 (.int .i64 (24 + 1)) (.int .i64 (24 + 1))).run Try.prog W = .ok (.slice (some ⟨W.heap.size, 0, none⟩) 25 25) (W.alloc (.cells z25 5)) := by kernel_rfl

theorem noughts (O : Int) (h : O = 0 ∨ O = 1) : ∃ L Z S, Noughts O L Z S := by
  rcases h with rfl | rfl
  · exact ⟨24, z24, ⟨(List.replicate 24 (0 : UInt8)).toArray⟩, make24, fun W g h => run_convert_rd Try.underlying26 Try.underlying5 Try.underlying9 rfl (Row.rd (l := List.replicate 24 0) h), rfl⟩
  · exact ⟨25, z25, ⟨(List.replicate 25 (0 : UInt8)).toArray⟩, make25, fun W g h => run_convert_rd Try.underlying26 Try.underlying5 Try.underlying9 rfl (Row.rd (l := List.replicate 25 0) h), rfl⟩

theorem Noughts.at {O : Int} {L : Nat} {Z : Array Value} {S : ByteArray} (H : Noughts O L Z S) (X : World) (g : Nat) (o1 o2 o3 : Obj) (hg : X.heap.size = g) :
    (convert 26 9 (.slice (some ⟨g, 0, none⟩) L L)).run Try.prog (X.alloc (.cells Z 5)).drew = .ok (.string S) (X.alloc (.cells Z 5)).drew ∧
    (convert 26 9 (.slice (some ⟨g, 0, none⟩) L L)).run Try.prog ((X.alloc (.cells Z 5)).alloc o1).drew = .ok (.string S) ((X.alloc (.cells Z 5)).alloc o1).drew ∧
    (convert 26 9 (.slice (some ⟨g, 0, none⟩) L L)).run Try.prog (((X.alloc (.cells Z 5)).alloc o1).alloc o2).drew = .ok (.string S) (((X.alloc (.cells Z 5)).alloc o1).alloc o2).drew ∧
    (convert 26 9 (.slice (some ⟨g, 0, none⟩) L L)).run Try.prog ((((X.alloc (.cells Z 5)).alloc o1).alloc o2).alloc o3).drew = .ok (.string S) ((((X.alloc (.cells Z 5)).alloc o1).alloc o2).alloc o3).drew := by
  subst hg
  have h0 : (X.alloc (.cells Z 5)).heap[X.heap.size]? = some (.cells Z 5 (0, 0)) := by show (X.heap.push _)[X.heap.size]? = _; simp
  refine ⟨H.text _ _ h0, H.text _ _ ?_, H.text _ _ ?_, H.text _ _ ?_⟩
  · exact ((alloc_below _ _).block _ (by simp)).trans h0
  · exact ((below_two _ _ _).block _ (by simp)).trans h0
  · exact ((chain (below_two _ _ _) (alloc_below _ _)).block _ (by simp)).trans h0

theorem parity (n : Int) : wrap64 ((IntKind.u64.wrap n).tmod 2) = 0 ∨ wrap64 ((IntKind.u64.wrap n).tmod 2) = 1 := by
  have h0 : 0 ≤ IntKind.u64.wrap n := by rw [IntKind.wrap_u64]; omega
  have h1 : (IntKind.u64.wrap n).tmod 2 = IntKind.u64.wrap n % 2 := Int.tmod_eq_emod_of_nonneg h0
  rw [IntWalk.wrap64_in _ ⟨by omega, by omega⟩]
  omega

set_option maxHeartbeats 8000000 in
theorem vends_walk (V : ValueApi) (over : Int) (neg : Bool) (w : World) :
    Calls Try.prog 8 #[.int .i64 over, .bool neg] w fun e w' => e = .returned (.bool true) ∧ Below w.heap.size w w' := by
  have hp := parity over
  go_enter Try.func8, Try.ntmps8
  go_upto_if 18 with fail
  generalize wrap64 ((IntKind.u64.wrap over).tmod 2) = O at *
  have HO : Hid (O = 0 ∨ O = 1) := hp
  have o1 : 0 ≤ O := by omega
  have o2 : O ≤ 1 := by omega
  clear hp
  go_cut [5, 6] from 10 (fun s5 s6 wx => ∃ n m : Int, s5 = .int .i64 n ∧ s6 = .int .i64 m ∧ wx = w ∧ (n = 1152921504606846976 + O ∧ m = 2147483648 + O ∨ n = -(1152921504606846976 + O) ∧ m = -(2147483648 + O)))
  case first =>
    cases neg with
    | true =>
      go_wp2
      go_meet
      exact ⟨_, _, rfl, rfl, rfl, Or.inr ⟨rfl, rfl⟩⟩
    | false =>
      go_wp2
      go_meet
      exact ⟨_, _, rfl, rfl, rfl, Or.inl ⟨rfl, rfl⟩⟩
  case rest =>
    obtain ⟨n, m, rfl, rfl, hw, hnm⟩ := hcut
    subst wc
    have HNM : Hid _ := hnm
    clear hnm
    obtain ⟨L, Z, S, HZ⟩ := noughts O HO.out
    have hmk := HZ.make
    have q1 := fun (X : World) (g : Nat) (hg : X.heap.size = g) => (HZ.at X g (.cells #[] 0) (.cells #[] 0) (.cells #[] 0) hg).1
    have q2 := fun (X : World) (g : Nat) (o1 : Obj) (hg : X.heap.size = g) => (HZ.at X g o1 (.cells #[] 0) (.cells #[] 0) hg).2.1
    have q3 := fun (X : World) (g : Nat) (o1 o2 : Obj) (hg : X.heap.size = g) => (HZ.at X g o1 o2 (.cells #[] 0) hg).2.2.1
    have q4 := fun (X : World) (g : Nat) (o1 o2 o3 : Obj) (hg : X.heap.size = g) => (HZ.at X g o1 o2 o3 hg).2.2.2
    have HS : Hid ((S.size : Int) = 24 + O) := HZ.size
    clear HZ
    go_wp2_with fail
    go_cut [7, 8, 9] from 10 (fun s7 s8 s9 wx => ∃ g7 g8 g9 : Nat, s7 = .pointer (some ⟨g7, 0, none⟩) ∧ s8 = .pointer (some ⟨g8, 0, none⟩) ∧ s9 = .pointer (some ⟨g9, 0, none⟩) ∧ Box wx g7 3 n ⟨#[]⟩ ∧ Box wx g8 3 m ⟨#[]⟩ ∧ Box wx g9 4 0 S ∧ Below w.heap.size w wx)
    case first =>
      go_region
      all_goals
        go_wp2
        go_meet
        refine ⟨_, _, _, rfl, rfl, rfl, ?_, ?_, ?_, ?_⟩
        · refine Box.drew ?_
          repeat (first | exact Box.made (by simp; done) | refine Box.up ?_)
        · refine Box.drew ?_
          repeat (first | exact Box.made (by simp; done) | refine Box.up ?_)
        · refine Box.drew ?_
          repeat (first | exact Box.made (by simp; done) | refine Box.up ?_)
        · go_grown
    case rest =>
      obtain ⟨g7, g8, g9, rfl, rfl, rfl, B7, B8, B9, hbel⟩ := hcut
      have HB : Hid (Below w.heap.size w wc) := hbel
      clear hbel hmk q1 q2 q3 q4
      have A1 : chkV ⟨3, n, ⟨#[]⟩⟩ = if O = 0 then 0 else 1 := by
        have h := HNM.out
        have hO := HO.out
        have hz : (⟨#[]⟩ : ByteArray).size = 0 := rfl
        unfold chkV okV
        rcases hO with rfl | rfl <;> simp [hz] <;> omega
      have A2 : chkV ⟨3, m, ⟨#[]⟩⟩ = 0 := by
        have h := HNM.out
        have hO := HO.out
        have hz : (⟨#[]⟩ : ByteArray).size = 0 := rfl
        unfold chkV okV
        rcases hO with rfl | rfl <;> simp [hz] <;> omega
      have A3 : smallV ⟨3, m, ⟨#[]⟩⟩ = decide (O = 0) := by
        have h := HNM.out
        have hO := HO.out
        have hz : (⟨#[]⟩ : ByteArray).size = 0 := rfl
        unfold smallV okV
        rcases hO with rfl | rfl <;> simp [hz] <;> omega
      have A4 : okV ⟨4, 0, S⟩ = decide (O = 0) := by
        have hS := HS.out
        have hO := HO.out
        unfold okV
        rcases hO with rfl | rfl <;> simp <;> omega
      have C7 := V.check 3 n ⟨#[]⟩
      have C8 := V.check 3 m ⟨#[]⟩
      have S8 := V.small 3 m ⟨#[]⟩
      have C9 := V.check 4 0 S
      have S9 := V.small 4 0 S
      have F9 := V.fits 4 0 S 4
      rw [A1] at C7
      rw [A2] at C8
      rw [A3] at S8
      rw [show chkV ⟨4, 0, S⟩ = if O = 0 then 0 else 1 from by simp [chkV, A4]] at C9
      rw [show smallV ⟨4, 0, S⟩ = decide (O = 0) from by simp [smallV, A4]] at S9
      rw [show fitsV ⟨4, 0, S⟩ 4 = decide (O = 0) from by simp [fitsV, A4]] at F9
      clear A1 A2 A3 A4 HNM HS
      obtain ⟨c0, c1, c2, _⟩ := B7.cells
      obtain ⟨d0, d1, d2, _⟩ := B8.cells
      obtain ⟨e0, e1, e2, _⟩ := B9.cells
      rcases HO.out with rfl | rfl
      · simp only [if_pos, decide_true] at C7 S8 C9 S9 F9
        go_wp2_with fail
        refine (C7 _).mono ?_
        rintro e w1 ⟨rfl, hb⟩
        replace B7 := B7.later hb
        replace B8 := B8.later hb
        replace B9 := B9.later hb
        replace HB : Hid (Below w.heap.size w w1) := chain HB.out hb
        clear c0 c1 c2 d0 d1 d2 e0 e1 e2 hb
        obtain ⟨c0, c1, c2, _⟩ := B7.cells
        obtain ⟨d0, d1, d2, _⟩ := B8.cells
        obtain ⟨e0, e1, e2, _⟩ := B9.cells
        go_wp2_with fail
        refine (C8 _).mono ?_
        rintro e w2 ⟨rfl, hb⟩
        replace B7 := B7.later hb
        replace B8 := B8.later hb
        replace B9 := B9.later hb
        replace HB : Hid (Below w.heap.size w w2) := chain HB.out hb
        clear c0 c1 c2 d0 d1 d2 e0 e1 e2 hb
        obtain ⟨c0, c1, c2, _⟩ := B7.cells
        obtain ⟨d0, d1, d2, _⟩ := B8.cells
        obtain ⟨e0, e1, e2, _⟩ := B9.cells
        go_wp2_with fail
        refine (S8 _).mono ?_
        rintro e w3 ⟨rfl, hb⟩
        replace B7 := B7.later hb
        replace B8 := B8.later hb
        replace B9 := B9.later hb
        replace HB : Hid (Below w.heap.size w w3) := chain HB.out hb
        clear c0 c1 c2 d0 d1 d2 e0 e1 e2 hb
        obtain ⟨c0, c1, c2, _⟩ := B7.cells
        obtain ⟨d0, d1, d2, _⟩ := B8.cells
        obtain ⟨e0, e1, e2, _⟩ := B9.cells
        go_wp2_with fail
        refine (C9 _).mono ?_
        rintro e w4 ⟨rfl, hb⟩
        replace B7 := B7.later hb
        replace B8 := B8.later hb
        replace B9 := B9.later hb
        replace HB : Hid (Below w.heap.size w w4) := chain HB.out hb
        clear c0 c1 c2 d0 d1 d2 e0 e1 e2 hb
        obtain ⟨c0, c1, c2, _⟩ := B7.cells
        obtain ⟨d0, d1, d2, _⟩ := B8.cells
        obtain ⟨e0, e1, e2, _⟩ := B9.cells
        go_wp2_with fail
        refine (S9 _).mono ?_
        rintro e w5 ⟨rfl, hb⟩
        replace B7 := B7.later hb
        replace B8 := B8.later hb
        replace B9 := B9.later hb
        replace HB : Hid (Below w.heap.size w w5) := chain HB.out hb
        clear c0 c1 c2 d0 d1 d2 e0 e1 e2 hb
        obtain ⟨c0, c1, c2, _⟩ := B7.cells
        obtain ⟨d0, d1, d2, _⟩ := B8.cells
        obtain ⟨e0, e1, e2, _⟩ := B9.cells
        go_wp2_with fail
        refine (F9 _).mono ?_
        rintro e w6 ⟨rfl, hb⟩
        replace B7 := B7.later hb
        replace B8 := B8.later hb
        replace B9 := B9.later hb
        replace HB : Hid (Below w.heap.size w w6) := chain HB.out hb
        clear c0 c1 c2 d0 d1 d2 e0 e1 e2 hb
        obtain ⟨c0, c1, c2, _⟩ := B7.cells
        obtain ⟨d0, d1, d2, _⟩ := B8.cells
        obtain ⟨e0, e1, e2, _⟩ := B9.cells
        go_wp2_with fail
        refine (vwakes_any V _).mono ?_
        rintro e w7 ⟨rfl, hb⟩
        go_wp2
        go_ret
        exact ⟨rfl, chain HB.out hb⟩
      · simp only [show ((1 : Int) = 0) = False from by simp, if_false, decide_false] at C7 S8 C9 S9 F9
        go_wp2_with fail
        refine (C7 _).mono ?_
        rintro e w1 ⟨rfl, hb⟩
        replace B7 := B7.later hb
        replace B8 := B8.later hb
        replace B9 := B9.later hb
        replace HB : Hid (Below w.heap.size w w1) := chain HB.out hb
        clear c0 c1 c2 d0 d1 d2 e0 e1 e2 hb
        obtain ⟨c0, c1, c2, _⟩ := B7.cells
        obtain ⟨d0, d1, d2, _⟩ := B8.cells
        obtain ⟨e0, e1, e2, _⟩ := B9.cells
        go_wp2_with fail
        refine (C8 _).mono ?_
        rintro e w2 ⟨rfl, hb⟩
        replace B7 := B7.later hb
        replace B8 := B8.later hb
        replace B9 := B9.later hb
        replace HB : Hid (Below w.heap.size w w2) := chain HB.out hb
        clear c0 c1 c2 d0 d1 d2 e0 e1 e2 hb
        obtain ⟨c0, c1, c2, _⟩ := B7.cells
        obtain ⟨d0, d1, d2, _⟩ := B8.cells
        obtain ⟨e0, e1, e2, _⟩ := B9.cells
        go_wp2_with fail
        refine (S8 _).mono ?_
        rintro e w3 ⟨rfl, hb⟩
        replace B7 := B7.later hb
        replace B8 := B8.later hb
        replace B9 := B9.later hb
        replace HB : Hid (Below w.heap.size w w3) := chain HB.out hb
        clear c0 c1 c2 d0 d1 d2 e0 e1 e2 hb
        obtain ⟨c0, c1, c2, _⟩ := B7.cells
        obtain ⟨d0, d1, d2, _⟩ := B8.cells
        obtain ⟨e0, e1, e2, _⟩ := B9.cells
        go_wp2_with fail
        refine (C9 _).mono ?_
        rintro e w4 ⟨rfl, hb⟩
        replace B7 := B7.later hb
        replace B8 := B8.later hb
        replace B9 := B9.later hb
        replace HB : Hid (Below w.heap.size w w4) := chain HB.out hb
        clear c0 c1 c2 d0 d1 d2 e0 e1 e2 hb
        obtain ⟨c0, c1, c2, _⟩ := B7.cells
        obtain ⟨d0, d1, d2, _⟩ := B8.cells
        obtain ⟨e0, e1, e2, _⟩ := B9.cells
        go_wp2_with fail
        refine (S9 _).mono ?_
        rintro e w5 ⟨rfl, hb⟩
        replace B7 := B7.later hb
        replace B8 := B8.later hb
        replace B9 := B9.later hb
        replace HB : Hid (Below w.heap.size w w5) := chain HB.out hb
        clear c0 c1 c2 d0 d1 d2 e0 e1 e2 hb
        obtain ⟨c0, c1, c2, _⟩ := B7.cells
        obtain ⟨d0, d1, d2, _⟩ := B8.cells
        obtain ⟨e0, e1, e2, _⟩ := B9.cells
        go_wp2_with fail
        refine (F9 _).mono ?_
        rintro e w6 ⟨rfl, hb⟩
        replace B7 := B7.later hb
        replace B8 := B8.later hb
        replace B9 := B9.later hb
        replace HB : Hid (Below w.heap.size w w6) := chain HB.out hb
        clear c0 c1 c2 d0 d1 d2 e0 e1 e2 hb
        obtain ⟨c0, c1, c2, _⟩ := B7.cells
        obtain ⟨d0, d1, d2, _⟩ := B8.cells
        obtain ⟨e0, e1, e2, _⟩ := B9.cells
        go_wp2_with fail
        refine (vwakes_any V _).mono ?_
        rintro e w7 ⟨rfl, hb⟩
        go_wp2
        go_ret
        exact ⟨rfl, chain HB.out hb⟩

end Go.Proofs.Ytfjckfjaekpffaa
