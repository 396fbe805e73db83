/-
  Texts of the proof of BufAll, one behind the other.
-/
import Derived.Test.YtjddkodcbpnilaaRows
import Derived.Test.YtjddkodcbpnilaaG40BufAll
import Derived.Lib.AppendZerosOnto
import Derived.WalkKit
import Derived.WalkSpells
namespace Go.Proofs.Ytjddkodcbpnilaa
open Go.RowKit Go.Lib
set_option linter.unusedVariables false

theorem run_grow_zeros (w : World) (ty n : Nat) (h0 : 0 < n) (h4 : n ≤ 4000) :
    ∃ G w', (Builtin.append_ #[22, 3] ty #[.slice none 0 0, .int .i64 (n : Int)]).run Try.prog w = .ok (.slice (some ⟨w.heap.size, 0, none⟩) n G) w' ∧ n ≤ G ∧ G ≤ 9223372036854775807 ∧ OwnC w' w.heap.size (.slice (some ⟨w.heap.size, 0, none⟩) 0 G) [] ∧ Below w.heap.size w w' := by
  obtain ⟨i0, hi, hz0, hz1, hz2⟩ := info_parts Try.infoOp
  have hold : (Builtin.firstCells i0.size 0 (.slice none 0 0)).run Try.prog w.drew = .ok #[] w.drew := run_firstCells_none w.drew i0.size 0 0 0
  have h := Lib.run_append_grow_zeros w 22 3 ty 32 i0 _ .i64 .i64 Try.underlying22 Try.underlying3 hi hz0 none 0 0 [] hold n h0 (by rw [hz1]; omega) (by omega) (by omega) (by rw [hz2]; omega)
    (growslice_fits (by omega) (by rw [hz2]; omega))
  simp only [Nat.zero_add] at h
  have hm := grownCap_le_maxLen w n 0 32 (by unfold maxLen; omega)
  have hg := grownCap_ge w n 0 32
  refine ⟨_, _, h, hg, by unfold maxLen at hm; omega, ⟨Dozen.nil, ?_⟩, chain (Below.refl _ _).drew (alloc_below w.drew _)⟩
  refine ⟨by simp, .inr ⟨w.heap.size, _, _, rfl, Nat.le_refl _, heap_alloc_new w.drew _, Nat.zero_le _, hm, ?_, by simp⟩⟩
  simp [Builtin.zeroCells, Value.cells]
  rw [← Nat.add_mul]
  congr 1
  omega

set_option maxRecDepth 100000 in
set_option maxHeartbeats 2000000 in
theorem growOps_nil (n : Nat) (w : World) (h0 : 0 < n) (h4 : n ≤ 4000) :
    Calls Try.prog 33 #[.slice none 0 0, .int .i64 (n : Int)] w fun e w' => ∃ G, e = .returned (.slice (some ⟨w.heap.size, 0, none⟩) 0 G) ∧ OwnC w' w.heap.size (.slice (some ⟨w.heap.size, 0, none⟩) 0 G) [] ∧ Below w.heap.size w w' := by
  obtain ⟨G, w1, hrun, hG, hG2, ho, hb⟩ := run_grow_zeros w 22 n h0 h4
  have HO : Hid _ := ho
  have HB : Hid (Below w.heap.size w w1) := hb
  have hn : ¬ ((n : Int) < 0) := by omega
  clear ho hb
  go_enter Try.func33, Try.ntmps33
  go_wp2_with (at_builtin; refine wpList_append_run rfl _ _ 22 3 rfl _ _ _ _ rfl rfl hrun ?_)
  all_goals (go_ret; exact ⟨G, rfl, HO.out, HB.out⟩)

/-- How many of the two have been counted. -/
def sumTwo (n1 n2 : Nat) : Nat → Nat
  | 0 => 0
  | 1 => n1
  | _ => n1 + n2

/-- .. and laid one behind the other. -/
def upTwo {α : Type} (A B : List α) : Nat → List α
  | 0 => []
  | 1 => A
  | _ => A ++ B

set_option maxRecDepth 100000 in
set_option maxHeartbeats 4000000 in
theorem concat_any (b n1 n2 c1 c2 : Nat) (a1 a2 : Option Addr) (C1 C2 : List (List Value)) (w : World) (h0 : 0 < n1) (h1 : C1.length = n1) (h2 : C2.length = n2) (l1 : n1 ≤ 1000) (l2 : n2 ≤ 1000) (hd1 : Dozen C1) (hd2 : Dozen C2) (hr1 : RdC w a1 C1) (hr2 : RdC w a2 C2) (hn1 : a1 = none → C1 = [] ∧ c1 = 0) (hn2 : a2 = none → C2 = [] ∧ c2 = 0) (hb : CellsAt w b #[.slice a1 n1 c1, .slice a2 n2 c2] 22) :
    Calls Try.prog 18 #[.slice (some ⟨b, 0, none⟩) 2 2] w fun e w' => ∃ v, e = .returned v ∧ OwnC w' w.heap.size v (C1 ++ C2) ∧ Below w.heap.size w w' := by
  have HG := fun V => growOps_nil (n1 + n2) V (by omega) (by omega)
  have x0 := hb.cell 0
  have x1 := hb.cell 1
  simp only [List.getElem?_toArray, List.getElem?_cons_zero, List.getElem?_cons_succ] at x0 x1
  have HB : Hid (CellsAt w b #[.slice a1 n1 c1, .slice a2 n2 c2] 22) := hb
  have H1 : Hid (C1.length = n1 ∧ Dozen C1 ∧ RdC w a1 C1 ∧ (a1 = none → C1 = [] ∧ c1 = 0)) := ⟨h1, hd1, hr1, hn1⟩
  have H2 : Hid (C2.length = n2 ∧ Dozen C2 ∧ RdC w a2 C2 ∧ (a2 = none → C2 = [] ∧ c2 = 0)) := ⟨h2, hd2, hr2, hn2⟩
  clear hb h1 h2 hd1 hd2 hr1 hr2 hn1 hn2
  go_enter Try.func18, Try.ntmps18
  go_wp2
  go_loop [3, 11] (fun s i => ∃ k : Nat, k ≤ 2 ∧ s = .int .i64 (sumTwo n1 n2 k : Nat) ∧ i = .int .i64 k) (fun _ i => 2 - (RowKit.intOf i).toNat)
  case atStart => exact ⟨0, by omega, rfl, rfl⟩
  case round =>
    obtain ⟨k, hk, rfl, rfl⟩ := hrel
    obtain rfl | rfl | rfl : k = 0 ∨ k = 1 ∨ k = 2 := by omega
    · simp only [sumTwo] at *
      have ng : ¬ ((n1 : Int) < 0) := by omega
      go_wp2
      go_round
      case rel => exact ⟨1, by omega, by simp, rfl⟩
      case measure => simp [RowKit.intOf]
    · simp only [sumTwo] at *
      have ng : ¬ ((n1 : Int) + (n2 : Int) < 0) := by omega
      go_wp2
      go_round
      case rel => exact ⟨2, by omega, by simp, rfl⟩
      case measure => simp [RowKit.intOf]
    · simp only [sumTwo] at *
      go_wp2_with fail
      refine (HG _).mono ?_
      rintro e w1 ⟨G, rfl, ho, hb1⟩
      have HO1 : Hid (OwnC w1 w.heap.size (.slice (some ⟨w.heap.size, 0, none⟩) 0 G) (upTwo C1 C2 0)) := ho
      have HB1 : Hid (Below w.heap.size w w1) := hb1
      clear HG ho hb1 x0 x1
      go_wp2
      go_loopw [6, 27] (fun v i wr => ∃ k : Nat, k ≤ 2 ∧ i = .int .i64 k ∧ Hid (OwnC wr w.heap.size v (upTwo C1 C2 k)) ∧ Hid (Below w.heap.size w wr)) (fun _ i _ => 2 - (RowKit.intOf i).toNat)
      case atStart => exact ⟨0, by omega, rfl, HO1, HB1⟩
      case round =>
        clear HO1 HB1
        obtain ⟨k, hk, rfl, hO, hB⟩ := hrel
        have x0 := (HB.out.later hB.out).cell 0
        have x1 := (HB.out.later hB.out).cell 1
        simp only [List.getElem?_toArray, List.getElem?_cons_zero, List.getElem?_cons_succ] at x0 x1
        obtain rfl | rfl | rfl : k = 0 ∨ k = 1 ∨ k = 2 := by omega
        · obtain ⟨v', w2, hrun, ho2, hg2, _⟩ := run_append_ops (ty := 22) (cap := c1) hO.out (n := 0) rfl H1.out.1 H1.out.2.1 (H1.out.2.2.1.later hB.out) H1.out.2.2.2 (by omega) (by omega) hB.out.size
          have HO2 : Hid (OwnC w2 w.heap.size v' (upTwo C1 C2 1)) := ho2
          have HB2 : Hid (Below w.heap.size w w2) := hB.out.grown hg2 hB.out.size (fun j hj => (World.ownsRow.lt hO.out.2 j hj).1)
          clear ho2 hg2 hO hB
          go_wp2_with (at_builtin; refine wpList_append_run rfl _ _ 22 22 rfl _ _ _ _ rfl rfl hrun ?_)
          go_roundw
          case rel => exact ⟨1, by omega, by rfl, HO2, HB2⟩
          case measure => simp [RowKit.intOf]
        · obtain ⟨v', w2, hrun, ho2, hg2, _⟩ := run_append_ops (ty := 22) (cap := c2) hO.out (n := n1) H1.out.1 H2.out.1 H2.out.2.1 (H2.out.2.2.1.later hB.out) H2.out.2.2.2 (by omega) (by omega) hB.out.size
          have HO2 : Hid (OwnC w2 w.heap.size v' (upTwo C1 C2 2)) := ho2
          have HB2 : Hid (Below w.heap.size w w2) := hB.out.grown hg2 hB.out.size (fun j hj => (World.ownsRow.lt hO.out.2 j hj).1)
          clear ho2 hg2 hO hB
          go_wp2_with (at_builtin; refine wpList_append_run rfl _ _ 22 22 rfl _ _ _ _ rfl rfl hrun ?_)
          go_roundw
          case rel => exact ⟨2, by omega, by rfl, HO2, HB2⟩
          case measure => simp [RowKit.intOf]
        · go_wp2
          go_ret
          exact ⟨_, rfl, hO.out, hB.out⟩

end Go.Proofs.Ytjddkodcbpnilaa
