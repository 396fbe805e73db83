/-
  What the document's own Vector, Has, Next, Le, LessDot, Merge do; raddlekeep's Dot, SpoilInts.
-/
import Derived.Test.YtljikgjgcpheaaaRows
import Derived.Test.YtljikgjgcpheaaaDMem
import Derived.Test.YtljikgjgcpheaaaRef
import Derived.Deep.RegionHeld3
import Derived.Deep.RegionLaw
import Derived.Deep.QuietTactic
import Derived.BigQuiet
namespace Go.Proofs.Ytljikgjgcpheaaa
open Go.RowKit Go.Lib
set_option linter.unusedVariables false

set_option maxHeartbeats 400000 in
theorem rVector_len (a : Option Addr) (n cap : Nat) (w : World) (h : n < 1 ∨ 5 < n) (hb : n ≤ 9223372036854775807) :
    Calls Try.prog 19 #[.slice a n cap] w fun e w' => e = .returned (.int .i64 2) ∧ w' = w := by
  go_enter Try.func19, Try.ntmps19
  go_wp2_with fail
  refine (in_no _ _ _ _ (by omega)).mono ?_
  rintro e w1 ⟨rfl, rfl⟩
  go_wp2
  go_ret
  exact ⟨rfl, rfl⟩

theorem right_step {N : List Int} {k : Nat} (hk : k < N.length) (h : rightD (N.take k) = true) : rightD (N.take (k + 1)) = decide (0 ≤ N[k] ∧ N[k] ≤ 1073741824) := by
  unfold rightD at h ⊢
  rw [List.take_succ_eq_append_getElem hk, List.all_append, h]
  simp

theorem right_no {N : List Int} {k : Nat} (hk : k < N.length) (h : ¬ (0 ≤ N[k] ∧ N[k] ≤ 1073741824)) : rightD N = false := by
  unfold rightD
  rw [List.all_eq_false]
  exact ⟨_, List.getElem_mem hk, by simpa using h⟩

set_option maxHeartbeats 400000 in
theorem rVector_few (a : Option Addr) (n cap : Nat) (N : List Int) (w : World) (hn : N.length = n) (h1 : 1 ≤ n) (h5 : n ≤ 5) (hr : RdI .i64 w a N) :
    Calls Try.prog 19 #[.slice a n cap] w fun e w' => e = .returned (.int .i64 (errD N)) ∧ w' = w := by
  have HN : Hid (N.length = n) := hn
  clear hn
  go_enter Try.func19, Try.ntmps19
  go_wp2_with fail
  refine (in_yes _ _ _ _ (by omega) (by omega)).mono ?_
  rintro e w1 ⟨rfl, hw1⟩
  subst w1
  go_wp2
  go_loop [3] (fun i => ∃ k : Nat, k ≤ n ∧ i = .int .i64 k ∧ Hid (rightD (N.take k) = true)) (fun i => n - (RowKit.intOf i).toNat)
  case atStart => exact ⟨0, Nat.zero_le _, rfl, rfl⟩
  case round =>
    obtain ⟨k, hk, rfl, hT⟩ := hrel
    by_cases hlt : k < n
    · have hkl : k < N.length := by rw [HN.out]; exact hlt
      obtain ⟨b, off, rfl, hc⟩ := hr (by omega)
      have x0 := hc k hkl
      have HS : Hid _ := right_step hkl hT.out
      have HX : Hid _ := fun h => right_no hkl h
      clear hc hr
      generalize N[k] = x at *
      by_cases hx : 0 ≤ x ∧ x ≤ 1073741824
      · have HT' : Hid (rightD (N.take (k + 1)) = true) := by rw [HS.out]; show _ = _; simpa using hx
        go_wp2_with fail
        refine (in_yes _ _ _ _ hx.1 hx.2).mono ?_
        rintro e w1 ⟨rfl, rfl⟩
        go_wp2
        go_round
        case rel => exact ⟨k + 1, by omega, by go_num, HT'⟩
        case measure => simp [RowKit.intOf]; omega
      · have HT' : Hid (rightD N = false) := HX.out hx
        go_wp2_with fail
        refine (in_no _ _ _ _ (by omega)).mono ?_
        rintro e w1 ⟨rfl, rfl⟩
        go_wp2
        go_ret
        exact ⟨by rw [errD_no HT'.out]; rfl, rfl⟩
    · have h2 := hT.out
      rw [List.take_of_length_le (by rw [HN.out]; omega)] at h2
      have HH : Hid (rightD N = true) := h2
      clear h2
      go_wp2
      go_ret
      exact ⟨by rw [errD_ok HH.out]; rfl, rfl⟩

theorem rVector_any (a : Option Addr) (n cap : Nat) (N : List Int) (w : World) (hn : N.length = n) (h : n ≤ 9223372036854775807) (hr : RdI .i64 w a N) :
    Calls Try.prog 19 #[.slice a n cap] w fun e w' => e = .returned (.int .i64 (chkD N)) ∧ w' = w := by
  unfold chkD
  by_cases h5 : n < 1 ∨ 5 < n
  · rw [if_pos (by omega)]
    exact rVector_len a n cap w h5 h
  · rw [if_neg (by omega)]
    exact rVector_few a n cap N w hn (by omega) (by omega) hr

/-- A dot's two numbers, in a box. -/
theorem below_box (w : World) (o : Obj) (n : Nat) : Below w.heap.size w ((w.alloc o).drewN n) := below_drewN (alloc_below _ _) n

theorem leD_step {A B : List Int} {k : Nat} (hl : k < A.length) (hr : k < B.length) : leD (A.drop k) (B.drop k) = (decide (A[k] ≤ B[k]) && leD (A.drop (k + 1)) (B.drop (k + 1))) := by
  rw [List.drop_eq_getElem_cons hl, List.drop_eq_getElem_cons hr, leD]

/-- A row of so many numbers' cells, which may be written. -/
def IRow (w : World) (g m : Nat) : Prop := ∃ cs : Array Value, cs.size = m ∧ w.heap[g]? = some (.cells cs 3 (0, 0))

theorem IRow.cell {w : World} {g m i : Nat} (h : IRow w g m) (hi : i < m) : ∃ u, w.cell? ⟨g, i, none⟩ = some u ∧ w.frozen? ⟨g, i, none⟩ = false := by
  obtain ⟨cs, hs, hh⟩ := h
  refine ⟨cs[i]'(by omega), ?_, by simp [World.frozen?, hh]⟩
  rw [cell_of_row w g i _ _ _ hh]
  exact Array.getElem?_eq_getElem (by omega)

theorem IRow.set {w : World} {g m i : Nat} {u : Value} (h : IRow w g m) : IRow (w.setCell ⟨g, i, none⟩ u) g m := by
  obtain ⟨cs, hs, hh⟩ := h
  exact ⟨_, by simpa using hs, Go.heap_setCell_same w g i _ _ u hh⟩

end Go.Proofs.Ytljikgjgcpheaaa
