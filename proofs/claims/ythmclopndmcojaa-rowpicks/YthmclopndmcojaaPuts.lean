/-
  What wire's Put, PutInt and PutText do.
-/
import Derived.Test.YthmclopndmcojaaRows
import Derived.Test.YthmclopndmcojaaLeaf
import Derived.WalkKit
import Derived.WalkSpells
import Derived.WalkLawsBesides
namespace Go.Proofs.Ythmclopndmcojaa
open Go.RowKit Go.Lib

theorem wrap_pow (size : Nat) (h1 : 1 ≤ size) (h7 : size ≤ 7) : wrap64 (2 ^ (8 * size)) = ((256 ^ size : Nat) : Int) := by
  have h : size = 1 ∨ size = 2 ∨ size = 3 ∨ size = 4 ∨ size = 5 ∨ size = 6 ∨ size = 7 := by omega
  rcases h with rfl | rfl | rfl | rfl | rfl | rfl | rfl <;> (unfold wrap64; decide)

theorem pow_le56 (size : Nat) (h7 : size ≤ 7) : 256 ^ size ≤ 72057594037927936 := by
  have : 256 ^ size ≤ 256 ^ 7 := Nat.pow_le_pow_right (by omega) h7
  omega

set_option maxHeartbeats 400000 in
theorem put_ok (a : Option Addr) (cap n size : Nat) (l : List UInt8) (w : World) (hl : l.length ≤ 1048576) (hs1 : 1 ≤ size) (hs7 : size ≤ 7) (hn : n < 256 ^ size) (hr : Rd w a l) :
    Calls Try.prog 35 #[.slice a l.length cap, .int .i64 n, .int .i64 size] w fun e w' => ∃ g, e = .returned (.tuple #[.slice (some ⟨g, 0, none⟩) (l.length + size) (l.length + size), .int .i64 0]) ∧ w.heap.size ≤ g ∧ Row w' g (l ++ be n size) ∧ Below w.heap.size w w' := by
  go_enter Try.func35, Try.ntmps35
  go_wp2_with fail
  refine (isSize_yes _ _ (by omega) (by omega)).mono ?_
  rintro e w1 ⟨rfl, rfl⟩
  have hnw : (n : Int) < wrap64 (2 ^ (8 * size)) := by rw [wrap_pow size hs1 hs7]; omega
  have h56 := pow_le56 size hs7
  go_wp2_with fail
  refine (extend_any a cap size l _ (by omega) (by omega) hr).mono ?_
  rintro e w2 ⟨rfl, hrow, hb⟩
  go_wp2_with fail
  refine (fill_any _ l.length size size n _ _ (by omega) (by omega) (by simp) hrow).mono ?_
  rintro e w3 ⟨rfl, hrow3, hgr⟩
  rw [splice_front _ _ _ (by simp [be_length])] at hrow3
  go_wp2
  go_ret2
  exact ⟨_, rfl, Nat.le_refl _, hrow3, hb.trans (Below.of_grown hgr (Nat.le_refl _) hrow.lt)⟩

set_option maxHeartbeats 400000 in
theorem put_size_no (a : Option Addr) (len cap : Nat) (n size : Int) (w : World) (h : size < 1 ∨ 7 < size) :
    Calls Try.prog 35 #[.slice a len cap, .int .i64 n, .int .i64 size] w fun e w' => e = .returned (.tuple #[.slice none 0 0, .int .i64 1]) ∧ w' = w := by
  go_enter Try.func35, Try.ntmps35
  go_wp2_with fail
  refine (isSize_no _ _ h).mono ?_
  rintro e w1 ⟨rfl, rfl⟩
  go_wp2
  go_ret2
  exact ⟨rfl, rfl⟩

set_option maxHeartbeats 400000 in
theorem put_no (a : Option Addr) (len cap size : Nat) (n : Int) (w : World) (hs1 : 1 ≤ size) (hs7 : size ≤ 7) (h : n < 0 ∨ ((256 ^ size : Nat) : Int) ≤ n) :
    Calls Try.prog 35 #[.slice a len cap, .int .i64 n, .int .i64 size] w fun e w' => e = .returned (.tuple #[.slice none 0 0, .int .i64 1]) ∧ w' = w := by
  rw [← wrap_pow size hs1 hs7] at h
  rcases h with h | h
  · go_enter Try.func35, Try.ntmps35
    go_wp2_with fail
    refine (isSize_yes _ _ (by omega) (by omega)).mono ?_
    rintro e w1 ⟨rfl, rfl⟩
    go_wp2
    go_ret2
    exact ⟨rfl, rfl⟩
  · by_cases h0 : n < 0
    · go_enter Try.func35, Try.ntmps35
      go_wp2_with fail
      refine (isSize_yes _ _ (by omega) (by omega)).mono ?_
      rintro e w1 ⟨rfl, rfl⟩
      go_wp2
      go_ret2
      exact ⟨rfl, rfl⟩
    · go_enter Try.func35, Try.ntmps35
      go_wp2_with fail
      refine (isSize_yes _ _ (by omega) (by omega)).mono ?_
      rintro e w1 ⟨rfl, rfl⟩
      go_wp2
      go_ret2
      exact ⟨rfl, rfl⟩

theorem set_front {l : List UInt8} {x : UInt8} {k : Nat} : (l ++ List.replicate (k + 1) 0).set l.length x = (l ++ [x]) ++ List.replicate k 0 := by
  rw [List.set_append_right _ _ (Nat.le_refl _)]
  simp [List.replicate_succ]

set_option maxHeartbeats 400000 in
theorem putInt_pos (a : Option Addr) (cap n : Nat) (l : List UInt8) (w : World) (hl : l.length ≤ 1048576) (hn : n ≤ 1152921504606846976) (hr : Rd w a l) :
    Calls Try.prog 51 #[.slice a l.length cap, .int .i64 n] w fun e w' => ∃ g, e = .returned (.tuple #[.slice (some ⟨g, 0, none⟩) (l.length + 9) (l.length + 9), .int .i64 0]) ∧ w.heap.size ≤ g ∧ Row w' g ((l ++ [0]) ++ be n 8) ∧ Below w.heap.size w w' := by
  go_enter Try.func51, Try.ntmps51
  go_wp2_with fail
  refine (extend_any a cap 9 l _ (by omega) (by omega) hr).mono ?_
  rintro e w2 ⟨rfl, hrow, hb⟩
  have hrow' : Row w2 w.heap.size ((l ++ [0]) ++ List.replicate 8 0) := by simpa using hrow
  go_wp2_with fail
  refine (fill_any _ (l.length + 1) 8 8 n _ _ (by omega) (by omega) (by simp) hrow').mono ?_
  rintro e w3 ⟨rfl, hrow3, hgr⟩
  rw [show l.length + 1 = (l ++ [0]).length from by simp, splice_front _ _ _ (by simp [be_length])] at hrow3
  go_wp2
  go_ret2
  exact ⟨_, rfl, Nat.le_refl _, hrow3, hb.trans (Below.of_grown hgr (Nat.le_refl _) hrow.lt)⟩

theorem Below.set {w w1 : World} {B g i : Nat} {v : Value} (h : Below B w w1) (hg : B ≤ g) : Below B w (w1.setCell ⟨g, i, none⟩ v) := h.setCell hg v

set_option maxHeartbeats 400000 in
theorem putInt_neg (a : Option Addr) (cap n : Nat) (l : List UInt8) (w : World) (hl : l.length ≤ 1048576) (h1 : 1 ≤ n) (hn : n ≤ 1152921504606846976) (hr : Rd w a l) :
    Calls Try.prog 51 #[.slice a l.length cap, .int .i64 (-(n : Int))] w fun e w' => ∃ g, e = .returned (.tuple #[.slice (some ⟨g, 0, none⟩) (l.length + 9) (l.length + 9), .int .i64 0]) ∧ w.heap.size ≤ g ∧ Row w' g ((l ++ [1]) ++ be n 8) ∧ Below w.heap.size w w' := by
  go_enter Try.func51, Try.ntmps51
  go_wp2_with fail
  refine (extend_any a cap 9 l _ (by omega) (by omega) hr).mono ?_
  rintro e w2 ⟨rfl, hrow, hb⟩
  have hc := hrow.cell l.length (by simp)
  have hf := hrow.free l.length
  have hrow' := hrow.set l.length 1
  rw [set_front] at hrow'
  have hb' : Below w.heap.size w (w2.setCell ⟨w.heap.size, l.length, none⟩ (.int .u8 1)) := hb.setCell (Nat.le_refl _) _
  go_wp2_with fail
  refine (fill_any _ (l.length + 1) 8 8 n _ _ (by omega) (by omega) (by simp) hrow').mono ?_
  rintro e w3 ⟨rfl, hrow3, hgr⟩
  rw [show l.length + 1 = (l ++ [1]).length from by simp, splice_front _ _ _ (by simp [be_length])] at hrow3
  go_wp2
  go_ret2
  exact ⟨_, rfl, Nat.le_refl _, hrow3, hb'.trans (Below.of_grown hgr (Nat.le_refl _) hrow'.lt)⟩

set_option maxHeartbeats 400000 in
theorem putInt_no (a : Option Addr) (len cap : Nat) (n : Int) (w : World) (h : n < -1152921504606846976 ∨ 1152921504606846976 < n) :
    Calls Try.prog 51 #[.slice a len cap, .int .i64 n] w fun e w' => e = .returned (.tuple #[.slice none 0 0, .int .i64 1]) ∧ w' = w := by
  rcases h with h | h
  · go_enter Try.func51, Try.ntmps51
    go_wp2
    go_ret2
    exact ⟨rfl, rfl⟩
  · go_enter Try.func51, Try.ntmps51
    go_wp2
    go_ret2
    exact ⟨rfl, rfl⟩

set_option maxHeartbeats 400000 in
theorem putText_no (a : Option Addr) (len cap : Nat) (s : ByteArray) (w : World) (hs : s.size ≤ 9223372036854775807) (h : 24 < s.size) :
    Calls Try.prog 52 #[.slice a len cap, .string s] w fun e w' => e = .returned (.tuple #[.slice none 0 0, .int .i64 2]) ∧ w' = w := by
  go_enter Try.func52, Try.ntmps52
  go_wp2
  go_ret2
  exact ⟨rfl, rfl⟩

set_option maxHeartbeats 400000 in
theorem putText_empty (a : Option Addr) (cap : Nat) (l : List UInt8) (w : World) (hl : l.length ≤ 1048576) (hr : Rd w a l) :
    Calls Try.prog 52 #[.slice a l.length cap, .string ByteArray.empty] w fun e w' => ∃ g, e = .returned (.tuple #[.slice (some ⟨g, 0, none⟩) (l.length + 1) (l.length + 1), .int .i64 0]) ∧ w.heap.size ≤ g ∧ Row w' g (l ++ [0]) ∧ Below w.heap.size w w' := by
  have hcp : ∀ wx (d : Option Addr), (Builtin.copy_ #[29, 9] 3 #[.slice d 0 0, .string ByteArray.empty]).run Try.prog wx = .ok (goInt 0) wx := fun wx d => run_copy_empty_string wx 29 9 3 5 d 0 0 ByteArray.empty Try.underlying29 (by rw [Try.size5]; rfl) rfl
  go_enter Try.func52, Try.ntmps52
  go_wp2_with fail
  refine (extend_any a cap 1 l _ (by omega) (by omega) hr).mono ?_
  rintro e w2 ⟨rfl, hrow, hb⟩
  have hc := hrow.cell l.length (by simp)
  have hf := hrow.free l.length
  have hrow' := hrow.set l.length 0
  rw [set_front] at hrow'
  go_wp2
  go_ret2
  exact ⟨_, rfl, Nat.le_refl _, by simpa using hrow', hb.setCell (Nat.le_refl _) _⟩

set_option maxHeartbeats 400000 in
theorem putText_some (a : Option Addr) (cap : Nat) (s : ByteArray) (l : List UInt8) (w : World) (hl : l.length ≤ 1048576) (h0 : 0 < s.size) (hs : s.size ≤ 24) (hr : Rd w a l) :
    Calls Try.prog 52 #[.slice a l.length cap, .string s] w fun e w' => ∃ g, e = .returned (.tuple #[.slice (some ⟨g, 0, none⟩) (l.length + (1 + s.size)) (l.length + (1 + s.size)), .int .i64 0]) ∧ w.heap.size ≤ g ∧ Row w' g ((l ++ [UInt8.ofNat s.size]) ++ s.data.toList) ∧ Below w.heap.size w w' := by
  have hne : ¬ s = ByteArray.empty := fun e => by subst e; simp at h0
  go_enter Try.func52, Try.ntmps52
  go_wp2_with fail
  refine (extend_any a cap (1 + s.size) l _ (by omega) (by omega) hr).mono ?_
  rintro e w2 ⟨rfl, hrow, hb⟩
  have hrow1 : Row w2 w.heap.size (l ++ List.replicate (s.size + 1) 0) := by rw [Nat.add_comm s.size 1]; exact hrow
  have hc := hrow1.cell l.length (by simp)
  have hf := hrow1.free l.length
  have hrow' := hrow1.set l.length (UInt8.ofNat s.size)
  have eu : (UInt8.ofNat s.size).toNat = s.size := by simp [UInt8.toNat_ofNat']; omega
  rw [set_front, eu] at hrow'
  obtain ⟨w3, hcp, hrow3, hgr⟩ := run_copy_text (sT := 9) (ty := 3) (o := l.length + 1) (dLen := l.length + (1 + s.size) - (l.length + 1)) (dCap := l.length + (1 + s.size) - (l.length + 1)) (t := s) Try.underlying29 Try.size5 hrow' (by omega) (by simp; omega)
  rw [show l.length + 1 = (l ++ [UInt8.ofNat s.size]).length from by simp, splice_front _ _ _ (by simp)] at hrow3
  have hb3 : Below w.heap.size w w3 := (hb.setCell (Nat.le_refl _) _).trans (Below.of_grown hgr (Nat.le_refl _) hrow'.lt)
  clear hrow hrow1 hrow' hgr hb
  go_wp2
  go_ret2
  exact ⟨_, rfl, Nat.le_refl _, hrow3, hb3⟩

end Go.Proofs.Ythmclopndmcojaa
