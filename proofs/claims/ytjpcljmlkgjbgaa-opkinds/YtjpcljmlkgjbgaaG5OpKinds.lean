/-
  Texts of the proof of OpKinds, one behind the other.
-/
import Derived.Test.YtjpcljmlkgjbgaaRows
import Derived.Test.YtjpcljmlkgjbgaaG2OpKinds
import Derived.WalkKit
import Derived.WalkSpells
import Derived.WalkLawsBesides
namespace Go.Proofs.Ytjpcljmlkgjbgaa
open Go.RowKit Go.Lib

set_option maxHeartbeats 400000 in
theorem isSize_yes (n : Int) (w : World) (h1 : 1 ≤ n) (h2 : n ≤ 7) :
    Calls Try.prog 98 #[.int .i64 n] w fun e w' => e = .returned (.bool true) ∧ w' = w := by
  go_enter Try.func98, Try.ntmps98
  go_wp2
  go_ret
  exact ⟨by simp, rfl⟩

set_option maxHeartbeats 400000 in
theorem isSize_no (n : Int) (w : World) (h : n < 1 ∨ 7 < n) :
    Calls Try.prog 98 #[.int .i64 n] w fun e w' => e = .returned (.bool false) ∧ w' = w := by
  rcases h with h | h
  · go_enter Try.func98, Try.ntmps98
    go_wp2
    go_ret
    exact ⟨by simp, rfl⟩
  · go_enter Try.func98, Try.ntmps98
    go_wp2
    go_ret
    exact ⟨by simp; exact h, rfl⟩

set_option maxHeartbeats 400000 in
theorem isPlace_yes (a : Option Addr) (n cap : Nat) (at_ : Int) (w : World) (_hn : n ≤ 4294967296) (h1 : 0 ≤ at_) (h2 : at_ ≤ n) :
    Calls Try.prog 104 #[.slice a n cap, .int .i64 at_] w fun e w' => e = .returned (.bool true) ∧ w' = w := by
  go_enter Try.func104, Try.ntmps104
  go_wp2
  go_ret
  exact ⟨by simp, rfl⟩

set_option maxHeartbeats 400000 in
theorem isPlace_no (a : Option Addr) (n cap : Nat) (at_ : Int) (w : World) (_hn : n ≤ 4294967296) (h : at_ < 0 ∨ n < at_) :
    Calls Try.prog 104 #[.slice a n cap, .int .i64 at_] w fun e w' => e = .returned (.bool false) ∧ w' = w := by
  rcases h with h | h
  · go_enter Try.func104, Try.ntmps104
    go_wp2
    go_ret
    exact ⟨by simp, rfl⟩
  · go_enter Try.func104, Try.ntmps104
    go_wp2
    go_ret
    exact ⟨by simp; exact h, rfl⟩

theorem fill_step {g off m n q j : Nat} {l t : List UInt8} {wr : World} (hbe : be n m = be q (j + 1) ++ t) (hrow : Row wr g (splice l (off + (j + 1)) t)) (hfit : off + m ≤ l.length) (hkt : j + 1 + t.length = m) :
    be n m = be (q / 256) j ++ (UInt8.ofNat (q % 256) :: t) ∧ Row (wr.setCell ⟨g, off + j, none⟩ (.int .u8 ((q : Int) % 256))) g (splice l (off + j) (UInt8.ofNat (q % 256) :: t)) := by
  refine ⟨by rw [hbe, be]; simp, ?_⟩
  have h := hrow.set (off + j) (UInt8.ofNat (q % 256))
  rw [ofNat_mod] at h
  have e : ((q % 256 : Nat) : Int) = (q : Int) % 256 := by omega
  rw [e, ← Nat.add_assoc, splice_cons _ _ _ _ (by omega)] at h
  exact h

theorem grown_set {w wr : World} {g i : Nat} {v : Value} (h : w.grownBy wr (some g)) : w.grownBy (wr.setCell ⟨g, i, none⟩ v) (some g) :=
  ⟨h.os, h.tape, h.output, by simpa [World.setCell] using h.size, fun k hk hne => (Below.heap_setCell _ _ _ _ (fun e => hne (by rw [e]))).trans (h.block k hk hne)⟩

set_option maxHeartbeats 400000 in
theorem fill_any (g off m cap n : Nat) (l : List UInt8) (w : World) (hm : m ≤ 4294967296) (hn : n ≤ 9223372036854775807) (hfit : off + m ≤ l.length) (hg : Row w g l) :
    Calls Try.prog 100 #[.slice (some ⟨g, off, none⟩) m cap, .int .i64 n] w fun e w' => e = .returned (.tuple #[]) ∧ Row w' g (splice l off (be n m)) ∧ w.grownBy w' (some g) := by
  go_enter Try.func100, Try.ntmps100
  go_wp2
  go_loopw [1, 4] (fun r i wr => ∃ (k q : Nat) (t : List UInt8), k ≤ m ∧ q ≤ n ∧ k + t.length = m ∧ i = .int .i64 ((k : Int) - 1) ∧ r = .int .i64 q ∧ Hid (be n m = be q k ++ t) ∧ Row wr g (splice l (off + k) t) ∧ w.grownBy wr (some g)) (fun _ i _ => (intOf i + 1).toNat)
  case atStart => exact ⟨m, n, [], Nat.le_refl _, Nat.le_refl _, by simp, rfl, rfl, by simp [Hid], by rw [splice_nil]; exact hg, World.grownBy.refl _ _⟩
  case round =>
    obtain ⟨k, q, t, hk, hq, hkt, rfl, rfl, hbe, hrow, hgr⟩ := hrel
    have HK : Hid (k + t.length = m) := hkt
    clear hkt
    rcases Nat.eq_zero_or_pos k with h0 | h0
    · subst h0
      go_wp2
      go_end0
      refine ⟨rfl, ?_, hgr⟩
      have := hbe.out
      simp [be] at this
      rw [this]
      exact hrow
    · obtain ⟨j, rfl⟩ : ∃ j, k = j + 1 := ⟨k - 1, by omega⟩
      have hc := hrow.cell (off + j) (by rw [length_splice _ _ _ (by have := HK.out; omega)]; omega)
      have hf := hrow.free (off + j)
      have R := fill_step hbe.out hrow hfit HK.out
      have HR : Hid _ := R
      have G := grown_set (i := off + j) (v := .int .u8 ((q : Int) % 256)) hgr
      have HG : Hid _ := G
      clear R G
      go_wp2
      go_roundw
      case rel => exact ⟨j, q / 256, _, by omega, by omega, by have := HK.out; simp; omega, rfl, by go_num, HR.out.1, HR.out.2, HG.out⟩
      case measure => simp [intOf]

theorem Try.info5 : (Try.prog.info? 5).map (fun i => (i.zero, i.size, i.bytes)) = some (some (.int .u8 0), 1, 1) := by kernel_rfl

theorem Try.size5 : (Try.prog.info? 5).map (·.size) = some 1 := by kernel_rfl

theorem row_made {w1 : World} {n g : Nat} (h : w1.ownsRow g 5 1 (.slice (some ⟨g, 0, none⟩) n n) n (madeCells (Value.int .u8 0).cells (n * 1)).toList) : Row w1 g (List.replicate n 0) := by
  obtain ⟨_, ⟨h1, _⟩ | ⟨g', cap, cur, hv, _, hh, _, _, hs, ht⟩⟩ := h
  · simp at h1
  · simp at hv
    obtain ⟨rfl, rfl⟩ := hv
    unfold Row
    rw [hh]
    have e : cur.toList = byteCells (List.replicate n 0) := by
      rw [← List.take_of_length_le (l := cur.toList) (i := n * 1) (by simp [hs]), ht]
      simp [madeCells, Value.cells, byteCells]
      apply List.ext_getElem
      · simp
      · intro i h1 h2
        simp [Nat.mod_one]
    rw [← e]

set_option maxHeartbeats 400000 in
theorem extend_any (a : Option Addr) (cap x : Nat) (l : List UInt8) (w : World) (hl : l.length ≤ 4294967296) (hx : x ≤ 4294967296) (hr : Rd w a l) :
    Calls Try.prog 99 #[.slice a l.length cap, .int .i64 x] w fun e w' => e = .returned (.slice (some ⟨w.heap.size, 0, none⟩) (l.length + x) (l.length + x)) ∧ Row w' w.heap.size (l ++ List.replicate x 0) ∧ Below w.heap.size w w' := by
  obtain ⟨i0, hi, hz0, hz1, hz2⟩ := info_parts Try.info5
  go_enter Try.func99, Try.ntmps99
  go_wp2_with (at_make; refine wpList_make_full _ rfl (.tmp 9) (.tmp 9) 22 rfl w.heap.size 5 i0 (.int .u8 0) 1 Try.underlying22 hi hz0 hz1 .i64 .i64 _ _ (l.length + x) rfl rfl (by omega) (by omega) (by rw [hz2]; omega) (by unfold maxLen; omega) (Nat.le_refl _) ?_; intro w1 hown hgr; have hrow := row_made hown; have hb : Below w.heap.size w w1 := (Below.refl _ _).grown hgr (Nat.le_refl _) (fun k hk => by cases hk); obtain ⟨w2, hcp, hrow2, hgr2⟩ := run_copy_rd (sT := 22) (ty := 3) (o := 0) (dLen := l.length + x) (dCap := l.length + x) (cap := cap) Try.underlying22 Try.size5 hrow (hr.later hb) (by omega) (by simp))
  go_ret
  refine ⟨rfl, ?_, hb.trans (Below.of_grown hgr2 (Nat.le_refl _) hrow.lt)⟩
  rw [splice_zeros] at hrow2
  exact hrow2

end Go.Proofs.Ytjpcljmlkgjbgaa

namespace Go.Proofs.Ytjpcljmlkgjbgaa
open Go.RowKit Go.Lib

theorem wrap_pow (size : Nat) (h1 : 1 ≤ size) (h7 : size ≤ 7) : wrap64 (2 ^ (8 * size)) = ((256 ^ size : Nat) : Int) := by
  have h : size = 1 ∨ size = 2 ∨ size = 3 ∨ size = 4 ∨ size = 5 ∨ size = 6 ∨ size = 7 := by omega
  rcases h with rfl | rfl | rfl | rfl | rfl | rfl | rfl <;> (unfold wrap64; decide)

theorem pow_le56 (size : Nat) (h7 : size ≤ 7) : 256 ^ size ≤ 72057594037927936 := by
  have : 256 ^ size ≤ 256 ^ 7 := Nat.pow_le_pow_right (by omega) h7
  omega

set_option maxHeartbeats 400000 in
theorem put_ok (a : Option Addr) (cap n size : Nat) (l : List UInt8) (w : World) (hl : l.length ≤ 1048576) (hs1 : 1 ≤ size) (hs7 : size ≤ 7) (hn : n < 256 ^ size) (hr : Rd w a l) :
    Calls Try.prog 62 #[.slice a l.length cap, .int .i64 n, .int .i64 size] w fun e w' => ∃ g, e = .returned (.tuple #[.slice (some ⟨g, 0, none⟩) (l.length + size) (l.length + size), .int .i64 0]) ∧ w.heap.size ≤ g ∧ Row w' g (l ++ be n size) ∧ Below w.heap.size w w' := by
  go_enter Try.func62, Try.ntmps62
  go_wp2_with fail
  refine (isSize_yes _ _ (by omega) (by omega)).mono ?_
  rintro e w1 ⟨rfl, rfl⟩
  have hnw : (n : Int) < wrap64 (2 ^ (8 * size)) := by rw [wrap_pow size hs1 hs7]; omega
  have h56 := pow_le56 size hs7
  go_wp2_with fail
  refine (extend_any a cap size l _ (by omega) (by omega) hr).mono ?_
  rintro e w2 ⟨rfl, hrow, hb⟩
  go_wp2_with fail
  refine (fill_any _ l.length size size n _ _ (by omega) (by omega) (by simp) hrow).mono ?_
  rintro e w3 ⟨rfl, hrow3, hgr⟩
  rw [splice_front _ _ _ (by simp [be_length])] at hrow3
  go_wp2
  go_ret2
  exact ⟨_, rfl, Nat.le_refl _, hrow3, hb.trans (Below.of_grown hgr (Nat.le_refl _) hrow.lt)⟩

set_option maxHeartbeats 400000 in
theorem put_size_no (a : Option Addr) (len cap : Nat) (n size : Int) (w : World) (h : size < 1 ∨ 7 < size) :
    Calls Try.prog 62 #[.slice a len cap, .int .i64 n, .int .i64 size] w fun e w' => e = .returned (.tuple #[.slice none 0 0, .int .i64 1]) ∧ w' = w := by
  go_enter Try.func62, Try.ntmps62
  go_wp2_with fail
  refine (isSize_no _ _ h).mono ?_
  rintro e w1 ⟨rfl, rfl⟩
  go_wp2
  go_ret2
  exact ⟨rfl, rfl⟩

set_option maxHeartbeats 400000 in
theorem put_no (a : Option Addr) (len cap size : Nat) (n : Int) (w : World) (hs1 : 1 ≤ size) (hs7 : size ≤ 7) (h : n < 0 ∨ ((256 ^ size : Nat) : Int) ≤ n) :
    Calls Try.prog 62 #[.slice a len cap, .int .i64 n, .int .i64 size] w fun e w' => e = .returned (.tuple #[.slice none 0 0, .int .i64 1]) ∧ w' = w := by
  rw [← wrap_pow size hs1 hs7] at h
  rcases h with h | h
  · go_enter Try.func62, Try.ntmps62
    go_wp2_with fail
    refine (isSize_yes _ _ (by omega) (by omega)).mono ?_
    rintro e w1 ⟨rfl, rfl⟩
    go_wp2
    go_ret2
    exact ⟨rfl, rfl⟩
  · by_cases h0 : n < 0
    · go_enter Try.func62, Try.ntmps62
      go_wp2_with fail
      refine (isSize_yes _ _ (by omega) (by omega)).mono ?_
      rintro e w1 ⟨rfl, rfl⟩
      go_wp2
      go_ret2
      exact ⟨rfl, rfl⟩
    · go_enter Try.func62, Try.ntmps62
      go_wp2_with fail
      refine (isSize_yes _ _ (by omega) (by omega)).mono ?_
      rintro e w1 ⟨rfl, rfl⟩
      go_wp2
      go_ret2
      exact ⟨rfl, rfl⟩

theorem set_front {l : List UInt8} {x : UInt8} {k : Nat} : (l ++ List.replicate (k + 1) 0).set l.length x = (l ++ [x]) ++ List.replicate k 0 := by
  rw [List.set_append_right _ _ (Nat.le_refl _)]
  simp [List.replicate_succ]

set_option maxHeartbeats 400000 in
theorem putInt_pos (a : Option Addr) (cap n : Nat) (l : List UInt8) (w : World) (hl : l.length ≤ 1048576) (hn : n ≤ 1152921504606846976) (hr : Rd w a l) :
    Calls Try.prog 101 #[.slice a l.length cap, .int .i64 n] w fun e w' => ∃ g, e = .returned (.tuple #[.slice (some ⟨g, 0, none⟩) (l.length + 9) (l.length + 9), .int .i64 0]) ∧ w.heap.size ≤ g ∧ Row w' g ((l ++ [0]) ++ be n 8) ∧ Below w.heap.size w w' := by
  go_enter Try.func101, Try.ntmps101
  go_wp2_with fail
  refine (extend_any a cap 9 l _ (by omega) (by omega) hr).mono ?_
  rintro e w2 ⟨rfl, hrow, hb⟩
  have hrow' : Row w2 w.heap.size ((l ++ [0]) ++ List.replicate 8 0) := by simpa using hrow
  go_wp2_with fail
  refine (fill_any _ (l.length + 1) 8 8 n _ _ (by omega) (by omega) (by simp) hrow').mono ?_
  rintro e w3 ⟨rfl, hrow3, hgr⟩
  rw [show l.length + 1 = (l ++ [0]).length from by simp, splice_front _ _ _ (by simp [be_length])] at hrow3
  go_wp2
  go_ret2
  exact ⟨_, rfl, Nat.le_refl _, hrow3, hb.trans (Below.of_grown hgr (Nat.le_refl _) hrow.lt)⟩

theorem Below.set {w w1 : World} {B g i : Nat} {v : Value} (h : Below B w w1) (hg : B ≤ g) : Below B w (w1.setCell ⟨g, i, none⟩ v) := h.setCell hg v

set_option maxHeartbeats 400000 in
theorem putInt_neg (a : Option Addr) (cap n : Nat) (l : List UInt8) (w : World) (hl : l.length ≤ 1048576) (h1 : 1 ≤ n) (hn : n ≤ 1152921504606846976) (hr : Rd w a l) :
    Calls Try.prog 101 #[.slice a l.length cap, .int .i64 (-(n : Int))] w fun e w' => ∃ g, e = .returned (.tuple #[.slice (some ⟨g, 0, none⟩) (l.length + 9) (l.length + 9), .int .i64 0]) ∧ w.heap.size ≤ g ∧ Row w' g ((l ++ [1]) ++ be n 8) ∧ Below w.heap.size w w' := by
  go_enter Try.func101, Try.ntmps101
  go_wp2_with fail
  refine (extend_any a cap 9 l _ (by omega) (by omega) hr).mono ?_
  rintro e w2 ⟨rfl, hrow, hb⟩
  have hc := hrow.cell l.length (by simp)
  have hf := hrow.free l.length
  have hrow' := hrow.set l.length 1
  rw [set_front] at hrow'
  have hb' : Below w.heap.size w (w2.setCell ⟨w.heap.size, l.length, none⟩ (.int .u8 1)) := hb.setCell (Nat.le_refl _) _
  go_wp2_with fail
  refine (fill_any _ (l.length + 1) 8 8 n _ _ (by omega) (by omega) (by simp) hrow').mono ?_
  rintro e w3 ⟨rfl, hrow3, hgr⟩
  rw [show l.length + 1 = (l ++ [1]).length from by simp, splice_front _ _ _ (by simp [be_length])] at hrow3
  go_wp2
  go_ret2
  exact ⟨_, rfl, Nat.le_refl _, hrow3, hb'.trans (Below.of_grown hgr (Nat.le_refl _) hrow'.lt)⟩

set_option maxHeartbeats 400000 in
theorem putInt_no (a : Option Addr) (len cap : Nat) (n : Int) (w : World) (h : n < -1152921504606846976 ∨ 1152921504606846976 < n) :
    Calls Try.prog 101 #[.slice a len cap, .int .i64 n] w fun e w' => e = .returned (.tuple #[.slice none 0 0, .int .i64 1]) ∧ w' = w := by
  rcases h with h | h
  · go_enter Try.func101, Try.ntmps101
    go_wp2
    go_ret2
    exact ⟨rfl, rfl⟩
  · go_enter Try.func101, Try.ntmps101
    go_wp2
    go_ret2
    exact ⟨rfl, rfl⟩

set_option maxHeartbeats 400000 in
theorem putText_no (a : Option Addr) (len cap : Nat) (s : ByteArray) (w : World) (hs : s.size ≤ 9223372036854775807) (h : 24 < s.size) :
    Calls Try.prog 79 #[.slice a len cap, .string s] w fun e w' => e = .returned (.tuple #[.slice none 0 0, .int .i64 2]) ∧ w' = w := by
  go_enter Try.func79, Try.ntmps79
  go_wp2
  go_ret2
  exact ⟨rfl, rfl⟩

set_option maxHeartbeats 400000 in
theorem putText_empty (a : Option Addr) (cap : Nat) (l : List UInt8) (w : World) (hl : l.length ≤ 1048576) (hr : Rd w a l) :
    Calls Try.prog 79 #[.slice a l.length cap, .string ByteArray.empty] w fun e w' => ∃ g, e = .returned (.tuple #[.slice (some ⟨g, 0, none⟩) (l.length + 1) (l.length + 1), .int .i64 0]) ∧ w.heap.size ≤ g ∧ Row w' g (l ++ [0]) ∧ Below w.heap.size w w' := by
  have hcp : ∀ wx (d : Option Addr), (Builtin.copy_ #[22, 9] 3 #[.slice d 0 0, .string ByteArray.empty]).run Try.prog wx = .ok (goInt 0) wx := fun wx d => run_copy_empty_string wx 22 9 3 5 d 0 0 ByteArray.empty Try.underlying22 (by rw [Try.size5]; rfl) rfl
  go_enter Try.func79, Try.ntmps79
  go_wp2_with fail
  refine (extend_any a cap 1 l _ (by omega) (by omega) hr).mono ?_
  rintro e w2 ⟨rfl, hrow, hb⟩
  have hc := hrow.cell l.length (by simp)
  have hf := hrow.free l.length
  have hrow' := hrow.set l.length 0
  rw [set_front] at hrow'
  go_wp2
  go_ret2
  exact ⟨_, rfl, Nat.le_refl _, by simpa using hrow', hb.setCell (Nat.le_refl _) _⟩

set_option maxHeartbeats 400000 in
theorem putText_some (a : Option Addr) (cap : Nat) (s : ByteArray) (l : List UInt8) (w : World) (hl : l.length ≤ 1048576) (h0 : 0 < s.size) (hs : s.size ≤ 24) (hr : Rd w a l) :
    Calls Try.prog 79 #[.slice a l.length cap, .string s] w fun e w' => ∃ g, e = .returned (.tuple #[.slice (some ⟨g, 0, none⟩) (l.length + (1 + s.size)) (l.length + (1 + s.size)), .int .i64 0]) ∧ w.heap.size ≤ g ∧ Row w' g ((l ++ [UInt8.ofNat s.size]) ++ s.data.toList) ∧ Below w.heap.size w w' := by
  have hne : ¬ s = ByteArray.empty := fun e => by subst e; simp at h0
  go_enter Try.func79, Try.ntmps79
  go_wp2_with fail
  refine (extend_any a cap (1 + s.size) l _ (by omega) (by omega) hr).mono ?_
  rintro e w2 ⟨rfl, hrow, hb⟩
  have hrow1 : Row w2 w.heap.size (l ++ List.replicate (s.size + 1) 0) := by rw [Nat.add_comm s.size 1]; exact hrow
  have hc := hrow1.cell l.length (by simp)
  have hf := hrow1.free l.length
  have hrow' := hrow1.set l.length (UInt8.ofNat s.size)
  have eu : (UInt8.ofNat s.size).toNat = s.size := by simp [UInt8.toNat_ofNat']; omega
  rw [set_front, eu] at hrow'
  obtain ⟨w3, hcp, hrow3, hgr⟩ := run_copy_text (sT := 9) (ty := 3) (o := l.length + 1) (dLen := l.length + (1 + s.size) - (l.length + 1)) (dCap := l.length + (1 + s.size) - (l.length + 1)) (t := s) Try.underlying22 Try.size5 hrow' (by omega) (by simp; omega)
  rw [show l.length + 1 = (l ++ [UInt8.ofNat s.size]).length from by simp, splice_front _ _ _ (by simp)] at hrow3
  have hb3 : Below w.heap.size w w3 := (hb.setCell (Nat.le_refl _) _).trans (Below.of_grown hgr (Nat.le_refl _) hrow'.lt)
  clear hrow hrow1 hrow' hgr hb
  go_wp2
  go_ret2
  exact ⟨_, rfl, Nat.le_refl _, hrow3, hb3⟩

end Go.Proofs.Ytjpcljmlkgjbgaa
