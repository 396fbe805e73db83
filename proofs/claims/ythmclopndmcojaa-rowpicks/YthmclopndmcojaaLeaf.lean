/-
  What wire's smallest functions do: isSize, isPlace, extend, fill, number.
-/
import Derived.Test.YthmclopndmcojaaRows
import Derived.Test.YthmclopndmcojaaMem
import Derived.WalkKit
import Derived.WalkSpells
import Derived.WalkLawsBesides
namespace Go.Proofs.Ythmclopndmcojaa
open Go.RowKit Go.Lib

set_option maxHeartbeats 400000 in
theorem isSize_yes (n : Int) (w : World) (h1 : 1 ≤ n) (h2 : n ≤ 7) :
    Calls Try.prog 53 #[.int .i64 n] w fun e w' => e = .returned (.bool true) ∧ w' = w := by
  go_enter Try.func53, Try.ntmps53
  go_wp2
  go_ret
  exact ⟨by simp, rfl⟩

set_option maxHeartbeats 400000 in
theorem isSize_no (n : Int) (w : World) (h : n < 1 ∨ 7 < n) :
    Calls Try.prog 53 #[.int .i64 n] w fun e w' => e = .returned (.bool false) ∧ w' = w := by
  rcases h with h | h
  · go_enter Try.func53, Try.ntmps53
    go_wp2
    go_ret
    exact ⟨by simp, rfl⟩
  · go_enter Try.func53, Try.ntmps53
    go_wp2
    go_ret
    exact ⟨by simp; exact h, rfl⟩

set_option maxHeartbeats 400000 in
theorem isPlace_yes (a : Option Addr) (n cap : Nat) (at_ : Int) (w : World) (_hn : n ≤ 4294967296) (h1 : 0 ≤ at_) (h2 : at_ ≤ n) :
    Calls Try.prog 57 #[.slice a n cap, .int .i64 at_] w fun e w' => e = .returned (.bool true) ∧ w' = w := by
  go_enter Try.func57, Try.ntmps57
  go_wp2
  go_ret
  exact ⟨by simp, rfl⟩

set_option maxHeartbeats 400000 in
theorem isPlace_no (a : Option Addr) (n cap : Nat) (at_ : Int) (w : World) (_hn : n ≤ 4294967296) (h : at_ < 0 ∨ n < at_) :
    Calls Try.prog 57 #[.slice a n cap, .int .i64 at_] w fun e w' => e = .returned (.bool false) ∧ w' = w := by
  rcases h with h | h
  · go_enter Try.func57, Try.ntmps57
    go_wp2
    go_ret
    exact ⟨by simp, rfl⟩
  · go_enter Try.func57, Try.ntmps57
    go_wp2
    go_ret
    exact ⟨by simp; exact h, rfl⟩

theorem fill_step {g off m n q j : Nat} {l t : List UInt8} {wr : World} (hbe : be n m = be q (j + 1) ++ t) (hrow : Row wr g (splice l (off + (j + 1)) t)) (hfit : off + m ≤ l.length) (hkt : j + 1 + t.length = m) :
    be n m = be (q / 256) j ++ (UInt8.ofNat (q % 256) :: t) ∧ Row (wr.setCell ⟨g, off + j, none⟩ (.int .u8 ((q : Int) % 256))) g (splice l (off + j) (UInt8.ofNat (q % 256) :: t)) := by
  refine ⟨by rw [hbe, be]; simp, ?_⟩
  have h := hrow.set (off + j) (UInt8.ofNat (q % 256))
  rw [ofNat_mod] at h
  have e : ((q % 256 : Nat) : Int) = (q : Int) % 256 := by omega
  rw [e, ← Nat.add_assoc, splice_cons _ _ _ _ (by omega)] at h
  exact h

theorem grown_set {w wr : World} {g i : Nat} {v : Value} (h : w.grownBy wr (some g)) : w.grownBy (wr.setCell ⟨g, i, none⟩ v) (some g) :=
  ⟨h.os, h.tape, h.output, by simpa [World.setCell] using h.size, fun k hk hne => (Below.heap_setCell _ _ _ _ (fun e => hne (by rw [e]))).trans (h.block k hk hne)⟩

set_option maxHeartbeats 400000 in
theorem fill_any (g off m cap n : Nat) (l : List UInt8) (w : World) (hm : m ≤ 4294967296) (hn : n ≤ 9223372036854775807) (hfit : off + m ≤ l.length) (hg : Row w g l) :
    Calls Try.prog 55 #[.slice (some ⟨g, off, none⟩) m cap, .int .i64 n] w fun e w' => e = .returned (.tuple #[]) ∧ Row w' g (splice l off (be n m)) ∧ w.grownBy w' (some g) := by
  go_enter Try.func55, Try.ntmps55
  go_wp2
  go_loopw [1, 4] (fun r i wr => ∃ (k q : Nat) (t : List UInt8), k ≤ m ∧ q ≤ n ∧ k + t.length = m ∧ i = .int .i64 ((k : Int) - 1) ∧ r = .int .i64 q ∧ Hid (be n m = be q k ++ t) ∧ Row wr g (splice l (off + k) t) ∧ w.grownBy wr (some g)) (fun _ i _ => (intOf i + 1).toNat)
  case atStart => exact ⟨m, n, [], Nat.le_refl _, Nat.le_refl _, by simp, rfl, rfl, by simp [Hid], by rw [splice_nil]; exact hg, World.grownBy.refl _ _⟩
  case round =>
    obtain ⟨k, q, t, hk, hq, hkt, rfl, rfl, hbe, hrow, hgr⟩ := hrel
    have HK : Hid (k + t.length = m) := hkt
    clear hkt
    rcases Nat.eq_zero_or_pos k with h0 | h0
    · subst h0
      go_wp2
      go_end0
      refine ⟨rfl, ?_, hgr⟩
      have := hbe.out
      simp [be] at this
      rw [this]
      exact hrow
    · obtain ⟨j, rfl⟩ : ∃ j, k = j + 1 := ⟨k - 1, by omega⟩
      have hc := hrow.cell (off + j) (by rw [length_splice _ _ _ (by have := HK.out; omega)]; omega)
      have hf := hrow.free (off + j)
      have R := fill_step hbe.out hrow hfit HK.out
      have HR : Hid _ := R
      have G := grown_set (i := off + j) (v := .int .u8 ((q : Int) % 256)) hgr
      have HG : Hid _ := G
      clear R G
      go_wp2
      go_roundw
      case rel => exact ⟨j, q / 256, _, by omega, by omega, by have := HK.out; simp; omega, rfl, by go_num, HR.out.1, HR.out.2, HG.out⟩
      case measure => simp [intOf]

theorem Try.info5 : (Try.prog.info? 5).map (fun i => (i.zero, i.size, i.bytes)) = some (some (.int .u8 0), 1, 1) := by kernel_rfl

theorem Try.size5 : (Try.prog.info? 5).map (·.size) = some 1 := by kernel_rfl

theorem row_made {w1 : World} {n g : Nat} (h : w1.ownsRow g 5 1 (.slice (some ⟨g, 0, none⟩) n n) n (madeCells (Value.int .u8 0).cells (n * 1)).toList) : Row w1 g (List.replicate n 0) := by
  obtain ⟨_, ⟨h1, _⟩ | ⟨g', cap, cur, hv, _, hh, _, _, hs, ht⟩⟩ := h
  · simp at h1
  · simp at hv
    obtain ⟨rfl, rfl⟩ := hv
    unfold Row
    rw [hh]
    have e : cur.toList = byteCells (List.replicate n 0) := by
      rw [← List.take_of_length_le (l := cur.toList) (i := n * 1) (by simp [hs]), ht]
      simp [madeCells, Value.cells, byteCells]
      apply List.ext_getElem
      · simp
      · intro i h1 h2
        simp [Nat.mod_one]
    rw [← e]

set_option maxHeartbeats 400000 in
theorem extend_any (a : Option Addr) (cap x : Nat) (l : List UInt8) (w : World) (hl : l.length ≤ 4294967296) (hx : x ≤ 4294967296) (hr : Rd w a l) :
    Calls Try.prog 54 #[.slice a l.length cap, .int .i64 x] w fun e w' => e = .returned (.slice (some ⟨w.heap.size, 0, none⟩) (l.length + x) (l.length + x)) ∧ Row w' w.heap.size (l ++ List.replicate x 0) ∧ Below w.heap.size w w' := by
  obtain ⟨i0, hi, hz0, hz1, hz2⟩ := info_parts Try.info5
  go_enter Try.func54, Try.ntmps54
  go_wp2_with (at_make; refine wpList_make_full _ rfl (.tmp 9) (.tmp 9) 29 rfl w.heap.size 5 i0 (.int .u8 0) 1 Try.underlying29 hi hz0 hz1 .i64 .i64 _ _ (l.length + x) rfl rfl (by omega) (by omega) (by rw [hz2]; omega) (by unfold maxLen; omega) (Nat.le_refl _) ?_; intro w1 hown hgr; have hrow := row_made hown; have hb : Below w.heap.size w w1 := (Below.refl _ _).grown hgr (Nat.le_refl _) (fun k hk => by cases hk); obtain ⟨w2, hcp, hrow2, hgr2⟩ := run_copy_rd (sT := 29) (ty := 3) (o := 0) (dLen := l.length + x) (dCap := l.length + x) (cap := cap) Try.underlying29 Try.size5 hrow (hr.later hb) (by omega) (by simp))
  go_ret
  refine ⟨rfl, ?_, hb.trans (Below.of_grown hgr2 (Nat.le_refl _) hrow.lt)⟩
  rw [splice_zeros] at hrow2
  exact hrow2

end Go.Proofs.Ythmclopndmcojaa
