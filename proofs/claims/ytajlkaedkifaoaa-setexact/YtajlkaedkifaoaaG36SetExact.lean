/-
  Texts of the proof of SetExact, one behind the other.
-/
import Derived.Test.YtajlkaedkifaoaaRows
import Derived.Test.YtajlkaedkifaoaaG31SetExact
import Derived.Test.YtajlkaedkifaoaaG35SetExact
import Derived.Test.YtajlkaedkifaoaaG13SetExact
namespace Go.Proofs.Ytajlkaedkifaoaa
open Go.RowKit Go.Lib
set_option linter.unusedVariables false

theorem below_drewN {B : Nat} {a w : World} (h : Below B a w) (n : Nat) : Below B a (w.drewN n) := ⟨h.os, h.tape, h.output, h.size, h.block⟩

theorem two_cells_new (w : World) (u v : Value) (t : TypeId) : (w.alloc (.cells #[u, v] t)).cell? ⟨w.heap.size, 0, none⟩ = some u ∧ (w.alloc (.cells #[u, v] t)).cell? ⟨w.heap.size, 1, none⟩ = some v := by
  have hb : (w.alloc (.cells #[u, v] t)).heap[w.heap.size]? = some (.cells #[u, v] t (0, 0)) := by
    show (w.heap.push _)[w.heap.size]? = _
    simp
  constructor <;> (unfold World.cell?; rw [hb]; rfl)

set_option maxHeartbeats 400000 in
theorem isWeight_any (n : Int) (w : World) :
    Calls Try.prog 50 #[.int .i64 n] w fun e w' => e = .returned (.bool (isW n)) ∧ w' = w := by
  by_cases h : -72057594037927936 ≤ n
  · have hd : decide (-72057594037927936 ≤ n) = true := decide_eq_true h
    go_enter Try.func50, Try.ntmps50
    go_wp2
    go_ret
    exact ⟨by simp [isW, h], rfl⟩
  · have hd : decide (-72057594037927936 ≤ n) = false := decide_eq_false h
    go_enter Try.func50, Try.ntmps50
    go_wp2
    go_ret
    exact ⟨by simp [isW]; omega, rfl⟩

theorem mask28 (n : Int) : bits BinOp.and IntKind.i64 n 268435455 = n % 268435456 := by
  have hk : (BitVec.ofInt 64 (268435455 : Int)).toNat = 2 ^ 28 - 1 := by rfl
  have key : (BitVec.ofInt 64 n &&& BitVec.ofInt 64 (268435455 : Int)).toNat = (n % ((2 ^ 64 : Nat) : Int)).toNat % 2 ^ 28 := by
    rw [BitVec.toNat_and, BitVec.toNat_ofInt, hk, Nat.and_two_pow_sub_one_eq_mod]
  show IntKind.i64.wrap ((BitVec.ofInt 64 n &&& BitVec.ofInt 64 (268435455 : Int)).toNat : Nat) = _
  rw [key, IntKind.wrap_i64]
  omega

theorem wrap_in {n : Int} (h : -9223372036854775808 ≤ n ∧ n ≤ 9223372036854775807) : wrap64 n = n := IntWalk.wrap64_in _ ⟨by omega, by omega⟩

set_option maxHeartbeats 400000 in
theorem sumWith_any (h l wt : Int) (w : World) (h1 : -1125899906842624 ≤ h ∧ h ≤ 1125899906842624) (h2 : 0 ≤ l ∧ l ≤ 1152921504606846976) (h3 : In64 wt) :
    Calls Try.prog 51 #[.agg #[.int .i64 h, .int .i64 l], .int .i64 wt] w fun e w' => e = .returned (.agg #[.int .i64 (h + wt / 268435456), .int .i64 (l + wt % 268435456)]) ∧ Below w.heap.size w w' := by
  unfold In64 at h3
  have e2 : wrap64 (l + bits BinOp.and IntKind.i64 wt 268435455) = l + wt % 268435456 := by rw [mask28]; exact wrap_in (by omega)
  go_enter Try.func51, Try.ntmps51
  go_wp2
  exact bodyPost_ret (v := .agg #[.int .i64 (h + wt / 268435456), .int .i64 (l + wt % 268435456)]) (by simp [results, Try.results51, go_sem, e2]) rfl ⟨rfl, below_two _ _ _⟩

/-- What a sum in two parts is as a weight. -/
def wtZ (v : Int) : Int := if isW v = true then v else 0

set_option maxHeartbeats 400000 in
theorem sumWeight_any (h l : Int) (w : World) (h1 : -1125899906842624 ≤ h ∧ h ≤ 1125899906842624) (h2 : 0 ≤ l ∧ l ≤ 1152921504606846976) :
    Calls Try.prog 52 #[.agg #[.int .i64 h, .int .i64 l]] w fun e w' => e = .returned (.tuple #[.int .i64 (wtZ (h * 268435456 + l)), .bool (isW (h * 268435456 + l))]) ∧ Below w.heap.size w w' := by
  have e2 := mask28 l
  have hc := isW_iff (n := h * 268435456 + l)
  have hv : h * 268435456 + l = (h + l / 268435456) * 268435456 + l % 268435456 := by omega
  rcases Int.lt_or_le (h + l / 268435456) (-268435456) with b1 | b1
  · have hno : isW (h * 268435456 + l) = false := by
      cases hw : isW (h * 268435456 + l) with
      | false => rfl
      | true => have := hc.1 hw; omega
    have hz : wtZ (h * 268435456 + l) = 0 := by unfold wtZ; rw [hno]; rfl
    rw [hz, hno]
    clear hz hno hc hv
    go_enter Try.func52, Try.ntmps52
    go_wp2
    go_quiet (fail)
    go_wp2
    go_ret2
    exact ⟨rfl, below_drewN (alloc_below _ _) _⟩
  rcases Int.lt_or_le 268435456 (h + l / 268435456) with b2 | b2
  · have hno : isW (h * 268435456 + l) = false := by
      cases hw : isW (h * 268435456 + l) with
      | false => rfl
      | true => have := hc.1 hw; omega
    have hz : wtZ (h * 268435456 + l) = 0 := by unfold wtZ; rw [hno]; rfl
    rw [hz, hno]
    clear hz hno hc hv
    go_enter Try.func52, Try.ntmps52
    go_wp2
    go_quiet (fail)
    go_wp2
    go_ret2
    exact ⟨rfl, below_drewN (alloc_below _ _) _⟩
  obtain ⟨H, hH⟩ : ∃ H, h + l / 268435456 = H := ⟨_, rfl⟩
  obtain ⟨L, hL⟩ : ∃ L, l % 268435456 = L := ⟨_, rfl⟩
  have hL2 : 0 ≤ L ∧ L ≤ 268435455 := by omega
  rw [hH, hL] at hv
  rw [hH] at b1 b2
  rw [hL] at e2
  have C := isWeight_any (H * 268435456 + L)
  rw [hv]
  obtain ⟨q, hq⟩ : ∃ q, isW (H * 268435456 + L) = q := ⟨_, rfl⟩
  have hz : wtZ (H * 268435456 + L) = if q = true then H * 268435456 + L else 0 := by unfold wtZ; rw [hq]
  rw [hz, hq]
  rw [hq] at C
  clear hq hc hv hz hL
  have HH : Hid (h + l / 268435456 = H) := hH
  have HB : Hid (∀ n, Below w.heap.size w ((w.alloc (.cells #[.int .i64 h, .int .i64 l] 71)).drewN n)) := fun n => below_drewN (alloc_below _ _) n
  cases q with
  | true =>
    go_enter Try.func52, Try.ntmps52
    go_wp2
    go_quiet (fail)
    go_wp2_with fail
    refine (C _).mono ?_
    rintro e w1 ⟨rfl, hw⟩
    subst hw
    go_wp2
    go_ret2
    exact ⟨by simp, HB.out _⟩
  | false =>
    go_enter Try.func52, Try.ntmps52
    go_wp2
    go_quiet (fail)
    go_wp2_with fail
    refine (C _).mono ?_
    rintro e w1 ⟨rfl, hw⟩
    subst hw
    go_wp2
    go_ret2
    exact ⟨by simp, HB.out _⟩

set_option maxHeartbeats 400000 in
theorem zRight_any {E : Nat → Prop} (c : List Value) (x : PI) (w : World) (h : LiesZ E w c x) :
    Calls Try.prog 32 #[.agg c.toArray] w fun e w' => e = .returned (.bool (okI x)) ∧ Below w.heap.size w w' := by
  obtain ⟨a, cap, rfl, h1, h2, h3, h4, h5, -⟩ := h
  have B := alloc_below w (.cells #[.slice a x.row.length cap, .int .i64 x.wt] 40)
  have C := rowCheck a x.row.length cap x.row (w.alloc (.cells #[.slice a x.row.length cap, .int .i64 x.wt] 40)) rfl h2 (h1.later B)
  have HB : Hid (Below w.heap.size w (w.alloc (.cells #[.slice a x.row.length cap, .int .i64 x.wt] 40))) := B
  have hk : okI x = (decide (chkR x.row = 0) && isW x.wt) := rfl
  rw [hk]
  have D := isWeight_any x.wt
  generalize isW x.wt = q2 at *
  clear h1 h2 h3 h4 h5 B hk
  generalize x.wt = p at *
  generalize x.row.length = n at *
  by_cases h0 : chkR x.row = 0
  · rw [h0] at C ⊢
    go_enter Try.func32, Try.ntmps32
    go_wp2_with fail
    refine C.mono ?_
    rintro e w1 ⟨rfl, hb⟩
    have HB1 : Hid (Below w.heap.size w w1) := chain HB.out hb
    have k1 := cell_later hb (show (w.alloc (.cells #[.slice a n cap, .int .i64 p] 40)).cell? ⟨w.heap.size, 1, none⟩ = some (.int .i64 p) from (two_cells_new w _ _ _).2)
    clear C hb
    go_wp2_with fail
    refine (D _).mono ?_
    rintro e w2 ⟨rfl, hw⟩
    subst hw
    go_wp2
    go_ret
    exact ⟨by simp, HB1.out⟩
  · have hd : decide (chkR x.row = 0) = false := decide_eq_false h0
    rw [hd, Bool.false_and]
    generalize chkR x.row = r at *
    have hb0 : (r == 0) = false := by simpa using h0
    have hb1 : (r = 0) = False := eq_false h0
    clear h0 hd
    go_enter Try.func32, Try.ntmps32
    go_wp2_with fail
    refine C.mono ?_
    rintro e w1 ⟨rfl, hb⟩
    have HB1 : Hid (Below w.heap.size w w1) := chain HB.out hb
    clear C hb
    go_wp2
    go_ret
    exact ⟨by simp, HB1.out⟩

end Go.Proofs.Ytajlkaedkifaoaa
