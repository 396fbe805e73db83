/-
  Texts of the proof of SetMakes, one behind the other.
-/
import Derived.Test.YtajlkaedkifaoaaRows
import Derived.Test.YtajlkaedkifaoaaG48SetMakes
import Derived.Test.YtajlkaedkifaoaaG33SetMakes
import Derived.Test.YtajlkaedkifaoaaG46SetMakes
import Derived.Deep.CutRange
import Derived.Deep.CutBlock
namespace Go.Proofs.Ytajlkaedkifaoaa
open Go.RowKit Go.Lib
set_option linter.unusedVariables false

theorem SetAt.of_shared {w : World} {B : Nat} {a : Option Addr} {n cap : Nat} {Z : List (List Value × PI)} {R : List PI} (h : SharedZ w B (.slice a n cap) Z) (hZ : Z.map (·.2) = R) : SetAt w a n cap R := by
  obtain ⟨a5, c5, e, hc, hr, hn⟩ := h.form
  simp only [Value.slice.injEq] at e
  obtain ⟨rfl, rfl, rfl⟩ := e
  subst hZ
  exact ⟨by simp, hc, hr, fun h => ⟨by rw [(hn h).1]; rfl, (hn h).2⟩⟩

theorem keep3M {W w w' : World} {b0 b1 o0 o1 : Nat} {x0 x1 : Value} (hb : Below w.heap.size w w') (h : w.cell? ⟨b0, o0, none⟩ = some x0 ∧ w.cell? ⟨b1, o1, none⟩ = some x1 ∧ Hid (Below W.heap.size W w)) :
    w'.cell? ⟨b0, o0, none⟩ = some x0 ∧ w'.cell? ⟨b1, o1, none⟩ = some x1 ∧ Hid (Below W.heap.size W w') := ⟨cell_later hb h.1, cell_later hb h.2.1, chain h.2.2.out hb⟩

/-- What SetMakes' Items make. -/
structure Fives (I R : List PI) : Prop where
  make : makeZ I = (R, 0)
  rise : riseZ R = true
  sums : ∀ x, sumZ R x = sumZ I x
  len : R.length ≤ 100
  ilen : I.length ≤ 100
  wts : ∀ x ∈ I, chkR x.row = 0 ∧ -4 ≤ x.wt ∧ x.wt ≤ 4

theorem Fives.part {I R : List PI} (h : Fives I R) (k : Nat) (x : PI) : -400 ≤ sumZ (I.take k) x ∧ sumZ (I.take k) x ≤ 400 := by
  have hb := bnd_items (B := 4) (by omega) (X := I.take k) (fun y hy => (h.wts y (List.mem_of_mem_take hy)).2) x
  have := h.ilen
  have : (I.take k).length ≤ 100 := by rw [List.length_take]; omega
  omega

set_option maxRecDepth 100000 in
set_option maxHeartbeats 4000000 in
theorem makes_heavy (a c : Option Addr) (n m cap dap : Nat) (X : List PI) (tt : Int) (w : World) (hn : X.length = n) (n1 : n ≤ 9223372036854775807) (hX : RdJ w a X) (hh : heavyI X = true) :
    Calls Try.prog 5 #[.slice a n cap, .int .i64 tt, .slice c m dap] w fun e w' => e = .returned (.bool true) ∧ Below w.heap.size w w' := by
  have C1 := heavyZ_any _ _ 1 1 _ _ rfl (by omega) (lone_items w a n cap X hn n1 hX)
  simp only [List.any_cons, List.any_nil, Bool.or_false] at C1
  have HB1 : Hid (Below w.heap.size w (w.alloc (.cells #[.slice a n cap] 22))) := alloc_below _ _
  rw [hh] at C1
  clear hX hn hh
  go_enter Try.func5, Try.ntmps5
  go_wp2_with fail
  refine C1.mono ?_
  rintro e w1 ⟨rfl, hw⟩
  subst hw
  clear C1
  go_wp2
  go_ret
  exact ⟨by simp, HB1.out⟩

set_option maxRecDepth 100000 in
set_option maxHeartbeats 4000000 in
theorem makes_many (a c : Option Addr) (n m cap dap : Nat) (X : List PI) (tt : Int) (w : World) (hn : X.length = n) (n1 : n ≤ 9223372036854775807) (hX : RdJ w a X) (hh : heavyI X = false) (hm : 100 < m) :
    Calls Try.prog 5 #[.slice a n cap, .int .i64 tt, .slice c m dap] w fun e w' => e = .returned (.bool true) ∧ Below w.heap.size w w' := by
  have C1 := heavyZ_any _ _ 1 1 _ _ rfl (by omega) (lone_items w a n cap X hn n1 hX)
  simp only [List.any_cons, List.any_nil, Bool.or_false] at C1
  have HB1 : Hid (Below w.heap.size w (w.alloc (.cells #[.slice a n cap] 22))) := alloc_below _ _
  rw [hh] at C1
  clear hX hn hh
  have d1 : decide (100 < (m : Int)) = true := decide_eq_true (by omega)
  go_enter Try.func5, Try.ntmps5
  go_wp2_with fail
  refine C1.mono ?_
  rintro e w1 ⟨rfl, hw⟩
  subst hw
  clear C1
  go_wp2
  go_ret
  exact ⟨by simp, HB1.out⟩

set_option maxRecDepth 100000 in
set_option maxHeartbeats 16000000 in
theorem makes_light (a c : Option Addr) (n m cap dap : Nat) (X : List PI) (L : List (List PV)) (tt : Int) (w : World) (hn : X.length = n) (n1 : n ≤ 9223372036854775807) (hX : RdJ w a X) (hm : L.length = m) (hL : RdW w c L) (hh : heavyI X = false) (hm100 : m ≤ 100) :
    Calls Try.prog 5 #[.slice a n cap, .int .i64 tt, .slice c m dap] w fun e w' => e = .returned (.bool true) ∧ Below w.heap.size w w' := by
  have C1 := heavyZ_any _ _ 1 1 _ _ rfl (by omega) (lone_items w a n cap X hn n1 hX)
  simp only [List.any_cons, List.any_nil, Bool.or_false] at C1
  have HB1 : Hid (Below w.heap.size w (w.alloc (.cells #[.slice a n cap] 22))) := alloc_below _ _
  rw [hh] at C1
  obtain ⟨hx3, hx4⟩ := heavyI_small hh
  have HXR : Hid (RdZ w a X) := hX.rdZ fun x hx => by have := hx4 x hx; omega
  have HN : Hid (X.length = n) := hn
  have hn3 : n ≤ 300 := by omega
  have HM : Hid (L.length = m) := hm
  have HL : Hid (RdW w c L) := hL
  clear hX hn hh hm hL hx3 hx4
  obtain ⟨R, f1, f2, f3, f4⟩ := five_make X
  have HF : Hid (Fives (fiveL X 100) R) := ⟨f1, f2, f3, f4, five_len X, five_in⟩
  clear f1 f2 f3 f4
  have d1 : decide (100 < (m : Int)) = false := decide_eq_false (by omega)
  go_enter Try.func5, Try.ntmps5
  go_wp2_with fail
  refine C1.mono ?_
  rintro e w1 ⟨rfl, hw⟩
  subst hw
  clear C1
  have HW1 : Hid (Below w.heap.size w (w.alloc (.cells #[.slice a n cap] 22))) := HB1
  generalize hw1 : (w.alloc (.cells #[.slice a n cap] 22)) = w1 at *
  clear hw1 HW1
  go_upto_block 0 with fail
  go_cut [7, 9] from 33 to 64 (fun s7 s9 wx => ∃ (n1 k9 : Nat) (ao : Option Addr) (co : Nat), s7 = .slice ao n1 co ∧ s9 = .int .i64 k9 ∧ Hid (SetAt wx ao n1 co (fiveL X 100)) ∧ Hid (Below w.heap.size w wx))
  case first =>
   as_aux_lemma =>
    go_wp2
    go_loopw [7, 9] (fun v i wr => ∃ (k : Nat) (Z : List (List Value × PI)) (ao : Option Addr) (co : Nat), k ≤ n ∧ k ≤ 100 ∧ v = .slice ao Z.length co ∧ i = .int .i64 k ∧ Hid (Z.map (·.2) = fiveL X k) ∧ Hid (SharedZ wr w.heap.size (.slice ao Z.length co) Z) ∧ Hid (Below w.heap.size w wr) ∧ Z.length ≤ k) (fun _ i _ => n - (RowKit.intOf i).toNat)
    case atStart => exact ⟨0, [], none, 0, Nat.zero_le _, by omega, rfl, rfl, rfl, ⟨OwnK.nought _ _ _ _, fun z hz => by cases hz⟩, HB1, Nat.le_refl _⟩
    case round =>
      clear HB1
      obtain ⟨k, Z, ao, co, hk, h60, rfl, rfl, hT, hO, hB, hZk⟩ := hrel
      by_cases hlt : k < n ∧ k < 100
      · have hkl : k < X.length := by rw [HN.out]; exact hlt.1
        have l1 : decide ((k : Int) < (n : Int)) = true := decide_eq_true (by omega)
        have l2 : decide ((k : Int) < 100) = true := decide_eq_true (by omega)
        obtain ⟨b, off, ra, rc, rfl, x0, x1, hz⟩ := HXR.out.at_ hkl
        have hzs : LiesZ (fun b => w.heap.size ≤ b) w [.slice ra X[k].row.length rc, .int .i64 X[k].wt] X[k] := (hz.now).less fun b hb => .inr hb
        have CR : Calls Try.prog 27 #[.slice ra X[k].row.length rc] wr fun e w' => e = .returned (.int .i64 (chkR X[k].row)) ∧ Below wr.heap.size wr w' := by
          obtain ⟨a1, c1, e1, r1, l1, -⟩ := hz.later hB.out
          cases e1
          exact rRow_any ra _ rc X[k].row wr rfl l1 r1
        have HY : Hid (chkR X[k].row = 0 → fiveL X (k + 1) = fiveL X k ++ [⟨X[k].row, X[k].wt.tmod 5⟩]) := fun h => five_yes hkl h
        have HNO : Hid (chkR X[k].row ≠ 0 → fiveL X (k + 1) = fiveL X k) := fun h => five_no hkl h
        have HZS : Hid (LiesZ (fun b => w.heap.size ≤ b) w [.slice ra X[k].row.length rc, .int .i64 (X[k].wt.tmod 5)] ⟨X[k].row, X[k].wt.tmod 5⟩) := hzs.five
        have hbl : b < w.heap.size := cellZ_lt x0
        have X0 := cell_later hB.out x0
        have X1 := cell_later hB.out x1
        clear hz hzs x0 x1
        generalize chkR X[k].row = c at *
        generalize hrow : X[k].row = row at *
        generalize X[k].wt = p at *
        generalize hrn : row.length = rn at *
        clear hrow hkl
        by_cases hc : c = 0
        · subst hc
          have HT2 : Hid _ := HY.out rfl
          clear HY HNO
          go_wp2_with fail
          refine CR.mono ?_
          rintro e w5 ⟨rfl, hb1⟩
          have Y0 := cell_later hb1 X0
          have Y1 := cell_later hb1 X1
          have HBD : Below wr.heap.size wr w5.drew := hb1.drew
          have hO1 := hO.out.later HBD
          have hB1 : Below w.heap.size w w5.drew := chain hB.out HBD
          obtain ⟨zn, hzn⟩ : ∃ z : List Value × PI, z = ([.slice ra rn rc, .int .i64 (p.tmod 5)], ⟨row, p.tmod 5⟩) := ⟨_, rfl⟩
          obtain ⟨a', c', w6, hrun, hO6, hb6⟩ := shared_one (w := w5.drew) 22 (z := zn) hO1 rfl (by omega) (by rw [hzn]) (by rw [hzn]; exact HZS.out.later hB1) hB1.size
          have HL5 : Hid ((Z ++ [zn]).length = Z.length + 1) := by show _ = _; simp
          have HO5 : Hid (SharedZ w6 w.heap.size (.slice a' (Z ++ [zn]).length c') (Z ++ [zn])) := by
            show SharedZ _ _ _ _
            rw [HL5.out]
            exact hO6
          have HT5 : Hid ((Z ++ [zn]).map (·.2) = fiveL X (k + 1)) := by
            show _ = _
            rw [HT2.out, List.map_append, hT.out, hzn]
            rfl
          have HB5 : Hid (Below w.heap.size w w6) := hB1.trans hb6
          have HS4 : w5.drew.cell? ⟨b, off + k * 2, none⟩ = some (.slice ra rn rc) ∧ w5.drew.cell? ⟨b, off + k * 2 + 1, none⟩ = some (.int .i64 p) ∧ b < w.heap.size ∧ Hid (Below w.heap.size w w5.drew) := ⟨Y0, Y1, hbl, hB1⟩
          clear HT2 hT hO1 hB1 hO6 HBD hb1 CR X0 X1 Y0 Y1 hO hB HZS hrn hzn hbl
          go_upto_region 8 with fail
          refine wp_region_held_drew (S := (fun w' => w'.cell? ⟨b, off + k * 2, none⟩ = some (.slice ra rn rc) ∧ w'.cell? ⟨b, off + k * 2 + 1, none⟩ = some (.int .i64 p) ∧ b < w.heap.size ∧ Hid (Below w.heap.size w w'))) (by kernel_rfl) HS4 (fun hHeld => ?_)
          refine heldTake (v := ?_) 0 50 rfl rfl (by kernel_rfl) (by kernel_rfl) (by kernel_rfl) (fun _ _ _ h => h) (by rfl) (fun w hSw => ?_) (by assumption) ?_
          rotate_left
          · (try dsimp only at hSw); first | (go_simp; done) | (go_simp; with_reducible rfl)
          simp only [List.setIfInBounds_toArray, List.set_cons_zero, List.set_cons_succ]
          refine heldTake (v := ?_) 1 51 rfl rfl (by kernel_rfl) (by kernel_rfl) (by kernel_rfl) (fun _ _ _ h => h) (by rfl) (fun w hSw => ?_) (by assumption) ?_
          rotate_left
          · (try dsimp only at hSw); first | (go_simp; done) | (go_simp; with_reducible rfl)
          simp only [List.setIfInBounds_toArray, List.set_cons_zero, List.set_cons_succ]
          refine heldTake (v := ?_) 2 52 rfl rfl (by kernel_rfl) (by kernel_rfl) (by kernel_rfl) (fun _ _ _ h => h) (by rfl) (fun w hSw => ?_) (by assumption) ?_
          rotate_left
          · (try dsimp only at hSw); first | (go_simp; done) | (go_simp; with_reducible rfl)
          simp only [List.setIfInBounds_toArray, List.set_cons_zero, List.set_cons_succ]
          refine heldTake (v := ?_) 3 53 rfl rfl (by kernel_rfl) (by kernel_rfl) (by kernel_rfl) (fun _ _ _ h => h) (by rfl) (fun w hSw => ?_) (by assumption) ?_
          rotate_left
          · (try dsimp only at hSw); first | (go_simp; done) | (go_simp; with_reducible rfl)
          simp only [List.setIfInBounds_toArray, List.set_cons_zero, List.set_cons_succ]
          refine heldTake (v := ?_) 4 54 rfl rfl (by kernel_rfl) (by kernel_rfl) (by kernel_rfl) (fun _ _ _ h => h) (by rfl) (fun w hSw => ?_) (by assumption) ?_
          rotate_left
          · (try dsimp only at hSw); first | (go_simp; done) | (go_simp; with_reducible rfl)
          simp only [List.setIfInBounds_toArray, List.set_cons_zero, List.set_cons_succ]
          refine heldTake (v := ?_) 5 55 rfl rfl (by kernel_rfl) (by kernel_rfl) (by kernel_rfl) (fun _ _ _ h => h) (by rfl) (fun w hSw => ?_) (by assumption) ?_
          rotate_left
          · (try dsimp only at hSw); first | (go_simp; done) | (go_simp; with_reducible rfl)
          simp only [List.setIfInBounds_toArray, List.set_cons_zero, List.set_cons_succ]
          refine heldTake (v := ?_) 6 56 rfl rfl (by kernel_rfl) (by kernel_rfl) (by kernel_rfl) (fun _ _ _ h => h) (by rfl) (fun w hSw => ?_) (by assumption) ?_
          rotate_left
          · (try dsimp only at hSw); first | (go_simp; done) | (go_simp; with_reducible rfl)
          simp only [List.setIfInBounds_toArray, List.set_cons_zero, List.set_cons_succ]
          refine heldTake (v := ?_) 7 57 rfl rfl (by kernel_rfl) (by kernel_rfl) (by kernel_rfl) (fun _ _ _ h => h) (by rfl) (fun w hSw => ?_) (by assumption) ?_
          rotate_left
          · (try dsimp only at hSw); first | (go_simp; done) | (go_simp; with_reducible rfl)
          simp only [List.setIfInBounds_toArray, List.set_cons_zero, List.set_cons_succ]
          refine heldTake (v := ?_) 8 58 rfl rfl (by kernel_rfl) (by kernel_rfl) (by kernel_rfl) (fun _ _ _ h => h) (by rfl) (fun w hSw => ?_) (by assumption) ?_
          rotate_left
          · (try dsimp only at hSw); first | (go_simp; done) | (go_simp; with_reducible rfl)
          simp only [List.setIfInBounds_toArray, List.set_cons_zero, List.set_cons_succ]
          refine heldTake (v := ?_) 9 59 rfl rfl (by kernel_rfl) (by kernel_rfl) (by kernel_rfl) (fun _ _ _ h => h) (by rfl) (fun w hSw => ?_) (by assumption) ?_
          rotate_left
          · (try dsimp only at hSw); first | (go_simp; done) | (go_simp; with_reducible rfl)
          simp only [List.setIfInBounds_toArray, List.set_cons_zero, List.set_cons_succ]
          refine heldTake (v := ?_) 10 60 rfl rfl (by kernel_rfl) (by kernel_rfl) (by kernel_rfl) (fun _ _ _ h => h) (by rfl) (fun w hSw => ?_) (by assumption) ?_
          rotate_left
          · (try dsimp only at hSw); first | (go_simp; done) | (go_simp; with_reducible rfl)
          simp only [List.setIfInBounds_toArray, List.set_cons_zero, List.set_cons_succ]
          refine heldTake (v := ?_) 11 61 rfl rfl (by kernel_rfl) (by kernel_rfl) (by kernel_rfl) (fun _ _ _ h => h) (by rfl) (fun w hSw => ?_) (by assumption) ?_
          rotate_left
          · (try dsimp only at hSw); first | (go_simp; done) | (go_simp; with_reducible rfl)
          simp only [List.setIfInBounds_toArray, List.set_cons_zero, List.set_cons_succ]
          refine heldTake (v := ?_) 12 62 rfl rfl (by kernel_rfl) (by kernel_rfl) (by kernel_rfl) (fun _ _ _ h => h) (by rfl) (fun w hSw => ?_) (by assumption) ?_
          rotate_left
          · (try dsimp only at hSw); first | (go_simp; done) | (go_simp; with_reducible rfl)
          simp only [List.setIfInBounds_toArray, List.set_cons_zero, List.set_cons_succ]
          refine heldOne 13 rfl (by kernel_rfl) (by rfl) (fun K2 hK => ?_)
          go_simp
          refine hK.out _ _ ?_ (fun hHeld => ?_)
          · exact keep2B ((Below.refl _ _).alloc hHeld.2.2.2.out.size _) (by assumption)
          clear hK K2
          try simp only [List.setIfInBounds_toArray, List.set_cons_zero, List.set_cons_succ]
          refine heldOne 14 rfl (by kernel_rfl) (by rfl) (fun K2 hK => ?_)
          refine wp_append_z _ _ 22 22 rfl _ _ _ _ rfl rfl hrun ?_
          go_simp
          refine hK.out _ _ ?_ (fun hHeld => ?_)
          · exact keep2B hb6 HS4
          clear hK K2
          try simp only [List.setIfInBounds_toArray, List.set_cons_zero, List.set_cons_succ]
          refine heldTake (v := ?_) 15 7 rfl rfl (by kernel_rfl) (by kernel_rfl) (by kernel_rfl) (fun _ _ _ h => h) (by rfl) (fun w hSw => ?_) (by assumption) ?_
          rotate_left
          · (try dsimp only at hSw); first | (go_simp; done) | (go_simp; with_reducible rfl)
          simp only [List.setIfInBounds_toArray, List.set_cons_zero, List.set_cons_succ]
          refine wpAnyH_done (by kernel_rfl) ?_ _
          clear hrun HS4 hb6 hHeld
          go_wp2
          go_roundw
          case rel => exact ⟨k + 1, Z ++ [zn], a', c', by omega, by omega, by rw [HL5.out], by go_num, HT5.out, HO5.out, HB5.out, by rw [HL5.out]; omega⟩
          case measure => simp [RowKit.intOf]; omega
        · have HT2 : Hid _ := HNO.out hc
          have c1' : (c == 0) = false := by simpa using hc
          have c2' : (c = 0) = False := eq_false hc
          have HT5 : Hid (Z.map (·.2) = fiveL X (k + 1)) := by show _ = _; rw [HT2.out]; exact hT.out
          clear HY HNO HT2 hT hc HZS hrn X1 hbl
          go_wp2_with fail
          refine CR.mono ?_
          rintro e w5 ⟨rfl, hb1⟩
          have HO5 : Hid (SharedZ w5 w.heap.size (.slice ao Z.length co) Z) := hO.out.later hb1
          have HB5 : Hid (Below w.heap.size w w5) := chain hB.out hb1
          clear CR hb1 hO hB X0
          go_wp2
          go_roundw
          case rel => exact ⟨k + 1, Z, ao, co, by omega, by omega, rfl, by go_num, HT5.out, HO5.out, HB5.out, by omega⟩
          case measure => simp [RowKit.intOf]; omega
      · have he : fiveL X k = fiveL X 100 := by
          rcases Nat.lt_or_ge k n with h | h
          · have : k = 100 := by omega
            rw [this]
          · exact five_end (by rw [HN.out]; exact h) h60
        have HFIN : Hid (SetAt wr ao Z.length co (fiveL X 100)) := SetAt.of_shared hO.out (by rw [hT.out, he])
        have ll : (k < n ∧ ¬ k < 100) ∨ ¬ k < n := by omega
        clear hT he hO hlt
        generalize Z.length = zl at *
        rcases ll with ⟨m1, m2⟩ | m1
        · have l1 : decide ((k : Int) < (n : Int)) = true := decide_eq_true (by omega)
          have l2 : decide ((k : Int) < 100) = false := decide_eq_false (by omega)
          go_wp2
          go_meet
          exact ⟨zl, k, ao, co, rfl, rfl, HFIN, hB⟩
        · have l1 : decide ((k : Int) < (n : Int)) = false := decide_eq_false (by omega)
          go_wp2
          go_meet
          exact ⟨zl, k, ao, co, rfl, rfl, HFIN, hB⟩
  case rest =>
   as_aux_lemma =>
    obtain ⟨n1, k9, ao, co, rfl, rfl, HI, HB2⟩ := hcut
    rename World => w2
    clear HXR HN HB1
    generalize fiveL X 100 = I at *
    have nI : n1 ≤ 100 := by rw [← HI.out.len]; exact HF.out.ilen
    obtain ⟨t, ht⟩ : ∃ t : Nat, n1 = 0 ∨ (t < n1 ∧ (IntKind.u64.wrap tt).tmod (n1 : Int) = (t : Int)) := by
      rcases Nat.eq_zero_or_pos n1 with h | h
      · exact ⟨0, .inl h⟩
      · obtain ⟨j, hj, e1⟩ := modAtZ tt n1 h (by omega)
        exact ⟨j, .inr ⟨hj, e1⟩⟩
    have HT : Hid (n1 = 0 ∨ (t < n1 ∧ (IntKind.u64.wrap tt).tmod (n1 : Int) = (t : Int))) := ht
    clear ht
    go_upto_block 2 with fail
    go_cut [8, 10] from 65 to 88 (fun s8 s10 wx => ∃ (n2 k10 : Nat) (ab : Option Addr) (cb : Nat), s8 = .slice ab n2 cb ∧ s10 = .int .i64 k10 ∧ Hid (SetAt wx ab n2 cb (rotZ I t)) ∧ Hid (Below w2.heap.size w2 wx))
    case first =>
     as_aux_lemma =>
      go_wp2
      go_loopw [8, 10] (fun v i wr => ∃ (k : Nat) (Z : List (List Value × PI)) (ab : Option Addr) (cb : Nat), k ≤ n1 ∧ v = .slice ab k cb ∧ i = .int .i64 k ∧ Hid (Z.length = k) ∧ Hid (Z.map (·.2) = (rotZ I t).take k) ∧ Hid (SharedZ wr w2.heap.size (.slice ab k cb) Z) ∧ Hid (Below w2.heap.size w2 wr)) (fun _ i _ => n1 - (RowKit.intOf i).toNat)
      case atStart => exact ⟨0, [], none, 0, Nat.zero_le _, rfl, rfl, rfl, rfl, ⟨OwnK.nought _ _ _ _, fun z hz => by cases hz⟩, Below.refl _ _⟩
      case round =>
        obtain ⟨k, Z, ab, cb, hk, rfl, rfl, hZl, hZm, hO, hB⟩ := hrel
        by_cases hlt : k < n1
        · obtain ⟨ht1, et⟩ : t < n1 ∧ (IntKind.u64.wrap tt).tmod (n1 : Int) = (t : Int) := by
            rcases HT.out with h | h
            · omega
            · exact h
          obtain ⟨q, hq⟩ : ∃ q, (k + t) % n1 = q := ⟨_, rfl⟩
          have hqn : q < n1 := by rw [← hq]; exact Nat.mod_lt _ (by omega)
          have hqI : q < I.length := by rw [HI.out.len]; exact hqn
          have HR2 : Hid ((rotZ I t).take (k + 1) = (rotZ I t).take k ++ [I[q]]) := by
            show _ = _
            have e := rot_take (l := I) (t := t) (k := k) (by rw [HI.out.len]; exact ht1) (by rw [HI.out.len]; exact hlt) (Nat.mod_lt _ (by rw [HI.out.len]; omega))
            rw [e]
            congr 2
            simp only [HI.out.len, hq]
          have em : ((k : Int) + (t : Int)).tmod (n1 : Int) = (q : Int) := by rw [turn_mod (by omega), hq]
          obtain ⟨b, off, ra, rc, rfl, x0, x1, hz⟩ := HI.out.rd.at_ hqI
          have hzs : LiesZ (fun b => w2.heap.size ≤ b) wr [.slice ra I[q].row.length rc, .int .i64 I[q].wt] I[q] := ((hz.now).less fun b hb => .inr hb).later hB.out
          have X0 := cell_later hB.out x0
          have X1 := cell_later hB.out x1
          obtain ⟨a', c', w6, hrun, hO6, hb6⟩ := shared_one (w := wr) 22 (z := ([.slice ra I[q].row.length rc, .int .i64 I[q].wt], I[q])) hO.out hZl.out (by omega) rfl hzs hB.out.size
          have HO6 : Hid _ := hO6
          have HZ6 : Hid ((Z ++ [(([.slice ra I[q].row.length rc, .int .i64 I[q].wt] : List Value), I[q])]).length = k + 1) := by show _ = _; rw [List.length_append, hZl.out]; rfl
          have HM6 : Hid ((Z ++ [(([.slice ra I[q].row.length rc, .int .i64 I[q].wt] : List Value), I[q])]).map (·.2) = (rotZ I t).take (k + 1)) := by show _ = _; rw [List.map_append, hZm.out, HR2.out]; rfl
          have HB6 : Hid (Below w2.heap.size w2 w6) := hB.out.trans hb6
          generalize I[q] = xq at *
          clear hz hzs x0 x1 hO6 hb6 hO hZl hZm HR2 hqI hB hq
          generalize xq.row.length = rn at *
          generalize xq.wt = p at *
          have HEM : Hid (((k : Int) + (t : Int)).tmod (n1 : Int) = (q : Int)) := em
          have HET : Hid ((IntKind.u64.wrap tt).tmod (n1 : Int) = (t : Int)) := et
          clear em et
          have wn : IntKind.u64.wrap (n1 : Int) = (n1 : Int) := by rw [IntKind.wrap_u64]; omega
          have hm1 : (n1 : Int) ≠ 0 := by omega
          have hm2 : ((n1 : Int) = 0) = False := eq_false hm1
          have ew1 : wrap64 (t : Int) = (t : Int) := wrap_in (by omega)
          have ew2 : wrap64 ((k : Int) + (t : Int)) = (k : Int) + (t : Int) := wrap_in (by omega)
          have ew3 : wrap64 (q : Int) = (q : Int) := wrap_in (by omega)
          have q0 : (0 : Int) ≤ (q : Int) := by omega
          have q1 : (q : Int) < (n1 : Int) := by omega
          have em := HEM.out
          have et := HET.out
          clear HEM HET
          go_wp2_with (at_builtin; refine wpList_append_run rfl _ _ 22 22 rfl _ _ _ _ rfl rfl hrun ?_)
          clear hrun
          go_roundw
          case rel => exact ⟨k + 1, _, a', c', by omega, rfl, by go_num, HZ6, HM6, HO6, HB6⟩
          case measure => simp [RowKit.intOf]; omega
        · obtain rfl : k = n1 := by omega
          have HFIN : Hid (SetAt wr ab k cb (rotZ I t)) := SetAt.of_shared hO.out (by rw [hZm.out, List.take_of_length_le (by rw [rot_len, HI.out.len]; exact Nat.le_refl _)])
          clear hO hZl hZm
          go_wp2
          go_meet
          exact ⟨k, k, ab, cb, rfl, rfl, HFIN, hB⟩
    case rest =>
     as_aux_lemma =>
      obtain ⟨n2, k10, ab, cb, rfl, rfl, HO, hB3⟩ := hcut
      rename World => w3
      replace HI : Hid (SetAt w3 ao n1 co I) := HI.out.later hB3.out
      replace HB2 : Hid (Below w.heap.size w w3) := chain HB2.out hB3.out
      have n2I : n2 ≤ 100 := by rw [← HO.out.len, rot_len]; exact HF.out.ilen
      have HMO : Hid (makeZ (rotZ I t) = (R, 0)) := by show _ = _; rw [make_perm (rot_perm I t)]; exact HF.out.make
      clear hB3 HT
      go_wp2_with fail
      refine (make_c HI.out (by omega) HF.out.make).mono ?_
      rintro e w4 ⟨aZ, nZ, cZ, rfl, hS, hb⟩
      replace HI : Hid (SetAt w4 ao n1 co I) := HI.out.later hb
      replace HO : Hid (SetAt w4 ab n2 cb (rotZ I t)) := HO.out.later hb
      have HSZ : Hid (SetAt w4 aZ nZ cZ R) := hS
      replace HB2 : Hid (Below w.heap.size w w4) := chain HB2.out hb
      clear hS hb
      have nZb : nZ ≤ 100 := by rw [← HSZ.out.len]; exact HF.out.len
      go_wp2_with fail
      refine (make_c HO.out (by omega) HMO.out).mono ?_
      rintro e w5 ⟨aY, nY, cY, rfl, hS, hb⟩
      replace HI : Hid (SetAt w5 ao n1 co I) := HI.out.later hb
      replace HO : Hid (SetAt w5 ab n2 cb (rotZ I t)) := HO.out.later hb
      replace HSZ : Hid (SetAt w5 aZ nZ cZ R) := HSZ.out.later hb
      have HSY : Hid (SetAt w5 aY nY cY R) := hS
      replace HB2 : Hid (Below w.heap.size w w5) := chain HB2.out hb
      clear hS hb
      have nYb : nY ≤ 100 := by rw [← HSY.out.len]; exact HF.out.len
      go_wp2_with fail
      refine (make_c HSZ.out (by omega) (make_self HF.out.rise)).mono ?_
      rintro e w6 ⟨aX, nX, cX, rfl, hS, hb⟩
      replace HI : Hid (SetAt w6 ao n1 co I) := HI.out.later hb
      replace HO : Hid (SetAt w6 ab n2 cb (rotZ I t)) := HO.out.later hb
      replace HSZ : Hid (SetAt w6 aZ nZ cZ R) := HSZ.out.later hb
      replace HSY : Hid (SetAt w6 aY nY cY R) := HSY.out.later hb
      have HSX : Hid (SetAt w6 aX nX cX R) := hS
      replace HB2 : Hid (Below w.heap.size w w6) := chain HB2.out hb
      clear hS hb
      have nXb : nX ≤ 100 := by rw [← HSX.out.len]; exact HF.out.len
      go_wp2_with fail
      refine (same_c HSZ.out HSY.out (by omega) rfl).mono ?_
      rintro e w7 ⟨rfl, hb⟩
      replace HI : Hid (SetAt w7 ao n1 co I) := HI.out.later hb
      replace HO : Hid (SetAt w7 ab n2 cb (rotZ I t)) := HO.out.later hb
      replace HSZ : Hid (SetAt w7 aZ nZ cZ R) := HSZ.out.later hb
      replace HSY : Hid (SetAt w7 aY nY cY R) := HSY.out.later hb
      replace HSX : Hid (SetAt w7 aX nX cX R) := HSX.out.later hb
      replace HB2 : Hid (Below w.heap.size w w7) := chain HB2.out hb
      clear hb
      go_wp2_with fail
      refine (same_c HSX.out HSZ.out (by omega) rfl).mono ?_
      rintro e w8 ⟨rfl, hb⟩
      replace HI : Hid (SetAt w8 ao n1 co I) := HI.out.later hb
      replace HO : Hid (SetAt w8 ab n2 cb (rotZ I t)) := HO.out.later hb
      replace HSZ : Hid (SetAt w8 aZ nZ cZ R) := HSZ.out.later hb
      replace HSY : Hid (SetAt w8 aY nY cY R) := HSY.out.later hb
      replace HSX : Hid (SetAt w8 aX nX cX R) := HSX.out.later hb
      replace HB2 : Hid (Below w.heap.size w w8) := chain HB2.out hb
      clear hb
      go_wp2_with fail
      refine (check_c HSZ.out (by omega) HF.out.rise).mono ?_
      rintro e w9 ⟨rfl, hb⟩
      replace HI : Hid (SetAt w9 ao n1 co I) := HI.out.later hb
      replace HO : Hid (SetAt w9 ab n2 cb (rotZ I t)) := HO.out.later hb
      replace HSZ : Hid (SetAt w9 aZ nZ cZ R) := HSZ.out.later hb
      replace HSY : Hid (SetAt w9 aY nY cY R) := HSY.out.later hb
      replace HSX : Hid (SetAt w9 aX nX cX R) := HSX.out.later hb
      replace HB2 : Hid (Below w.heap.size w w9) := chain HB2.out hb
      clear hb
      clear HO HSY HSX HMO nYb nXb n2I
      go_upto_block 4 with fail
      go_cut [17, 18, 19] from 131 to 169 (fun s17 s18 s19 wx => Hid (Below w9.heap.size w9 wx))
      case first =>
       as_aux_lemma =>
        go_wp2
        go_loopw [17] (fun i wr => ∃ k : Nat, k ≤ n1 ∧ i = .int .i64 k ∧ Hid (Below w9.heap.size w9 wr)) (fun i _ => n1 - (RowKit.intOf i).toNat)
        case atStart => exact ⟨0, Nat.zero_le _, rfl, Below.refl _ _⟩
        case round =>
          obtain ⟨k, hk, rfl, hB⟩ := hrel
          rename World => wr
          by_cases hlt : k < n1
          · have hkI : k < I.length := by rw [HI.out.len]; exact hlt
            obtain ⟨b, off, ra, rc, hab, x0, x1, hz0⟩ := (HI.out.rd.later hB.out).at_ hkI
            subst hab
            have HMEM : Hid (I[k] ∈ I) := List.getElem_mem hkI
            have HWT : Hid (weightZ R I[k].row = sumZ I I[k]) := by show _ = _; rw [weight_sum (riseZ_iff.1 HF.out.rise).2, HF.out.sums]
            generalize I[k] = xk at *
            have HZK : Hid (LiesZ (fun _ => False) wr [.slice ra xk.row.length rc, .int .i64 xk.wt] xk) := hz0
            clear hkI hz0 x1
            go_wp2
            go_loopw [18, 19] (fun s q wq => ∃ j : Nat, j ≤ n1 ∧ q = .int .i64 j ∧ s = .int .i64 (sumZ (I.take j) xk) ∧ Hid (Below wr.heap.size wr wq)) (fun _ q _ => n1 - (RowKit.intOf q).toNat)
            case atStart => exact ⟨0, Nat.zero_le _, rfl, rfl, Below.refl _ _⟩
            case round =>
              obtain ⟨j, hj, rfl, rfl, hBq⟩ := hrel
              rename World => wq
              by_cases hjl : j < n1
              · have hjI : j < I.length := by rw [HI.out.len]; exact hjl
                obtain ⟨b', off', sa, sc, hab, y0, y1, hz1⟩ := (HI.out.rd.later (chain hB.out hBq.out)).at_ hjI
                cases hab
                have X0 := cell_later hBq.out x0
                have CR : ∀ V, Below wq.heap.size wq V → Calls Try.prog 28 #[.slice sa I[j].row.length sc, .slice ra xk.row.length rc] V fun e w' => e = .returned (.bool (decide (cmpZ I[j] xk = 0))) ∧ Below V.heap.size V w' := fun V hb => by
                  obtain ⟨a1, c1, f1, r1, l1, -⟩ := hz1.later hb
                  obtain ⟨a2, c2, f2, r2, l2, -⟩ := HZK.out.later (chain hBq.out hb)
                  cases f1
                  cases f2
                  have := keepRow_any sa ra I[j].row.length xk.row.length sc rc I[j].row xk.row V rfl rfl l1 l2 r1 r2
                  rw [same_cmp] at this
                  exact this
                have hst := sum_take hjI xk
                have hbd := HF.out.part j xk
                have hwt := (HF.out.wts _ (List.getElem_mem hjI)).2
                generalize sumZ (I.take j) xk = sj at *
                have HST : Hid (sumZ (I.take (j + 1)) xk = sj + if cmpZ I[j] xk = 0 then I[j].wt else 0) := hst
                clear hz1 hst
                generalize cmpZ I[j] xk = cj at *
                generalize I[j].row.length = sn at *
                generalize I[j].wt = p at *
                obtain ⟨rn, hrn⟩ : ∃ rn, xk.row.length = rn := ⟨_, rfl⟩
                rw [hrn] at X0 CR
                have e1 : wrap64 (sj + p) = sj + p := wrap_in (by omega)
                clear hjI hbd hwt hrn
                have k0 : (0 : Int) ≤ (k : Int) := by omega
                have k1 : (k : Int) < (n1 : Int) := by omega
                have j0 : (0 : Int) ≤ (j : Int) := by omega
                have j1 : (j : Int) < (n1 : Int) := by omega
                by_cases hc : cj = 0
                · have hst := HST.out
                  rw [if_pos hc] at hst
                  have HST2 : Hid (sumZ (I.take (j + 1)) xk = sj + p) := hst
                  rw [decide_eq_true hc] at CR
                  clear hst HST hc
                  go_upto_region 25 with fail
                  have HS : wq.drew.cell? ⟨b, off + j * 2, none⟩ = some (.slice sa sn sc) ∧ wq.drew.cell? ⟨b, off + k * 2, none⟩ = some (.slice ra rn rc) ∧ Hid (Below wq.heap.size wq wq.drew) := keep3M (Below.refl _ _).drew ⟨y0, X0, Below.refl _ _⟩
                  refine wp_region_held_drew (S := (fun w' => w'.cell? ⟨b, off + j * 2, none⟩ = some (.slice sa sn sc) ∧ w'.cell? ⟨b, off + k * 2, none⟩ = some (.slice ra rn rc) ∧ Hid (Below wq.heap.size wq w'))) (by kernel_rfl) HS (fun hHeld => ?_)
                  refine heldTake (v := ?_) 0 143 rfl rfl (by kernel_rfl) (by kernel_rfl) (by kernel_rfl) (fun _ _ _ h => h) (by rfl) (fun w hSw => ?_) (by assumption) ?_
                  rotate_left
                  · (try dsimp only at hSw); first | (go_simp; done) | (go_simp; with_reducible rfl)
                  simp only [List.setIfInBounds_toArray, List.set_cons_zero, List.set_cons_succ]
                  refine heldTake (v := ?_) 1 144 rfl rfl (by kernel_rfl) (by kernel_rfl) (by kernel_rfl) (fun _ _ _ h => h) (by rfl) (fun w hSw => ?_) (by assumption) ?_
                  rotate_left
                  · (try dsimp only at hSw); first | (go_simp; done) | (go_simp; with_reducible rfl)
                  simp only [List.setIfInBounds_toArray, List.set_cons_zero, List.set_cons_succ]
                  refine heldTake (v := ?_) 2 145 rfl rfl (by kernel_rfl) (by kernel_rfl) (by kernel_rfl) (fun _ _ _ h => h) (by rfl) (fun w hSw => ?_) (by assumption) ?_
                  rotate_left
                  · (try dsimp only at hSw); first | (go_simp; done) | (go_simp; with_reducible rfl)
                  simp only [List.setIfInBounds_toArray, List.set_cons_zero, List.set_cons_succ]
                  refine heldTake (v := ?_) 3 146 rfl rfl (by kernel_rfl) (by kernel_rfl) (by kernel_rfl) (fun _ _ _ h => h) (by rfl) (fun w hSw => ?_) (by assumption) ?_
                  rotate_left
                  · (try dsimp only at hSw); first | (go_simp; done) | (go_simp; with_reducible rfl)
                  simp only [List.setIfInBounds_toArray, List.set_cons_zero, List.set_cons_succ]
                  refine heldTake (v := ?_) 4 147 rfl rfl (by kernel_rfl) (by kernel_rfl) (by kernel_rfl) (fun _ _ _ h => h) (by rfl) (fun w hSw => ?_) (by assumption) ?_
                  rotate_left
                  · (try dsimp only at hSw); first | (go_simp; done) | (go_simp; with_reducible rfl)
                  simp only [List.setIfInBounds_toArray, List.set_cons_zero, List.set_cons_succ]
                  refine heldTake (v := ?_) 5 148 rfl rfl (by kernel_rfl) (by kernel_rfl) (by kernel_rfl) (fun _ _ _ h => h) (by rfl) (fun w hSw => ?_) (by assumption) ?_
                  rotate_left
                  · (try dsimp only at hSw); first | (go_simp; done) | (go_simp; with_reducible rfl)
                  simp only [List.setIfInBounds_toArray, List.set_cons_zero, List.set_cons_succ]
                  refine heldTake (v := ?_) 6 149 rfl rfl (by kernel_rfl) (by kernel_rfl) (by kernel_rfl) (fun _ _ _ h => h) (by rfl) (fun w hSw => ?_) (by assumption) ?_
                  rotate_left
                  · (try dsimp only at hSw); first | (go_simp; done) | (go_simp; with_reducible rfl)
                  simp only [List.setIfInBounds_toArray, List.set_cons_zero, List.set_cons_succ]
                  refine heldTake (v := ?_) 7 150 rfl rfl (by kernel_rfl) (by kernel_rfl) (by kernel_rfl) (fun _ _ _ h => h) (by rfl) (fun w hSw => ?_) (by assumption) ?_
                  rotate_left
                  · (try dsimp only at hSw); first | (go_simp; done) | (go_simp; with_reducible rfl)
                  simp only [List.setIfInBounds_toArray, List.set_cons_zero, List.set_cons_succ]
                  refine heldTake (v := ?_) 8 151 rfl rfl (by kernel_rfl) (by kernel_rfl) (by kernel_rfl) (fun _ _ _ h => h) (by rfl) (fun w hSw => ?_) (by assumption) ?_
                  rotate_left
                  · (try dsimp only at hSw); first | (go_simp; done) | (go_simp; with_reducible rfl)
                  simp only [List.setIfInBounds_toArray, List.set_cons_zero, List.set_cons_succ]
                  refine heldTake (v := ?_) 9 152 rfl rfl (by kernel_rfl) (by kernel_rfl) (by kernel_rfl) (fun _ _ _ h => h) (by rfl) (fun w hSw => ?_) (by assumption) ?_
                  rotate_left
                  · (try dsimp only at hSw); first | (go_simp; done) | (go_simp; with_reducible rfl)
                  simp only [List.setIfInBounds_toArray, List.set_cons_zero, List.set_cons_succ]
                  refine heldOne 10 rfl (by kernel_rfl) (by rfl) (fun K2 hK => ?_)
                  go_simp
                  refine (CR _ hHeld.2.2.out).mono ?_
                  rintro e wz ⟨rfl, hb⟩
                  simp only []
                  refine hK.out _ _ ?_ (fun hHeld => ?_)
                  · first | exact keep3M (by assumption) (by assumption) | exact keep3M (Below.refl _ _).drew (by assumption)
                  clear hK K2
                  try simp only [List.setIfInBounds_toArray, List.set_cons_zero, List.set_cons_succ]
                  refine wpAnyH_done (by kernel_rfl) ?_ _
                  have HBZ := hHeld.2.2
                  clear hHeld HS CR X0 y0
                  replace y1 := cell_later HBZ.out y1
                  go_wp2
                  go_roundw
                  case rel => exact ⟨j + 1, by omega, by go_num, by rw [HST2.out, e1], chain hBq.out HBZ.out⟩
                  case measure => simp [RowKit.intOf]; omega
                · have hst := HST.out
                  rw [if_neg hc] at hst
                  have HST2 : Hid (sumZ (I.take (j + 1)) xk = sj) := by show _ = _; omega
                  rw [decide_eq_false hc] at CR
                  clear hst HST hc y1
                  go_upto_region 25 with fail
                  have HS : wq.drew.cell? ⟨b, off + j * 2, none⟩ = some (.slice sa sn sc) ∧ wq.drew.cell? ⟨b, off + k * 2, none⟩ = some (.slice ra rn rc) ∧ Hid (Below wq.heap.size wq wq.drew) := keep3M (Below.refl _ _).drew ⟨y0, X0, Below.refl _ _⟩
                  refine wp_region_held_drew (S := (fun w' => w'.cell? ⟨b, off + j * 2, none⟩ = some (.slice sa sn sc) ∧ w'.cell? ⟨b, off + k * 2, none⟩ = some (.slice ra rn rc) ∧ Hid (Below wq.heap.size wq w'))) (by kernel_rfl) HS (fun hHeld => ?_)
                  refine heldTake (v := ?_) 0 143 rfl rfl (by kernel_rfl) (by kernel_rfl) (by kernel_rfl) (fun _ _ _ h => h) (by rfl) (fun w hSw => ?_) (by assumption) ?_
                  rotate_left
                  · (try dsimp only at hSw); first | (go_simp; done) | (go_simp; with_reducible rfl)
                  simp only [List.setIfInBounds_toArray, List.set_cons_zero, List.set_cons_succ]
                  refine heldTake (v := ?_) 1 144 rfl rfl (by kernel_rfl) (by kernel_rfl) (by kernel_rfl) (fun _ _ _ h => h) (by rfl) (fun w hSw => ?_) (by assumption) ?_
                  rotate_left
                  · (try dsimp only at hSw); first | (go_simp; done) | (go_simp; with_reducible rfl)
                  simp only [List.setIfInBounds_toArray, List.set_cons_zero, List.set_cons_succ]
                  refine heldTake (v := ?_) 2 145 rfl rfl (by kernel_rfl) (by kernel_rfl) (by kernel_rfl) (fun _ _ _ h => h) (by rfl) (fun w hSw => ?_) (by assumption) ?_
                  rotate_left
                  · (try dsimp only at hSw); first | (go_simp; done) | (go_simp; with_reducible rfl)
                  simp only [List.setIfInBounds_toArray, List.set_cons_zero, List.set_cons_succ]
                  refine heldTake (v := ?_) 3 146 rfl rfl (by kernel_rfl) (by kernel_rfl) (by kernel_rfl) (fun _ _ _ h => h) (by rfl) (fun w hSw => ?_) (by assumption) ?_
                  rotate_left
                  · (try dsimp only at hSw); first | (go_simp; done) | (go_simp; with_reducible rfl)
                  simp only [List.setIfInBounds_toArray, List.set_cons_zero, List.set_cons_succ]
                  refine heldTake (v := ?_) 4 147 rfl rfl (by kernel_rfl) (by kernel_rfl) (by kernel_rfl) (fun _ _ _ h => h) (by rfl) (fun w hSw => ?_) (by assumption) ?_
                  rotate_left
                  · (try dsimp only at hSw); first | (go_simp; done) | (go_simp; with_reducible rfl)
                  simp only [List.setIfInBounds_toArray, List.set_cons_zero, List.set_cons_succ]
                  refine heldTake (v := ?_) 5 148 rfl rfl (by kernel_rfl) (by kernel_rfl) (by kernel_rfl) (fun _ _ _ h => h) (by rfl) (fun w hSw => ?_) (by assumption) ?_
                  rotate_left
                  · (try dsimp only at hSw); first | (go_simp; done) | (go_simp; with_reducible rfl)
                  simp only [List.setIfInBounds_toArray, List.set_cons_zero, List.set_cons_succ]
                  refine heldTake (v := ?_) 6 149 rfl rfl (by kernel_rfl) (by kernel_rfl) (by kernel_rfl) (fun _ _ _ h => h) (by rfl) (fun w hSw => ?_) (by assumption) ?_
                  rotate_left
                  · (try dsimp only at hSw); first | (go_simp; done) | (go_simp; with_reducible rfl)
                  simp only [List.setIfInBounds_toArray, List.set_cons_zero, List.set_cons_succ]
                  refine heldTake (v := ?_) 7 150 rfl rfl (by kernel_rfl) (by kernel_rfl) (by kernel_rfl) (fun _ _ _ h => h) (by rfl) (fun w hSw => ?_) (by assumption) ?_
                  rotate_left
                  · (try dsimp only at hSw); first | (go_simp; done) | (go_simp; with_reducible rfl)
                  simp only [List.setIfInBounds_toArray, List.set_cons_zero, List.set_cons_succ]
                  refine heldTake (v := ?_) 8 151 rfl rfl (by kernel_rfl) (by kernel_rfl) (by kernel_rfl) (fun _ _ _ h => h) (by rfl) (fun w hSw => ?_) (by assumption) ?_
                  rotate_left
                  · (try dsimp only at hSw); first | (go_simp; done) | (go_simp; with_reducible rfl)
                  simp only [List.setIfInBounds_toArray, List.set_cons_zero, List.set_cons_succ]
                  refine heldTake (v := ?_) 9 152 rfl rfl (by kernel_rfl) (by kernel_rfl) (by kernel_rfl) (fun _ _ _ h => h) (by rfl) (fun w hSw => ?_) (by assumption) ?_
                  rotate_left
                  · (try dsimp only at hSw); first | (go_simp; done) | (go_simp; with_reducible rfl)
                  simp only [List.setIfInBounds_toArray, List.set_cons_zero, List.set_cons_succ]
                  refine heldOne 10 rfl (by kernel_rfl) (by rfl) (fun K2 hK => ?_)
                  go_simp
                  refine (CR _ hHeld.2.2.out).mono ?_
                  rintro e wz ⟨rfl, hb⟩
                  simp only []
                  refine hK.out _ _ ?_ (fun hHeld => ?_)
                  · first | exact keep3M (by assumption) (by assumption) | exact keep3M (Below.refl _ _).drew (by assumption)
                  clear hK K2
                  try simp only [List.setIfInBounds_toArray, List.set_cons_zero, List.set_cons_succ]
                  refine wpAnyH_done (by kernel_rfl) ?_ _
                  have HBZ := hHeld.2.2
                  clear hHeld HS CR X0 y0
                  go_wp2
                  go_roundw
                  case rel => exact ⟨j + 1, by omega, by go_num, by rw [HST2.out], chain hBq.out HBZ.out⟩
                  case measure => simp [RowKit.intOf]; omega
              · obtain rfl : j = n1 := by omega
                rw [List.take_of_length_le (by rw [HI.out.len]; exact Nat.le_refl _)]
                have X0 := cell_later hBq.out x0
                have CW : Calls Try.prog 14 #[.slice aZ nZ cZ, .slice ra xk.row.length rc] wq fun e w' => e = .returned (.int .i64 (sumZ I xk)) ∧ Below wq.heap.size wq w' := by
                  obtain ⟨a2, c2, f2, r2, l2, -⟩ := HZK.out.later hBq.out
                  cases f2
                  have := zWeight_any aZ nZ cZ R ra xk.row.length rc xk.row wq HSZ.out.len (by omega) (HSZ.out.rd.later (chain hB.out hBq.out)) rfl l2 r2
                  rw [HWT.out] at this
                  exact this
                generalize sumZ I xk = sj at *
                generalize xk.row.length = rn at *
                have k0 : (0 : Int) ≤ (k : Int) := by omega
                have k1 : (k : Int) < (j : Int) := by omega
                clear hjl
                go_wp2_with fail
                refine CW.mono ?_
                rintro e wz ⟨rfl, hb⟩
                have HBZ : Hid (Below w9.heap.size w9 wz) := chain hB.out (chain hBq.out hb)
                clear CW hb X0
                go_wp2
                go_roundw
                case rel => exact ⟨k + 1, by omega, by go_num, HBZ⟩
                case measure => simp [RowKit.intOf]; omega
          · go_wp2
            go_meet
            exact hB
      case rest =>
       as_aux_lemma =>
        have hB10 := hcut
        rename World => wA
        replace HB2 : Hid (Below w.heap.size w wA) := chain HB2.out hB10.out
        clear hcut hB10 HI HSZ HF nI nZb
        go_upto_block 8 with fail
        go_cut [20] from 170 to 188 (fun s20 wx => Hid (∀ r ∈ L, chkR r = 0) ∧ Hid (Below wA.heap.size wA wx))
        case first =>
         as_aux_lemma =>
          go_wp2
          go_loopw [20] (fun i wr => ∃ k : Nat, k ≤ m ∧ i = .int .i64 k ∧ Hid (∀ r ∈ L.take k, chkR r = 0) ∧ Hid (Below wA.heap.size wA wr)) (fun i _ => m - (RowKit.intOf i).toNat)
          case atStart => exact ⟨0, Nat.zero_le _, rfl, fun r hr => by simp at hr, Below.refl _ _⟩
          case round =>
            obtain ⟨k, hk, rfl, hA, hB⟩ := hrel
            rename World => wr
            by_cases hlt : k < m
            · have hkL : k < L.length := by rw [HM.out]; exact hlt
              obtain ⟨b, off, rfl, hc⟩ := (HL.out.later (chain HB2.out hB.out)) (by omega)
              obtain ⟨ra, rc, x0, hin⟩ := hc k hkL
              have HBW : Hid (Below w.heap.size w wr) := chain HB2.out hB.out
              have CH : Calls Try.prog 9 #[.slice ra L[k].length rc] wr fun e w' => e = .returned (.bool (decide (40 < L[k].length) || heavyV L[k])) ∧ w' = wr := by
                by_cases h40 : 40 < L[k].length
                · simpa [h40] using heavy_long ra L[k].length rc wr h40 hin.small
                · simpa [h40] using heavy_few ra L[k].length rc L[k] wr rfl (by omega) hin.vals
              have HST : Hid (chkR L[k] = 0 → ∀ r ∈ L.take (k + 1), chkR r = 0) := fun h r hr => by
                rw [List.take_succ_eq_append_getElem hkL] at hr
                rcases List.mem_append.1 hr with hr | hr
                · exact hA.out r hr
                · rw [List.mem_singleton.1 hr]
                  exact h
              have k0 : (0 : Int) ≤ (k : Int) := by omega
              have k1 : (k : Int) < (m : Int) := by omega
              cases hv : (decide (40 < L[k].length) || heavyV L[k]) with
              | true =>
                rw [hv] at CH
                clear HST hv hin hc
                generalize L[k].length = rn at *
                clear hkL
                go_wp2_with fail
                refine CH.mono ?_
                rintro e wz ⟨rfl, hw⟩
                subst hw
                clear CH
                go_wp2
                go_ret
                exact ⟨by simp, HBW.out⟩
              | false =>
                rw [hv] at CH
                have h40 : L[k].length ≤ 40 := by
                  simp at hv
                  omega
                have CR := rRow_any ra L[k].length rc L[k] wr rfl (by omega) hin.vals
                clear hv hin hc
                generalize chkR L[k] = ck at *
                generalize L[k].length = rn at *
                clear hkL h40
                by_cases hck : ck = 0
                · subst hck
                  have HST2 : Hid _ := HST.out rfl
                  clear HST
                  go_wp2_with fail
                  refine CH.mono ?_
                  rintro e wz ⟨rfl, hw⟩
                  subst hw
                  clear CH
                  go_wp2_with fail
                  refine CR.mono ?_
                  rintro e wy ⟨rfl, hb⟩
                  have HBY : Hid (Below wA.heap.size wA wy) := chain hB.out hb
                  clear CR hb x0 hA hB
                  go_wp2
                  go_roundw
                  case rel => exact ⟨k + 1, by omega, by go_num, HST2.out, HBY⟩
                  case measure => simp [RowKit.intOf]; omega
                · have c1' : (ck != 0) = true := by simpa using hck
                  have c2' : (ck = 0) = False := eq_false hck
                  clear HST hck
                  go_wp2_with fail
                  refine CH.mono ?_
                  rintro e wz ⟨rfl, hw⟩
                  subst hw
                  clear CH
                  go_wp2_with fail
                  refine CR.mono ?_
                  rintro e wy ⟨rfl, hb⟩
                  have HBY : Hid (Below w.heap.size w wy) := chain HBW.out hb
                  clear CR hb x0 hA hB HBW
                  go_wp2
                  go_ret
                  exact ⟨by simp, HBY.out⟩
            · obtain rfl : k = m := by omega
              have hA2 := hA.out
              rw [List.take_of_length_le (by rw [HM.out]; exact Nat.le_refl _)] at hA2
              have HA2 : Hid (∀ r ∈ L, chkR r = 0) := hA2
              clear hA hA2
              go_wp2
              go_meet
              exact ⟨HA2, hB⟩
        case rest =>
         as_aux_lemma =>
          obtain ⟨HOK, hB11⟩ := hcut
          rename World => wB
          replace HB2 : Hid (Below w.heap.size w wB) := chain HB2.out hB11.out
          obtain ⟨S, o1, o2, o3, o4, o5⟩ := once_make (L := L) (by rw [HM.out]; exact hm100) HOK.out
          have CR := zRows_any c m dap L wB HM.out (by omega) (HL.out.later HB2.out) (fun r hr => by
            have h0 := HOK.out r hr
            by_cases h12 : 12 < r.length
            · unfold chkR at h0
              rw [if_pos h12] at h0
              omega
            · omega)
          rw [o1] at CR
          have CR' := CR.mono (fun e w' k => TellsZ.of k)
          rw [HM.out] at o5
          have HLL : Hid (∀ r ∈ L, r.length ≤ 65536) := fun r hr => by
            have h0 := HOK.out r hr
            by_cases h12 : 12 < r.length
            · unfold chkR at h0
              rw [if_pos h12] at h0
              omega
            · omega
          have HS2 : Hid (riseZ S = true) := o2
          have HS3 : Hid (∀ x, sumZ S x = sumZ (onceZ L) x) := o3
          have HS4 : Hid (S.length ≤ 100) := o4
          have HS5 : Hid (sizeZ S = (m : Int)) := o5
          clear CR o1 o2 o3 o4 o5 hB11 HOK
          go_wp2_with fail
          refine CR'.mono ?_
          rintro e wC ⟨aS, nS, cS, rfl, hS, hb⟩
          have HSS : Hid (SetAt wC aS nS cS S) := hS
          replace HB2 : Hid (Below w.heap.size w wC) := chain HB2.out hb
          have nSb : nS ≤ 100 := by rw [← HSS.out.len]; exact HS4.out
          clear CR' hS hb HS4
          go_upto_block 10 with fail
          go_cut [22, 23, 24] from 196 to 226 (fun s22 s23 s24 wx => Hid (Below wC.heap.size wC wx))
          case first =>
           as_aux_lemma =>
            go_wp2
            go_loopw [22] (fun i wr => ∃ k : Nat, k ≤ m ∧ i = .int .i64 k ∧ Hid (Below wC.heap.size wC wr)) (fun i _ => m - (RowKit.intOf i).toNat)
            case atStart => exact ⟨0, Nat.zero_le _, rfl, Below.refl _ _⟩
            case round =>
              obtain ⟨k, hk, rfl, hB⟩ := hrel
              rename World => wr
              by_cases hlt : k < m
              · have hkL : k < L.length := by rw [HM.out]; exact hlt
                obtain ⟨b, off, rfl, hc⟩ := (HL.out.later (chain HB2.out hB.out)) (by omega)
                obtain ⟨ra, rc, x0, hin⟩ := hc k hkL
                have HIN : Hid (InI wr ⟨L[k], 1⟩ ra rc) := hin
                have HWT : Hid (weightZ S L[k] = sumZ (onceZ L) ⟨L[k], 1⟩) := by show _ = _; rw [← HS3.out]; exact weight_sum (riseZ_iff.1 HS2.out).2 ⟨L[k], 1⟩
                have HRK : Hid (L[k].length ≤ 65536) := HLL.out _ (List.getElem_mem hkL)
                have HC : Hid (∀ i (hi : i < L.length), ∃ ra rc, wr.cell? ⟨b, off + i, none⟩ = some (.slice ra L[i].length rc) ∧ InI wr ⟨L[i], 1⟩ ra rc) := hc
                generalize L[k] = rk at *
                clear hkL hin hc
                go_wp2
                go_loopw [23, 24] (fun s q wq => ∃ j : Nat, j ≤ m ∧ q = .int .i64 j ∧ s = .int .i64 (sumZ ((onceZ L).take j) ⟨rk, 1⟩) ∧ Hid (Below wr.heap.size wr wq)) (fun _ q _ => m - (RowKit.intOf q).toNat)
                case atStart => exact ⟨0, Nat.zero_le _, rfl, rfl, Below.refl _ _⟩
                case round =>
                  obtain ⟨j, hj, rfl, rfl, hBq⟩ := hrel
                  rename World => wq
                  by_cases hjl : j < m
                  · have hjL : j < L.length := by rw [HM.out]; exact hjl
                    have hjO : j < (onceZ L).length := by simp [onceZ, HM.out]; exact hjl
                    obtain ⟨sa, sc, y0, hin1⟩ := HC.out j hjL
                    have X0 := cell_later hBq.out x0
                    replace y0 := cell_later hBq.out y0
                    have hOj : (onceZ L)[j] = ⟨L[j], 1⟩ := by simp [onceZ]
                    have CR : ∀ V, Below wq.heap.size wq V → Calls Try.prog 28 #[.slice sa L[j].length sc, .slice ra rk.length rc] V fun e w' => e = .returned (.bool (decide (cmpZ ⟨L[j], 1⟩ ⟨rk, 1⟩ = 0))) ∧ Below V.heap.size V w' := fun V hb => by
                      have i1 := hin1.later (chain hBq.out hb)
                      have i2 := HIN.out.later (chain hBq.out hb)
                      have := keepRow_any sa ra L[j].length rk.length sc rc L[j] rk V rfl rfl (HLL.out _ (List.getElem_mem hjL)) HRK.out i1.vals i2.vals
                      rw [same_cmp ⟨L[j], 1⟩ ⟨rk, 1⟩] at this
                      exact this
                    have hst := sum_take hjO ⟨rk, 1⟩
                    rw [hOj] at hst
                    have hbd : 0 ≤ sumZ ((onceZ L).take j) ⟨rk, 1⟩ ∧ sumZ ((onceZ L).take j) ⟨rk, 1⟩ ≤ 100 := by
                      have e : (onceZ L).take j = onceZ (L.take j) := by simp [onceZ, List.map_take]
                      rw [e]
                      have h1 := once_nn (L.take j) ⟨rk, 1⟩
                      have h2 := bnd_items (B := 1) (by omega) (X := onceZ (L.take j)) (fun x hx => by
                        obtain ⟨r, -, rfl⟩ := List.mem_map.1 hx
                        simp only
                        omega) ⟨rk, 1⟩
                      have h3 : (onceZ (L.take j)).length ≤ m := by simp [onceZ]; omega
                      omega
                    generalize sumZ ((onceZ L).take j) ⟨rk, 1⟩ = sj at *
                    have HST : Hid (sumZ ((onceZ L).take (j + 1)) ⟨rk, 1⟩ = sj + if cmpZ ⟨L[j], 1⟩ ⟨rk, 1⟩ = 0 then 1 else 0) := hst
                    clear hst hin1 hOj hjO
                    generalize cmpZ ⟨L[j], 1⟩ ⟨rk, 1⟩ = cj at *
                    generalize L[j].length = sn at *
                    obtain ⟨rn, hrn⟩ : ∃ rn, rk.length = rn := ⟨_, rfl⟩
                    rw [hrn] at X0 CR
                    have e1 : wrap64 (sj + 1) = sj + 1 := wrap_in (by omega)
                    clear hjL hbd hrn
                    have k0 : (0 : Int) ≤ (k : Int) := by omega
                    have k1 : (k : Int) < (m : Int) := by omega
                    have j0 : (0 : Int) ≤ (j : Int) := by omega
                    have j1 : (j : Int) < (m : Int) := by omega
                    by_cases hcj : cj = 0
                    · have hst := HST.out
                      rw [if_pos hcj] at hst
                      have HST2 : Hid (sumZ ((onceZ L).take (j + 1)) ⟨rk, 1⟩ = sj + 1) := hst
                      rw [decide_eq_true hcj] at CR
                      clear hst HST hcj
                      go_upto_region 44 with fail
                      have HS : wq.drew.cell? ⟨b, off + j, none⟩ = some (.slice sa sn sc) ∧ wq.drew.cell? ⟨b, off + k, none⟩ = some (.slice ra rn rc) ∧ Hid (Below wq.heap.size wq wq.drew) := keep3M (Below.refl _ _).drew ⟨y0, X0, Below.refl _ _⟩
                      refine wp_region_held_drew (S := (fun w' => w'.cell? ⟨b, off + j, none⟩ = some (.slice sa sn sc) ∧ w'.cell? ⟨b, off + k, none⟩ = some (.slice ra rn rc) ∧ Hid (Below wq.heap.size wq w'))) (by kernel_rfl) HS (fun hHeld => ?_)
                      refine heldTake (v := ?_) 0 208 rfl rfl (by kernel_rfl) (by kernel_rfl) (by kernel_rfl) (fun _ _ _ h => h) (by rfl) (fun w hSw => ?_) (by assumption) ?_
                      rotate_left
                      · (try dsimp only at hSw); first | (go_simp; done) | (go_simp; with_reducible rfl)
                      simp only [List.setIfInBounds_toArray, List.set_cons_zero, List.set_cons_succ]
                      refine heldTake (v := ?_) 1 209 rfl rfl (by kernel_rfl) (by kernel_rfl) (by kernel_rfl) (fun _ _ _ h => h) (by rfl) (fun w hSw => ?_) (by assumption) ?_
                      rotate_left
                      · (try dsimp only at hSw); first | (go_simp; done) | (go_simp; with_reducible rfl)
                      simp only [List.setIfInBounds_toArray, List.set_cons_zero, List.set_cons_succ]
                      refine heldTake (v := ?_) 2 210 rfl rfl (by kernel_rfl) (by kernel_rfl) (by kernel_rfl) (fun _ _ _ h => h) (by rfl) (fun w hSw => ?_) (by assumption) ?_
                      rotate_left
                      · (try dsimp only at hSw); first | (go_simp; done) | (go_simp; with_reducible rfl)
                      simp only [List.setIfInBounds_toArray, List.set_cons_zero, List.set_cons_succ]
                      refine heldTake (v := ?_) 3 211 rfl rfl (by kernel_rfl) (by kernel_rfl) (by kernel_rfl) (fun _ _ _ h => h) (by rfl) (fun w hSw => ?_) (by assumption) ?_
                      rotate_left
                      · (try dsimp only at hSw); first | (go_simp; done) | (go_simp; with_reducible rfl)
                      simp only [List.setIfInBounds_toArray, List.set_cons_zero, List.set_cons_succ]
                      refine heldTake (v := ?_) 4 212 rfl rfl (by kernel_rfl) (by kernel_rfl) (by kernel_rfl) (fun _ _ _ h => h) (by rfl) (fun w hSw => ?_) (by assumption) ?_
                      rotate_left
                      · (try dsimp only at hSw); first | (go_simp; done) | (go_simp; with_reducible rfl)
                      simp only [List.setIfInBounds_toArray, List.set_cons_zero, List.set_cons_succ]
                      refine heldTake (v := ?_) 5 213 rfl rfl (by kernel_rfl) (by kernel_rfl) (by kernel_rfl) (fun _ _ _ h => h) (by rfl) (fun w hSw => ?_) (by assumption) ?_
                      rotate_left
                      · (try dsimp only at hSw); first | (go_simp; done) | (go_simp; with_reducible rfl)
                      simp only [List.setIfInBounds_toArray, List.set_cons_zero, List.set_cons_succ]
                      refine heldTake (v := ?_) 6 214 rfl rfl (by kernel_rfl) (by kernel_rfl) (by kernel_rfl) (fun _ _ _ h => h) (by rfl) (fun w hSw => ?_) (by assumption) ?_
                      rotate_left
                      · (try dsimp only at hSw); first | (go_simp; done) | (go_simp; with_reducible rfl)
                      simp only [List.setIfInBounds_toArray, List.set_cons_zero, List.set_cons_succ]
                      refine heldTake (v := ?_) 7 215 rfl rfl (by kernel_rfl) (by kernel_rfl) (by kernel_rfl) (fun _ _ _ h => h) (by rfl) (fun w hSw => ?_) (by assumption) ?_
                      rotate_left
                      · (try dsimp only at hSw); first | (go_simp; done) | (go_simp; with_reducible rfl)
                      simp only [List.setIfInBounds_toArray, List.set_cons_zero, List.set_cons_succ]
                      refine heldOne 8 rfl (by kernel_rfl) (by rfl) (fun K2 hK => ?_)
                      go_simp
                      refine (CR _ hHeld.2.2.out).mono ?_
                      rintro e wz ⟨rfl, hb⟩
                      simp only []
                      refine hK.out _ _ ?_ (fun hHeld => ?_)
                      · first | exact keep3M (by assumption) (by assumption) | exact keep3M (Below.refl _ _).drew (by assumption)
                      clear hK K2
                      try simp only [List.setIfInBounds_toArray, List.set_cons_zero, List.set_cons_succ]
                      refine wpAnyH_done (by kernel_rfl) ?_ _
                      have HBZ := hHeld.2.2
                      clear hHeld HS CR X0 y0
                      go_wp2
                      go_roundw
                      case rel => exact ⟨j + 1, by omega, by go_num, by rw [HST2.out, e1], chain hBq.out HBZ.out⟩
                      case measure => simp [RowKit.intOf]; omega
                    · have hst := HST.out
                      rw [if_neg hcj] at hst
                      have HST2 : Hid (sumZ ((onceZ L).take (j + 1)) ⟨rk, 1⟩ = sj) := by show _ = _; omega
                      rw [decide_eq_false hcj] at CR
                      clear hst HST hcj
                      go_upto_region 44 with fail
                      have HS : wq.drew.cell? ⟨b, off + j, none⟩ = some (.slice sa sn sc) ∧ wq.drew.cell? ⟨b, off + k, none⟩ = some (.slice ra rn rc) ∧ Hid (Below wq.heap.size wq wq.drew) := keep3M (Below.refl _ _).drew ⟨y0, X0, Below.refl _ _⟩
                      refine wp_region_held_drew (S := (fun w' => w'.cell? ⟨b, off + j, none⟩ = some (.slice sa sn sc) ∧ w'.cell? ⟨b, off + k, none⟩ = some (.slice ra rn rc) ∧ Hid (Below wq.heap.size wq w'))) (by kernel_rfl) HS (fun hHeld => ?_)
                      refine heldTake (v := ?_) 0 208 rfl rfl (by kernel_rfl) (by kernel_rfl) (by kernel_rfl) (fun _ _ _ h => h) (by rfl) (fun w hSw => ?_) (by assumption) ?_
                      rotate_left
                      · (try dsimp only at hSw); first | (go_simp; done) | (go_simp; with_reducible rfl)
                      simp only [List.setIfInBounds_toArray, List.set_cons_zero, List.set_cons_succ]
                      refine heldTake (v := ?_) 1 209 rfl rfl (by kernel_rfl) (by kernel_rfl) (by kernel_rfl) (fun _ _ _ h => h) (by rfl) (fun w hSw => ?_) (by assumption) ?_
                      rotate_left
                      · (try dsimp only at hSw); first | (go_simp; done) | (go_simp; with_reducible rfl)
                      simp only [List.setIfInBounds_toArray, List.set_cons_zero, List.set_cons_succ]
                      refine heldTake (v := ?_) 2 210 rfl rfl (by kernel_rfl) (by kernel_rfl) (by kernel_rfl) (fun _ _ _ h => h) (by rfl) (fun w hSw => ?_) (by assumption) ?_
                      rotate_left
                      · (try dsimp only at hSw); first | (go_simp; done) | (go_simp; with_reducible rfl)
                      simp only [List.setIfInBounds_toArray, List.set_cons_zero, List.set_cons_succ]
                      refine heldTake (v := ?_) 3 211 rfl rfl (by kernel_rfl) (by kernel_rfl) (by kernel_rfl) (fun _ _ _ h => h) (by rfl) (fun w hSw => ?_) (by assumption) ?_
                      rotate_left
                      · (try dsimp only at hSw); first | (go_simp; done) | (go_simp; with_reducible rfl)
                      simp only [List.setIfInBounds_toArray, List.set_cons_zero, List.set_cons_succ]
                      refine heldTake (v := ?_) 4 212 rfl rfl (by kernel_rfl) (by kernel_rfl) (by kernel_rfl) (fun _ _ _ h => h) (by rfl) (fun w hSw => ?_) (by assumption) ?_
                      rotate_left
                      · (try dsimp only at hSw); first | (go_simp; done) | (go_simp; with_reducible rfl)
                      simp only [List.setIfInBounds_toArray, List.set_cons_zero, List.set_cons_succ]
                      refine heldTake (v := ?_) 5 213 rfl rfl (by kernel_rfl) (by kernel_rfl) (by kernel_rfl) (fun _ _ _ h => h) (by rfl) (fun w hSw => ?_) (by assumption) ?_
                      rotate_left
                      · (try dsimp only at hSw); first | (go_simp; done) | (go_simp; with_reducible rfl)
                      simp only [List.setIfInBounds_toArray, List.set_cons_zero, List.set_cons_succ]
                      refine heldTake (v := ?_) 6 214 rfl rfl (by kernel_rfl) (by kernel_rfl) (by kernel_rfl) (fun _ _ _ h => h) (by rfl) (fun w hSw => ?_) (by assumption) ?_
                      rotate_left
                      · (try dsimp only at hSw); first | (go_simp; done) | (go_simp; with_reducible rfl)
                      simp only [List.setIfInBounds_toArray, List.set_cons_zero, List.set_cons_succ]
                      refine heldTake (v := ?_) 7 215 rfl rfl (by kernel_rfl) (by kernel_rfl) (by kernel_rfl) (fun _ _ _ h => h) (by rfl) (fun w hSw => ?_) (by assumption) ?_
                      rotate_left
                      · (try dsimp only at hSw); first | (go_simp; done) | (go_simp; with_reducible rfl)
                      simp only [List.setIfInBounds_toArray, List.set_cons_zero, List.set_cons_succ]
                      refine heldOne 8 rfl (by kernel_rfl) (by rfl) (fun K2 hK => ?_)
                      go_simp
                      refine (CR _ hHeld.2.2.out).mono ?_
                      rintro e wz ⟨rfl, hb⟩
                      simp only []
                      refine hK.out _ _ ?_ (fun hHeld => ?_)
                      · first | exact keep3M (by assumption) (by assumption) | exact keep3M (Below.refl _ _).drew (by assumption)
                      clear hK K2
                      try simp only [List.setIfInBounds_toArray, List.set_cons_zero, List.set_cons_succ]
                      refine wpAnyH_done (by kernel_rfl) ?_ _
                      have HBZ := hHeld.2.2
                      clear hHeld HS CR X0 y0
                      go_wp2
                      go_roundw
                      case rel => exact ⟨j + 1, by omega, by go_num, by rw [HST2.out], chain hBq.out HBZ.out⟩
                      case measure => simp [RowKit.intOf]; omega
                  · obtain rfl : j = m := by omega
                    rw [List.take_of_length_le (by simp [onceZ, HM.out])]
                    have X0 := cell_later hBq.out x0
                    have CW : Calls Try.prog 14 #[.slice aS nS cS, .slice ra rk.length rc] wq fun e w' => e = .returned (.int .i64 (sumZ (onceZ L) ⟨rk, 1⟩)) ∧ Below wq.heap.size wq w' := by
                      have := zWeight_any aS nS cS S ra rk.length rc rk wq HSS.out.len (by omega) (HSS.out.rd.later (chain hB.out hBq.out)) rfl HRK.out (HIN.out.later hBq.out).vals
                      rw [HWT.out] at this
                      exact this
                    generalize sumZ (onceZ L) ⟨rk, 1⟩ = sj at *
                    generalize rk.length = rn at *
                    have k0 : (0 : Int) ≤ (k : Int) := by omega
                    have k1 : (k : Int) < (j : Int) := by omega
                    clear hjl
                    go_wp2_with fail
                    refine CW.mono ?_
                    rintro e wz ⟨rfl, hb⟩
                    have HBZ : Hid (Below wC.heap.size wC wz) := chain hB.out (chain hBq.out hb)
                    clear CW hb X0
                    go_wp2
                    go_roundw
                    case rel => exact ⟨k + 1, by omega, by go_num, HBZ⟩
                    case measure => simp [RowKit.intOf]; omega
              · go_wp2
                go_meet
                exact hB
          case rest =>
           as_aux_lemma =>
            have hB12 := hcut
            rename World => wD
            have CS := size_c (HSS.out.later hB12.out) (by omega)
            rw [HS5.out] at CS
            replace HB2 : Hid (Below w.heap.size w wD) := chain HB2.out hB12.out
            clear hcut hB12
            go_wp2_with fail
            refine CS.mono ?_
            rintro e wE ⟨rfl, hb⟩
            replace HB2 : Hid (Below w.heap.size w wE) := chain HB2.out hb
            clear CS hb
            go_wp2_with fail
            refine (zwakes_any _).mono ?_
            rintro e wF ⟨rfl, hb⟩
            go_wp2
            go_ret
            exact ⟨by simp, chain HB2.out hb⟩

theorem makes_any (a c : Option Addr) (n m cap dap : Nat) (X : List PI) (L : List (List PV)) (tt : Int) (w : World) (hn : X.length = n) (n1 : n ≤ 9223372036854775807) (hX : RdJ w a X) (hm : L.length = m) (hL : RdW w c L) :
    Calls Try.prog 5 #[.slice a n cap, .int .i64 tt, .slice c m dap] w fun e w' => e = .returned (.bool true) ∧ Below w.heap.size w w' := by
  cases hh : heavyI X with
  | true => exact makes_heavy a c n m cap dap X tt w hn n1 hX hh
  | false =>
    by_cases hm100 : 100 < m
    · exact makes_many a c n m cap dap X tt w hn n1 hX hh hm100
    · exact makes_light a c n m cap dap X L tt w hn n1 hX hm hL hh (by omega)

end Go.Proofs.Ytajlkaedkifaoaa
