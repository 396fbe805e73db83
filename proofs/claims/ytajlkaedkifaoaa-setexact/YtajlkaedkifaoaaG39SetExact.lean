/-
  Texts of the proof of SetExact, one behind the other.
-/
import Derived.Test.YtajlkaedkifaoaaRows
import Derived.Test.YtajlkaedkifaoaaG37SetExact
import Derived.Test.YtajlkaedkifaoaaG38SetExact
import Derived.Test.YtajlkaedkifaoaaG35SetExact
import Derived.Test.YtajlkaedkifaoaaG23SetExact
import Derived.Test.YtajlkaedkifaoaaG17SetExact
import Derived.Test.YtajlkaedkifaoaaG5SetExact
import Derived.Deep.CutRange
namespace Go.Proofs.Ytajlkaedkifaoaa
open Go.RowKit Go.Lib
set_option linter.unusedVariables false

/-- A block of two numbers of the call's own. -/
def TwoAt (w : World) (g : Nat) (h l : Int) : Prop := w.heap[g]? = some (.cells #[.int .i64 h, .int .i64 l] 71 (0, 0))

theorem TwoAt.made (w : World) (h l : Int) : TwoAt (w.alloc (.cells #[.int .i64 h, .int .i64 l] 71)) w.heap.size h l := by
  show (w.heap.push _)[w.heap.size]? = _
  simp

theorem TwoAt.cells {w : World} {g : Nat} {h l : Int} (k : TwoAt w g h l) : w.cell? ⟨g, 0, none⟩ = some (.int .i64 h) ∧ w.cell? ⟨g, 1, none⟩ = some (.int .i64 l) ∧ w.frozen? ⟨g, 0, none⟩ = false ∧ w.frozen? ⟨g, 1, none⟩ = false := by
  unfold TwoAt at k
  refine ⟨?_, ?_, ?_, ?_⟩ <;> simp [World.cell?, World.frozen?, k]

theorem TwoAt.lt {w : World} {g : Nat} {h l : Int} (k : TwoAt w g h l) : g < w.heap.size := by
  rcases Nat.lt_or_ge g w.heap.size with h1 | h1
  · exact h1
  · unfold TwoAt at k
    simp [Array.getElem?_eq_none h1] at k

theorem TwoAt.later {w w' : World} {g : Nat} {h l : Int} (k : TwoAt w g h l) (hb : Below w.heap.size w w') : TwoAt w' g h l := (hb.block g k.lt).trans k

theorem TwoAt.set {w : World} {g : Nat} {h l : Int} (k : TwoAt w g h l) (h' l' : Int) : TwoAt ((w.setCell ⟨g, 0, none⟩ (.int .i64 h')).setCell ⟨g, 1, none⟩ (.int .i64 l')) g h' l' := by
  have h1 : (w.setCell ⟨g, 0, none⟩ (.int .i64 h')).heap[g]? = some (.cells #[.int .i64 h', .int .i64 l] 71 (0, 0)) := Go.heap_setCell_same _ _ _ _ _ _ k
  exact Go.heap_setCell_same _ _ _ _ _ _ h1

theorem two_set_below {W w : World} {g : Nat} {u v : Value} (hb : Below W.heap.size W w) (hg : W.heap.size ≤ g) : Below W.heap.size W ((w.setCell ⟨g, 0, none⟩ u).setCell ⟨g, 1, none⟩ v) := (hb.setCell (p := ⟨g, 0, none⟩) hg u).setCell (p := ⟨g, 1, none⟩) hg v

theorem keep3W {W w w' : World} {b0 b1 b2 o0 o1 o2 : Nat} {x0 x1 x2 : Value} (hb : Below w.heap.size w w') (h : w.cell? ⟨b0, o0, none⟩ = some x0 ∧ w.cell? ⟨b1, o1, none⟩ = some x1 ∧ w.cell? ⟨b2, o2, none⟩ = some x2 ∧ Hid (Below W.heap.size W w)) :
    w'.cell? ⟨b0, o0, none⟩ = some x0 ∧ w'.cell? ⟨b1, o1, none⟩ = some x1 ∧ w'.cell? ⟨b2, o2, none⟩ = some x2 ∧ Hid (Below W.heap.size W w') := ⟨cell_later hb h.1, cell_later hb h.2.1, cell_later hb h.2.2.1, chain h.2.2.2.out hb⟩

/-- What a call that makes a set hands back. -/
def GivesZ (w w' : World) (e : Ending) (r : List PI × Int) : Prop :=
  ∃ v Z, e = .returned (.tuple #[v, .int .i64 r.2]) ∧ Z.map (·.2) = r.1 ∧ RowZ w' w.heap.size v Z ∧ Below w.heap.size w w'

theorem GivesZ.no {w w' : World} {e : Ending} {k : Int} (h : e = .returned (.tuple #[.slice none 0 0, .int .i64 k])) (hb : Below w.heap.size w w') : GivesZ w w' e ([], k) :=
  ⟨_, [], h, rfl, RowZ.nought _ _, hb⟩

set_option maxRecDepth 100000 in
set_option maxHeartbeats 16000000 in
theorem zgathered_any (a : Option Addr) (n cap : Nat) (X : List PI) (w : World) (hn : X.length = n) (h4 : n ≤ 32768) (hr : RdZ w a X) :
    Calls Try.prog 33 #[.slice a n cap] w fun e w' => GivesZ w w' e (ansZ (gatherZ X)) := by
  have HN : Hid (X.length = n) := hn
  have HR : Hid (RdZ w a X) := hr
  have HG0 : Hid (gatherZ X = (gatherZ (X.drop 0)).map fun r => (([] : List (List Value × PI)).map (·.2)) ++ r) := by
    show _ = _
    simp
  clear hn hr
  go_enter Try.func33, Try.ntmps33
  go_wp2
  go_loopw [4, 5] (fun v i wr => ∃ (k : Nat) (Z : List (List Value × PI)) (ao : Option Addr) (co : Nat), k ≤ n ∧ i = .int .i64 k ∧ v = .slice ao Z.length co ∧ Hid (gatherZ X = (gatherZ (X.drop k)).map fun r => Z.map (·.2) ++ r) ∧ Hid (RowZ wr w.heap.size (.slice ao Z.length co) Z) ∧ Hid (Below w.heap.size w wr) ∧ Z.length ≤ k) (fun _ i _ => n - (RowKit.intOf i).toNat)
  case atStart => exact ⟨0, [], none, 0, Nat.zero_le _, rfl, rfl, HG0.out, RowZ.nought _ _, Below.refl _ _, Nat.le_refl _⟩
  case round =>
    clear HG0
    obtain ⟨k, Z, ao, co, hk, rfl, rfl, hG, hRo, hB, hZk⟩ := hrel
    rename World => ww
    by_cases hlt : k < n
    · have hkl : k < X.length := by rw [HN.out]; exact hlt
      obtain ⟨b, off, ra, rc, rfl, x0, x1, hz⟩ := (HR.out.later hB.out).at_ hkl
      obtain ⟨wb, hwb⟩ : ∃ x, x = ww.alloc (.cells #[.slice ra (X[k]'hkl).row.length rc, .int .i64 (X[k]'hkl).wt] 40) := ⟨_, rfl⟩
      obtain ⟨B60, B61⟩ := two_cells_new ww (.slice ra (X[k]'hkl).row.length rc) (.int .i64 (X[k]'hkl).wt) 40
      rw [← hwb] at B60 B61
      have hb1 : Below ww.heap.size ww wb := by rw [hwb]; exact alloc_below _ _
      have HB60 : Hid (wb.cell? ⟨ww.heap.size, 0, none⟩ = some (.slice ra (X[k]'hkl).row.length rc) ∧ wb.cell? ⟨ww.heap.size, 1, none⟩ = some (.int .i64 (X[k]'hkl).wt)) := ⟨B60, B61⟩
      have HLZ : Hid (LiesZ (fun _ => False) wb [.slice ra (X[k]'hkl).row.length rc, .int .i64 (X[k]'hkl).wt] (X[k]'hkl)) := hz.later hb1
      have HB0 : Hid (Below w.heap.size w wb) := chain hB.out hb1
      have HRB : Hid (RowZ wb w.heap.size (.slice ao Z.length co) Z) := hRo.out.later hb1
      have HR1 : Hid (RdZ wb (some ⟨b, off, none⟩) X) := (HR.out.later hB.out).later hb1
      have hsz : wb.heap.size = ww.heap.size + 1 := by rw [hwb]; simp
      have HT1 : Hid (TwoAt ((ww.alloc (.cells #[.slice ra (X[k]'hkl).row.length rc, .int .i64 (X[k]'hkl).wt] 40)).alloc (.cells #[.int .i64 0, .int .i64 0] 71)) (ww.heap.size + 1) 0 0) := by
        show TwoAt _ _ _ _
        rw [← hsz, ← hwb]
        exact TwoAt.made _ _ _
      have HBT : Hid (Below wb.heap.size wb ((ww.alloc (.cells #[.slice ra (X[k]'hkl).row.length rc, .int .i64 (X[k]'hkl).wt] 40)).alloc (.cells #[.int .i64 0, .int .i64 0] 71))) := by rw [← hwb]; exact alloc_below _ _
      have HS0 : Hid (0 * 268435456 + 0 = sumTo X k k) := by show _ = _; rw [sumTo_self]; rfl
      have HSZ : Hid (wb.heap.size = ww.heap.size + 1) := hsz
      clear hz hb1 B60 B61 hwb hsz hRo
      go_wp2
      go_loopw [5] (fun i wq => ∃ (j : Nat) (h l : Int), k ≤ j ∧ j ≤ n ∧ i = .int .i64 j ∧ Hid (∀ i (hi : i < X.length), k ≤ i → i < j → cmpZ X[i] (X[k]'hkl) = 0) ∧ Hid (h * 268435456 + l = sumTo X k j) ∧ Hid (-(((j - k : Nat) : Int) * 34359738368) ≤ h ∧ h ≤ ((j - k : Nat) : Int) * 34359738368) ∧ Hid (0 ≤ l ∧ l ≤ ((j - k : Nat) : Int) * 268435455) ∧ Hid (TwoAt wq (ww.heap.size + 1) h l) ∧ Hid (Below wb.heap.size wb wq)) (fun i _ => n - (RowKit.intOf i).toNat)
      case atStart =>
        refine ⟨k, 0, 0, Nat.le_refl _, hk, rfl, (fun i hi h1 h2 => by omega), HS0.out, ?_, ?_, ?_, HBT.out⟩
        · show _ ∧ _
          simp
        · show _ ∧ _
          simp
        · exact HT1.out
      case round =>
        clear HT1 HBT HS0
        obtain ⟨j, h, l, hkj, hj, rfl, hall, hsum, hhb, hlb, hT7, hB7⟩ := hrel
        by_cases hjn : j < n
        · have hjl : j < X.length := by rw [HN.out]; exact hjn
          obtain ⟨b', off', sa, sc, eb, y0, y1, hz2⟩ := (HR1.out.later hB7.out).at_ hjl
          cases eb
          have HLJ : Hid (LiesZ (fun _ => False) wr [.slice sa X[j].row.length sc, .int .i64 X[j].wt] X[j]) := hz2
          have HX6 : Hid (_ ∧ _) := ⟨cell_later hB7.out HB60.out.1, cell_later hB7.out HB60.out.2⟩
          have CC : ∀ V, Below wr.heap.size wr V → Calls Try.prog 36 #[.agg #[.slice sa X[j].row.length sc, .int .i64 X[j].wt], .agg #[.slice ra (X[k]'hkl).row.length rc, .int .i64 (X[k]'hkl).wt]] V fun e w' => e = .returned (.int .i64 (cmpZ X[j] (X[k]'hkl))) ∧ Lay V w' := fun V hb => zCompare_any _ _ X[j] (X[k]'hkl) V (HLJ.out.later hb) ((HLZ.out.later hB7.out).later hb)
          have HWT : Hid (In64 X[j].wt) := by obtain ⟨_, _, _, _, _, _, _, h64, _⟩ := hz2; exact h64
          have HSU : Hid (sumTo X k (j + 1) = sumTo X k j + X[j].wt) := sumTo_succ hkj hjl
          have HAL : Hid (cmpZ X[j] (X[k]'hkl) = 0 → ∀ i (hi : i < X.length), k ≤ i → i < j + 1 → cmpZ X[i] (X[k]'hkl) = 0) := fun h0 i hi h1 h2 => by
            by_cases h3 : i = j
            · subst h3; exact h0
            · exact hall.out i hi h1 (by omega)
          have HRN : Hid (cmpZ X[j] (X[k]'hkl) ≠ 0 → gatherZ (X.drop k) = if isW (sumTo X k j) = true then (gatherZ (X.drop j)).map fun r => if sumTo X k j = 0 then r else ⟨(X[k]'hkl).row, sumTo X k j⟩ :: r else none) := fun h0 => gather_run (by
            rcases Nat.lt_or_ge k j with h1 | h1
            · exact h1
            · obtain rfl : k = j := by omega
              exact absurd (cmpZ_self _) h0) (by omega) hall.out (fun _ => h0)
          clear hz2
          obtain ⟨q, hq⟩ : ∃ q, X[j].wt = q := ⟨_, rfl⟩
          obtain ⟨sn, hsn⟩ : ∃ sn, X[j].row.length = sn := ⟨_, rfl⟩
          obtain ⟨c, hc⟩ : ∃ c, cmpZ X[j] (X[k]'hkl) = c := ⟨_, rfl⟩
          rw [hq] at y1 CC HWT HSU
          rw [hsn] at y0 CC
          rw [hc] at CC HAL HRN
          have jj0 : (0 : Int) ≤ (j : Int) := by omega
          have jj1 : (j : Int) < (n : Int) := by omega
          have jd : decide ((j : Int) < (n : Int)) = true := decide_eq_true jj1
          have HS6 : wr.drew.cell? ⟨b, off + j * 2, none⟩ = some (.slice sa sn sc) ∧ wr.drew.cell? ⟨b, off + j * 2 + 1, none⟩ = some (.int .i64 q) ∧ wr.drew.cell? ⟨ww.heap.size, 0, none⟩ = some (.slice ra (X[k]'hkl).row.length rc) ∧ wr.drew.cell? ⟨ww.heap.size, 1, none⟩ = some (.int .i64 (X[k]'hkl).wt) ∧ Hid (Below wr.heap.size wr wr.drew) := ⟨y0, y1, HX6.out.1, HX6.out.2, (Below.refl _ _).drew⟩
          by_cases hc0 : c = 0
          · have c1 : (c == 0) = true := by simpa using hc0
            have HAL2 : Hid _ := HAL.out hc0
            subst hc0
            clear HAL HRN hall HLJ hq hsn hc
            go_upto_region 6 with fail
            refine wp_region_held_drew (S := (fun w' => w'.cell? ⟨b, off + j * 2, none⟩ = some (.slice sa sn sc) ∧ w'.cell? ⟨b, off + j * 2 + 1, none⟩ = some (.int .i64 q) ∧ w'.cell? ⟨ww.heap.size, 0, none⟩ = some (.slice ra (X[k]'hkl).row.length rc) ∧ w'.cell? ⟨ww.heap.size, 1, none⟩ = some (.int .i64 (X[k]'hkl).wt) ∧ Hid (Below wr.heap.size wr w'))) (by kernel_rfl) HS6 (fun hHeld => ?_)
            refine heldTake (v := ?_) 0 18 rfl rfl (by kernel_rfl) (by kernel_rfl) (by kernel_rfl) (fun _ _ _ h => h) (by rfl) (fun w hSw => ?_) (by assumption) ?_
            rotate_left
            · (try dsimp only at hSw); first | (go_simp; done) | (go_simp; with_reducible rfl)
            simp only [List.setIfInBounds_toArray, List.set_cons_zero, List.set_cons_succ]
            refine heldTake (v := ?_) 1 19 rfl rfl (by kernel_rfl) (by kernel_rfl) (by kernel_rfl) (fun _ _ _ h => h) (by rfl) (fun w hSw => ?_) (by assumption) ?_
            rotate_left
            · (try dsimp only at hSw); first | (go_simp; done) | (go_simp; with_reducible rfl)
            simp only [List.setIfInBounds_toArray, List.set_cons_zero, List.set_cons_succ]
            refine heldTake (v := ?_) 2 20 rfl rfl (by kernel_rfl) (by kernel_rfl) (by kernel_rfl) (fun _ _ _ h => h) (by rfl) (fun w hSw => ?_) (by assumption) ?_
            rotate_left
            · (try dsimp only at hSw); first | (go_simp; done) | (go_simp; with_reducible rfl)
            simp only [List.setIfInBounds_toArray, List.set_cons_zero, List.set_cons_succ]
            refine heldTake (v := ?_) 3 21 rfl rfl (by kernel_rfl) (by kernel_rfl) (by kernel_rfl) (fun _ _ _ h => h) (by rfl) (fun w hSw => ?_) (by assumption) ?_
            rotate_left
            · (try dsimp only at hSw); first | (go_simp; done) | (go_simp; with_reducible rfl)
            simp only [List.setIfInBounds_toArray, List.set_cons_zero, List.set_cons_succ]
            refine heldTake (v := ?_) 4 22 rfl rfl (by kernel_rfl) (by kernel_rfl) (by kernel_rfl) (fun _ _ _ h => h) (by rfl) (fun w hSw => ?_) (by assumption) ?_
            rotate_left
            · (try dsimp only at hSw); first | (go_simp; done) | (go_simp; with_reducible rfl)
            simp only [List.setIfInBounds_toArray, List.set_cons_zero, List.set_cons_succ]
            refine heldTake (v := ?_) 5 23 rfl rfl (by kernel_rfl) (by kernel_rfl) (by kernel_rfl) (fun _ _ _ h => h) (by rfl) (fun w hSw => ?_) (by assumption) ?_
            rotate_left
            · (try dsimp only at hSw); first | (go_simp; done) | (go_simp; with_reducible rfl)
            simp only [List.setIfInBounds_toArray, List.set_cons_zero, List.set_cons_succ]
            refine heldTake (v := ?_) 6 24 rfl rfl (by kernel_rfl) (by kernel_rfl) (by kernel_rfl) (fun _ _ _ h => h) (by rfl) (fun w hSw => ?_) (by assumption) ?_
            rotate_left
            · (try dsimp only at hSw); first | (go_simp; done) | (go_simp; with_reducible rfl)
            simp only [List.setIfInBounds_toArray, List.set_cons_zero, List.set_cons_succ]
            refine heldTake (v := ?_) 7 25 rfl rfl (by kernel_rfl) (by kernel_rfl) (by kernel_rfl) (fun _ _ _ h => h) (by rfl) (fun w hSw => ?_) (by assumption) ?_
            rotate_left
            · (try dsimp only at hSw); first | (go_simp; done) | (go_simp; with_reducible rfl)
            simp only [List.setIfInBounds_toArray, List.set_cons_zero, List.set_cons_succ]
            refine heldTake (v := ?_) 8 26 rfl rfl (by kernel_rfl) (by kernel_rfl) (by kernel_rfl) (fun _ _ _ h => h) (by rfl) (fun w hSw => ?_) (by assumption) ?_
            rotate_left
            · (try dsimp only at hSw); first | (go_simp; done) | (go_simp; with_reducible rfl)
            simp only [List.setIfInBounds_toArray, List.set_cons_zero, List.set_cons_succ]
            refine heldTake (v := ?_) 9 27 rfl rfl (by kernel_rfl) (by kernel_rfl) (by kernel_rfl) (fun _ _ _ h => h) (by rfl) (fun w hSw => ?_) (by assumption) ?_
            rotate_left
            · (try dsimp only at hSw); first | (go_simp; done) | (go_simp; with_reducible rfl)
            simp only [List.setIfInBounds_toArray, List.set_cons_zero, List.set_cons_succ]
            refine heldOne 10 rfl (by kernel_rfl) (by rfl) (fun K2 hK => ?_)
            go_simp
            refine (CC _ hHeld.2.2.2.2.out).mono ?_
            rintro e wz ⟨rfl, hb⟩
            simp only []
            refine hK.out _ _ ?_ (fun hHeld => ?_)
            · exact keep4Z hb.below (by assumption)
            clear hK K2
            try simp only [List.setIfInBounds_toArray, List.set_cons_zero, List.set_cons_succ]
            refine heldTake (v := ?_) 11 29 rfl rfl (by kernel_rfl) (by kernel_rfl) (by kernel_rfl) (fun _ _ _ h => h) (by rfl) (fun w hSw => ?_) (by assumption) ?_
            rotate_left
            · (try dsimp only at hSw); first | (go_simp; done) | (go_simp; with_reducible rfl)
            simp only [List.setIfInBounds_toArray, List.set_cons_zero, List.set_cons_succ]
            refine heldTake (v := ?_) 12 30 rfl rfl (by kernel_rfl) (by kernel_rfl) (by kernel_rfl) (fun _ _ _ h => h) (by rfl) (fun w hSw => ?_) (by assumption) ?_
            rotate_left
            · (try dsimp only at hSw); first | (go_simp; done) | (go_simp; with_reducible rfl)
            simp only [List.setIfInBounds_toArray, List.set_cons_zero, List.set_cons_succ]
            refine wpAnyH_done (by kernel_rfl) ?_ _
            have HBZ : Hid (Below wr.heap.size wr wz) := hHeld.2.2.2.2
            have HT7 : Hid (TwoAt wz (ww.heap.size + 1) h l) := hT7.out.later HBZ.out
            have HB7 : Hid (Below wb.heap.size wb wz) := chain hB7.out HBZ.out
            have Y1 := hHeld.2.1
            clear hHeld HS6 CC y0 y1 hT7 hB7 HBZ
            obtain ⟨k0, k1, f0, f1⟩ := HT7.out.cells
            have HH1 := hhb.out
            have HL1 := hlb.out
            have CW := fun V => sumWith_any h l q V (by omega) (by omega) HWT.out
            clear HH1 HL1
            have HS8 : wz.drew.cell? ⟨ww.heap.size + 1, 0, none⟩ = some (.int .i64 h) ∧ wz.drew.cell? ⟨ww.heap.size + 1, 1, none⟩ = some (.int .i64 l) ∧ wz.drew.cell? ⟨b, off + j * 2 + 1, none⟩ = some (.int .i64 q) ∧ Hid (Below wz.heap.size wz wz.drew) := ⟨k0, k1, Y1, (Below.refl _ _).drew⟩
            clear k0 k1 f0 f1
            go_upto_region 8 with fail
            refine region_S (S := (fun w' => w'.cell? ⟨ww.heap.size + 1, 0, none⟩ = some (.int .i64 h) ∧ w'.cell? ⟨ww.heap.size + 1, 1, none⟩ = some (.int .i64 l) ∧ w'.cell? ⟨b, off + j * 2 + 1, none⟩ = some (.int .i64 q) ∧ Hid (Below wz.heap.size wz w'))) 7 (by kernel_rfl) HS8 (fun hHeld => ?_)
            refine sTake (v := ?_) 0 33 rfl rfl (by kernel_rfl) (by kernel_rfl) (by kernel_rfl) (by kernel_rfl) (by kernel_rfl) (fun _ _ _ h => h) (by rfl) (fun w hSw => ?_) (by assumption) ?_
            rotate_left
            · (try dsimp only at hSw); first | (go_simp; done) | (go_simp; with_reducible rfl)
            simp only [List.setIfInBounds_toArray, List.set_cons_zero, List.set_cons_succ]
            refine sPure (v := ?_) 1 34 rfl rfl (by kernel_rfl) (by kernel_rfl) (by kernel_rfl) (by decide) (fun _ _ _ h => h) (by rfl) (fun w => ?_) (.inr (by assumption)) ?_
            rotate_left
            · first | (go_simp; done) | (go_simp; with_reducible rfl)
            simp only [List.setIfInBounds_toArray, List.set_cons_zero, List.set_cons_succ]
            refine sPure (v := ?_) 2 35 rfl rfl (by kernel_rfl) (by kernel_rfl) (by kernel_rfl) (by decide) (fun _ _ _ h => h) (by rfl) (fun w => ?_) (.inr (by assumption)) ?_
            rotate_left
            · first | (go_simp; done) | (go_simp; with_reducible rfl)
            simp only [List.setIfInBounds_toArray, List.set_cons_zero, List.set_cons_succ]
            refine sPure (v := ?_) 3 36 rfl rfl (by kernel_rfl) (by kernel_rfl) (by kernel_rfl) (by decide) (fun _ _ _ h => h) (by rfl) (fun w => ?_) (.inr (by assumption)) ?_
            rotate_left
            · first | (go_simp; done) | (go_simp; with_reducible rfl)
            simp only [List.setIfInBounds_toArray, List.set_cons_zero, List.set_cons_succ]
            refine sPure (v := ?_) 4 37 rfl rfl (by kernel_rfl) (by kernel_rfl) (by kernel_rfl) (by decide) (fun _ _ _ h => h) (by rfl) (fun w => ?_) (.inr (by assumption)) ?_
            rotate_left
            · first | (go_simp; done) | (go_simp; with_reducible rfl)
            simp only [List.setIfInBounds_toArray, List.set_cons_zero, List.set_cons_succ]
            refine sTake (v := ?_) 5 38 rfl rfl (by kernel_rfl) (by kernel_rfl) (by kernel_rfl) (by kernel_rfl) (by kernel_rfl) (fun _ _ _ h => h) (by rfl) (fun w hSw => ?_) (by assumption) ?_
            rotate_left
            · (try dsimp only at hSw); first | (go_simp; done) | (go_simp; with_reducible rfl)
            simp only [List.setIfInBounds_toArray, List.set_cons_zero, List.set_cons_succ]
            refine sOne 6 rfl (by kernel_rfl) (by rfl) (fun K2 hK => ?_)
            go_simp
            refine (CW _).mono ?_
            rintro e wy ⟨rfl, hb⟩
            simp only []
            have HB8 : Hid (Below wz.heap.size wz wy) := chain (lay_drew wz).below hb
            have HT8 : Hid (TwoAt wy (ww.heap.size + 1) h l) := HT7.out.later HB8.out
            refine hK.out _ _ ?_ (fun hHeld => ?_)
            · exact .inr (keep3W hb (by assumption))
            clear hK K2
            replace hHeld := hHeld.resolve_left (by decide)
            try simp only [List.setIfInBounds_toArray, List.set_cons_zero, List.set_cons_succ]
            refine sOne 7 rfl (by kernel_rfl) (by rfl) (fun K2 hK => ?_)
            obtain ⟨k0, k1, f0, f1⟩ := HT8.out.cells
            go_simp
            clear k0 k1 f0 f1
            refine hK.out _ _ ?_ (fun hHeld => ?_)
            · exact .inl (by rfl)
            clear hK K2 hHeld
            try simp only [List.setIfInBounds_toArray, List.set_cons_zero, List.set_cons_succ]
            refine sDone (by kernel_rfl) ?_ _
            have HTF : Hid (TwoAt ((wy.setCell ⟨ww.heap.size + 1, 0, none⟩ (.int .i64 (h + q / 268435456))).setCell ⟨ww.heap.size + 1, 1, none⟩ (.int .i64 (l + q % 268435456))) (ww.heap.size + 1) (h + q / 268435456) (l + q % 268435456)) := HT8.out.set _ _
            have HBF : Hid (Below wb.heap.size wb ((wy.setCell ⟨ww.heap.size + 1, 0, none⟩ (.int .i64 (h + q / 268435456))).setCell ⟨ww.heap.size + 1, 1, none⟩ (.int .i64 (l + q % 268435456)))) := two_set_below (chain HB7.out HB8.out) (by rw [HSZ.out]; exact Nat.le_refl _)
            have HVF : Hid ((h + q / 268435456) * 268435456 + (l + q % 268435456) = sumTo X k (j + 1)) := by
              have e1 := hsum.out
              have e2 := HSU.out
              show _ = _
              omega
            have hq64 := HWT.out
            unfold In64 at hq64
            have HJK : ((j + 1 - k : Nat) : Int) = ((j - k : Nat) : Int) + 1 := by omega
            have HHF : Hid (-(((j + 1 - k : Nat) : Int) * 34359738368) ≤ h + q / 268435456 ∧ h + q / 268435456 ≤ ((j + 1 - k : Nat) : Int) * 34359738368) := by
              have e1 := hhb.out
              show _ ∧ _
              rw [HJK]
              omega
            have HLF : Hid (0 ≤ l + q % 268435456 ∧ l + q % 268435456 ≤ ((j + 1 - k : Nat) : Int) * 268435455) := by
              have e1 := hlb.out
              show _ ∧ _
              rw [HJK]
              omega
            clear hHeld HT8 HB8 HT7 HB7 hsum HSU hq64 HJK hhb hlb HWT CW HS8
            go_wp2
            go_roundw
            case rel => exact ⟨j + 1, _, _, by omega, by omega, by go_num, HAL2.out, HVF.out, HHF.out, HLF.out, HTF.out, HBF.out⟩
            case measure => simp [RowKit.intOf]; omega
          · have c1 : (c == 0) = false := by simpa using hc0
            have c2 : (c = 0) = False := eq_false hc0
            have HRUN : Hid _ := HRN.out hc0
            have HKN : Hid (¬ j ≤ k) := fun h1 => by
              obtain rfl : k = j := by omega
              exact hc0 (by rw [← hc]; exact cmpZ_self _)
            clear HAL HRN hall HLJ HSU hq hsn hc hc0 HWT
            go_upto_region 6 with fail
            refine wp_region_held_drew (S := (fun w' => w'.cell? ⟨b, off + j * 2, none⟩ = some (.slice sa sn sc) ∧ w'.cell? ⟨b, off + j * 2 + 1, none⟩ = some (.int .i64 q) ∧ w'.cell? ⟨ww.heap.size, 0, none⟩ = some (.slice ra (X[k]'hkl).row.length rc) ∧ w'.cell? ⟨ww.heap.size, 1, none⟩ = some (.int .i64 (X[k]'hkl).wt) ∧ Hid (Below wr.heap.size wr w'))) (by kernel_rfl) HS6 (fun hHeld => ?_)
            refine heldTake (v := ?_) 0 18 rfl rfl (by kernel_rfl) (by kernel_rfl) (by kernel_rfl) (fun _ _ _ h => h) (by rfl) (fun w hSw => ?_) (by assumption) ?_
            rotate_left
            · (try dsimp only at hSw); first | (go_simp; done) | (go_simp; with_reducible rfl)
            simp only [List.setIfInBounds_toArray, List.set_cons_zero, List.set_cons_succ]
            refine heldTake (v := ?_) 1 19 rfl rfl (by kernel_rfl) (by kernel_rfl) (by kernel_rfl) (fun _ _ _ h => h) (by rfl) (fun w hSw => ?_) (by assumption) ?_
            rotate_left
            · (try dsimp only at hSw); first | (go_simp; done) | (go_simp; with_reducible rfl)
            simp only [List.setIfInBounds_toArray, List.set_cons_zero, List.set_cons_succ]
            refine heldTake (v := ?_) 2 20 rfl rfl (by kernel_rfl) (by kernel_rfl) (by kernel_rfl) (fun _ _ _ h => h) (by rfl) (fun w hSw => ?_) (by assumption) ?_
            rotate_left
            · (try dsimp only at hSw); first | (go_simp; done) | (go_simp; with_reducible rfl)
            simp only [List.setIfInBounds_toArray, List.set_cons_zero, List.set_cons_succ]
            refine heldTake (v := ?_) 3 21 rfl rfl (by kernel_rfl) (by kernel_rfl) (by kernel_rfl) (fun _ _ _ h => h) (by rfl) (fun w hSw => ?_) (by assumption) ?_
            rotate_left
            · (try dsimp only at hSw); first | (go_simp; done) | (go_simp; with_reducible rfl)
            simp only [List.setIfInBounds_toArray, List.set_cons_zero, List.set_cons_succ]
            refine heldTake (v := ?_) 4 22 rfl rfl (by kernel_rfl) (by kernel_rfl) (by kernel_rfl) (fun _ _ _ h => h) (by rfl) (fun w hSw => ?_) (by assumption) ?_
            rotate_left
            · (try dsimp only at hSw); first | (go_simp; done) | (go_simp; with_reducible rfl)
            simp only [List.setIfInBounds_toArray, List.set_cons_zero, List.set_cons_succ]
            refine heldTake (v := ?_) 5 23 rfl rfl (by kernel_rfl) (by kernel_rfl) (by kernel_rfl) (fun _ _ _ h => h) (by rfl) (fun w hSw => ?_) (by assumption) ?_
            rotate_left
            · (try dsimp only at hSw); first | (go_simp; done) | (go_simp; with_reducible rfl)
            simp only [List.setIfInBounds_toArray, List.set_cons_zero, List.set_cons_succ]
            refine heldTake (v := ?_) 6 24 rfl rfl (by kernel_rfl) (by kernel_rfl) (by kernel_rfl) (fun _ _ _ h => h) (by rfl) (fun w hSw => ?_) (by assumption) ?_
            rotate_left
            · (try dsimp only at hSw); first | (go_simp; done) | (go_simp; with_reducible rfl)
            simp only [List.setIfInBounds_toArray, List.set_cons_zero, List.set_cons_succ]
            refine heldTake (v := ?_) 7 25 rfl rfl (by kernel_rfl) (by kernel_rfl) (by kernel_rfl) (fun _ _ _ h => h) (by rfl) (fun w hSw => ?_) (by assumption) ?_
            rotate_left
            · (try dsimp only at hSw); first | (go_simp; done) | (go_simp; with_reducible rfl)
            simp only [List.setIfInBounds_toArray, List.set_cons_zero, List.set_cons_succ]
            refine heldTake (v := ?_) 8 26 rfl rfl (by kernel_rfl) (by kernel_rfl) (by kernel_rfl) (fun _ _ _ h => h) (by rfl) (fun w hSw => ?_) (by assumption) ?_
            rotate_left
            · (try dsimp only at hSw); first | (go_simp; done) | (go_simp; with_reducible rfl)
            simp only [List.setIfInBounds_toArray, List.set_cons_zero, List.set_cons_succ]
            refine heldTake (v := ?_) 9 27 rfl rfl (by kernel_rfl) (by kernel_rfl) (by kernel_rfl) (fun _ _ _ h => h) (by rfl) (fun w hSw => ?_) (by assumption) ?_
            rotate_left
            · (try dsimp only at hSw); first | (go_simp; done) | (go_simp; with_reducible rfl)
            simp only [List.setIfInBounds_toArray, List.set_cons_zero, List.set_cons_succ]
            refine heldOne 10 rfl (by kernel_rfl) (by rfl) (fun K2 hK => ?_)
            go_simp
            refine (CC _ hHeld.2.2.2.2.out).mono ?_
            rintro e wz ⟨rfl, hb⟩
            simp only []
            refine hK.out _ _ ?_ (fun hHeld => ?_)
            · exact keep4Z hb.below (by assumption)
            clear hK K2
            try simp only [List.setIfInBounds_toArray, List.set_cons_zero, List.set_cons_succ]
            refine heldTake (v := ?_) 11 29 rfl rfl (by kernel_rfl) (by kernel_rfl) (by kernel_rfl) (fun _ _ _ h => h) (by rfl) (fun w hSw => ?_) (by assumption) ?_
            rotate_left
            · (try dsimp only at hSw); first | (go_simp; done) | (go_simp; with_reducible rfl)
            simp only [List.setIfInBounds_toArray, List.set_cons_zero, List.set_cons_succ]
            refine heldTake (v := ?_) 12 30 rfl rfl (by kernel_rfl) (by kernel_rfl) (by kernel_rfl) (fun _ _ _ h => h) (by rfl) (fun w hSw => ?_) (by assumption) ?_
            rotate_left
            · (try dsimp only at hSw); first | (go_simp; done) | (go_simp; with_reducible rfl)
            simp only [List.setIfInBounds_toArray, List.set_cons_zero, List.set_cons_succ]
            refine wpAnyH_done (by kernel_rfl) ?_ _
            have HBZ : Hid (Below wr.heap.size wr wz) := hHeld.2.2.2.2
            have HT7 : Hid (TwoAt wz (ww.heap.size + 1) h l) := hT7.out.later HBZ.out
            have HB7 : Hid (Below wb.heap.size wb wz) := chain hB7.out HBZ.out
            have HV : Hid (h * 268435456 + l = sumTo X k j) := hsum.out
            have HBD : Hid ((-1125899906842624 ≤ h ∧ h ≤ 1125899906842624) ∧ (0 ≤ l ∧ l ≤ 1152921504606846976)) := by
              have e1 := hhb.out
              have e2 := hlb.out
              show _ ∧ _
              omega
            have HKJ : k < j := by
              rcases Nat.lt_or_ge k j with h1 | h1
              · exact h1
              · exact absurd h1 (HKN.out)
            clear hHeld HS6 CC y0 y1 hT7 hB7 HBZ hsum hhb hlb hkj HKN
            obtain ⟨k0, k1, f0, f1⟩ := HT7.out.cells
            have CS := sumWeight_any h l wz HBD.out.1 HBD.out.2
            rw [HV.out] at CS
            obtain ⟨V, hV⟩ : ∃ V, sumTo X k j = V := ⟨_, rfl⟩
            have HRUN2 : Hid (gatherZ (X.drop k) = if isW V = true then (gatherZ (X.drop j)).map fun r => if V = 0 then r else ⟨(X[k]'hkl).row, V⟩ :: r else none) := by rw [← hV]; exact HRUN.out
            rw [hV] at CS
            clear hV HRUN HV
            cases hq : isW V with
            | false =>
              have HNO : Hid (ansZ (gatherZ X) = ([], 11)) := by
                show _ = _
                rw [hG.out, HRUN2.out, hq]
                rfl
              rw [hq] at CS
              clear HRUN2 hq hG
              go_wp2_with fail
              refine CS.mono ?_
              rintro e w9 ⟨rfl, hb9⟩
              have HB9 : Hid (Below w.heap.size w w9) := chain HB0.out (chain HB7.out hb9)
              clear CS hb9
              go_wp2
              go_ret2
              rw [HNO.out]
              exact GivesZ.no rfl HB9.out
            | true =>
              have hwt : wtZ V = V := by unfold wtZ; rw [hq]; rfl
              rw [hq, hwt] at CS
              have HRUN3 : Hid (gatherZ (X.drop k) = (gatherZ (X.drop j)).map fun r => if V = 0 then r else ⟨(X[k]'hkl).row, V⟩ :: r) := by
                show _ = _
                rw [HRUN2.out, hq, if_pos rfl]
              have HVB := isW_iff.1 hq
              clear HRUN2 hq hwt
              go_wp2_with fail
              refine CS.mono ?_
              rintro e w9 ⟨rfl, hb9⟩
              have HB9 : Hid (Below wb.heap.size wb w9) := chain HB7.out hb9
              clear CS hb9
              by_cases hv0 : V = 0
              · have HG2 : Hid (gatherZ X = (gatherZ (X.drop j)).map fun r => Z.map (·.2) ++ r) := by
                  show _ = _
                  rw [hG.out, HRUN3.out, Option.map_map]
                  congr 1
                  funext r
                  simp [hv0]
                have HR9 : Hid (RowZ w9 w.heap.size (.slice ao Z.length co) Z) := HRB.out.later HB9.out
                have HB9' : Hid (Below w.heap.size w w9) := chain HB0.out HB9.out
                have v1 : (V == 0) = true := by simpa using hv0
                have v2 : (V != 0) = false := by simpa using hv0
                clear hG HRUN3 HRB HB9 HVB hv0
                go_wp2
                go_roundw
                case rel => exact ⟨j, Z, ao, co, by omega, rfl, rfl, HG2.out, HR9.out, HB9'.out, by omega⟩
                case measure => simp [RowKit.intOf]; omega
              · have v1 : (V == 0) = false := by simpa using hv0
                have v2 : (V != 0) = true := by simpa using hv0
                have HL0 := (HLZ.out.later HB9.out)
                obtain ⟨ra', rc', e0, hrd, hl65, hlc, hnil, h64, -⟩ := HL0
                cases e0
                have z0 := cell_later HB9.out HB60.out.1
                have CV := vclone_any ra (X[k]'hkl).row.length rc (X[k]'hkl).row w9 rfl hl65 hnil hrd
                have HR9 : Hid (RowZ w9 w.heap.size (.slice ao Z.length co) Z) := HRB.out.later HB9.out
                have HG2 : Hid (gatherZ X = (gatherZ (X.drop j)).map fun r => (Z.map (·.2) ++ [⟨(X[k]'hkl).row, V⟩]) ++ r) := by
                  show _ = _
                  rw [hG.out, HRUN3.out, Option.map_map]
                  congr 1
                  funext r
                  simp [hv0]
                have HLR : Hid ((X[k]'hkl).row.length ≤ 65536) := hl65
                clear hG HRUN3 HRB HLZ hrd hlc hnil h64 hl65 HB60
                generalize (X[k]'hkl).row = vs at *
                generalize hvl : vs.length = vn at *
                have HVL : Hid (vs.length = vn) := hvl
                clear hvl
                go_wp2_with fail
                refine CV.mono ?_
                rintro e w10 ⟨a2, c2, rfl, hc2, ho2, hn2, hb2⟩
                obtain ⟨w11, hw11⟩ : ∃ x, x = w10.alloc (.cells #[.slice a2 vn c2, .int .i64 V] 40) := ⟨_, rfl⟩
                have hb11 : Below w10.heap.size w10 w11 := by rw [hw11]; exact alloc_below _ _
                have hlx : LiesZ (fun b => b < w.heap.size ∨ (Value.slice ao Z.length co).ownBlock = some b) w11 [.slice a2 vn c2, .int .i64 V] ⟨vs, V⟩ := by
                  obtain ⟨a3, c3, e3, -, r3, -⟩ := ho2.form
                  rw [HVL.out] at e3
                  cases e3
                  refine ⟨a2, c2, by rw [HVL.out], r3.later hb11, by rw [HVL.out]; exact HLR.out, by rw [HVL.out]; exact hc2, hn2, by show In64 V; unfold In64; omega, fun _ b o s ea hE => ?_⟩
                  subst ea
                  have hge := (World.ownsRow.lt ho2 b rfl).1
                  rcases hE with hE | hE
                  · have := Nat.le_trans HB0.out.size HB9.out.size
                    omega
                  · have := (World.ownsRow.lt HR9.out.1.2 b hE).2
                    omega
                have hR11 : RowZ w11 w.heap.size (.slice ao Z.length co) Z := (HR9.out.later hb2).later hb11
                have hnew := two_cells_new w10 (.slice a2 vn c2) (.int .i64 V) 40
                rw [← hw11] at hnew
                obtain ⟨v5, w5, hrun, ho5, hg5, hl5⟩ := run_append_k ktItem (ty := 22) (cap := 1) (a := some ⟨w10.heap.size, 0, none⟩) hR11.1 (n := Z.length) (by rw [List.length_map]) (m := 1) (N := [[.slice a2 vn c2, .int .i64 V]]) rfl (Wide.one hlx.wide) (fun _ => ⟨w10.heap.size, 0, rfl, fun i hi j v hj => by
                  have hi0 : i = 0 := by simpa using hi
                  subst hi0
                  simp only [List.getElem_cons_zero] at hj
                  rw [Nat.zero_mul, Nat.add_zero, Nat.zero_add]
                  match j, hj with
                  | 0, hj => cases hj; exact hnew.1
                  | 1, hj => cases hj; exact hnew.2⟩) (fun h => by cases h) (by omega) (by omega) (Nat.le_trans (Nat.le_trans HB0.out.size HB9.out.size) (Nat.le_trans hb2.size hb11.size))
                have hrow := hR11.grow (Y := [([.slice a2 vn c2, .int .i64 V], ⟨vs, V⟩)]) (fun z hz => by
                  simp only [List.mem_singleton] at hz
                  subst hz
                  exact hlx) (by simpa using ho5) hg5 hl5
                obtain ⟨a5, c5, e5, -⟩ := hrow.form
                rw [List.length_append, List.length_singleton] at e5
                subst e5
                have HR5 : Hid (RowZ w5 w.heap.size (.slice a5 (Z ++ [(([.slice a2 vn c2, .int .i64 V] : List Value), (⟨vs, V⟩ : PI))]).length c5) (Z ++ [([.slice a2 vn c2, .int .i64 V], ⟨vs, V⟩)])) := by
                  show RowZ _ _ _ _
                  rw [List.length_append, List.length_singleton]
                  exact hrow
                have HG5 : Hid (gatherZ X = (gatherZ (X.drop j)).map fun r => (Z ++ [(([.slice a2 vn c2, .int .i64 V] : List Value), (⟨vs, V⟩ : PI))]).map (·.2) ++ r) := by
                  show _ = _
                  rw [HG2.out]
                  simp
                have HB5 : Hid (Below w.heap.size w w5) := (chain HB0.out (chain HB9.out (chain hb2 hb11))).grown hg5 (Nat.le_trans (Nat.le_trans HB0.out.size HB9.out.size) (Nat.le_trans hb2.size hb11.size)) (fun j hj => (World.ownsRow.lt hR11.1.2 j hj).1)
                have HZ5 : Hid ((Z ++ [(([.slice a2 vn c2, .int .i64 V] : List Value), (⟨vs, V⟩ : PI))]).length = Z.length + 1) := by show _ = _; simp
                clear hlx hR11 hnew ho5 hg5 hl5 hrow HG2 HR9 HB9 ho2 hn2 hb2 hb11 HVB hv0
                subst hw11
                go_wp2_with (at_builtin; refine wpList_append_run rfl _ _ 22 22 rfl _ _ _ _ rfl rfl hrun ?_)
                go_roundw
                case rel => exact ⟨j, _, a5, c5, by omega, rfl, by rw [HZ5.out], HG5.out, HR5.out, HB5.out, by rw [HZ5.out]; omega⟩
                case measure => simp [RowKit.intOf]; omega
        · obtain rfl : j = n := by omega
          have HRUN : Hid (gatherZ (X.drop k) = if isW (sumTo X k j) = true then (gatherZ (X.drop j)).map fun r => if sumTo X k j = 0 then r else ⟨(X[k]'hkl).row, sumTo X k j⟩ :: r else none) := gather_run hlt (by rw [HN.out]; exact Nat.le_refl _) hall.out (fun h => absurd h (by rw [HN.out]; omega))
          have jd : decide ((j : Int) < (j : Int)) = false := by simp
          have HS6 : Hid (Below wr.heap.size wr wr.drew) := (Below.refl _ _).drew
          clear hall hjn
          go_upto_region 6 with fail
          refine wp_region_held_drew (S := (fun w' => Hid (Below wr.heap.size wr w'))) (by kernel_rfl) HS6 (fun hHeld => ?_)
          refine heldTake (v := ?_) 0 18 rfl rfl (by kernel_rfl) (by kernel_rfl) (by kernel_rfl) (fun _ _ _ h => h) (by rfl) (fun w hSw => ?_) (by assumption) ?_
          rotate_left
          · (try dsimp only at hSw); first | (go_simp; done) | (go_simp; with_reducible rfl)
          simp only [List.setIfInBounds_toArray, List.set_cons_zero, List.set_cons_succ]
          refine heldTake (v := ?_) 1 19 rfl rfl (by kernel_rfl) (by kernel_rfl) (by kernel_rfl) (fun _ _ _ h => h) (by rfl) (fun w hSw => ?_) (by assumption) ?_
          rotate_left
          · (try dsimp only at hSw); first | (go_simp; done) | (go_simp; with_reducible rfl)
          simp only [List.setIfInBounds_toArray, List.set_cons_zero, List.set_cons_succ]
          refine heldTake (v := ?_) 2 20 rfl rfl (by kernel_rfl) (by kernel_rfl) (by kernel_rfl) (fun _ _ _ h => h) (by rfl) (fun w hSw => ?_) (by assumption) ?_
          rotate_left
          · (try dsimp only at hSw); first | (go_simp; done) | (go_simp; with_reducible rfl)
          simp only [List.setIfInBounds_toArray, List.set_cons_zero, List.set_cons_succ]
          refine heldTake (v := ?_) 3 21 rfl rfl (by kernel_rfl) (by kernel_rfl) (by kernel_rfl) (fun _ _ _ h => h) (by rfl) (fun w hSw => ?_) (by assumption) ?_
          rotate_left
          · (try dsimp only at hSw); first | (go_simp; done) | (go_simp; with_reducible rfl)
          simp only [List.setIfInBounds_toArray, List.set_cons_zero, List.set_cons_succ]
          refine heldTake (v := ?_) 4 22 rfl rfl (by kernel_rfl) (by kernel_rfl) (by kernel_rfl) (fun _ _ _ h => h) (by rfl) (fun w hSw => ?_) (by assumption) ?_
          rotate_left
          · (try dsimp only at hSw); first | (go_simp; done) | (go_simp; with_reducible rfl)
          simp only [List.setIfInBounds_toArray, List.set_cons_zero, List.set_cons_succ]
          refine heldSkip 5 23 rfl rfl (by kernel_rfl) (by kernel_rfl) (by kernel_rfl) (fun _ _ _ h => h) (by rfl) (by assumption) ?_
          simp only [List.setIfInBounds_toArray, List.set_cons_zero, List.set_cons_succ]
          refine heldSkip 6 24 rfl rfl (by kernel_rfl) (by kernel_rfl) (by kernel_rfl) (fun _ _ _ h => h) (by rfl) (by assumption) ?_
          simp only [List.setIfInBounds_toArray, List.set_cons_zero, List.set_cons_succ]
          refine heldSkip 7 25 rfl rfl (by kernel_rfl) (by kernel_rfl) (by kernel_rfl) (fun _ _ _ h => h) (by rfl) (by assumption) ?_
          simp only [List.setIfInBounds_toArray, List.set_cons_zero, List.set_cons_succ]
          refine heldSkip 8 26 rfl rfl (by kernel_rfl) (by kernel_rfl) (by kernel_rfl) (fun _ _ _ h => h) (by rfl) (by assumption) ?_
          simp only [List.setIfInBounds_toArray, List.set_cons_zero, List.set_cons_succ]
          refine heldSkip 9 27 rfl rfl (by kernel_rfl) (by kernel_rfl) (by kernel_rfl) (fun _ _ _ h => h) (by rfl) (by assumption) ?_
          simp only [List.setIfInBounds_toArray, List.set_cons_zero, List.set_cons_succ]
          refine heldSkip 10 28 rfl rfl (by kernel_rfl) (by kernel_rfl) (by kernel_rfl) (fun _ _ _ h => h) (by rfl) (by assumption) ?_
          simp only [List.setIfInBounds_toArray, List.set_cons_zero, List.set_cons_succ]
          refine heldSkip 11 29 rfl rfl (by kernel_rfl) (by kernel_rfl) (by kernel_rfl) (fun _ _ _ h => h) (by rfl) (by assumption) ?_
          simp only [List.setIfInBounds_toArray, List.set_cons_zero, List.set_cons_succ]
          refine heldTake (v := ?_) 12 30 rfl rfl (by kernel_rfl) (by kernel_rfl) (by kernel_rfl) (fun _ _ _ h => h) (by rfl) (fun w hSw => ?_) (by assumption) ?_
          rotate_left
          · (try dsimp only at hSw); first | (go_simp; done) | (go_simp; with_reducible rfl)
          simp only [List.setIfInBounds_toArray, List.set_cons_zero, List.set_cons_succ]
          refine wpAnyH_done (by kernel_rfl) ?_ _
          clear hHeld HS6
          obtain ⟨wz, hwz⟩ : ∃ x, x = wr.drew := ⟨_, rfl⟩
          have HT7 : Hid (TwoAt wz (ww.heap.size + 1) h l) := by rw [hwz]; exact hT7.out
          have HB7 : Hid (Below wb.heap.size wb wz) := by rw [hwz]; exact hB7.out.drew
          rw [← hwz]
          have HV : Hid (h * 268435456 + l = sumTo X k j) := hsum.out
          have HBD : Hid ((-1125899906842624 ≤ h ∧ h ≤ 1125899906842624) ∧ (0 ≤ l ∧ l ≤ 1152921504606846976)) := by
            have e1 := hhb.out
            have e2 := hlb.out
            show _ ∧ _
            omega
          have HKJ : k < j := by omega
          clear hwz hT7 hB7 hsum hhb hlb hkj
          obtain ⟨k0, k1, f0, f1⟩ := HT7.out.cells
          have CS := sumWeight_any h l wz HBD.out.1 HBD.out.2
          rw [HV.out] at CS
          obtain ⟨V, hV⟩ : ∃ V, sumTo X k j = V := ⟨_, rfl⟩
          have HRUN2 : Hid (gatherZ (X.drop k) = if isW V = true then (gatherZ (X.drop j)).map fun r => if V = 0 then r else ⟨(X[k]'hkl).row, V⟩ :: r else none) := by rw [← hV]; exact HRUN.out
          rw [hV] at CS
          clear hV HRUN HV
          cases hq : isW V with
          | false =>
            have HNO : Hid (ansZ (gatherZ X) = ([], 11)) := by
              show _ = _
              rw [hG.out, HRUN2.out, hq]
              rfl
            rw [hq] at CS
            clear HRUN2 hq hG
            go_wp2_with fail
            refine CS.mono ?_
            rintro e w9 ⟨rfl, hb9⟩
            have HB9 : Hid (Below w.heap.size w w9) := chain HB0.out (chain HB7.out hb9)
            clear CS hb9
            go_wp2
            go_ret2
            rw [HNO.out]
            exact GivesZ.no rfl HB9.out
          | true =>
            have hwt : wtZ V = V := by unfold wtZ; rw [hq]; rfl
            rw [hq, hwt] at CS
            have HRUN3 : Hid (gatherZ (X.drop k) = (gatherZ (X.drop j)).map fun r => if V = 0 then r else ⟨(X[k]'hkl).row, V⟩ :: r) := by
              show _ = _
              rw [HRUN2.out, hq, if_pos rfl]
            have HVB := isW_iff.1 hq
            clear HRUN2 hq hwt
            go_wp2_with fail
            refine CS.mono ?_
            rintro e w9 ⟨rfl, hb9⟩
            have HB9 : Hid (Below wb.heap.size wb w9) := chain HB7.out hb9
            clear CS hb9
            by_cases hv0 : V = 0
            · have HG2 : Hid (gatherZ X = (gatherZ (X.drop j)).map fun r => Z.map (·.2) ++ r) := by
                show _ = _
                rw [hG.out, HRUN3.out, Option.map_map]
                congr 1
                funext r
                simp [hv0]
              have HR9 : Hid (RowZ w9 w.heap.size (.slice ao Z.length co) Z) := HRB.out.later HB9.out
              have HB9' : Hid (Below w.heap.size w w9) := chain HB0.out HB9.out
              have v1 : (V == 0) = true := by simpa using hv0
              have v2 : (V != 0) = false := by simpa using hv0
              clear hG HRUN3 HRB HB9 HVB hv0
              go_wp2
              go_roundw
              case rel => exact ⟨j, Z, ao, co, by omega, rfl, rfl, HG2.out, HR9.out, HB9'.out, by omega⟩
              case measure => simp [RowKit.intOf]; omega
            · have v1 : (V == 0) = false := by simpa using hv0
              have v2 : (V != 0) = true := by simpa using hv0
              have HL0 := (HLZ.out.later HB9.out)
              obtain ⟨ra', rc', e0, hrd, hl65, hlc, hnil, h64, -⟩ := HL0
              cases e0
              have z0 := cell_later HB9.out HB60.out.1
              have CV := vclone_any ra (X[k]'hkl).row.length rc (X[k]'hkl).row w9 rfl hl65 hnil hrd
              have HR9 : Hid (RowZ w9 w.heap.size (.slice ao Z.length co) Z) := HRB.out.later HB9.out
              have HG2 : Hid (gatherZ X = (gatherZ (X.drop j)).map fun r => (Z.map (·.2) ++ [⟨(X[k]'hkl).row, V⟩]) ++ r) := by
                show _ = _
                rw [hG.out, HRUN3.out, Option.map_map]
                congr 1
                funext r
                simp [hv0]
              have HLR : Hid ((X[k]'hkl).row.length ≤ 65536) := hl65
              clear hG HRUN3 HRB HLZ hrd hlc hnil h64 hl65 HB60
              generalize (X[k]'hkl).row = vs at *
              generalize hvl : vs.length = vn at *
              have HVL : Hid (vs.length = vn) := hvl
              clear hvl
              go_wp2_with fail
              refine CV.mono ?_
              rintro e w10 ⟨a2, c2, rfl, hc2, ho2, hn2, hb2⟩
              obtain ⟨w11, hw11⟩ : ∃ x, x = w10.alloc (.cells #[.slice a2 vn c2, .int .i64 V] 40) := ⟨_, rfl⟩
              have hb11 : Below w10.heap.size w10 w11 := by rw [hw11]; exact alloc_below _ _
              have hlx : LiesZ (fun b => b < w.heap.size ∨ (Value.slice ao Z.length co).ownBlock = some b) w11 [.slice a2 vn c2, .int .i64 V] ⟨vs, V⟩ := by
                obtain ⟨a3, c3, e3, -, r3, -⟩ := ho2.form
                rw [HVL.out] at e3
                cases e3
                refine ⟨a2, c2, by rw [HVL.out], r3.later hb11, by rw [HVL.out]; exact HLR.out, by rw [HVL.out]; exact hc2, hn2, by show In64 V; unfold In64; omega, fun _ b o s ea hE => ?_⟩
                subst ea
                have hge := (World.ownsRow.lt ho2 b rfl).1
                rcases hE with hE | hE
                · have := Nat.le_trans HB0.out.size HB9.out.size
                  omega
                · have := (World.ownsRow.lt HR9.out.1.2 b hE).2
                  omega
              have hR11 : RowZ w11 w.heap.size (.slice ao Z.length co) Z := (HR9.out.later hb2).later hb11
              have hnew := two_cells_new w10 (.slice a2 vn c2) (.int .i64 V) 40
              rw [← hw11] at hnew
              obtain ⟨v5, w5, hrun, ho5, hg5, hl5⟩ := run_append_k ktItem (ty := 22) (cap := 1) (a := some ⟨w10.heap.size, 0, none⟩) hR11.1 (n := Z.length) (by rw [List.length_map]) (m := 1) (N := [[.slice a2 vn c2, .int .i64 V]]) rfl (Wide.one hlx.wide) (fun _ => ⟨w10.heap.size, 0, rfl, fun i hi j v hj => by
                have hi0 : i = 0 := by simpa using hi
                subst hi0
                simp only [List.getElem_cons_zero] at hj
                rw [Nat.zero_mul, Nat.add_zero, Nat.zero_add]
                match j, hj with
                | 0, hj => cases hj; exact hnew.1
                | 1, hj => cases hj; exact hnew.2⟩) (fun h => by cases h) (by omega) (by omega) (Nat.le_trans (Nat.le_trans HB0.out.size HB9.out.size) (Nat.le_trans hb2.size hb11.size))
              have hrow := hR11.grow (Y := [([.slice a2 vn c2, .int .i64 V], ⟨vs, V⟩)]) (fun z hz => by
                simp only [List.mem_singleton] at hz
                subst hz
                exact hlx) (by simpa using ho5) hg5 hl5
              obtain ⟨a5, c5, e5, -⟩ := hrow.form
              rw [List.length_append, List.length_singleton] at e5
              subst e5
              have HR5 : Hid (RowZ w5 w.heap.size (.slice a5 (Z ++ [(([.slice a2 vn c2, .int .i64 V] : List Value), (⟨vs, V⟩ : PI))]).length c5) (Z ++ [([.slice a2 vn c2, .int .i64 V], ⟨vs, V⟩)])) := by
                show RowZ _ _ _ _
                rw [List.length_append, List.length_singleton]
                exact hrow
              have HG5 : Hid (gatherZ X = (gatherZ (X.drop j)).map fun r => (Z ++ [(([.slice a2 vn c2, .int .i64 V] : List Value), (⟨vs, V⟩ : PI))]).map (·.2) ++ r) := by
                show _ = _
                rw [HG2.out]
                simp
              have HB5 : Hid (Below w.heap.size w w5) := (chain HB0.out (chain HB9.out (chain hb2 hb11))).grown hg5 (Nat.le_trans (Nat.le_trans HB0.out.size HB9.out.size) (Nat.le_trans hb2.size hb11.size)) (fun j hj => (World.ownsRow.lt hR11.1.2 j hj).1)
              have HZ5 : Hid ((Z ++ [(([.slice a2 vn c2, .int .i64 V] : List Value), (⟨vs, V⟩ : PI))]).length = Z.length + 1) := by show _ = _; simp
              clear hlx hR11 hnew ho5 hg5 hl5 hrow HG2 HR9 HB9 ho2 hn2 hb2 hb11 HVB hv0
              subst hw11
              go_wp2_with (at_builtin; refine wpList_append_run rfl _ _ 22 22 rfl _ _ _ _ rfl rfl hrun ?_)
              go_roundw
              case rel => exact ⟨j, _, a5, c5, by omega, rfl, by rw [HZ5.out], HG5.out, HR5.out, HB5.out, by rw [HZ5.out]; omega⟩
              case measure => simp [RowKit.intOf]; omega
    · obtain rfl : k = n := by omega
      have h := hG.out
      rw [gather_nil (by rw [HN.out]; exact Nat.le_refl _), Option.map_some, List.append_nil] at h
      have HA : Hid (ansZ (gatherZ X) = (Z.map (·.2), 0)) := by
        show _ = _
        rw [h]
        rfl
      clear h hG
      go_wp2
      go_ret2
      rw [HA.out]
      exact ⟨_, Z, rfl, rfl, hRo.out, hB.out⟩

end Go.Proofs.Ytajlkaedkifaoaa

namespace Go.Proofs.Ytajlkaedkifaoaa
open Go.RowKit Go.Lib
set_option linter.unusedVariables false

/-- A row of Items of the call's own, their rows in what was there before. -/
def SharedZ (w : World) (B : Nat) (v : Value) (Z : List (List Value × PI)) : Prop := OwnK 2 40 w B v (Z.map (·.1)) ∧ ∀ z ∈ Z, LiesZ (fun b => B ≤ b) w z.1 z.2

theorem SharedZ.later {w w' : World} {B : Nat} {v : Value} {Z : List (List Value × PI)} (h : SharedZ w B v Z) (hb : Below w.heap.size w w') : SharedZ w' B v Z := ⟨h.1.later hb, fun z hz => (h.2 z hz).later hb⟩

theorem SharedZ.grow {w w' : World} {B : Nat} {v v' : Value} {Z Y : List (List Value × PI)} (h : SharedZ w B v Z) (hY : ∀ z ∈ Y, LiesZ (fun b => B ≤ b) w z.1 z.2) (ho : OwnK 2 40 w' B v' (Z.map (·.1) ++ Y.map (·.1))) (hg : w.grownBy w' v.ownBlock) : SharedZ w' B v' (Z ++ Y) := by
  refine ⟨by rw [List.map_append]; exact ho, fun z hz => ?_⟩
  have hz' : LiesZ (fun b => B ≤ b) w z.1 z.2 := by
    rcases List.mem_append.1 hz with hz | hz
    · exact h.2 z hz
    · exact hY z hz
  exact hz'.sz (Sz.of_grown hg fun b e => (World.ownsRow.lt h.1.2 b e).1)

theorem SharedZ.form {w : World} {B : Nat} {v : Value} {Z : List (List Value × PI)} (h : SharedZ w B v Z) : ∃ a cap, v = .slice a Z.length cap ∧ Z.length ≤ cap ∧ RdZ w a (Z.map (·.2)) ∧ (a = none → Z = [] ∧ cap = 0) := by
  obtain ⟨a, cap, e, h1, _, hr, hn, _⟩ := h.1.form
  rw [List.length_map] at e h1
  exact ⟨a, cap, e, h1, ⟨Z, rfl, hr, fun z hz => (h.2 z hz).less fun _ k => k.elim⟩, fun hh => by have := (hn hh).1; rw [List.map_eq_nil_iff] at this; exact ⟨this, (hn hh).2⟩⟩

/-- What is left of a row of Items that came in. -/
structure LeftZ (B : Nat) (w : World) (a : Option Addr) (n cap : Nat) (Z : List (List Value × PI)) : Prop where
  len : Z.length = n
  fits : n ≤ cap
  rd : RdK 2 w a (Z.map (·.1))
  lies : ∀ z ∈ Z, LiesZ (fun b => B ≤ b) w z.1 z.2
  nil : a = none → Z = [] ∧ cap = 0
  old : 0 < Z.length → ∀ b o, a = some ⟨b, o, none⟩ → b < B

theorem LeftZ.later {B : Nat} {w w' : World} {a : Option Addr} {n cap : Nat} {Z : List (List Value × PI)} (h : LeftZ B w a n cap Z) (hb : Below w.heap.size w w') : LeftZ B w' a n cap Z :=
  ⟨h.len, h.fits, h.rd.later hb, fun z hz => (h.lies z hz).later hb, h.nil, h.old⟩

/-- Behind what turns no block ahead of B. -/
theorem LeftZ.kept {B : Nat} {w w' : World} {a : Option Addr} {n cap : Nat} {Z : List (List Value × PI)} (h : LeftZ B w a n cap Z) (hs : Sz (fun b => B ≤ b) w w') : LeftZ B w' a n cap Z :=
  ⟨h.len, h.fits, fun h0 => by
    obtain ⟨b, off, e, hc⟩ := h.rd h0
    have hb := h.old (by rw [List.length_map] at h0; exact h0) b off e
    exact ⟨b, off, e, fun i hi j v hj => hs.cell (hc i hi j v hj) (by omega)⟩, fun z hz => (h.lies z hz).sz hs, h.nil, h.old⟩

theorem LeftZ.head {B : Nat} {w : World} {a : Option Addr} {n cap : Nat} {z : List Value × PI} {Z : List (List Value × PI)} (h : LeftZ B w a n cap (z :: Z)) : ∃ b off ra rc, a = some ⟨b, off, none⟩ ∧ z.1 = [.slice ra z.2.row.length rc, .int .i64 z.2.wt] ∧ w.cell? ⟨b, off, none⟩ = some (.slice ra z.2.row.length rc) ∧ w.cell? ⟨b, off + 1, none⟩ = some (.int .i64 z.2.wt) ∧ LiesZ (fun b => B ≤ b) w [.slice ra z.2.row.length rc, .int .i64 z.2.wt] z.2 := by
  obtain ⟨b, off, e, hc⟩ := h.rd (by simp)
  have hz := h.lies z (by simp)
  obtain ⟨ra, rc, hcs, -⟩ := id hz
  have k0 := hc 0 (by simp) 0 (.slice ra z.2.row.length rc) (by simp only [List.map_cons, List.getElem_cons_zero]; rw [hcs]; rfl)
  have k1 := hc 0 (by simp) 1 (.int .i64 z.2.wt) (by simp only [List.map_cons, List.getElem_cons_zero]; rw [hcs]; rfl)
  rw [Nat.zero_mul, Nat.add_zero] at k0 k1
  rw [hcs] at hz
  exact ⟨b, off, ra, rc, e, hcs, k0, k1, hz⟩

theorem LeftZ.tail {B : Nat} {w : World} {b off n cap : Nat} {z : List Value × PI} {Z : List (List Value × PI)} (h : LeftZ B w (some ⟨b, off, none⟩) n cap (z :: Z)) : LeftZ B w (if cap = 1 then some ⟨b, off, none⟩ else some ⟨b, off + 2, none⟩) (n - 1) (cap - 1) Z := by
  have hl := h.len
  have hc := h.fits
  simp only [List.length_cons] at hl
  refine ⟨by omega, by omega, ?_, fun y hy => h.lies y (List.mem_cons_of_mem _ hy), (fun e => by split at e <;> cases e), fun h0 b' o' e => ?_⟩
  · by_cases h1 : cap = 1
    · have : Z = [] := List.eq_nil_of_length_eq_zero (by omega)
      rw [this]
      exact RdK.nil _ _ _
    · rw [if_neg h1]
      exact h.rd.drop 1
  · have : b' = b := by split at e <;> (cases e; rfl)
    rw [this]
    exact h.old (by simp) b off rfl

def lenV : Value → Nat
  | .slice _ n _ => n
  | _ => 0

theorem run_make_items0 (w : World) (c : Nat) (h : c ≤ 4194304) : ∃ w', (Instr.makeSlice 22 (.int .i64 0) (.int .i64 (c : Int))).run Try.prog w = .ok (.slice (some ⟨w.heap.size, 0, none⟩) 0 c) w' ∧ OwnK 2 40 w' w.heap.size (.slice (some ⟨w.heap.size, 0, none⟩) 0 c) [] ∧ Below w.heap.size w w' := by
  obtain ⟨i0, hi, hz0, hz1, hz2⟩ := info_parts Try.infoItem
  obtain ⟨w', hrun, ho, hg⟩ := run_make_own (P := Try.prog) w w.heap.size 22 40 i0 _ 2 Try.underlying22 hi hz0 hz1 .i64 .i64 c (by rw [hz2]; omega) (by unfold maxLen; omega) (Nat.le_refl _)
  exact ⟨w', hrun, ⟨Wide.nil, ho⟩, (Below.refl _ _).grown hg (Nat.le_refl _) (fun k hk => by cases hk)⟩

theorem wp_append_z {P : Program} {o : Oper} {a : Act} {w : World} {K : Act → World → Prop} {Q : Exit → Act → World → Prop}
    (s x : Operand) (t u : TypeId) (hop : o.op = Op.call { callee := Callee.builtin Builtin.append, args := #[s, x], argTypes := #[t, u] })
    (v y v' : Value) (w' : World) (hs : a.eval s = v) (hx : a.eval x = y) (hrun : (Builtin.append_ #[t, u] o.type #[v, y]).run P w = .ok v' w')
    (hK : K (a.put o.dst v') w') : Oper.wp P o a w K Q := by
  unfold Oper.wp
  simp [execOp, hop, resolve, invoke, builtin, hs, hx, hrun, Result.andThen]
  exact hK

/-- One Item more. -/
theorem shared_one {w : World} {B k : Nat} {v : Value} {Z : List (List Value × PI)} {z : List Value × PI} {ra : Option Addr} {rn rc : Nat} {p : Int} (ty : Nat) (h : SharedZ w B v Z) (hn : Z.length = k) (h4 : k ≤ 65536) (hcs : z.1 = [.slice ra rn rc, .int .i64 p]) (hz : LiesZ (fun b => B ≤ b) w [.slice ra rn rc, .int .i64 p] z.2) (hB : B ≤ w.heap.size) :
    ∃ a' c' w', (Builtin.append_ #[22, 22] ty #[v, .slice (some ⟨w.heap.size, 0, none⟩) 1 1]).run Try.prog (w.alloc (.cells #[.slice ra rn rc, .int .i64 p] 40)) = .ok (.slice a' (k + 1) c') w' ∧ SharedZ w' B (.slice a' (k + 1) c') (Z ++ [z]) ∧ Below B w w' := by
  have hb := alloc_below w (.cells #[.slice ra rn rc, .int .i64 p] 40)
  obtain ⟨n0, n1⟩ := two_cells_new w (.slice ra rn rc) (.int .i64 p) 40
  have hS := h.later hb
  have hz' := hz.later hb
  have hz1 : LiesZ (fun b => B ≤ b) (w.alloc (.cells #[.slice ra rn rc, .int .i64 p] 40)) z.1 z.2 := by rw [hcs]; exact hz'
  obtain ⟨v5, w5, hrun, ho5, hg5, -⟩ := run_append_k ktItem (ty := ty) (cap := 1) (a := some ⟨w.heap.size, 0, none⟩) hS.1 (n := k) (by rw [List.length_map]; exact hn) (m := 1) (N := [[.slice ra rn rc, .int .i64 p]]) rfl (Wide.one hz'.wide) (fun _ => ⟨w.heap.size, 0, rfl, fun i hi j v hj => by
    have hi0 : i = 0 := by simpa using hi
    subst hi0
    simp only [List.getElem_cons_zero] at hj
    rw [Nat.zero_mul, Nat.add_zero, Nat.zero_add]
    match j, hj with
    | 0, hj => cases hj; exact n0
    | 1, hj => cases hj; exact n1⟩) (fun h => by cases h) (by omega) (by omega) (Nat.le_trans hB hb.size)
  have hrow := hS.grow (Y := [z]) (fun y hy => by
    rw [List.mem_singleton.1 hy]
    exact hz1) (by rw [List.map_cons, List.map_nil, hcs]; exact ho5) hg5
  obtain ⟨a5, c5, e5, -⟩ := hrow.form
  rw [List.length_append, List.length_singleton, hn] at e5
  subst e5
  exact ⟨a5, c5, w5, hrun, hrow, ((Below.refl B w).alloc hB _).grown hg5 (Nat.le_trans hB hb.size) (fun j hj => (World.ownsRow.lt hS.1.2 j hj).1)⟩

/-- .. and several. -/
theorem shared_more {w : World} {B k m cap : Nat} {v : Value} {a : Option Addr} {Z Y : List (List Value × PI)} (ty : Nat) (h : SharedZ w B v Z) (hn : Z.length = k) (h4 : k ≤ 65536) (hm : m ≤ 65536) (hY : LeftZ B w a m cap Y) (hB : B ≤ w.heap.size) :
    ∃ a' c' w', (Builtin.append_ #[22, 22] ty #[v, .slice a m cap]).run Try.prog w = .ok (.slice a' (k + m) c') w' ∧ SharedZ w' B (.slice a' (k + m) c') (Z ++ Y) ∧ Below B w w' := by
  obtain ⟨v5, w5, hrun, ho5, hg5, -⟩ := run_append_k ktItem (ty := ty) (cap := cap) (a := a) h.1 (n := k) (by rw [List.length_map]; exact hn) (m := m) (N := Y.map (·.1)) (by rw [List.length_map]; exact hY.len) (LiesZ.wides hY.lies) hY.rd (fun e => by rw [(hY.nil e).1]; exact ⟨rfl, (hY.nil e).2⟩) (by omega) (by omega) hB
  have hrow := h.grow (Y := Y) hY.lies ho5 hg5
  obtain ⟨a5, c5, e5, -⟩ := hrow.form
  rw [List.length_append, hn, hY.len] at e5
  subst e5
  exact ⟨a5, c5, w5, hrun, hrow, (Below.refl B w).grown hg5 hB (fun j hj => (World.ownsRow.lt h.1.2 j hj).1)⟩

theorem sz_of_below {B : Nat} {w w' : World} (h : Below B w w') : Sz (fun b => B ≤ b) w w' := ⟨h.os, h.tape, h.output, h.size, fun b hb => h.block b (by have := hb.2; omega)⟩

set_option maxRecDepth 100000 in
set_option maxHeartbeats 16000000 in
theorem zmerged_any (a c : Option Addr) (n m cap dap : Nat) (X Y : List (List Value × PI)) (w : World) (h4 : n ≤ 16384) (h5 : m ≤ 16384) (hX : LeftZ w.heap.size w a n cap X) (hY : LeftZ w.heap.size w c m dap Y) :
    Calls Try.prog 44 #[.slice a n cap, .slice c m dap] w fun e w' => ∃ v Z, e = .returned v ∧ Z.map (·.2) = mergeZ (X.map (·.2)) (Y.map (·.2)) ∧ Z.length = n + m ∧ SharedZ w' w.heap.size v Z ∧ Below w.heap.size w w' := by
  obtain ⟨w0, hmake, ho0, hb0⟩ := run_make_items0 w (n + m) (by omega)
  rw [Int.natCast_add] at hmake
  have HX0 : Hid (LeftZ w.heap.size w0 a n cap X) := hX.later hb0
  have HY0 : Hid (LeftZ w.heap.size w0 c m dap Y) := hY.later hb0
  have HO0 : Hid (SharedZ w0 w.heap.size (.slice (some ⟨w.heap.size, 0, none⟩) 0 (n + m)) []) := ⟨ho0, fun z hz => by cases hz⟩
  have HB0 : Hid (Below w.heap.size w w0) := hb0
  clear hX hY ho0 hb0
  go_enter Try.func44, Try.ntmps44
  go_wp2
  clear hmake
  go_loopw [0, 1, 5] (fun va vb vo wr => ∃ (ZA ZB Zo : List (List Value × PI)) (aa ab ao : Option Addr) (na nb k ca cb co : Nat), va = .slice aa na ca ∧ vb = .slice ab nb cb ∧ vo = .slice ao k co ∧ Zo.length = k ∧ k + na + nb = n + m ∧ Hid (mergeZ (X.map (·.2)) (Y.map (·.2)) = Zo.map (·.2) ++ mergeZ (ZA.map (·.2)) (ZB.map (·.2))) ∧ Hid (LeftZ w.heap.size wr aa na ca ZA) ∧ Hid (LeftZ w.heap.size wr ab nb cb ZB) ∧ Hid (SharedZ wr w.heap.size (.slice ao k co) Zo) ∧ Hid (Below w.heap.size w wr)) (fun va vb _ _ => lenV va + lenV vb)
  case atStart => exact ⟨X, Y, [], a, c, _, n, m, 0, cap, dap, _, rfl, rfl, rfl, rfl, by omega, rfl, HX0.out, HY0.out, HO0.out, HB0.out⟩
  case round =>
    clear HX0 HY0 HO0 HB0
    obtain ⟨ZA, ZB, Zo, aa, ab, ao, na, nb, k, ca, cb, co, rfl, rfl, rfl, hZo, hlen, hM, hA, hBl, hO, hB⟩ := hrel
    have HZo : Hid (Zo.length = k) := hZo
    clear hZo
    cases ZA with
    | nil =>
      have hna := hA.out.len
      simp only [List.length_nil] at hna
      subst hna
      obtain ⟨a8, c8, w8, hrun8, hO8, hb8⟩ := shared_more 22 hO.out HZo.out (by omega) (by omega) hA.out hB.out.size
      have hB8 := hBl.out.kept (sz_of_below hb8)
      have hBB8 : Below w.heap.size w w8 := hB.out.trans hb8
      obtain ⟨a9, c9, w9, hrun9, hO9, hb9⟩ := shared_more 22 hO8 (k := k + 0) (by rw [List.length_append, HZo.out, hA.out.len]) (by omega) (by omega) hB8 hBB8.size
      have HF : Hid (((Zo ++ ([] : List (List Value × PI))) ++ ZB).map (·.2) = mergeZ (X.map (·.2)) (Y.map (·.2))) := by
        show _ = _
        rw [hM.out, List.map_nil, mergeZ_nil_left]
        simp
      have HL9 : Hid (((Zo ++ ([] : List (List Value × PI))) ++ ZB).length = n + m) := by
        have e1 := HZo.out
        have e2 := hA.out.len
        have e3 := hBl.out.len
        show _ = _
        rw [List.length_append, List.length_append]
        rw [List.length_nil] at *
        omega
      have HO9 : Hid (SharedZ w9 w.heap.size (.slice a9 (k + 0 + nb) c9) ((Zo ++ ([] : List (List Value × PI))) ++ ZB)) := hO9
      have HB9 : Hid (Below w.heap.size w w9) := hBB8.trans hb9
      clear hM hA hBl hO hB hO8 hb8 hB8 hBB8 hO9 hb9 HZo
      simp only [Nat.add_zero] at hrun8 hrun9 HO9
      go_wp2_with (first | (at_builtin; refine wpList_append_run rfl _ _ 22 22 rfl _ _ _ _ rfl rfl hrun8 ?_) | (at_builtin; refine wpList_append_run rfl _ _ 22 22 rfl _ _ _ _ rfl rfl hrun9 ?_))
      go_ret
      exact ⟨_, rfl, _, HF.out, HL9.out, HO9.out, HB9.out⟩
    | cons za ZA =>
      cases ZB with
      | nil =>
        have hnb := hBl.out.len
        have hna := hA.out.len
        simp only [List.length_nil] at hnb
        simp only [List.length_cons] at hna
        subst hnb
        obtain ⟨a8, c8, w8, hrun8, hO8, hb8⟩ := shared_more 22 hO.out HZo.out (by omega) (by omega) hA.out hB.out.size
        have hB8 := hBl.out.kept (sz_of_below hb8)
        have hBB8 : Below w.heap.size w w8 := hB.out.trans hb8
        obtain ⟨a9, c9, w9, hrun9, hO9, hb9⟩ := shared_more 22 hO8 (k := k + na) (by rw [List.length_append, HZo.out, hA.out.len]) (by omega) (by omega) hB8 hBB8.size
        have HF : Hid (((Zo ++ (za :: ZA)) ++ ([] : List (List Value × PI))).map (·.2) = mergeZ (X.map (·.2)) (Y.map (·.2))) := by
          show _ = _
          rw [hM.out, List.map_nil, mergeZ_nil_right]
          simp
        have HL9 : Hid (((Zo ++ (za :: ZA)) ++ ([] : List (List Value × PI))).length = n + m) := by
          have e1 := HZo.out
          have e2 := hA.out.len
          have e3 := hBl.out.len
          show _ = _
          rw [List.length_append, List.length_append]
          rw [List.length_nil] at *
          omega
        have HO9 : Hid (SharedZ w9 w.heap.size (.slice a9 (k + na + 0) c9) ((Zo ++ (za :: ZA)) ++ ([] : List (List Value × PI)))) := hO9
        have HB9 : Hid (Below w.heap.size w w9) := hBB8.trans hb9
        have i0 : decide ((0 : Int) < (na : Int)) = true := decide_eq_true (by omega)
        clear hM hA hBl hO hB hO8 hb8 hB8 hBB8 hO9 hb9 HZo
        simp only [Nat.add_zero] at hrun8 hrun9 HO9
        go_wp2_with (first | (at_builtin; refine wpList_append_run rfl _ _ 22 22 rfl _ _ _ _ rfl rfl hrun8 ?_) | (at_builtin; refine wpList_append_run rfl _ _ 22 22 rfl _ _ _ _ rfl rfl hrun9 ?_))
        go_ret
        exact ⟨_, rfl, _, HF.out, HL9.out, HO9.out, HB9.out⟩
      | cons zb ZB =>
        have hna := hA.out.len
        have hnb := hBl.out.len
        have hca := hA.out.fits
        have hcb := hBl.out.fits
        simp only [List.length_cons] at hna hnb
        obtain ⟨b1, o1, ra, rc, rfl, ea, x0, x1, la⟩ := hA.out.head
        obtain ⟨b2, o2, sa, sc, rfl, eb, y0, y1, lb⟩ := hBl.out.head
        have HLA : Hid (za.1 = [.slice ra za.2.row.length rc, .int .i64 za.2.wt] ∧ LiesZ (fun b => w.heap.size ≤ b) wr [.slice ra za.2.row.length rc, .int .i64 za.2.wt] za.2) := ⟨ea, la⟩
        have HLB : Hid (zb.1 = [.slice sa zb.2.row.length sc, .int .i64 zb.2.wt] ∧ LiesZ (fun b => w.heap.size ≤ b) wr [.slice sa zb.2.row.length sc, .int .i64 zb.2.wt] zb.2) := ⟨eb, lb⟩
        have CC : ∀ V, Below wr.heap.size wr V → Calls Try.prog 36 #[.agg #[.slice ra za.2.row.length rc, .int .i64 za.2.wt], .agg #[.slice sa zb.2.row.length sc, .int .i64 zb.2.wt]] V fun e w' => e = .returned (.int .i64 (cmpZ za.2 zb.2)) ∧ Lay V w' := fun V hb => zCompare_any _ _ za.2 zb.2 V (HLA.out.2.later hb) (HLB.out.2.later hb)
        have HLE : Hid (cmpZ za.2 zb.2 ≤ 0 → mergeZ (X.map (·.2)) (Y.map (·.2)) = (Zo ++ [za]).map (·.2) ++ mergeZ (ZA.map (·.2)) ((zb :: ZB).map (·.2))) := fun h => by
          rw [hM.out, List.map_cons, List.map_cons, mergeZ_le h, List.map_append]
          simp
        have HGT : Hid (¬ cmpZ za.2 zb.2 ≤ 0 → mergeZ (X.map (·.2)) (Y.map (·.2)) = (Zo ++ [zb]).map (·.2) ++ mergeZ ((za :: ZA).map (·.2)) (ZB.map (·.2))) := fun h => by
          rw [hM.out, List.map_cons, List.map_cons, mergeZ_gt h, List.map_append]
          simp
        clear hM ea eb la lb
        obtain ⟨q1, hq1⟩ : ∃ q, cmpZ za.2 zb.2 = q := ⟨_, rfl⟩
        rw [hq1] at CC HLE HGT
        obtain ⟨p, hp⟩ : ∃ p, za.2.wt = p := ⟨_, rfl⟩
        obtain ⟨q, hq⟩ : ∃ q, zb.2.wt = q := ⟨_, rfl⟩
        obtain ⟨rn, hrn⟩ : ∃ p, za.2.row.length = p := ⟨_, rfl⟩
        obtain ⟨sn, hsn⟩ : ∃ p, zb.2.row.length = p := ⟨_, rfl⟩
        rw [hp] at x1 HLA CC
        rw [hrn] at x0 HLA CC
        rw [hq] at y1 HLB CC
        rw [hsn] at y0 HLB CC
        clear hp hq hrn hsn hq1
        have i0 : decide ((0 : Int) < (na : Int)) = true := decide_eq_true (by omega)
        have i1 : decide ((0 : Int) < (nb : Int)) = true := decide_eq_true (by omega)
        have i2 : (0 : Int) < (na : Int) := by omega
        have i4 : (1 : Int) ≤ (na : Int) := by omega
        have i5 : (1 : Int) ≤ (nb : Int) := by omega
        have i3 : (0 : Int) < (nb : Int) := by omega
        have HS3 : wr.drew.cell? ⟨b1, o1, none⟩ = some (.slice ra rn rc) ∧ wr.drew.cell? ⟨b1, o1 + 1, none⟩ = some (.int .i64 p) ∧ wr.drew.cell? ⟨b2, o2, none⟩ = some (.slice sa sn sc) ∧ wr.drew.cell? ⟨b2, o2 + 1, none⟩ = some (.int .i64 q) ∧ Hid (Below wr.heap.size wr wr.drew) := ⟨x0, x1, y0, y1, (Below.refl _ _).drew⟩
        by_cases hc : q1 ≤ 0
        · have c1 : decide (q1 ≤ 0) = true := decide_eq_true hc
          have HM2 : Hid _ := HLE.out hc
          clear HLE HGT
          go_upto_region 3 with fail
          refine wp_region_held_drew (S := (fun w' => w'.cell? ⟨b1, o1, none⟩ = some (.slice ra rn rc) ∧ w'.cell? ⟨b1, o1 + 1, none⟩ = some (.int .i64 p) ∧ w'.cell? ⟨b2, o2, none⟩ = some (.slice sa sn sc) ∧ w'.cell? ⟨b2, o2 + 1, none⟩ = some (.int .i64 q) ∧ Hid (Below wr.heap.size wr w'))) (by kernel_rfl) HS3 (fun hHeld => ?_)
          refine heldTake (v := ?_) 0 20 rfl rfl (by kernel_rfl) (by kernel_rfl) (by kernel_rfl) (fun _ _ _ h => h) (by rfl) (fun w hSw => ?_) (by assumption) ?_
          rotate_left
          · (try dsimp only at hSw); first | (go_simp; done) | (go_simp; with_reducible rfl)
          simp only [List.setIfInBounds_toArray, List.set_cons_zero, List.set_cons_succ]
          refine heldTake (v := ?_) 1 21 rfl rfl (by kernel_rfl) (by kernel_rfl) (by kernel_rfl) (fun _ _ _ h => h) (by rfl) (fun w hSw => ?_) (by assumption) ?_
          rotate_left
          · (try dsimp only at hSw); first | (go_simp; done) | (go_simp; with_reducible rfl)
          simp only [List.setIfInBounds_toArray, List.set_cons_zero, List.set_cons_succ]
          refine heldTake (v := ?_) 2 22 rfl rfl (by kernel_rfl) (by kernel_rfl) (by kernel_rfl) (fun _ _ _ h => h) (by rfl) (fun w hSw => ?_) (by assumption) ?_
          rotate_left
          · (try dsimp only at hSw); first | (go_simp; done) | (go_simp; with_reducible rfl)
          simp only [List.setIfInBounds_toArray, List.set_cons_zero, List.set_cons_succ]
          refine heldTake (v := ?_) 3 23 rfl rfl (by kernel_rfl) (by kernel_rfl) (by kernel_rfl) (fun _ _ _ h => h) (by rfl) (fun w hSw => ?_) (by assumption) ?_
          rotate_left
          · (try dsimp only at hSw); first | (go_simp; done) | (go_simp; with_reducible rfl)
          simp only [List.setIfInBounds_toArray, List.set_cons_zero, List.set_cons_succ]
          refine heldTake (v := ?_) 4 24 rfl rfl (by kernel_rfl) (by kernel_rfl) (by kernel_rfl) (fun _ _ _ h => h) (by rfl) (fun w hSw => ?_) (by assumption) ?_
          rotate_left
          · (try dsimp only at hSw); first | (go_simp; done) | (go_simp; with_reducible rfl)
          simp only [List.setIfInBounds_toArray, List.set_cons_zero, List.set_cons_succ]
          refine heldTake (v := ?_) 5 25 rfl rfl (by kernel_rfl) (by kernel_rfl) (by kernel_rfl) (fun _ _ _ h => h) (by rfl) (fun w hSw => ?_) (by assumption) ?_
          rotate_left
          · (try dsimp only at hSw); first | (go_simp; done) | (go_simp; with_reducible rfl)
          simp only [List.setIfInBounds_toArray, List.set_cons_zero, List.set_cons_succ]
          refine heldOne 6 rfl (by kernel_rfl) (by rfl) (fun K2 hK => ?_)
          go_simp
          refine (CC _ hHeld.2.2.2.2.out).mono ?_
          rintro e wz ⟨rfl, hb⟩
          simp only []
          refine hK.out _ _ ?_ (fun hHeld => ?_)
          · exact keep4Z hb.below (by assumption)
          clear hK K2
          try simp only [List.setIfInBounds_toArray, List.set_cons_zero, List.set_cons_succ]
          refine heldTake (v := ?_) 7 27 rfl rfl (by kernel_rfl) (by kernel_rfl) (by kernel_rfl) (fun _ _ _ h => h) (by rfl) (fun w hSw => ?_) (by assumption) ?_
          rotate_left
          · (try dsimp only at hSw); first | (go_simp; done) | (go_simp; with_reducible rfl)
          simp only [List.setIfInBounds_toArray, List.set_cons_zero, List.set_cons_succ]
          refine wpAnyH_done (by kernel_rfl) ?_ _
          have HBZ : Hid (Below wr.heap.size wr wz) := hHeld.2.2.2.2
          have X0 := hHeld.1
          have X1 := hHeld.2.1
          clear hHeld HS3 CC x0 x1 y0 y1
          have HBD : Below wr.heap.size wr wz.drew := HBZ.out.drew
          have hAz := hA.out.later HBD
          have hBz := hBl.out.later HBD
          have hOz := hO.out.later HBD
          have hB2 : Below w.heap.size w wz.drew := chain hB.out HBD
          obtain ⟨a', c', w6, hrun, hO6, hb6⟩ := shared_one (w := wz.drew) 22 (z := za) hOz HZo.out (by omega) HLA.out.1 (HLA.out.2.later HBD) hB2.size
          have HA6 : Hid (LeftZ w.heap.size w6 _ _ _ ZA) := hAz.tail.kept (sz_of_below hb6)
          have HB6 : Hid (LeftZ w.heap.size w6 _ _ _ (zb :: ZB)) := hBz.kept (sz_of_below hb6)
          have HO6 : Hid (SharedZ w6 w.heap.size (.slice a' (k + 1) c') (Zo ++ [za])) := hO6
          have HBB : Hid (Below w.heap.size w w6) := hB2.trans hb6
          have HS4 : wz.drew.cell? ⟨b1, o1, none⟩ = some (.slice ra rn rc) ∧ wz.drew.cell? ⟨b1, o1 + 1, none⟩ = some (.int .i64 p) := ⟨X0, X1⟩
          clear HBD hAz hBz hOz hB2 hO6 hb6 X0 X1 HBZ hA hBl hO hB
          go_upto_region 4 with fail
          refine region_S (S := (fun w' => w'.cell? ⟨b1, o1, none⟩ = some (.slice ra rn rc) ∧ w'.cell? ⟨b1, o1 + 1, none⟩ = some (.int .i64 p))) 4 (by kernel_rfl) HS4 (fun hHeld => ?_)
          refine sPure (v := ?_) 0 28 rfl rfl (by kernel_rfl) (by kernel_rfl) (by kernel_rfl) (by decide) (fun _ _ _ h => h) (by rfl) (fun w => ?_) (.inr (by assumption)) ?_
          rotate_left
          · first | (go_simp; done) | (go_simp; with_reducible rfl)
          simp only [List.setIfInBounds_toArray, List.set_cons_zero, List.set_cons_succ]
          refine sPure (v := ?_) 1 29 rfl rfl (by kernel_rfl) (by kernel_rfl) (by kernel_rfl) (by decide) (fun _ _ _ h => h) (by rfl) (fun w => ?_) (.inr (by assumption)) ?_
          rotate_left
          · first | (go_simp; done) | (go_simp; with_reducible rfl)
          simp only [List.setIfInBounds_toArray, List.set_cons_zero, List.set_cons_succ]
          refine sPure (v := ?_) 2 30 rfl rfl (by kernel_rfl) (by kernel_rfl) (by kernel_rfl) (by decide) (fun _ _ _ h => h) (by rfl) (fun w => ?_) (.inr (by assumption)) ?_
          rotate_left
          · first | (go_simp; done) | (go_simp; with_reducible rfl)
          simp only [List.setIfInBounds_toArray, List.set_cons_zero, List.set_cons_succ]
          refine sTake (v := ?_) 3 31 rfl rfl (by kernel_rfl) (by kernel_rfl) (by kernel_rfl) (by kernel_rfl) (by kernel_rfl) (fun _ _ _ h => h) (by rfl) (fun w hSw => ?_) (by assumption) ?_
          rotate_left
          · (try dsimp only at hSw); first | (go_simp; done) | (go_simp; with_reducible rfl)
          simp only [List.setIfInBounds_toArray, List.set_cons_zero, List.set_cons_succ]
          refine sPure (v := ?_) 6 34 rfl rfl (by kernel_rfl) (by kernel_rfl) (by kernel_rfl) (by decide) (fun _ _ _ h => h) (by rfl) (fun w => ?_) (.inr (by assumption)) ?_
          rotate_left
          · first | (go_simp; done) | (go_simp; with_reducible rfl)
          simp only [List.setIfInBounds_toArray, List.set_cons_zero, List.set_cons_succ]
          refine sPure (v := ?_) 7 35 rfl rfl (by kernel_rfl) (by kernel_rfl) (by kernel_rfl) (by decide) (fun _ _ _ h => h) (by rfl) (fun w => ?_) (.inr (by assumption)) ?_
          rotate_left
          · first | (go_simp; done) | (go_simp; with_reducible rfl)
          simp only [List.setIfInBounds_toArray, List.set_cons_zero, List.set_cons_succ]
          refine sOne 4 rfl (by kernel_rfl) (by rfl) (fun K2 hK => ?_)
          go_simp
          refine hK.out _ _ ?_ (fun hHeld => ?_)
          · exact .inl (by rfl)
          clear hK K2 hHeld
          try simp only [List.setIfInBounds_toArray, List.set_cons_zero, List.set_cons_succ]
          refine sOne 5 rfl (by kernel_rfl) (by rfl) (fun K2 hK => ?_)
          refine wp_append_z _ _ 22 22 rfl _ _ _ _ rfl rfl hrun ?_
          go_simp
          refine hK.out _ _ ?_ (fun hHeld => ?_)
          · exact .inl (by rfl)
          clear hK K2 hHeld
          try simp only [List.setIfInBounds_toArray, List.set_cons_zero, List.set_cons_succ]
          refine sPure (v := ?_) 8 5 rfl rfl (by kernel_rfl) (by kernel_rfl) (by kernel_rfl) (by decide) (fun _ _ _ h => h) (by rfl) (fun w => ?_) (.inl (by rfl)) ?_
          rotate_left
          · first | (go_simp; done) | (go_simp; with_reducible rfl)
          simp only [List.setIfInBounds_toArray, List.set_cons_zero, List.set_cons_succ]
          refine sPure (v := ?_) 9 0 rfl rfl (by kernel_rfl) (by kernel_rfl) (by kernel_rfl) (by decide) (fun _ _ _ h => h) (by rfl) (fun w => ?_) (.inl (by rfl)) ?_
          rotate_left
          · first | (go_simp; done) | (go_simp; with_reducible rfl)
          simp only [List.setIfInBounds_toArray, List.set_cons_zero]
          refine sDone (by kernel_rfl) ?_ _
          clear hrun HS4
          go_wp2
          go_roundw
          case rel => exact ⟨ZA, zb :: ZB, Zo ++ [za], _, _, a', na - 1, nb, k + 1, ca - 1, cb, c', rfl, rfl, rfl, by rw [List.length_append, HZo.out]; rfl, by omega, HM2.out, HA6.out, HB6.out, HO6.out, HBB.out⟩
          case measure => simp [lenV]; omega
        · have c1 : decide (q1 ≤ 0) = false := decide_eq_false hc
          have c2 : (q1 ≤ 0) = False := eq_false hc
          have HM2 : Hid _ := HGT.out hc
          clear HLE HGT
          go_upto_region 3 with fail
          refine wp_region_held_drew (S := (fun w' => w'.cell? ⟨b1, o1, none⟩ = some (.slice ra rn rc) ∧ w'.cell? ⟨b1, o1 + 1, none⟩ = some (.int .i64 p) ∧ w'.cell? ⟨b2, o2, none⟩ = some (.slice sa sn sc) ∧ w'.cell? ⟨b2, o2 + 1, none⟩ = some (.int .i64 q) ∧ Hid (Below wr.heap.size wr w'))) (by kernel_rfl) HS3 (fun hHeld => ?_)
          refine heldTake (v := ?_) 0 20 rfl rfl (by kernel_rfl) (by kernel_rfl) (by kernel_rfl) (fun _ _ _ h => h) (by rfl) (fun w hSw => ?_) (by assumption) ?_
          rotate_left
          · (try dsimp only at hSw); first | (go_simp; done) | (go_simp; with_reducible rfl)
          simp only [List.setIfInBounds_toArray, List.set_cons_zero, List.set_cons_succ]
          refine heldTake (v := ?_) 1 21 rfl rfl (by kernel_rfl) (by kernel_rfl) (by kernel_rfl) (fun _ _ _ h => h) (by rfl) (fun w hSw => ?_) (by assumption) ?_
          rotate_left
          · (try dsimp only at hSw); first | (go_simp; done) | (go_simp; with_reducible rfl)
          simp only [List.setIfInBounds_toArray, List.set_cons_zero, List.set_cons_succ]
          refine heldTake (v := ?_) 2 22 rfl rfl (by kernel_rfl) (by kernel_rfl) (by kernel_rfl) (fun _ _ _ h => h) (by rfl) (fun w hSw => ?_) (by assumption) ?_
          rotate_left
          · (try dsimp only at hSw); first | (go_simp; done) | (go_simp; with_reducible rfl)
          simp only [List.setIfInBounds_toArray, List.set_cons_zero, List.set_cons_succ]
          refine heldTake (v := ?_) 3 23 rfl rfl (by kernel_rfl) (by kernel_rfl) (by kernel_rfl) (fun _ _ _ h => h) (by rfl) (fun w hSw => ?_) (by assumption) ?_
          rotate_left
          · (try dsimp only at hSw); first | (go_simp; done) | (go_simp; with_reducible rfl)
          simp only [List.setIfInBounds_toArray, List.set_cons_zero, List.set_cons_succ]
          refine heldTake (v := ?_) 4 24 rfl rfl (by kernel_rfl) (by kernel_rfl) (by kernel_rfl) (fun _ _ _ h => h) (by rfl) (fun w hSw => ?_) (by assumption) ?_
          rotate_left
          · (try dsimp only at hSw); first | (go_simp; done) | (go_simp; with_reducible rfl)
          simp only [List.setIfInBounds_toArray, List.set_cons_zero, List.set_cons_succ]
          refine heldTake (v := ?_) 5 25 rfl rfl (by kernel_rfl) (by kernel_rfl) (by kernel_rfl) (fun _ _ _ h => h) (by rfl) (fun w hSw => ?_) (by assumption) ?_
          rotate_left
          · (try dsimp only at hSw); first | (go_simp; done) | (go_simp; with_reducible rfl)
          simp only [List.setIfInBounds_toArray, List.set_cons_zero, List.set_cons_succ]
          refine heldOne 6 rfl (by kernel_rfl) (by rfl) (fun K2 hK => ?_)
          go_simp
          refine (CC _ hHeld.2.2.2.2.out).mono ?_
          rintro e wz ⟨rfl, hb⟩
          simp only []
          refine hK.out _ _ ?_ (fun hHeld => ?_)
          · exact keep4Z hb.below (by assumption)
          clear hK K2
          try simp only [List.setIfInBounds_toArray, List.set_cons_zero, List.set_cons_succ]
          refine heldTake (v := ?_) 7 27 rfl rfl (by kernel_rfl) (by kernel_rfl) (by kernel_rfl) (fun _ _ _ h => h) (by rfl) (fun w hSw => ?_) (by assumption) ?_
          rotate_left
          · (try dsimp only at hSw); first | (go_simp; done) | (go_simp; with_reducible rfl)
          simp only [List.setIfInBounds_toArray, List.set_cons_zero, List.set_cons_succ]
          refine wpAnyH_done (by kernel_rfl) ?_ _
          have HBZ : Hid (Below wr.heap.size wr wz) := hHeld.2.2.2.2
          have X0 := hHeld.2.2.1
          have X1 := hHeld.2.2.2.1
          clear hHeld HS3 CC x0 x1 y0 y1
          have HBD : Below wr.heap.size wr wz.drew := HBZ.out.drew
          have hAz := hA.out.later HBD
          have hBz := hBl.out.later HBD
          have hOz := hO.out.later HBD
          have hB2 : Below w.heap.size w wz.drew := chain hB.out HBD
          obtain ⟨a', c', w6, hrun, hO6, hb6⟩ := shared_one (w := wz.drew) 22 (z := zb) hOz HZo.out (by omega) HLB.out.1 (HLB.out.2.later HBD) hB2.size
          have HA6 : Hid (LeftZ w.heap.size w6 _ _ _ (za :: ZA)) := hAz.kept (sz_of_below hb6)
          have HB6 : Hid (LeftZ w.heap.size w6 _ _ _ ZB) := hBz.tail.kept (sz_of_below hb6)
          have HO6 : Hid (SharedZ w6 w.heap.size (.slice a' (k + 1) c') (Zo ++ [zb])) := hO6
          have HBB : Hid (Below w.heap.size w w6) := hB2.trans hb6
          have HS4 : wz.drew.cell? ⟨b2, o2, none⟩ = some (.slice sa sn sc) ∧ wz.drew.cell? ⟨b2, o2 + 1, none⟩ = some (.int .i64 q) := ⟨X0, X1⟩
          clear HBD hAz hBz hOz hB2 hO6 hb6 X0 X1 HBZ hA hBl hO hB
          go_upto_region 5 with fail
          refine region_S (S := (fun w' => w'.cell? ⟨b2, o2, none⟩ = some (.slice sa sn sc) ∧ w'.cell? ⟨b2, o2 + 1, none⟩ = some (.int .i64 q))) 4 (by kernel_rfl) HS4 (fun hHeld => ?_)
          refine sPure (v := ?_) 0 36 rfl rfl (by kernel_rfl) (by kernel_rfl) (by kernel_rfl) (by decide) (fun _ _ _ h => h) (by rfl) (fun w => ?_) (.inr (by assumption)) ?_
          rotate_left
          · first | (go_simp; done) | (go_simp; with_reducible rfl)
          simp only [List.setIfInBounds_toArray, List.set_cons_zero, List.set_cons_succ]
          refine sPure (v := ?_) 1 37 rfl rfl (by kernel_rfl) (by kernel_rfl) (by kernel_rfl) (by decide) (fun _ _ _ h => h) (by rfl) (fun w => ?_) (.inr (by assumption)) ?_
          rotate_left
          · first | (go_simp; done) | (go_simp; with_reducible rfl)
          simp only [List.setIfInBounds_toArray, List.set_cons_zero, List.set_cons_succ]
          refine sPure (v := ?_) 2 38 rfl rfl (by kernel_rfl) (by kernel_rfl) (by kernel_rfl) (by decide) (fun _ _ _ h => h) (by rfl) (fun w => ?_) (.inr (by assumption)) ?_
          rotate_left
          · first | (go_simp; done) | (go_simp; with_reducible rfl)
          simp only [List.setIfInBounds_toArray, List.set_cons_zero, List.set_cons_succ]
          refine sTake (v := ?_) 3 39 rfl rfl (by kernel_rfl) (by kernel_rfl) (by kernel_rfl) (by kernel_rfl) (by kernel_rfl) (fun _ _ _ h => h) (by rfl) (fun w hSw => ?_) (by assumption) ?_
          rotate_left
          · (try dsimp only at hSw); first | (go_simp; done) | (go_simp; with_reducible rfl)
          simp only [List.setIfInBounds_toArray, List.set_cons_zero, List.set_cons_succ]
          refine sPure (v := ?_) 6 42 rfl rfl (by kernel_rfl) (by kernel_rfl) (by kernel_rfl) (by decide) (fun _ _ _ h => h) (by rfl) (fun w => ?_) (.inr (by assumption)) ?_
          rotate_left
          · first | (go_simp; done) | (go_simp; with_reducible rfl)
          simp only [List.setIfInBounds_toArray, List.set_cons_zero, List.set_cons_succ]
          refine sPure (v := ?_) 7 43 rfl rfl (by kernel_rfl) (by kernel_rfl) (by kernel_rfl) (by decide) (fun _ _ _ h => h) (by rfl) (fun w => ?_) (.inr (by assumption)) ?_
          rotate_left
          · first | (go_simp; done) | (go_simp; with_reducible rfl)
          simp only [List.setIfInBounds_toArray, List.set_cons_zero, List.set_cons_succ]
          refine sOne 4 rfl (by kernel_rfl) (by rfl) (fun K2 hK => ?_)
          go_simp
          refine hK.out _ _ ?_ (fun hHeld => ?_)
          · exact .inl (by rfl)
          clear hK K2 hHeld
          try simp only [List.setIfInBounds_toArray, List.set_cons_zero, List.set_cons_succ]
          refine sOne 5 rfl (by kernel_rfl) (by rfl) (fun K2 hK => ?_)
          refine wp_append_z _ _ 22 22 rfl _ _ _ _ rfl rfl hrun ?_
          go_simp
          refine hK.out _ _ ?_ (fun hHeld => ?_)
          · exact .inl (by rfl)
          clear hK K2 hHeld
          try simp only [List.setIfInBounds_toArray, List.set_cons_zero, List.set_cons_succ]
          refine sPure (v := ?_) 8 5 rfl rfl (by kernel_rfl) (by kernel_rfl) (by kernel_rfl) (by decide) (fun _ _ _ h => h) (by rfl) (fun w => ?_) (.inl (by rfl)) ?_
          rotate_left
          · first | (go_simp; done) | (go_simp; with_reducible rfl)
          simp only [List.setIfInBounds_toArray, List.set_cons_zero, List.set_cons_succ]
          refine sPure (v := ?_) 9 1 rfl rfl (by kernel_rfl) (by kernel_rfl) (by kernel_rfl) (by decide) (fun _ _ _ h => h) (by rfl) (fun w => ?_) (.inl (by rfl)) ?_
          rotate_left
          · first | (go_simp; done) | (go_simp; with_reducible rfl)
          simp only [List.setIfInBounds_toArray, List.set_cons_zero, List.set_cons_succ]
          refine sDone (by kernel_rfl) ?_ _
          clear hrun HS4
          go_wp2
          go_roundw
          case rel => exact ⟨za :: ZA, ZB, Zo ++ [zb], _, _, a', na, nb - 1, k + 1, ca, cb - 1, c', rfl, rfl, rfl, by rw [List.length_append, HZo.out]; rfl, by omega, HM2.out, HA6.out, HB6.out, HO6.out, HBB.out⟩
          case measure => simp [lenV]; omega

end Go.Proofs.Ytajlkaedkifaoaa
