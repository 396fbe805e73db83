/-
  Texts of the proof of SetExact, one behind the other.
-/
import Derived.Test.YtajlkaedkifaoaaRows
import Derived.Test.YtajlkaedkifaoaaG41SetExact
import Derived.Test.YtajlkaedkifaoaaG49SetExact
import Derived.Test.YtajlkaedkifaoaaG45SetExact
import Derived.Test.YtajlkaedkifaoaaG40SetExact
import Derived.Test.YtajlkaedkifaoaaG37SetExact
import Derived.Test.YtajlkaedkifaoaaG23SetExact
import Derived.Test.YtajlkaedkifaoaaG17SetExact
import Derived.Deep.CutRange
import Derived.Test.YtajlkaedkifaoaaG46SetExact
namespace Go.Proofs.Ytajlkaedkifaoaa
open Go.RowKit Go.Lib
set_option linter.unusedVariables false

set_option maxRecDepth 100000 in
set_option maxHeartbeats 8000000 in
theorem twinSet_any (a : Option Addr) (n cap : Nat) (X : List PI) (w : World) (hn : X.length = n) (h4 : n ≤ 65536) (hr : RdZ w a X) :
    Calls Try.prog 10 #[.slice a n cap] w fun e w' => ∃ v Z, e = .returned v ∧ Z.map (·.2) = X ∧ SetO w' w.heap.size v Z ∧ Below w.heap.size w w' := by
  have HN : Hid (X.length = n) := hn
  have HR : Hid (RdZ w a X) := hr
  clear hn hr
  go_enter Try.func10, Try.ntmps10
  go_wp2
  go_loopw [3, 4] (fun v i wr => ∃ (k : Nat) (Z : List (List Value × PI)) (ao : Option Addr) (co : Nat), k ≤ n ∧ i = .int .i64 k ∧ v = .slice ao k co ∧ Hid (Z.length = k) ∧ Hid (Z.map (·.2) = X.take k) ∧ Hid (SetO wr w.heap.size (.slice ao k co) Z) ∧ Hid (Below w.heap.size w wr)) (fun _ i _ => n - (RowKit.intOf i).toNat)
  case atStart => exact ⟨0, [], none, 0, Nat.zero_le _, rfl, rfl, rfl, rfl, SetO.nought _ _, Below.refl _ _⟩
  case round =>
    obtain ⟨k, Z, ao, co, hk, rfl, rfl, hZl, hT, hO, hB⟩ := hrel
    rename World => wr
    by_cases hlt : k < n
    · have hkl : k < X.length := by rw [HN.out]; exact hlt
      obtain ⟨b, off, ra, rc, rfl, x0, x1, hz⟩ := HR.out.at_ hkl
      have hbl : b < w.heap.size := cellZ_lt x0
      have X0 := cell_later hB.out x0
      have X1 := cell_later hB.out x1
      have CT : ∀ V, Below wr.heap.size wr V → Calls Try.prog 31 #[.slice ra X[k].row.length rc] V fun e w' => ∃ a' cap', e = .returned (.slice a' X[k].row.length cap') ∧ X[k].row.length ≤ cap' ∧ OwnV w' V.heap.size (.slice a' X[k].row.length cap') X[k].row ∧ (a' = none → X[k].row = [] ∧ cap' = 0) ∧ RdV w' a' X[k].row ∧ Below V.heap.size V w' := fun V hb => by
        obtain ⟨a1, c1, e1, r1, l1, m1, q1, -⟩ := hz.later (chain hB.out hb)
        cases e1
        exact twinRow_any ra X[k].row.length rc X[k].row V rfl l1 q1 r1
      have HR65 : Hid (X[k].row.length ≤ 65536) := by
        obtain ⟨a1, c1, e1, r1, l1, -⟩ := hz
        exact l1
      have HV64 : Hid (In64 X[k].wt) := by
        obtain ⟨a1, c1, e1, r1, l1, m1, q1, v1, -⟩ := hz
        exact v1
      have HT2 : Hid (X.take (k + 1) = X.take k ++ [⟨X[k].row, X[k].wt⟩]) := by show _ = _; rw [List.take_succ_eq_append_getElem hkl]
      clear hz x0 x1
      generalize X[k] = xk at *
      obtain ⟨row, p⟩ := xk
      simp only at X0 X1 CT HR65 HV64 HT2
      obtain ⟨rn, hrn⟩ : ∃ rn, row.length = rn := ⟨_, rfl⟩
      rw [hrn] at X0 CT HR65
      have HRN : Hid (row.length = rn) := hrn
      clear hkl hrn
      have HL5 : ∀ (z : List Value × PI), Hid ((Z ++ [z]).length = k + 1) := fun z => by show _ = _; rw [List.length_append, hZl.out]; rfl
      have HT5 : ∀ (c : List Value), Hid ((Z ++ [(c, (⟨row, p⟩ : PI))]).map (·.2) = X.take (k + 1)) := fun c => by show _ = _; rw [HT2.out, List.map_append, hT.out]; rfl
      have k0 : (0 : Int) ≤ (k : Int) := by omega
      have k1 : (k : Int) < (n : Int) := by omega
      have HS4 : wr.drew.cell? ⟨b, off + k * 2, none⟩ = some (.slice ra rn rc) ∧ wr.drew.cell? ⟨b, off + k * 2 + 1, none⟩ = some (.int .i64 p) ∧ b < w.heap.size ∧ Hid (Below w.heap.size w wr.drew) := ⟨cell_later (Below.refl _ _).drew X0, cell_later (Below.refl _ _).drew X1, hbl, hB.out.drew⟩
      clear X0 X1 HT2 hT
      go_upto_region 5 with fail
      refine wp_region_held_drew (S := (fun w' => w'.cell? ⟨b, off + k * 2, none⟩ = some (.slice ra rn rc) ∧ w'.cell? ⟨b, off + k * 2 + 1, none⟩ = some (.int .i64 p) ∧ b < w.heap.size ∧ Hid (Below w.heap.size w w'))) (by kernel_rfl) HS4 (fun hHeld => ?_)
      refine heldTake (v := ?_) 0 11 rfl rfl (by kernel_rfl) (by kernel_rfl) (by kernel_rfl) (fun _ _ _ h => h) (by rfl) (fun w hSw => ?_) (by assumption) ?_
      rotate_left
      · (try dsimp only at hSw); first | (go_simp; done) | (go_simp; with_reducible rfl)
      simp only [List.setIfInBounds_toArray, List.set_cons_zero, List.set_cons_succ]
      refine heldTake (v := ?_) 1 12 rfl rfl (by kernel_rfl) (by kernel_rfl) (by kernel_rfl) (fun _ _ _ h => h) (by rfl) (fun w hSw => ?_) (by assumption) ?_
      rotate_left
      · (try dsimp only at hSw); first | (go_simp; done) | (go_simp; with_reducible rfl)
      simp only [List.setIfInBounds_toArray, List.set_cons_zero, List.set_cons_succ]
      refine heldTake (v := ?_) 2 13 rfl rfl (by kernel_rfl) (by kernel_rfl) (by kernel_rfl) (fun _ _ _ h => h) (by rfl) (fun w hSw => ?_) (by assumption) ?_
      rotate_left
      · (try dsimp only at hSw); first | (go_simp; done) | (go_simp; with_reducible rfl)
      simp only [List.setIfInBounds_toArray, List.set_cons_zero, List.set_cons_succ]
      refine heldTake (v := ?_) 3 14 rfl rfl (by kernel_rfl) (by kernel_rfl) (by kernel_rfl) (fun _ _ _ h => h) (by rfl) (fun w hSw => ?_) (by assumption) ?_
      rotate_left
      · (try dsimp only at hSw); first | (go_simp; done) | (go_simp; with_reducible rfl)
      simp only [List.setIfInBounds_toArray, List.set_cons_zero, List.set_cons_succ]
      refine heldTake (v := ?_) 4 15 rfl rfl (by kernel_rfl) (by kernel_rfl) (by kernel_rfl) (fun _ _ _ h => h) (by rfl) (fun w hSw => ?_) (by assumption) ?_
      rotate_left
      · (try dsimp only at hSw); first | (go_simp; done) | (go_simp; with_reducible rfl)
      simp only [List.setIfInBounds_toArray, List.set_cons_zero, List.set_cons_succ]
      refine heldTake (v := ?_) 5 16 rfl rfl (by kernel_rfl) (by kernel_rfl) (by kernel_rfl) (fun _ _ _ h => h) (by rfl) (fun w hSw => ?_) (by assumption) ?_
      rotate_left
      · (try dsimp only at hSw); first | (go_simp; done) | (go_simp; with_reducible rfl)
      simp only [List.setIfInBounds_toArray, List.set_cons_zero, List.set_cons_succ]
      refine heldTake (v := ?_) 7 18 rfl rfl (by kernel_rfl) (by kernel_rfl) (by kernel_rfl) (fun _ _ _ h => h) (by rfl) (fun w hSw => ?_) (by assumption) ?_
      rotate_left
      · (try dsimp only at hSw); first | (go_simp; done) | (go_simp; with_reducible rfl)
      simp only [List.setIfInBounds_toArray, List.set_cons_zero, List.set_cons_succ]
      refine heldTake (v := ?_) 8 19 rfl rfl (by kernel_rfl) (by kernel_rfl) (by kernel_rfl) (fun _ _ _ h => h) (by rfl) (fun w hSw => ?_) (by assumption) ?_
      rotate_left
      · (try dsimp only at hSw); first | (go_simp; done) | (go_simp; with_reducible rfl)
      simp only [List.setIfInBounds_toArray, List.set_cons_zero, List.set_cons_succ]
      refine heldTake (v := ?_) 9 20 rfl rfl (by kernel_rfl) (by kernel_rfl) (by kernel_rfl) (fun _ _ _ h => h) (by rfl) (fun w hSw => ?_) (by assumption) ?_
      rotate_left
      · (try dsimp only at hSw); first | (go_simp; done) | (go_simp; with_reducible rfl)
      simp only [List.setIfInBounds_toArray, List.set_cons_zero, List.set_cons_succ]
      refine heldTake (v := ?_) 10 21 rfl rfl (by kernel_rfl) (by kernel_rfl) (by kernel_rfl) (fun _ _ _ h => h) (by rfl) (fun w hSw => ?_) (by assumption) ?_
      rotate_left
      · (try dsimp only at hSw); first | (go_simp; done) | (go_simp; with_reducible rfl)
      simp only [List.setIfInBounds_toArray, List.set_cons_zero, List.set_cons_succ]
      refine heldTake (v := ?_) 11 22 rfl rfl (by kernel_rfl) (by kernel_rfl) (by kernel_rfl) (fun _ _ _ h => h) (by rfl) (fun w hSw => ?_) (by assumption) ?_
      rotate_left
      · (try dsimp only at hSw); first | (go_simp; done) | (go_simp; with_reducible rfl)
      simp only [List.setIfInBounds_toArray, List.set_cons_zero, List.set_cons_succ]
      refine heldOne 6 rfl (by kernel_rfl) (by rfl) (fun K2 hK => ?_)
      go_simp
      refine (CT _ (show Below wr.heap.size wr _ from (Below.refl _ _).drew)).mono ?_
      rintro e wz ⟨a', cap', rfl, hc', ho', hn', -, hb⟩
      simp only []
      have HBZ : Below wr.heap.size wr wz := chain ((Below.refl _ _).drew) hb
      have HO7 : Hid (SetO wz w.heap.size (.slice ao k co) Z) := hO.out.later HBZ
      have HBW : Hid (Below w.heap.size w wz) := chain hB.out HBZ
      have hho := HRN.out
      obtain ⟨a9, c9, w6, hrun, hO6, hb6⟩ := setO_one (w := wz) (row := row) (V := p) 22 HO7.out hZl.out (by omega) (by rw [hho]; exact ho') hB.out.size (fun b hb => (World.ownsRow.lt hO.out.1.1.2 b hb).2) (by rw [hho]; exact HR65.out) HV64.out (by rw [hho]; exact hc') hn' HBW.out.size
      rw [hho] at hrun hO6
      have HO6 : Hid _ := hO6
      have HB6 : Hid _ := hb6
      clear hO6 hb6 hc' ho' hn' hho HBZ HO7
      refine hK.out _ _ ?_ (fun hHeld => ?_)
      · exact keep2B (hb.mono hHeld.2.2.2.out.size) hHeld
      clear hK K2
      try simp only [List.setIfInBounds_toArray, List.set_cons_zero, List.set_cons_succ]
      refine heldTake (v := ?_) 12 23 rfl rfl (by kernel_rfl) (by kernel_rfl) (by kernel_rfl) (fun _ _ _ h => h) (by rfl) (fun w hSw => ?_) (by assumption) ?_
      rotate_left
      · (try dsimp only at hSw); first | (go_simp; done) | (go_simp; with_reducible rfl)
      simp only [List.setIfInBounds_toArray, List.set_cons_zero, List.set_cons_succ]
      refine heldOne 13 rfl (by kernel_rfl) (by rfl) (fun K2 hK => ?_)
      have HSW := hHeld
      go_simp
      refine hK.out _ _ ?_ (fun hHeld => ?_)
      · exact keep2B ((Below.refl _ _).alloc hHeld.2.2.2.out.size _) (by assumption)
      clear hK K2
      try simp only [List.setIfInBounds_toArray, List.set_cons_zero, List.set_cons_succ]
      refine heldOne 14 rfl (by kernel_rfl) (by rfl) (fun K2 hK => ?_)
      refine wp_append_z _ _ 22 22 rfl _ _ _ _ rfl rfl hrun ?_
      go_simp
      refine hK.out _ _ ?_ (fun hHeld => ?_)
      · exact keep2B HB6.out HSW
      clear hK K2
      try simp only [List.setIfInBounds_toArray, List.set_cons_zero, List.set_cons_succ]
      refine heldTake (v := ?_) 15 3 rfl rfl (by kernel_rfl) (by kernel_rfl) (by kernel_rfl) (fun _ _ _ h => h) (by rfl) (fun w hSw => ?_) (by assumption) ?_
      rotate_left
      · (try dsimp only at hSw); first | (go_simp; done) | (go_simp; with_reducible rfl)
      simp only [List.setIfInBounds_toArray, List.set_cons_zero, List.set_cons_succ]
      refine wpAnyH_done (by kernel_rfl) ?_ _
      have HB5 : Hid (Below w.heap.size w w6) := HBW.out.trans HB6.out
      clear hrun HS4 HSW hHeld HB6 HBW CT hO hB
      go_wp2
      go_roundw
      case rel => exact ⟨k + 1, _, a9, c9, by omega, by go_num, rfl, HL5 _, HT5 _, HO6, HB5⟩
      case measure => simp [RowKit.intOf]; omega
    · obtain rfl : k = n := by omega
      have hT2 := hT.out
      rw [List.take_of_length_le (by rw [HN.out]; exact Nat.le_refl _)] at hT2
      have HF : Hid (∃ v' Z', Ending.returned (.slice ao k co) = .returned v' ∧ Z'.map (·.2) = X ∧ SetO wr w.heap.size v' Z' ∧ Below w.heap.size w wr) := ⟨_, Z, rfl, hT2, hO.out, hB.out⟩
      clear hT2 hT hO hZl
      go_wp2
      go_ret
      exact HF.out

end Go.Proofs.Ytajlkaedkifaoaa

namespace Go.Proofs.Ytajlkaedkifaoaa
open Go.RowKit Go.Lib
set_option linter.unusedVariables false

/-- A set turned about. -/
def negZ (X : List PI) : List PI := X.map fun x => ⟨x.row, -x.wt⟩

theorem negZ_sum : ∀ (X : List PI) (x : PI), sumZ (negZ X) x = -sumZ X x
  | [], x => by simp [negZ, sumZ]
  | y :: X, x => by
    have ih := negZ_sum X x
    show (if cmpZ ⟨y.row, -y.wt⟩ x = 0 then -y.wt else 0) + sumZ (negZ X) x = -((if cmpZ y x = 0 then y.wt else 0) + sumZ X x)
    rw [ih]
    have e : cmpZ ⟨y.row, -y.wt⟩ x = cmpZ y x := rfl
    rw [e]
    split <;> omega

theorem negZ_len (X : List PI) : (negZ X).length = X.length := by simp [negZ]

theorem negZ_rise {X : List PI} (h : riseZ X = true) : riseZ (negZ X) = true := by
  obtain ⟨h1, h2⟩ := riseZ_iff.1 h
  refine riseZ_iff.2 ⟨fun x hx => ?_, List.pairwise_map.2 (h2.imp fun {a b} hab => hab)⟩
  obtain ⟨y, hy, rfl⟩ := List.mem_map.1 hx
  obtain ⟨o1, o2⟩ := h1 y hy
  obtain ⟨p1, p2⟩ := okI_parts.1 o1
  have hw := isW_iff.1 p2
  exact ⟨okI_parts.2 ⟨p1, isW_iff.2 ⟨by simp only; omega, by simp only; omega⟩⟩, by simp only; omega⟩

theorem negZ_neg (X : List PI) : negZ (negZ X) = X := by
  unfold negZ
  rw [List.map_map]
  conv => rhs; rw [← List.map_id X]
  refine List.map_congr_left fun x _ => ?_
  cases x
  simp

theorem RowZ.put2 {w : World} {B g n cap i : Nat} {Z : List (List Value × PI)} {x y : Value} {u : PI} (h : RowZ w B (.slice (some ⟨g, 0, none⟩) n cap) Z) (hi : i < Z.length) (hz : LiesZ (fun b => b < B ∨ b = g) w [x, y] u) :
    RowZ ((w.setCell ⟨g, i * 2, none⟩ x).setCell ⟨g, i * 2 + 1, none⟩ y) B (.slice (some ⟨g, 0, none⟩) n cap) (Z.set i ([x, y], u)) := by
  have hE : ∀ b, (b < B ∨ (Value.slice (some ⟨g, 0, none⟩) n cap).ownBlock = some b) → (b < B ∨ b = g) := fun b hb => hb.imp id fun h => by cases h; rfl
  have hE' : ∀ b, (b < B ∨ b = g) → (b < B ∨ (Value.slice (some ⟨g, 0, none⟩) n cap).ownBlock = some b) := fun b hb => hb.imp id fun h => by subst h; rfl
  have hs : Sz (fun b => b < B ∨ b = g) w ((w.setCell ⟨g, i * 2, none⟩ x).setCell ⟨g, i * 2 + 1, none⟩ y) :=
    Stay.setCell (Stay.setCell (Stay.refl _ _) (p := ⟨g, i * 2, none⟩) (fun h => h.2 (.inr rfl)) x) (p := ⟨g, i * 2 + 1, none⟩) (fun h => h.2 (.inr rfl)) y
  refine ⟨?_, fun z hz' => ?_⟩
  · have := OwnK.put (k := 2) (by omega) h.1 (LiesZ.wide hz) i (by rw [List.length_map]; exact hi)
    rw [List.map_set]
    exact this
  · rcases List.mem_or_eq_of_mem_set hz' with hz' | rfl
    · exact (((h.2 z hz').less fun b hb => hE' b hb).sz hs).less fun b hb => hE b hb
    · exact (hz.sz hs).less fun b hb => hE b hb

/-- What lies in a new slot. -/
def noItem : List Value × PI := ([.slice none 0 0, .int .i64 0], ⟨[], 0⟩)

theorem noItem_lies (E : Nat → Prop) (w : World) : LiesZ E w noItem.1 noItem.2 :=
  ⟨none, 0, rfl, RdV.nil _ _, by simp [noItem], by simp [noItem], fun _ => ⟨rfl, rfl⟩, by constructor <;> simp [noItem], fun h => by simp [noItem] at h⟩

theorem made_items {w : World} {B g n : Nat} (h : OwnK 2 40 w B (.slice (some ⟨g, 0, none⟩) n n) (List.replicate n [.slice none 0 0, .int .i64 0])) : RowZ w B (.slice (some ⟨g, 0, none⟩) n n) (List.replicate n noItem) := by
  refine ⟨by rw [List.map_replicate]; exact h, fun z hz => ?_⟩
  rw [List.eq_of_mem_replicate hz]
  exact noItem_lies _ _

theorem frozen_later {w w' : World} {b o : Nat} {v : Value} (h : Below w.heap.size w w') (hc : w.cell? ⟨b, o, none⟩ = some v) (hf : w.frozen? ⟨b, o, none⟩ = false) : w'.frozen? ⟨b, o, none⟩ = false := by
  have e := h.block b (cellZ_lt hc)
  unfold World.frozen? at hf ⊢
  rw [e]
  exact hf

theorem set_noItem {Z : List (List Value × PI)} {n k : Nat} {z : List Value × PI} (hl : Z.length = k) (hk : k < n) : (Z ++ List.replicate (n - k) noItem).set k z = (Z ++ [z]) ++ List.replicate (n - (k + 1)) noItem := by
  subst hl
  rw [List.set_append_right _ _ (Nat.le_refl _), Nat.sub_self, show n - Z.length = (n - (Z.length + 1)) + 1 from by omega, List.replicate_succ, List.set_cons_zero]
  simp

set_option maxRecDepth 100000 in
set_option maxHeartbeats 8000000 in
theorem zNeg_good (a : Option Addr) (n cap : Nat) (X : List PI) (w : World) (hn : X.length = n) (h4 : n ≤ 65536) (hr : RdZ w a X) (hri : riseZ X = true) :
    Calls Try.prog 21 #[.slice a n cap] w fun e w' => GivesZ w w' e (negZ X, 0) := by
  have HN : Hid (X.length = n) := hn
  have HR : Hid (RdZ w a X) := hr
  have C1 := zCheck_any a n cap X w hn h4 hr
  rw [chkZ_yes hri] at C1
  have HW : Hid (∀ x ∈ X, -72057594037927936 ≤ x.wt ∧ x.wt ≤ 72057594037927936) := fun x hx => isW_iff.1 (okI_parts.1 ((riseZ_iff.1 hri).1 x hx).1).2
  clear hn hr hri
  go_enter Try.func21, Try.ntmps21
  go_wp2_with fail
  refine C1.mono ?_
  rintro e w1 ⟨rfl, hb1⟩
  have HB1 : Hid (Below w.heap.size w w1) := hb1
  clear C1 hb1
  obtain ⟨w2, hmake, hO2, hB2⟩ := run_make_k ktItem w1 n (by omega)
  have HZ2 : Hid (RowZ w2 w1.heap.size (.slice (some ⟨w1.heap.size, 0, none⟩) n n) (List.replicate n noItem)) := made_items hO2
  have HB2 : Hid (Below w1.heap.size w1 w2) := hB2
  clear hO2 hB2
  go_wp2
  go_loopw [18] (fun i wr => ∃ (k : Nat) (Z : List (List Value × PI)), k ≤ n ∧ i = .int .i64 k ∧ Hid (Z.length = k) ∧ Hid (Z.map (·.2) = negZ (X.take k)) ∧ Hid (RowZ wr w1.heap.size (.slice (some ⟨w1.heap.size, 0, none⟩) n n) (Z ++ List.replicate (n - k) noItem)) ∧ Hid (Below w1.heap.size w1 wr)) (fun i _ => n - (RowKit.intOf i).toNat)
  case atStart => exact ⟨0, [], Nat.zero_le _, rfl, rfl, rfl, HZ2, HB2⟩
  case round =>
    clear hmake HZ2 HB2
    obtain ⟨k, Z, hk, rfl, hZl, hZm, hO, hB⟩ := hrel
    by_cases hlt : k < n
    · have hkl : k < X.length := by rw [HN.out]; exact hlt
      obtain ⟨b, off, ra, rc, rfl, x0, x1, hz⟩ := (HR.out.later (chain HB1.out hB.out)).at_ hkl
      have HZ : Hid (LiesZ (fun _ => False) wr [.slice ra X[k].row.length rc, .int .i64 X[k].wt] X[k]) := hz
      have hlen : (Z ++ List.replicate (n - k) noItem).length = n := by rw [List.length_append, hZl.out, List.length_replicate]; omega
      obtain ⟨⟨d0, hd0⟩, f0⟩ := OwnK.slots hO.out.1 (m := k) (by rw [List.length_map, hlen]; exact hlt) 0 (by omega)
      obtain ⟨⟨d1, hd1⟩, f1⟩ := OwnK.slots hO.out.1 (m := k) (by rw [List.length_map, hlen]; exact hlt) 1 (by omega)
      rw [Nat.add_zero] at hd0 f0
      have hwk := HW.out _ (List.getElem_mem hkl)
      have nw : wrap64 (-X[k].wt) = -X[k].wt := wrap_in (by omega)
      have nw2 : IntKind.i64.wrap (-X[k].wt) = -X[k].wt := by rw [IntKind.wrap_i64]; omega
      have CV : ∀ V, Below wr.heap.size wr V → Calls Try.prog 45 #[.slice ra X[k].row.length rc] V fun e w' => ∃ a' cap', e = .returned (.slice a' X[k].row.length cap') ∧ X[k].row.length ≤ cap' ∧ OwnV w' V.heap.size (.slice a' X[k].row.length cap') X[k].row ∧ (a' = none → X[k].row = [] ∧ cap' = 0) ∧ Below V.heap.size V w' := fun V hb => by
        obtain ⟨a1, c1, e1, r1, l1, m1, q1, -⟩ := HZ.out.later hb
        cases e1
        exact vclone_any ra X[k].row.length rc X[k].row V rfl l1 q1 r1
      have HX65 : Hid (X[k].row.length ≤ 65536) := by
        obtain ⟨a1, c1, e1, r1, l1, -⟩ := HZ.out
        exact l1
      have HST : Hid (negZ (X.take (k + 1)) = negZ (X.take k) ++ [⟨X[k].row, -X[k].wt⟩]) := by
        show _ = _
        rw [List.take_succ_eq_append_getElem hkl]
        unfold negZ
        rw [List.map_append]
        rfl
      have HNW : Hid (In64 (-X[k].wt)) := by
        show In64 _
        constructor <;> omega
      generalize hxk : X[k] = xk at *
      obtain ⟨r, p⟩ := xk
      simp only at x0 x1 nw nw2 CV HX65 HST HNW hwk
      have BX : Hid (Below wr.heap.size wr (wr.alloc (.cells #[.slice ra r.length rc, .int .i64 p] 40))) := alloc_below _ _
      obtain ⟨B2a, B2b⟩ := two_cells_new wr (.slice ra r.length rc) (.int .i64 p) 40
      obtain ⟨rn, hrn⟩ : ∃ rn, r.length = rn := ⟨_, rfl⟩
      rw [hrn] at x0 CV BX B2a B2b
      have HRN : Hid (r.length = rn) := hrn
      have HSZ : Hid (w1.heap.size < wr.heap.size) := cellZ_lt hd0
      have HDK : Hid (wr.cell? ⟨w1.heap.size, k * 2, none⟩ = some d0 ∧ wr.cell? ⟨w1.heap.size, k * 2 + 1, none⟩ = some d1 ∧ wr.frozen? ⟨w1.heap.size, k * 2, none⟩ = false ∧ wr.frozen? ⟨w1.heap.size, k * 2 + 1, none⟩ = false) := ⟨hd0, hd1, f0, f1⟩
      clear hz HZ hlen hxk hkl hrn hd0 hd1 f0 f1
      have k0 : (0 : Int) ≤ (k : Int) := by omega
      have k1 : (k : Int) < (n : Int) := by omega
      go_upto_region 8 with fail
      have HS : (wr.alloc (.cells #[.slice ra rn rc, .int .i64 p] 40)).drew.cell? ⟨wr.heap.size, 0, none⟩ = some (.slice ra rn rc) ∧ (wr.alloc (.cells #[.slice ra rn rc, .int .i64 p] 40)).drew.cell? ⟨wr.heap.size, 1, none⟩ = some (.int .i64 p) ∧ Hid (Below wr.heap.size wr (wr.alloc (.cells #[.slice ra rn rc, .int .i64 p] 40)).drew) := ⟨cell_later (Below.refl _ _).drew B2a, cell_later (Below.refl _ _).drew B2b, BX.out.drew⟩
      clear B2a B2b BX
      refine region_S (S := (fun w' => w'.cell? ⟨wr.heap.size, 0, none⟩ = some (.slice ra rn rc) ∧ w'.cell? ⟨wr.heap.size, 1, none⟩ = some (.int .i64 p) ∧ Hid (Below wr.heap.size wr w'))) 10 (by kernel_rfl) HS (fun hHeld => ?_)
      refine sPure (v := ?_) 0 23 rfl rfl (by kernel_rfl) (by kernel_rfl) (by kernel_rfl) (by decide) (fun _ _ _ h => h) (by rfl) (fun w => ?_) (.inr (by assumption)) ?_
      rotate_left
      · first | (go_simp; done) | (go_simp; with_reducible rfl)
      simp only [List.setIfInBounds_toArray, List.set_cons_zero, List.set_cons_succ]
      refine sPure (v := ?_) 1 24 rfl rfl (by kernel_rfl) (by kernel_rfl) (by kernel_rfl) (by decide) (fun _ _ _ h => h) (by rfl) (fun w => ?_) (.inr (by assumption)) ?_
      rotate_left
      · first | (go_simp; done) | (go_simp; with_reducible rfl)
      simp only [List.setIfInBounds_toArray, List.set_cons_zero, List.set_cons_succ]
      refine sPure (v := ?_) 2 25 rfl rfl (by kernel_rfl) (by kernel_rfl) (by kernel_rfl) (by decide) (fun _ _ _ h => h) (by rfl) (fun w => ?_) (.inr (by assumption)) ?_
      rotate_left
      · first | (go_simp; done) | (go_simp; with_reducible rfl)
      simp only [List.setIfInBounds_toArray, List.set_cons_zero, List.set_cons_succ]
      refine sTake (v := ?_) 3 26 rfl rfl (by kernel_rfl) (by kernel_rfl) (by kernel_rfl) (by kernel_rfl) (by kernel_rfl) (fun _ _ _ h => h) (by rfl) (fun w hSw => ?_) (by assumption) ?_
      rotate_left
      · (try dsimp only at hSw); first | (go_simp; done) | (go_simp; with_reducible rfl)
      simp only [List.setIfInBounds_toArray, List.set_cons_zero, List.set_cons_succ]
      refine sPure (v := ?_) 5 28 rfl rfl (by kernel_rfl) (by kernel_rfl) (by kernel_rfl) (by decide) (fun _ _ _ h => h) (by rfl) (fun w => ?_) (.inr (by assumption)) ?_
      rotate_left
      · first | (go_simp; done) | (go_simp; with_reducible rfl)
      simp only [List.setIfInBounds_toArray, List.set_cons_zero, List.set_cons_succ]
      refine sTake (v := ?_) 6 29 rfl rfl (by kernel_rfl) (by kernel_rfl) (by kernel_rfl) (by kernel_rfl) (by kernel_rfl) (fun _ _ _ h => h) (by rfl) (fun w hSw => ?_) (by assumption) ?_
      rotate_left
      · (try dsimp only at hSw); first | (go_simp; done) | (go_simp; with_reducible rfl)
      simp only [List.setIfInBounds_toArray, List.set_cons_zero, List.set_cons_succ]
      refine sPure (v := ?_) 7 30 rfl rfl (by kernel_rfl) (by kernel_rfl) (by kernel_rfl) (by decide) (fun _ _ _ h => h) (by rfl) (fun w => ?_) (.inr (by assumption)) ?_
      rotate_left
      · first | (go_simp; done) | (go_simp; with_reducible rfl)
      simp only [List.setIfInBounds_toArray, List.set_cons_zero, List.set_cons_succ]
      refine sOne 4 rfl (by kernel_rfl) (by rfl) (fun K2 hK => ?_)
      go_simp
      refine (CV _ hHeld.2.2.out).mono ?_
      rintro e wz ⟨a', cap', rfl, hc', ho', hn', hb⟩
      simp only []
      obtain ⟨g0, g1, g2, g3⟩ := HDK.out
      have HBZ : Hid (Below wr.heap.size wr wz) := chain hHeld.2.2.out hb
      have d0' := cell_later HBZ.out g0
      have d1' := cell_later HBZ.out g1
      have f0' : wz.frozen? ⟨w1.heap.size, k * 2, none⟩ = false := frozen_later HBZ.out g0 g2
      have f1' : wz.frozen? ⟨w1.heap.size, k * 2 + 1, none⟩ = false := frozen_later HBZ.out g1 g3
      clear g0 g1 g2 g3
      have HC : Hid (OwnV wz _ (.slice a' rn cap') r ∧ rn ≤ cap' ∧ (a' = none → r = [] ∧ cap' = 0)) := ⟨ho', hc', hn'⟩
      clear ho' hc' hn'
      refine hK.out _ _ ?_ (fun hHeld => ?_)
      · exact .inr (by exact ⟨cell_later hb hHeld.1, cell_later hb hHeld.2.1, chain hHeld.2.2.out hb⟩)
      clear hK K2
      replace hHeld := hHeld.resolve_left (by decide)
      try simp only [List.setIfInBounds_toArray, List.set_cons_zero, List.set_cons_succ]
      refine sPure (v := ?_) 8 31 rfl rfl (by kernel_rfl) (by kernel_rfl) (by kernel_rfl) (by decide) (fun _ _ _ h => h) (by rfl) (fun w => ?_) (.inr (by assumption)) ?_
      rotate_left
      · first | (go_simp; done) | (go_simp; with_reducible rfl)
      simp only [List.setIfInBounds_toArray, List.set_cons_zero, List.set_cons_succ]
      refine sPure (v := ?_) 9 32 rfl rfl (by kernel_rfl) (by kernel_rfl) (by kernel_rfl) (by decide) (fun _ _ _ h => h) (by rfl) (fun w => ?_) (.inr (by assumption)) ?_
      rotate_left
      · first | (go_simp; done) | (go_simp; with_reducible rfl)
      simp only [List.setIfInBounds_toArray, List.set_cons_zero, List.set_cons_succ]
      refine sOne 10 rfl (by kernel_rfl) (by rfl) (fun K2 hK => ?_)
      go_simp
      refine hK.out _ _ ?_ (fun hHeld => ?_)
      · exact .inl (by rfl)
      clear hK K2 hHeld
      try simp only [List.setIfInBounds_toArray, List.set_cons_zero, List.set_cons_succ]
      refine sDone (by kernel_rfl) ?_ _
      have HLZ : LiesZ (fun b => b < w1.heap.size ∨ b = w1.heap.size) wz [.slice a' rn cap', .int .i64 (-p)] ⟨r, -p⟩ := by
        obtain ⟨ho', hc', hn'⟩ := HC.out
        obtain ⟨a5, c5, e5, -, r5, -⟩ := ho'.form
        have e6 := e5
        simp only [Value.slice.injEq] at e6
        obtain ⟨rfl, -, rfl⟩ := e6
        have hrn := HRN.out
        subst hrn
        refine ⟨a', cap', rfl, r5, HX65.out, hc', hn', HNW.out, fun h0 b o s e => ?_⟩
        have hge := ho'.block b (by rw [e]; rfl)
        have hsz := HSZ.out
        simp at hge
        omega
      have hlen : (Z ++ List.replicate (n - k) noItem).length = n := by rw [List.length_append, hZl.out, List.length_replicate]; omega
      have HP := (hO.out.later HBZ.out).put2 (i := k) (by rw [hlen]; exact hlt) HLZ
      rw [set_noItem hZl.out hlt] at HP
      have HP' : Hid _ := HP
      have HL' : Hid ((Z ++ [(([.slice a' rn cap', .int .i64 (-p)] : List Value), (⟨r, -p⟩ : PI))]).length = k + 1) := by show _ = _; rw [List.length_append, hZl.out]; rfl
      have HM' : Hid ((Z ++ [(([.slice a' rn cap', .int .i64 (-p)] : List Value), (⟨r, -p⟩ : PI))]).map (·.2) = negZ (X.take (k + 1))) := by show _ = _; rw [List.map_append, hZm.out, HST.out]; rfl
      have HBF : Hid (Below w1.heap.size w1 _) := ((chain hB.out HBZ.out).setCell (p := ⟨w1.heap.size, k * 2, none⟩) (Nat.le_refl _) (.slice a' rn cap')).setCell (p := ⟨w1.heap.size, k * 2 + 1, none⟩) (Nat.le_refl _) (.int .i64 (-p))
      clear HLZ hlen HP d0' d1' f0' f1' HS CV
      go_wp2
      go_roundw
      case rel => exact ⟨k + 1, _, by omega, by go_num, HL', HM', HP', HBF⟩
      case measure => simp [RowKit.intOf]; omega
    · obtain rfl : k = n := by omega
      have HF := hO.out
      rw [Nat.sub_self, List.replicate_zero, List.append_nil] at HF
      have hm := hZm.out
      rw [List.take_of_length_le (by rw [HN.out]; omega)] at hm
      have HFF : Hid (RowZ wr w1.heap.size (.slice (some ⟨w1.heap.size, 0, none⟩) k k) Z) := HF
      have HM : Hid (Z.map (·.2) = negZ X) := hm
      clear HF hm hO hZm
      go_wp2
      refine bodyPost_ret (by simp [results, Try.results21, go_sem]; rfl) rfl ?_
      exact ⟨_, Z, rfl, HM.out, HFF.out.base HB1.out.size, chain HB1.out hB.out⟩

end Go.Proofs.Ytajlkaedkifaoaa

namespace Go.Proofs.Ytajlkaedkifaoaa
open Go.RowKit Go.Lib
set_option linter.unusedVariables false

structure SetAt (w : World) (a : Option Addr) (n cap : Nat) (R : List PI) : Prop where
  len : R.length = n
  le : n ≤ cap
  rd : RdZ w a R
  nil : a = none → R = [] ∧ cap = 0

theorem SetAt.later {w w' : World} {a : Option Addr} {n cap : Nat} {R : List PI} (h : SetAt w a n cap R) (hb : Below w.heap.size w w') : SetAt w' a n cap R := ⟨h.len, h.le, h.rd.later hb, h.nil⟩

theorem SetAt.of_row {w : World} {B : Nat} {v : Value} {Z : List (List Value × PI)} {R : List PI} (h : RowZ w B v Z) (hZ : Z.map (·.2) = R) : ∃ a n cap, v = .slice a n cap ∧ SetAt w a n cap R := by
  obtain ⟨a, cap, e, hc, -, hr, hn, -⟩ := h.form
  rw [hZ] at hr hn
  have hl : R.length = Z.length := by rw [← hZ, List.length_map]
  exact ⟨a, _, cap, e, hl, hc, hr, hn⟩

/-- What a call hands back that tells a set. -/
def TellsZ (w w' : World) (e : Ending) (R : List PI) : Prop := ∃ a n cap, e = .returned (.tuple #[.slice a n cap, .int .i64 0]) ∧ SetAt w' a n cap R ∧ Below w.heap.size w w'

theorem TellsZ.of {w w' : World} {e : Ending} {R : List PI} (h : GivesZ w w' e (R, 0)) : TellsZ w w' e R := by
  obtain ⟨v, Z, rfl, hZ, hr, hb⟩ := h
  obtain ⟨a, n, cap, rfl, hs⟩ := SetAt.of_row hr hZ
  exact ⟨a, n, cap, rfl, hs, hb⟩

theorem add_c {a c : Option Addr} {n m cap dap : Nat} {A C S : List PI} {w : World} (hA : SetAt w a n cap A) (hC : SetAt w c m dap C) (hn : n ≤ 16384) (hm : m ≤ 16384) (h : addZ A C = (S, 0)) :
    Calls Try.prog 20 #[.slice a n cap, .slice c m dap] w fun e w' => TellsZ w w' e S := by
  have := zAdd_any a c n m cap dap A C w hA.len hC.len hn hm hA.le hC.le hA.nil hC.nil hA.rd hC.rd
  rw [h] at this
  exact this.mono fun e w' k => TellsZ.of k

theorem neg_c {a : Option Addr} {n cap : Nat} {A : List PI} {w : World} (hA : SetAt w a n cap A) (hn : n ≤ 65536) (h : riseZ A = true) :
    Calls Try.prog 21 #[.slice a n cap] w fun e w' => TellsZ w w' e (negZ A) :=
  (zNeg_good a n cap A w hA.len hn hA.rd h).mono fun e w' k => TellsZ.of k

theorem make_c {a : Option Addr} {n cap : Nat} {A S : List PI} {w : World} (hA : SetAt w a n cap A) (hn : n ≤ 32768) (h : makeZ A = (S, 0)) :
    Calls Try.prog 11 #[.slice a n cap] w fun e w' => TellsZ w w' e S := by
  have := zMake_any a n cap A w hA.len hn hA.rd
  rw [h] at this
  exact this.mono fun e w' k => TellsZ.of k

theorem check_c {a : Option Addr} {n cap : Nat} {A : List PI} {w : World} (hA : SetAt w a n cap A) (hn : n ≤ 65536) (h : riseZ A = true) :
    Calls Try.prog 22 #[.slice a n cap] w fun e w' => e = .returned (.int .i64 0) ∧ Below w.heap.size w w' := by
  have := zCheck_any a n cap A w hA.len hn hA.rd
  rw [chkZ_yes h] at this
  exact this

theorem size_c {a : Option Addr} {n cap : Nat} {A : List PI} {w : World} (hA : SetAt w a n cap A) (hn : n ≤ 32768) :
    Calls Try.prog 16 #[.slice a n cap] w fun e w' => e = .returned (.int .i64 (sizeZ A)) ∧ Below w.heap.size w w' := zSize_any a n cap A w hA.len hn hA.rd

theorem same_c {a c : Option Addr} {n m cap dap : Nat} {A C : List PI} {w : World} (hA : SetAt w a n cap A) (hC : SetAt w c m dap C) (hn : n ≤ 65536) (h : A = C) :
    Calls Try.prog 13 #[.slice a n cap, .slice c m dap] w fun e w' => e = .returned (.bool true) ∧ Below w.heap.size w w' := by
  subst h
  have hm : m ≤ 65536 := by have := hA.len; have := hC.len; omega
  have := keepSet_any a c n m cap dap A A w hA.len hC.len hn hm hA.rd hC.rd
  rw [sameIs_yes rfl] at this
  exact this

/-- Of a right set a row's weight is the sum of what weighs so. -/
theorem weight_sum : ∀ {X : List PI}, RiseZ X → ∀ (x : PI), weightZ X x.row = sumZ X x
  | [], _, x => rfl
  | y :: X, h, x => by
    obtain ⟨h1, h2⟩ := List.pairwise_cons.1 h
    show (if cmpR y.row x.row = 0 then y.wt else weightZ X x.row) = (if cmpZ y x = 0 then y.wt else 0) + sumZ X x
    have e : cmpR y.row x.row = cmpZ y x := rfl
    rw [e]
    by_cases hc : cmpZ y x = 0
    · rw [if_pos hc, if_pos hc, sumZ_none (fun z hz hz0 => by
        have h3 := h1 z hz
        have h4 : cmpZ y z = cmpZ x z := cmpZ_congr_left hc
        have h5 := cmpZ_flip z x
        omega)]
      omega
    · rw [if_neg hc, if_neg hc, weight_sum h2 x]
      omega

theorem one_match {y : PI} {c : Int} (hc : 0 ≤ c) : ∀ {S : List PI}, RiseZ S → (S.map fun s => if cmpZ y s = 0 then c else 0).sum ≤ c
  | [], _ => by simpa using hc
  | s :: S, h => by
    obtain ⟨h1, h2⟩ := List.pairwise_cons.1 h
    rw [List.map_cons, List.sum_cons]
    by_cases hs : cmpZ y s = 0
    · rw [if_pos hs]
      have : (S.map fun s => if cmpZ y s = 0 then c else 0).sum = 0 := by
        have hz : ∀ t ∈ S, (if cmpZ y t = 0 then c else 0) = 0 := fun t ht => if_neg (by
          have h3 := h1 t ht
          rw [cmpZ_congr_left hs]
          omega)
        clear h h1 h2
        induction S with
        | nil => rfl
        | cons t S ih =>
          rw [List.map_cons, List.sum_cons, hz t (by simp), ih (fun u hu => hz u (List.mem_cons_of_mem _ hu))]
          rfl
      rw [this]
      omega
    · rw [if_neg hs]
      have := one_match hc h2 (y := y)
      omega

theorem sum_add_le {α : Type} (f g h : α → Int) (hle : ∀ a, f a ≤ g a + h a) : ∀ l : List α, (l.map f).sum ≤ (l.map g).sum + (l.map h).sum
  | [] => by simp
  | a :: l => by
    have := sum_add_le f g h hle l
    have := hle a
    simp only [List.map_cons, List.sum_cons]
    omega

def absI (n : Int) : Int := max n (-n)

theorem abs_add (m n : Int) : absI (m + n) ≤ absI m + absI n := by unfold absI; omega

theorem absI_nn (n : Int) : 0 ≤ absI n := by unfold absI; omega

/-- What the rows of a right set weigh elsewhere is no more than all that is there. -/
theorem sums_le {S : List PI} (hS : RiseZ S) : ∀ A : List PI, (S.map fun s => absI (sumZ A s)).sum ≤ absS A
  | [] => by
    have : ∀ l : List PI, (l.map fun s => absI (sumZ [] s)).sum = 0 := fun l => by
      induction l with
      | nil => rfl
      | cons a l ih => rw [List.map_cons, List.sum_cons, ih]; rfl
    rw [this]
    exact absS_nn _
  | y :: A => by
    have ih := sums_le hS A
    have e : absS (y :: A) = absZ y + absS A := by simp [absS]
    have h1 := sum_add_le (fun s => absI (sumZ (y :: A) s)) (fun s => if cmpZ y s = 0 then absZ y else 0) (fun s => absI (sumZ A s)) (fun s => by
      show absI ((if cmpZ y s = 0 then y.wt else 0) + sumZ A s) ≤ _
      have := abs_add (if cmpZ y s = 0 then y.wt else 0) (sumZ A s)
      have h2 : absI (if cmpZ y s = 0 then y.wt else 0) = if cmpZ y s = 0 then absZ y else 0 := by split <;> rfl
      rw [h2] at this
      exact this) S
    have h2 := one_match (absZ_nn y) hS (y := y)
    rw [e]
    omega

theorem abs_sum {S : List PI} (hS : RiseZ S) : absS S = (S.map fun s => absI (sumZ S s)).sum := by
  have : ∀ (l : List PI), (∀ s ∈ l, s ∈ S) → absS l = (l.map fun s => absI (sumZ S s)).sum := fun l hl => by
    induction l with
    | nil => rfl
    | cons a l ih =>
      have e : absS (a :: l) = absZ a + absS l := by simp [absS]
      rw [e, List.map_cons, List.sum_cons, ih (fun s hs => hl s (List.mem_cons_of_mem _ hs)), sum_there hS (hl a (by simp))]
      rfl
  exact this S (fun s hs => hs)

theorem abs_of_sum {S A C : List PI} (hS : riseZ S = true) (h : ∀ x, sumZ S x = sumZ A x + sumZ C x) : absS S ≤ absS A + absS C := by
  have hr := (riseZ_iff.1 hS).2
  rw [abs_sum hr]
  have h1 := sum_add_le (fun s => absI (sumZ S s)) (fun s => absI (sumZ A s)) (fun s => absI (sumZ C s)) (fun s => by rw [h s]; exact abs_add _ _) S
  have h2 := sums_le hr A
  have h3 := sums_le hr C
  omega

theorem abs_neg (X : List PI) : absS (negZ X) = absS X := by
  unfold absS negZ
  rw [List.map_map]
  congr 1
  refine List.map_congr_left fun x _ => ?_
  show max (-x.wt) (- -x.wt) = max x.wt (-x.wt)
  omega

theorem neg_bnd {B : Int} {X : List PI} (h : BndZ B X) : BndZ B (negZ X) := fun x => by
  rw [negZ_sum]
  have := h x
  omega

theorem add_neg {A : List PI} (h : riseZ A = true) : addZ A (negZ A) = ([], 0) := by
  unfold addZ
  rw [if_pos h, if_pos (negZ_rise h)]
  exact make_is (by rw [List.all_append, rise_all h, rise_all (negZ_rise h)]; rfl) rfl fun x => by
    rw [sumZ_append, negZ_sum]
    have : sumZ [] x = 0 := rfl
    omega

end Go.Proofs.Ytajlkaedkifaoaa

namespace Go.Proofs.Ytajlkaedkifaoaa
open Go.RowKit Go.Lib
set_option linter.unusedVariables false

set_option maxRecDepth 100000 in
set_option maxHeartbeats 4000000 in
theorem zMakeO_any (a : Option Addr) (n cap : Nat) (X : List PI) (w : World) (hn : X.length = n) (h4 : n ≤ 32768) (hr : RdZ w a X) :
    Calls Try.prog 11 #[.slice a n cap] w fun e w' => GivesW w w' e (makeZ X) := by
  have HN : Hid (X.length = n) := hn
  have HR : Hid (RdZ w a X) := hr
  clear hn hr
  go_enter Try.func11, Try.ntmps11
  go_wp2
  go_loopw [8] (fun i wr => ∃ k : Nat, k ≤ n ∧ i = .int .i64 k ∧ Hid ((X.take k).all okI = true) ∧ Hid (Below w.heap.size w wr)) (fun i _ => n - (RowKit.intOf i).toNat)
  case atStart => exact ⟨0, Nat.zero_le _, rfl, rfl, Below.refl _ _⟩
  case round =>
    obtain ⟨k, hk, rfl, hT, hB⟩ := hrel
    by_cases hlt : k < n
    · have hkl : k < X.length := by rw [HN.out]; exact hlt
      obtain ⟨b, off, ra, rc, rfl, x0, x1, hz⟩ := (HR.out.later hB.out).at_ hkl
      have BW : Hid (Below wr.heap.size wr (wr.alloc (.cells #[.slice ra X[k].row.length rc, .int .i64 X[k].wt] 40))) := alloc_below _ _
      have CR : Calls Try.prog 32 #[.agg #[.slice ra X[k].row.length rc, .int .i64 X[k].wt]] (wr.alloc (.cells #[.slice ra X[k].row.length rc, .int .i64 X[k].wt] 40)) fun e w' => e = .returned (.bool (okI X[k])) ∧ Below (wr.alloc (.cells #[.slice ra X[k].row.length rc, .int .i64 X[k].wt] 40)).heap.size (wr.alloc (.cells #[.slice ra X[k].row.length rc, .int .i64 X[k].wt] 40)) w' := zRight_any _ X[k] _ (hz.later BW.out)
      have HNP : Hid (okI X[k] = false → makeZ X = ([], 1)) := fun h => by show _ = _; unfold makeZ; rw [all_ok_no hkl h]; rfl
      have HST : Hid (okI X[k] = true → (X.take (k + 1)).all okI = true) := all_ok_step hkl hT.out
      clear hz hT
      generalize okI X[k] = q at *
      generalize X[k].wt = p at *
      generalize X[k].row.length = rn at *
      cases q with
      | false =>
        have HNO : Hid (makeZ X = ([], 1)) := HNP.out rfl
        clear HNP HST
        go_wp2_with fail
        refine CR.mono ?_
        rintro e w1 ⟨rfl, hb⟩
        have HB1 : Hid (Below w.heap.size w w1) := chain hB.out (chain BW.out hb)
        clear CR hb BW
        go_wp2
        go_ret2
        rw [HNO.out]
        exact GivesW.no rfl HB1.out
      | true =>
        have HT' : Hid ((X.take (k + 1)).all okI = true) := HST.out rfl
        clear HNP HST
        go_wp2_with fail
        refine CR.mono ?_
        rintro e w1 ⟨rfl, hb⟩
        have HB1 : Hid (Below w.heap.size w w1) := chain hB.out (chain BW.out hb)
        clear CR hb BW
        go_wp2
        go_roundw
        case rel => exact ⟨k + 1, by omega, by go_num, HT'.out, HB1.out⟩
        case measure => simp [RowKit.intOf]; omega
    · obtain rfl : k = n := by omega
      have hall := hT.out
      rw [List.take_of_length_le (by rw [HN.out]; exact Nat.le_refl _)] at hall
      have HALL : Hid (X.all okI = true) := hall
      obtain ⟨Z, hZX, hrk, hlz⟩ := HR.out.later hB.out
      have hZn : Z.length = k := by rw [← HN.out, ← hZX, List.length_map]
      have HW1 : Hid (Below wr.heap.size wr (wr.alloc (.cells #[.slice a k cap] 22))) := alloc_below _ _
      have hbs : (wr.alloc (.cells #[.slice a k cap] 22)).cell? ⟨wr.heap.size, 0, none⟩ = some (.slice a k cap) := by
        have hb : (wr.alloc (.cells #[.slice a k cap] 22)).heap[wr.heap.size]? = some (.cells #[.slice a k cap] 22 (0, 0)) := by
          show (wr.heap.push _)[wr.heap.size]? = _
          simp
        unfold World.cell?
        rw [hb]
        rfl
      have CS := zsorted_any wr.heap.size k cap a Z (wr.alloc (.cells #[.slice a k cap] 22)) hZn (by omega) hbs (hrk.later HW1.out) (fun z hz => (hlz z hz).later HW1.out)
      rw [hZX] at CS
      clear hall hT hZX hrk hlz hZn hbs
      go_wp2_with fail
      refine (zvalues_any _ _ _ _).mono ?_
      rintro e w1 ⟨rfl, hw1⟩
      subst hw1
      go_wp2_with fail
      refine CS.mono ?_
      rintro e w2 ⟨a', cap', Y, rfl, hc, hp, hs, hrd, hb2⟩
      have hYn : Y.length = k := by rw [← hp.length_eq]; exact HN.out
      have CG := zgatheredO_any a' k cap' Y w2 hYn h4 hrd
      rw [← makeZ_of HALL.out hs hp] at CG
      have HB2 : Hid (Below w.heap.size w w2) := chain hB.out (chain HW1.out hb2)
      clear CS hc hp hs hrd hb2 hYn
      go_wp2_with fail
      refine CG.mono ?_
      rintro e w3 h3
      have h3' := h3.base HB2.out
      obtain ⟨v, Z3, rfl, h31, h32, h33⟩ := h3'
      obtain ⟨a3, c3, rfl, -⟩ := h32.1.form
      have H3 : Hid (Z3.map (·.2) = (makeZ X).1 ∧ SetO w3 w.heap.size (.slice a3 Z3.length c3) Z3 ∧ Below w.heap.size w w3) := ⟨h31, h32, h33⟩
      clear CG h3 h31 h32 h33
      obtain ⟨er, her⟩ : ∃ er, (makeZ X).2 = er := ⟨_, rfl⟩
      have HER : Hid ((makeZ X).2 = er) := her
      rw [her]
      clear her
      go_wp2
      go_ret2
      exact ⟨_, Z3, by rw [HER.out]; rfl, H3.out.1, H3.out.2.1, H3.out.2.2⟩

set_option maxRecDepth 100000 in
set_option maxHeartbeats 4000000 in
theorem zAddO_any (a c : Option Addr) (n m cap dap : Nat) (X Y : List PI) (w : World) (hn : X.length = n) (hm : Y.length = m) (h4 : n ≤ 16384) (h5 : m ≤ 16384) (hc : n ≤ cap) (hd : m ≤ dap) (hnil : a = none → X = [] ∧ cap = 0) (hnil2 : c = none → Y = [] ∧ dap = 0) (hX : RdZ w a X) (hY : RdZ w c Y) :
    Calls Try.prog 20 #[.slice a n cap, .slice c m dap] w fun e w' => GivesW w w' e (addZ X Y) := by
  have C1 := zCheck_any a n cap X w hn (by omega) hX
  rcases chkZ_cases X with ⟨hx, ex⟩ | ⟨hx, ex⟩
  rotate_left
  · have HNO : Hid (addZ X Y = ([], 1)) := by show _ = _; unfold addZ; rw [hx]; rfl
    rw [ex] at C1
    clear hX hY hnil hnil2 hn hm hx ex
    go_enter Try.func20, Try.ntmps20
    go_wp2_with fail
    refine C1.mono ?_
    rintro e w1 ⟨rfl, hb⟩
    clear C1
    go_wp2
    go_ret2
    rw [HNO.out]
    exact GivesW.no rfl hb
  rcases chkZ_cases Y with ⟨hy, ey⟩ | ⟨hy, ey⟩
  rotate_left
  · have HNO : Hid (addZ X Y = ([], 1)) := by show _ = _; unfold addZ; rw [hx, hy]; rfl
    have C2 := fun V (hb : Below w.heap.size w V) => zCheck_any c m dap Y V hm (by omega) (hY.later hb)
    rw [ex] at C1
    rw [ey] at C2
    clear hX hY hnil hnil2 hn hm hx ex hy ey
    go_enter Try.func20, Try.ntmps20
    go_wp2_with fail
    refine C1.mono ?_
    rintro e w1 ⟨rfl, hb⟩
    have HB1 : Hid (Below w.heap.size w w1) := hb
    clear C1 hb
    go_wp2_with fail
    refine (C2 _ HB1.out).mono ?_
    rintro e w2 ⟨rfl, hb⟩
    have HB2 : Hid (Below w.heap.size w w2) := chain HB1.out hb
    clear C2 hb HB1
    go_wp2
    go_ret2
    rw [HNO.out]
    exact GivesW.no rfl HB2.out
  have C2 := fun V (hb : Below w.heap.size w V) => zCheck_any c m dap Y V hm (by omega) (hY.later hb)
  have C3 := fun V (hb : Below w.heap.size w V) => (fun (hl : ∃ Z, Z.map (·.2) = X ∧ LeftZ V.heap.size V a n cap Z) (hl2 : ∃ Z, Z.map (·.2) = Y ∧ LeftZ V.heap.size V c m dap Z) => (show Calls Try.prog 44 #[.slice a n cap, .slice c m dap] V fun e w' => ∃ v Z, e = .returned v ∧ Z.map (·.2) = mergeZ X Y ∧ Z.length = n + m ∧ SharedZ w' V.heap.size v Z ∧ Below V.heap.size V w' from by
    obtain ⟨ZX, rfl, l1⟩ := hl
    obtain ⟨ZY, rfl, l2⟩ := hl2
    exact zmerged_any a c n m cap dap ZX ZY V h4 h5 l1 l2)) (left_of hn hc hnil (hX.later hb)) (left_of hm hd hnil2 (hY.later hb))
  have HA : Hid (addZ X Y = ansZ (gatherZ (mergeZ X Y))) := addZ_merge hx hy
  rw [ex] at C1
  rw [ey] at C2
  clear hX hY hnil hnil2 hn hm hx ex hy ey
  go_enter Try.func20, Try.ntmps20
  go_wp2_with fail
  refine C1.mono ?_
  rintro e w1 ⟨rfl, hb⟩
  have HB1 : Hid (Below w.heap.size w w1) := hb
  clear C1 hb
  go_wp2_with fail
  refine (C2 _ HB1.out).mono ?_
  rintro e w2 ⟨rfl, hb⟩
  have HB2 : Hid (Below w.heap.size w w2) := chain HB1.out hb
  clear C2 hb HB1
  go_wp2_with fail
  refine (C3 _ HB2.out).mono ?_
  rintro e w3 ⟨v, Z, rfl, hZ, hZn, hS, hb3⟩
  obtain ⟨a3, c3, e3, hc3, r3, -⟩ := hS.form
  rw [hZn] at e3
  subst e3
  have CG := zgatheredO_any a3 (n + m) c3 (Z.map (·.2)) w3 (by rw [List.length_map]; exact hZn) (by omega) r3
  rw [hZ, ← HA.out] at CG
  have HB3 : Hid (Below w.heap.size w w3) := chain HB2.out hb3
  clear C3 hZ hZn hS hb3 hc3 r3
  go_wp2_with fail
  refine CG.mono ?_
  rintro e w4 h4'
  have h5' := h4'.base HB3.out
  obtain ⟨v, Z4, rfl, h41, h42, h43⟩ := h5'
  obtain ⟨a4, c4, rfl, -⟩ := h42.1.form
  have H4 : Hid (Z4.map (·.2) = (addZ X Y).1 ∧ SetO w4 w.heap.size (.slice a4 Z4.length c4) Z4 ∧ Below w.heap.size w w4) := ⟨h41, h42, h43⟩
  clear CG h4' h41 h42 h43
  obtain ⟨er, her⟩ : ∃ er, (addZ X Y).2 = er := ⟨_, rfl⟩
  have HER : Hid ((addZ X Y).2 = er) := her
  rw [her]
  clear her
  go_wp2
  go_ret2
  exact ⟨_, Z4, by rw [HER.out]; rfl, H4.out.1, H4.out.2.1, H4.out.2.2⟩

end Go.Proofs.Ytajlkaedkifaoaa

namespace Go.Proofs.Ytajlkaedkifaoaa
open Go.RowKit Go.Lib
set_option linter.unusedVariables false

theorem SetO.put2 {w : World} {B g n cap i : Nat} {Z : List (List Value × PI)} {x y : Value} {u : PI} (h : SetO w B (.slice (some ⟨g, 0, none⟩) n cap) Z) (hi : i < Z.length) (hz : LiesZ (fun b => b < B ∨ b = g) w [x, y] u) (hown : OwnedRow w B ([x, y], u)) :
    SetO ((w.setCell ⟨g, i * 2, none⟩ x).setCell ⟨g, i * 2 + 1, none⟩ y) B (.slice (some ⟨g, 0, none⟩) n cap) (Z.set i ([x, y], u)) := by
  have hk := h.1.put2 hi hz
  have keep : ∀ {z : List Value × PI}, OwnedRow w B z → OwnedRow ((w.setCell ⟨g, i * 2, none⟩ x).setCell ⟨g, i * 2 + 1, none⟩ y) B z := fun {z} hz => by
    obtain ⟨ra, rc, e, ho⟩ := hz
    have ho1 : OwnV (w.setCell ⟨g, i * 2, none⟩ x) B (.slice ra z.2.row.length rc) z.2.row := own_setZ ho h.1.1.2 rfl value_item
    have hi1 : ∃ cs : Array Value, (w.setCell ⟨g, i * 2, none⟩ x).heap[g]? = some (.cells cs 40 (0, 0)) := by
      obtain ⟨_, ⟨e0, -⟩ | ⟨g2, cap2, cur2, e0, -, hh2, -⟩⟩ := h.1.1.2
      · cases e0
      · cases e0
        exact ⟨_, Go.heap_setCell_same _ _ _ _ _ _ hh2⟩
    obtain ⟨cs, hcs⟩ := hi1
    refine ⟨ra, rc, e, ?_⟩
    obtain ⟨k, h1 | ⟨g3, cap3, cur3, hv, hg3, hh, hx⟩⟩ := ho1
    · exact ⟨k, .inl h1⟩
    · refine ⟨k, .inr ⟨g3, cap3, cur3, hv, hg3, (Below.heap_setCell _ ⟨g, i * 2 + 1, none⟩ y g3 fun e => ?_).trans hh, hx⟩⟩
      subst e
      rw [hh] at hcs
      simp only [Option.some.injEq, Obj.cells.injEq] at hcs
      exact value_item hcs.2.1
  refine ⟨hk, fun z hz' => ?_⟩
  rcases List.mem_or_eq_of_mem_set hz' with hz' | rfl
  · exact keep (h.2 z hz')
  · exact keep hown

theorem made_itemsO {w : World} {B g n : Nat} (h : OwnK 2 40 w B (.slice (some ⟨g, 0, none⟩) n n) (List.replicate n [.slice none 0 0, .int .i64 0])) : SetO w B (.slice (some ⟨g, 0, none⟩) n n) (List.replicate n noItem) :=
  ⟨made_items h, fun z hz => by
    rw [List.eq_of_mem_replicate hz]
    exact ⟨none, 0, rfl, OwnV.nought _ _⟩⟩

set_option maxRecDepth 100000 in
set_option maxHeartbeats 8000000 in
theorem zNegO_good (a : Option Addr) (n cap : Nat) (X : List PI) (w : World) (hn : X.length = n) (h4 : n ≤ 65536) (hr : RdZ w a X) (hri : riseZ X = true) :
    Calls Try.prog 21 #[.slice a n cap] w fun e w' => GivesW w w' e (negZ X, 0) := by
  have HN : Hid (X.length = n) := hn
  have HR : Hid (RdZ w a X) := hr
  have C1 := zCheck_any a n cap X w hn h4 hr
  rw [chkZ_yes hri] at C1
  have HW : Hid (∀ x ∈ X, -72057594037927936 ≤ x.wt ∧ x.wt ≤ 72057594037927936) := fun x hx => isW_iff.1 (okI_parts.1 ((riseZ_iff.1 hri).1 x hx).1).2
  clear hn hr hri
  go_enter Try.func21, Try.ntmps21
  go_wp2_with fail
  refine C1.mono ?_
  rintro e w1 ⟨rfl, hb1⟩
  have HB1 : Hid (Below w.heap.size w w1) := hb1
  clear C1 hb1
  obtain ⟨w2, hmake, hO2, hB2⟩ := run_make_k ktItem w1 n (by omega)
  have HZ2 : Hid (SetO w2 w1.heap.size (.slice (some ⟨w1.heap.size, 0, none⟩) n n) (List.replicate n noItem)) := made_itemsO hO2
  have HB2 : Hid (Below w1.heap.size w1 w2) := hB2
  clear hO2 hB2
  go_wp2
  go_loopw [18] (fun i wr => ∃ (k : Nat) (Z : List (List Value × PI)), k ≤ n ∧ i = .int .i64 k ∧ Hid (Z.length = k) ∧ Hid (Z.map (·.2) = negZ (X.take k)) ∧ Hid (SetO wr w1.heap.size (.slice (some ⟨w1.heap.size, 0, none⟩) n n) (Z ++ List.replicate (n - k) noItem)) ∧ Hid (Below w1.heap.size w1 wr)) (fun i _ => n - (RowKit.intOf i).toNat)
  case atStart => exact ⟨0, [], Nat.zero_le _, rfl, rfl, rfl, HZ2, HB2⟩
  case round =>
    clear hmake HZ2 HB2
    obtain ⟨k, Z, hk, rfl, hZl, hZm, hO, hB⟩ := hrel
    by_cases hlt : k < n
    · have hkl : k < X.length := by rw [HN.out]; exact hlt
      obtain ⟨b, off, ra, rc, rfl, x0, x1, hz⟩ := (HR.out.later (chain HB1.out hB.out)).at_ hkl
      have HZ : Hid (LiesZ (fun _ => False) wr [.slice ra X[k].row.length rc, .int .i64 X[k].wt] X[k]) := hz
      have hlen : (Z ++ List.replicate (n - k) noItem).length = n := by rw [List.length_append, hZl.out, List.length_replicate]; omega
      obtain ⟨⟨d0, hd0⟩, f0⟩ := OwnK.slots hO.out.1.1 (m := k) (by rw [List.length_map, hlen]; exact hlt) 0 (by omega)
      obtain ⟨⟨d1, hd1⟩, f1⟩ := OwnK.slots hO.out.1.1 (m := k) (by rw [List.length_map, hlen]; exact hlt) 1 (by omega)
      rw [Nat.add_zero] at hd0 f0
      have hwk := HW.out _ (List.getElem_mem hkl)
      have nw : wrap64 (-X[k].wt) = -X[k].wt := wrap_in (by omega)
      have nw2 : IntKind.i64.wrap (-X[k].wt) = -X[k].wt := by rw [IntKind.wrap_i64]; omega
      have CV : ∀ V, Below wr.heap.size wr V → Calls Try.prog 45 #[.slice ra X[k].row.length rc] V fun e w' => ∃ a' cap', e = .returned (.slice a' X[k].row.length cap') ∧ X[k].row.length ≤ cap' ∧ OwnV w' V.heap.size (.slice a' X[k].row.length cap') X[k].row ∧ (a' = none → X[k].row = [] ∧ cap' = 0) ∧ Below V.heap.size V w' := fun V hb => by
        obtain ⟨a1, c1, e1, r1, l1, m1, q1, -⟩ := HZ.out.later hb
        cases e1
        exact vclone_any ra X[k].row.length rc X[k].row V rfl l1 q1 r1
      have HX65 : Hid (X[k].row.length ≤ 65536) := by
        obtain ⟨a1, c1, e1, r1, l1, -⟩ := HZ.out
        exact l1
      have HST : Hid (negZ (X.take (k + 1)) = negZ (X.take k) ++ [⟨X[k].row, -X[k].wt⟩]) := by
        show _ = _
        rw [List.take_succ_eq_append_getElem hkl]
        unfold negZ
        rw [List.map_append]
        rfl
      have HNW : Hid (In64 (-X[k].wt)) := by
        show In64 _
        constructor <;> omega
      generalize hxk : X[k] = xk at *
      obtain ⟨r, p⟩ := xk
      simp only at x0 x1 nw nw2 CV HX65 HST HNW hwk
      have BX : Hid (Below wr.heap.size wr (wr.alloc (.cells #[.slice ra r.length rc, .int .i64 p] 40))) := alloc_below _ _
      obtain ⟨B2a, B2b⟩ := two_cells_new wr (.slice ra r.length rc) (.int .i64 p) 40
      obtain ⟨rn, hrn⟩ : ∃ rn, r.length = rn := ⟨_, rfl⟩
      rw [hrn] at x0 CV BX B2a B2b
      have HRN : Hid (r.length = rn) := hrn
      have HSZ : Hid (w1.heap.size < wr.heap.size) := cellZ_lt hd0
      have HDK : Hid (wr.cell? ⟨w1.heap.size, k * 2, none⟩ = some d0 ∧ wr.cell? ⟨w1.heap.size, k * 2 + 1, none⟩ = some d1 ∧ wr.frozen? ⟨w1.heap.size, k * 2, none⟩ = false ∧ wr.frozen? ⟨w1.heap.size, k * 2 + 1, none⟩ = false) := ⟨hd0, hd1, f0, f1⟩
      clear hz HZ hlen hxk hkl hrn hd0 hd1 f0 f1
      have k0 : (0 : Int) ≤ (k : Int) := by omega
      have k1 : (k : Int) < (n : Int) := by omega
      go_upto_region 8 with fail
      have HS : (wr.alloc (.cells #[.slice ra rn rc, .int .i64 p] 40)).drew.cell? ⟨wr.heap.size, 0, none⟩ = some (.slice ra rn rc) ∧ (wr.alloc (.cells #[.slice ra rn rc, .int .i64 p] 40)).drew.cell? ⟨wr.heap.size, 1, none⟩ = some (.int .i64 p) ∧ Hid (Below wr.heap.size wr (wr.alloc (.cells #[.slice ra rn rc, .int .i64 p] 40)).drew) := ⟨cell_later (Below.refl _ _).drew B2a, cell_later (Below.refl _ _).drew B2b, BX.out.drew⟩
      clear B2a B2b BX
      refine region_S (S := (fun w' => w'.cell? ⟨wr.heap.size, 0, none⟩ = some (.slice ra rn rc) ∧ w'.cell? ⟨wr.heap.size, 1, none⟩ = some (.int .i64 p) ∧ Hid (Below wr.heap.size wr w'))) 10 (by kernel_rfl) HS (fun hHeld => ?_)
      refine sPure (v := ?_) 0 23 rfl rfl (by kernel_rfl) (by kernel_rfl) (by kernel_rfl) (by decide) (fun _ _ _ h => h) (by rfl) (fun w => ?_) (.inr (by assumption)) ?_
      rotate_left
      · first | (go_simp; done) | (go_simp; with_reducible rfl)
      simp only [List.setIfInBounds_toArray, List.set_cons_zero, List.set_cons_succ]
      refine sPure (v := ?_) 1 24 rfl rfl (by kernel_rfl) (by kernel_rfl) (by kernel_rfl) (by decide) (fun _ _ _ h => h) (by rfl) (fun w => ?_) (.inr (by assumption)) ?_
      rotate_left
      · first | (go_simp; done) | (go_simp; with_reducible rfl)
      simp only [List.setIfInBounds_toArray, List.set_cons_zero, List.set_cons_succ]
      refine sPure (v := ?_) 2 25 rfl rfl (by kernel_rfl) (by kernel_rfl) (by kernel_rfl) (by decide) (fun _ _ _ h => h) (by rfl) (fun w => ?_) (.inr (by assumption)) ?_
      rotate_left
      · first | (go_simp; done) | (go_simp; with_reducible rfl)
      simp only [List.setIfInBounds_toArray, List.set_cons_zero, List.set_cons_succ]
      refine sTake (v := ?_) 3 26 rfl rfl (by kernel_rfl) (by kernel_rfl) (by kernel_rfl) (by kernel_rfl) (by kernel_rfl) (fun _ _ _ h => h) (by rfl) (fun w hSw => ?_) (by assumption) ?_
      rotate_left
      · (try dsimp only at hSw); first | (go_simp; done) | (go_simp; with_reducible rfl)
      simp only [List.setIfInBounds_toArray, List.set_cons_zero, List.set_cons_succ]
      refine sPure (v := ?_) 5 28 rfl rfl (by kernel_rfl) (by kernel_rfl) (by kernel_rfl) (by decide) (fun _ _ _ h => h) (by rfl) (fun w => ?_) (.inr (by assumption)) ?_
      rotate_left
      · first | (go_simp; done) | (go_simp; with_reducible rfl)
      simp only [List.setIfInBounds_toArray, List.set_cons_zero, List.set_cons_succ]
      refine sTake (v := ?_) 6 29 rfl rfl (by kernel_rfl) (by kernel_rfl) (by kernel_rfl) (by kernel_rfl) (by kernel_rfl) (fun _ _ _ h => h) (by rfl) (fun w hSw => ?_) (by assumption) ?_
      rotate_left
      · (try dsimp only at hSw); first | (go_simp; done) | (go_simp; with_reducible rfl)
      simp only [List.setIfInBounds_toArray, List.set_cons_zero, List.set_cons_succ]
      refine sPure (v := ?_) 7 30 rfl rfl (by kernel_rfl) (by kernel_rfl) (by kernel_rfl) (by decide) (fun _ _ _ h => h) (by rfl) (fun w => ?_) (.inr (by assumption)) ?_
      rotate_left
      · first | (go_simp; done) | (go_simp; with_reducible rfl)
      simp only [List.setIfInBounds_toArray, List.set_cons_zero, List.set_cons_succ]
      refine sOne 4 rfl (by kernel_rfl) (by rfl) (fun K2 hK => ?_)
      go_simp
      refine (CV _ hHeld.2.2.out).mono ?_
      rintro e wz ⟨a', cap', rfl, hc', ho', hn', hb⟩
      simp only []
      obtain ⟨g0, g1, g2, g3⟩ := HDK.out
      have HBZ : Hid (Below wr.heap.size wr wz) := chain hHeld.2.2.out hb
      have d0' := cell_later HBZ.out g0
      have d1' := cell_later HBZ.out g1
      have f0' : wz.frozen? ⟨w1.heap.size, k * 2, none⟩ = false := frozen_later HBZ.out g0 g2
      have f1' : wz.frozen? ⟨w1.heap.size, k * 2 + 1, none⟩ = false := frozen_later HBZ.out g1 g3
      clear g0 g1 g2 g3
      have HC : Hid (OwnV wz _ (.slice a' rn cap') r ∧ rn ≤ cap' ∧ (a' = none → r = [] ∧ cap' = 0)) := ⟨ho', hc', hn'⟩
      clear ho' hc' hn'
      refine hK.out _ _ ?_ (fun hHeld => ?_)
      · exact .inr (by exact ⟨cell_later hb hHeld.1, cell_later hb hHeld.2.1, chain hHeld.2.2.out hb⟩)
      clear hK K2
      replace hHeld := hHeld.resolve_left (by decide)
      try simp only [List.setIfInBounds_toArray, List.set_cons_zero, List.set_cons_succ]
      refine sPure (v := ?_) 8 31 rfl rfl (by kernel_rfl) (by kernel_rfl) (by kernel_rfl) (by decide) (fun _ _ _ h => h) (by rfl) (fun w => ?_) (.inr (by assumption)) ?_
      rotate_left
      · first | (go_simp; done) | (go_simp; with_reducible rfl)
      simp only [List.setIfInBounds_toArray, List.set_cons_zero, List.set_cons_succ]
      refine sPure (v := ?_) 9 32 rfl rfl (by kernel_rfl) (by kernel_rfl) (by kernel_rfl) (by decide) (fun _ _ _ h => h) (by rfl) (fun w => ?_) (.inr (by assumption)) ?_
      rotate_left
      · first | (go_simp; done) | (go_simp; with_reducible rfl)
      simp only [List.setIfInBounds_toArray, List.set_cons_zero, List.set_cons_succ]
      refine sOne 10 rfl (by kernel_rfl) (by rfl) (fun K2 hK => ?_)
      go_simp
      refine hK.out _ _ ?_ (fun hHeld => ?_)
      · exact .inl (by rfl)
      clear hK K2 hHeld
      try simp only [List.setIfInBounds_toArray, List.set_cons_zero, List.set_cons_succ]
      refine sDone (by kernel_rfl) ?_ _
      have HLZ : LiesZ (fun b => b < w1.heap.size ∨ b = w1.heap.size) wz [.slice a' rn cap', .int .i64 (-p)] ⟨r, -p⟩ := by
        obtain ⟨ho', hc', hn'⟩ := HC.out
        obtain ⟨a5, c5, e5, -, r5, -⟩ := ho'.form
        have e6 := e5
        simp only [Value.slice.injEq] at e6
        obtain ⟨rfl, -, rfl⟩ := e6
        have hrn := HRN.out
        subst hrn
        refine ⟨a', cap', rfl, r5, HX65.out, hc', hn', HNW.out, fun h0 b o s e => ?_⟩
        have hge := ho'.block b (by rw [e]; rfl)
        have hsz := HSZ.out
        simp at hge
        omega
      have hlen : (Z ++ List.replicate (n - k) noItem).length = n := by rw [List.length_append, hZl.out, List.length_replicate]; omega
      have HP := (hO.out.later HBZ.out).put2 (i := k) (by rw [hlen]; exact hlt) HLZ (by
            have hrn := HRN.out
            subst hrn
            refine ⟨a', cap', rfl, own_baseZ HC.out.1 ?_⟩
            have hsz := HSZ.out
            simp
            omega)
      rw [set_noItem hZl.out hlt] at HP
      have HP' : Hid _ := HP
      have HL' : Hid ((Z ++ [(([.slice a' rn cap', .int .i64 (-p)] : List Value), (⟨r, -p⟩ : PI))]).length = k + 1) := by show _ = _; rw [List.length_append, hZl.out]; rfl
      have HM' : Hid ((Z ++ [(([.slice a' rn cap', .int .i64 (-p)] : List Value), (⟨r, -p⟩ : PI))]).map (·.2) = negZ (X.take (k + 1))) := by show _ = _; rw [List.map_append, hZm.out, HST.out]; rfl
      have HBF : Hid (Below w1.heap.size w1 _) := ((chain hB.out HBZ.out).setCell (p := ⟨w1.heap.size, k * 2, none⟩) (Nat.le_refl _) (.slice a' rn cap')).setCell (p := ⟨w1.heap.size, k * 2 + 1, none⟩) (Nat.le_refl _) (.int .i64 (-p))
      clear HLZ hlen HP d0' d1' f0' f1' HS CV
      go_wp2
      go_roundw
      case rel => exact ⟨k + 1, _, by omega, by go_num, HL', HM', HP', HBF⟩
      case measure => simp [RowKit.intOf]; omega
    · obtain rfl : k = n := by omega
      have HF := hO.out
      rw [Nat.sub_self, List.replicate_zero, List.append_nil] at HF
      have hm := hZm.out
      rw [List.take_of_length_le (by rw [HN.out]; omega)] at hm
      have HFF : Hid (SetO wr w1.heap.size (.slice (some ⟨w1.heap.size, 0, none⟩) k k) Z) := HF
      have HM : Hid (Z.map (·.2) = negZ X) := hm
      clear HF hm hO hZm
      go_wp2
      refine bodyPost_ret (by simp [results, Try.results21, go_sem]; rfl) rfl ?_
      exact ⟨_, Z, rfl, HM.out, HFF.out.base HB1.out.size, chain HB1.out hB.out⟩

end Go.Proofs.Ytajlkaedkifaoaa
