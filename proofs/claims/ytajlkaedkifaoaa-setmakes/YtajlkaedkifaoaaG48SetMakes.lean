/-
  Texts of the proof of SetMakes, one behind the other.
-/
import Derived.Test.YtajlkaedkifaoaaRows
import Derived.Test.YtajlkaedkifaoaaG44SetMakes
import Derived.Test.YtajlkaedkifaoaaG46SetMakes
import Derived.Test.YtajlkaedkifaoaaG47SetMakes
import Derived.Test.YtajlkaedkifaoaaG38SetMakes
import Derived.Test.YtajlkaedkifaoaaG24SetMakes
import Derived.Test.YtajlkaedkifaoaaG18SetMakes
import Derived.Deep.CutRange
import Derived.Test.YtajlkaedkifaoaaG45SetMakes
import Derived.Test.YtajlkaedkifaoaaG33SetMakes
import Derived.Lib.SmallJoins
namespace Go.Proofs.Ytajlkaedkifaoaa
open Go.RowKit Go.Lib
set_option linter.unusedVariables false

/-- A set turned about. -/
def negZ (X : List PI) : List PI := X.map fun x => ⟨x.row, -x.wt⟩

theorem negZ_sum : ∀ (X : List PI) (x : PI), sumZ (negZ X) x = -sumZ X x
  | [], x => by simp [negZ, sumZ]
  | y :: X, x => by
    have ih := negZ_sum X x
    show (if cmpZ ⟨y.row, -y.wt⟩ x = 0 then -y.wt else 0) + sumZ (negZ X) x = -((if cmpZ y x = 0 then y.wt else 0) + sumZ X x)
    rw [ih]
    have e : cmpZ ⟨y.row, -y.wt⟩ x = cmpZ y x := rfl
    rw [e]
    split <;> omega

theorem negZ_len (X : List PI) : (negZ X).length = X.length := by simp [negZ]

theorem negZ_rise {X : List PI} (h : riseZ X = true) : riseZ (negZ X) = true := by
  obtain ⟨h1, h2⟩ := riseZ_iff.1 h
  refine riseZ_iff.2 ⟨fun x hx => ?_, List.pairwise_map.2 (h2.imp fun {a b} hab => hab)⟩
  obtain ⟨y, hy, rfl⟩ := List.mem_map.1 hx
  obtain ⟨o1, o2⟩ := h1 y hy
  obtain ⟨p1, p2⟩ := okI_parts.1 o1
  have hw := isW_iff.1 p2
  exact ⟨okI_parts.2 ⟨p1, isW_iff.2 ⟨by simp only; omega, by simp only; omega⟩⟩, by simp only; omega⟩

theorem negZ_neg (X : List PI) : negZ (negZ X) = X := by
  unfold negZ
  rw [List.map_map]
  conv => rhs; rw [← List.map_id X]
  refine List.map_congr_left fun x _ => ?_
  cases x
  simp

theorem RowZ.put2 {w : World} {B g n cap i : Nat} {Z : List (List Value × PI)} {x y : Value} {u : PI} (h : RowZ w B (.slice (some ⟨g, 0, none⟩) n cap) Z) (hi : i < Z.length) (hz : LiesZ (fun b => b < B ∨ b = g) w [x, y] u) :
    RowZ ((w.setCell ⟨g, i * 2, none⟩ x).setCell ⟨g, i * 2 + 1, none⟩ y) B (.slice (some ⟨g, 0, none⟩) n cap) (Z.set i ([x, y], u)) := by
  have hE : ∀ b, (b < B ∨ (Value.slice (some ⟨g, 0, none⟩) n cap).ownBlock = some b) → (b < B ∨ b = g) := fun b hb => hb.imp id fun h => by cases h; rfl
  have hE' : ∀ b, (b < B ∨ b = g) → (b < B ∨ (Value.slice (some ⟨g, 0, none⟩) n cap).ownBlock = some b) := fun b hb => hb.imp id fun h => by subst h; rfl
  have hs : Sz (fun b => b < B ∨ b = g) w ((w.setCell ⟨g, i * 2, none⟩ x).setCell ⟨g, i * 2 + 1, none⟩ y) :=
    Stay.setCell (Stay.setCell (Stay.refl _ _) (p := ⟨g, i * 2, none⟩) (fun h => h.2 (.inr rfl)) x) (p := ⟨g, i * 2 + 1, none⟩) (fun h => h.2 (.inr rfl)) y
  refine ⟨?_, fun z hz' => ?_⟩
  · have := OwnK.put (k := 2) (by omega) h.1 (LiesZ.wide hz) i (by rw [List.length_map]; exact hi)
    rw [List.map_set]
    exact this
  · rcases List.mem_or_eq_of_mem_set hz' with hz' | rfl
    · exact (((h.2 z hz').less fun b hb => hE' b hb).sz hs).less fun b hb => hE b hb
    · exact (hz.sz hs).less fun b hb => hE b hb

/-- What lies in a new slot. -/
def noItem : List Value × PI := ([.slice none 0 0, .int .i64 0], ⟨[], 0⟩)

theorem noItem_lies (E : Nat → Prop) (w : World) : LiesZ E w noItem.1 noItem.2 :=
  ⟨none, 0, rfl, RdV.nil _ _, by simp [noItem], by simp [noItem], fun _ => ⟨rfl, rfl⟩, by constructor <;> simp [noItem], fun h => by simp [noItem] at h⟩

theorem made_items {w : World} {B g n : Nat} (h : OwnK 2 40 w B (.slice (some ⟨g, 0, none⟩) n n) (List.replicate n [.slice none 0 0, .int .i64 0])) : RowZ w B (.slice (some ⟨g, 0, none⟩) n n) (List.replicate n noItem) := by
  refine ⟨by rw [List.map_replicate]; exact h, fun z hz => ?_⟩
  rw [List.eq_of_mem_replicate hz]
  exact noItem_lies _ _

theorem frozen_later {w w' : World} {b o : Nat} {v : Value} (h : Below w.heap.size w w') (hc : w.cell? ⟨b, o, none⟩ = some v) (hf : w.frozen? ⟨b, o, none⟩ = false) : w'.frozen? ⟨b, o, none⟩ = false := by
  have e := h.block b (cellZ_lt hc)
  unfold World.frozen? at hf ⊢
  rw [e]
  exact hf

theorem set_noItem {Z : List (List Value × PI)} {n k : Nat} {z : List Value × PI} (hl : Z.length = k) (hk : k < n) : (Z ++ List.replicate (n - k) noItem).set k z = (Z ++ [z]) ++ List.replicate (n - (k + 1)) noItem := by
  subst hl
  rw [List.set_append_right _ _ (Nat.le_refl _), Nat.sub_self, show n - Z.length = (n - (Z.length + 1)) + 1 from by omega, List.replicate_succ, List.set_cons_zero]
  simp

set_option maxRecDepth 100000 in
set_option maxHeartbeats 8000000 in
theorem zNeg_good (a : Option Addr) (n cap : Nat) (X : List PI) (w : World) (hn : X.length = n) (h4 : n ≤ 65536) (hr : RdZ w a X) (hri : riseZ X = true) :
    Calls Try.prog 21 #[.slice a n cap] w fun e w' => GivesZ w w' e (negZ X, 0) := by
  have HN : Hid (X.length = n) := hn
  have HR : Hid (RdZ w a X) := hr
  have C1 := zCheck_any a n cap X w hn h4 hr
  rw [chkZ_yes hri] at C1
  have HW : Hid (∀ x ∈ X, -72057594037927936 ≤ x.wt ∧ x.wt ≤ 72057594037927936) := fun x hx => isW_iff.1 (okI_parts.1 ((riseZ_iff.1 hri).1 x hx).1).2
  clear hn hr hri
  go_enter Try.func21, Try.ntmps21
  go_wp2_with fail
  refine C1.mono ?_
  rintro e w1 ⟨rfl, hb1⟩
  have HB1 : Hid (Below w.heap.size w w1) := hb1
  clear C1 hb1
  obtain ⟨w2, hmake, hO2, hB2⟩ := run_make_k ktItem w1 n (by omega)
  have HZ2 : Hid (RowZ w2 w1.heap.size (.slice (some ⟨w1.heap.size, 0, none⟩) n n) (List.replicate n noItem)) := made_items hO2
  have HB2 : Hid (Below w1.heap.size w1 w2) := hB2
  clear hO2 hB2
  go_wp2
  go_loopw [18] (fun i wr => ∃ (k : Nat) (Z : List (List Value × PI)), k ≤ n ∧ i = .int .i64 k ∧ Hid (Z.length = k) ∧ Hid (Z.map (·.2) = negZ (X.take k)) ∧ Hid (RowZ wr w1.heap.size (.slice (some ⟨w1.heap.size, 0, none⟩) n n) (Z ++ List.replicate (n - k) noItem)) ∧ Hid (Below w1.heap.size w1 wr)) (fun i _ => n - (RowKit.intOf i).toNat)
  case atStart => exact ⟨0, [], Nat.zero_le _, rfl, rfl, rfl, HZ2, HB2⟩
  case round =>
    clear hmake HZ2 HB2
    obtain ⟨k, Z, hk, rfl, hZl, hZm, hO, hB⟩ := hrel
    by_cases hlt : k < n
    · have hkl : k < X.length := by rw [HN.out]; exact hlt
      obtain ⟨b, off, ra, rc, rfl, x0, x1, hz⟩ := (HR.out.later (chain HB1.out hB.out)).at_ hkl
      have HZ : Hid (LiesZ (fun _ => False) wr [.slice ra X[k].row.length rc, .int .i64 X[k].wt] X[k]) := hz
      have hlen : (Z ++ List.replicate (n - k) noItem).length = n := by rw [List.length_append, hZl.out, List.length_replicate]; omega
      obtain ⟨⟨d0, hd0⟩, f0⟩ := OwnK.slots hO.out.1 (m := k) (by rw [List.length_map, hlen]; exact hlt) 0 (by omega)
      obtain ⟨⟨d1, hd1⟩, f1⟩ := OwnK.slots hO.out.1 (m := k) (by rw [List.length_map, hlen]; exact hlt) 1 (by omega)
      rw [Nat.add_zero] at hd0 f0
      have hwk := HW.out _ (List.getElem_mem hkl)
      have nw : wrap64 (-X[k].wt) = -X[k].wt := wrap_in (by omega)
      have nw2 : IntKind.i64.wrap (-X[k].wt) = -X[k].wt := by rw [IntKind.wrap_i64]; omega
      have CV : ∀ V, Below wr.heap.size wr V → Calls Try.prog 45 #[.slice ra X[k].row.length rc] V fun e w' => ∃ a' cap', e = .returned (.slice a' X[k].row.length cap') ∧ X[k].row.length ≤ cap' ∧ OwnV w' V.heap.size (.slice a' X[k].row.length cap') X[k].row ∧ (a' = none → X[k].row = [] ∧ cap' = 0) ∧ Below V.heap.size V w' := fun V hb => by
        obtain ⟨a1, c1, e1, r1, l1, m1, q1, -⟩ := HZ.out.later hb
        cases e1
        exact vclone_any ra X[k].row.length rc X[k].row V rfl l1 q1 r1
      have HX65 : Hid (X[k].row.length ≤ 65536) := by
        obtain ⟨a1, c1, e1, r1, l1, -⟩ := HZ.out
        exact l1
      have HST : Hid (negZ (X.take (k + 1)) = negZ (X.take k) ++ [⟨X[k].row, -X[k].wt⟩]) := by
        show _ = _
        rw [List.take_succ_eq_append_getElem hkl]
        unfold negZ
        rw [List.map_append]
        rfl
      have HNW : Hid (In64 (-X[k].wt)) := by
        show In64 _
        constructor <;> omega
      generalize hxk : X[k] = xk at *
      obtain ⟨r, p⟩ := xk
      simp only at x0 x1 nw nw2 CV HX65 HST HNW hwk
      have BX : Hid (Below wr.heap.size wr (wr.alloc (.cells #[.slice ra r.length rc, .int .i64 p] 40))) := alloc_below _ _
      obtain ⟨B2a, B2b⟩ := two_cells_new wr (.slice ra r.length rc) (.int .i64 p) 40
      obtain ⟨rn, hrn⟩ : ∃ rn, r.length = rn := ⟨_, rfl⟩
      rw [hrn] at x0 CV BX B2a B2b
      have HRN : Hid (r.length = rn) := hrn
      have HSZ : Hid (w1.heap.size < wr.heap.size) := cellZ_lt hd0
      have HDK : Hid (wr.cell? ⟨w1.heap.size, k * 2, none⟩ = some d0 ∧ wr.cell? ⟨w1.heap.size, k * 2 + 1, none⟩ = some d1 ∧ wr.frozen? ⟨w1.heap.size, k * 2, none⟩ = false ∧ wr.frozen? ⟨w1.heap.size, k * 2 + 1, none⟩ = false) := ⟨hd0, hd1, f0, f1⟩
      clear hz HZ hlen hxk hkl hrn hd0 hd1 f0 f1
      have k0 : (0 : Int) ≤ (k : Int) := by omega
      have k1 : (k : Int) < (n : Int) := by omega
      go_upto_region 8 with fail
      have HS : (wr.alloc (.cells #[.slice ra rn rc, .int .i64 p] 40)).drew.cell? ⟨wr.heap.size, 0, none⟩ = some (.slice ra rn rc) ∧ (wr.alloc (.cells #[.slice ra rn rc, .int .i64 p] 40)).drew.cell? ⟨wr.heap.size, 1, none⟩ = some (.int .i64 p) ∧ Hid (Below wr.heap.size wr (wr.alloc (.cells #[.slice ra rn rc, .int .i64 p] 40)).drew) := ⟨cell_later (Below.refl _ _).drew B2a, cell_later (Below.refl _ _).drew B2b, BX.out.drew⟩
      clear B2a B2b BX
      refine region_S (S := (fun w' => w'.cell? ⟨wr.heap.size, 0, none⟩ = some (.slice ra rn rc) ∧ w'.cell? ⟨wr.heap.size, 1, none⟩ = some (.int .i64 p) ∧ Hid (Below wr.heap.size wr w'))) 10 (by kernel_rfl) HS (fun hHeld => ?_)
      refine sPure (v := ?_) 0 23 rfl rfl (by kernel_rfl) (by kernel_rfl) (by kernel_rfl) (by decide) (fun _ _ _ h => h) (by rfl) (fun w => ?_) (.inr (by assumption)) ?_
      rotate_left
      · first | (go_simp; done) | (go_simp; with_reducible rfl)
      simp only [List.setIfInBounds_toArray, List.set_cons_zero, List.set_cons_succ]
      refine sPure (v := ?_) 1 24 rfl rfl (by kernel_rfl) (by kernel_rfl) (by kernel_rfl) (by decide) (fun _ _ _ h => h) (by rfl) (fun w => ?_) (.inr (by assumption)) ?_
      rotate_left
      · first | (go_simp; done) | (go_simp; with_reducible rfl)
      simp only [List.setIfInBounds_toArray, List.set_cons_zero, List.set_cons_succ]
      refine sPure (v := ?_) 2 25 rfl rfl (by kernel_rfl) (by kernel_rfl) (by kernel_rfl) (by decide) (fun _ _ _ h => h) (by rfl) (fun w => ?_) (.inr (by assumption)) ?_
      rotate_left
      · first | (go_simp; done) | (go_simp; with_reducible rfl)
      simp only [List.setIfInBounds_toArray, List.set_cons_zero, List.set_cons_succ]
      refine sTake (v := ?_) 3 26 rfl rfl (by kernel_rfl) (by kernel_rfl) (by kernel_rfl) (by kernel_rfl) (by kernel_rfl) (fun _ _ _ h => h) (by rfl) (fun w hSw => ?_) (by assumption) ?_
      rotate_left
      · (try dsimp only at hSw); first | (go_simp; done) | (go_simp; with_reducible rfl)
      simp only [List.setIfInBounds_toArray, List.set_cons_zero, List.set_cons_succ]
      refine sPure (v := ?_) 5 28 rfl rfl (by kernel_rfl) (by kernel_rfl) (by kernel_rfl) (by decide) (fun _ _ _ h => h) (by rfl) (fun w => ?_) (.inr (by assumption)) ?_
      rotate_left
      · first | (go_simp; done) | (go_simp; with_reducible rfl)
      simp only [List.setIfInBounds_toArray, List.set_cons_zero, List.set_cons_succ]
      refine sTake (v := ?_) 6 29 rfl rfl (by kernel_rfl) (by kernel_rfl) (by kernel_rfl) (by kernel_rfl) (by kernel_rfl) (fun _ _ _ h => h) (by rfl) (fun w hSw => ?_) (by assumption) ?_
      rotate_left
      · (try dsimp only at hSw); first | (go_simp; done) | (go_simp; with_reducible rfl)
      simp only [List.setIfInBounds_toArray, List.set_cons_zero, List.set_cons_succ]
      refine sPure (v := ?_) 7 30 rfl rfl (by kernel_rfl) (by kernel_rfl) (by kernel_rfl) (by decide) (fun _ _ _ h => h) (by rfl) (fun w => ?_) (.inr (by assumption)) ?_
      rotate_left
      · first | (go_simp; done) | (go_simp; with_reducible rfl)
      simp only [List.setIfInBounds_toArray, List.set_cons_zero, List.set_cons_succ]
      refine sOne 4 rfl (by kernel_rfl) (by rfl) (fun K2 hK => ?_)
      go_simp
      refine (CV _ hHeld.2.2.out).mono ?_
      rintro e wz ⟨a', cap', rfl, hc', ho', hn', hb⟩
      simp only []
      obtain ⟨g0, g1, g2, g3⟩ := HDK.out
      have HBZ : Hid (Below wr.heap.size wr wz) := chain hHeld.2.2.out hb
      have d0' := cell_later HBZ.out g0
      have d1' := cell_later HBZ.out g1
      have f0' : wz.frozen? ⟨w1.heap.size, k * 2, none⟩ = false := frozen_later HBZ.out g0 g2
      have f1' : wz.frozen? ⟨w1.heap.size, k * 2 + 1, none⟩ = false := frozen_later HBZ.out g1 g3
      clear g0 g1 g2 g3
      have HC : Hid (OwnV wz _ (.slice a' rn cap') r ∧ rn ≤ cap' ∧ (a' = none → r = [] ∧ cap' = 0)) := ⟨ho', hc', hn'⟩
      clear ho' hc' hn'
      refine hK.out _ _ ?_ (fun hHeld => ?_)
      · exact .inr (by exact ⟨cell_later hb hHeld.1, cell_later hb hHeld.2.1, chain hHeld.2.2.out hb⟩)
      clear hK K2
      replace hHeld := hHeld.resolve_left (by decide)
      try simp only [List.setIfInBounds_toArray, List.set_cons_zero, List.set_cons_succ]
      refine sPure (v := ?_) 8 31 rfl rfl (by kernel_rfl) (by kernel_rfl) (by kernel_rfl) (by decide) (fun _ _ _ h => h) (by rfl) (fun w => ?_) (.inr (by assumption)) ?_
      rotate_left
      · first | (go_simp; done) | (go_simp; with_reducible rfl)
      simp only [List.setIfInBounds_toArray, List.set_cons_zero, List.set_cons_succ]
      refine sPure (v := ?_) 9 32 rfl rfl (by kernel_rfl) (by kernel_rfl) (by kernel_rfl) (by decide) (fun _ _ _ h => h) (by rfl) (fun w => ?_) (.inr (by assumption)) ?_
      rotate_left
      · first | (go_simp; done) | (go_simp; with_reducible rfl)
      simp only [List.setIfInBounds_toArray, List.set_cons_zero, List.set_cons_succ]
      refine sOne 10 rfl (by kernel_rfl) (by rfl) (fun K2 hK => ?_)
      go_simp
      refine hK.out _ _ ?_ (fun hHeld => ?_)
      · exact .inl (by rfl)
      clear hK K2 hHeld
      try simp only [List.setIfInBounds_toArray, List.set_cons_zero, List.set_cons_succ]
      refine sDone (by kernel_rfl) ?_ _
      have HLZ : LiesZ (fun b => b < w1.heap.size ∨ b = w1.heap.size) wz [.slice a' rn cap', .int .i64 (-p)] ⟨r, -p⟩ := by
        obtain ⟨ho', hc', hn'⟩ := HC.out
        obtain ⟨a5, c5, e5, -, r5, -⟩ := ho'.form
        have e6 := e5
        simp only [Value.slice.injEq] at e6
        obtain ⟨rfl, -, rfl⟩ := e6
        have hrn := HRN.out
        subst hrn
        refine ⟨a', cap', rfl, r5, HX65.out, hc', hn', HNW.out, fun h0 b o s e => ?_⟩
        have hge := ho'.block b (by rw [e]; rfl)
        have hsz := HSZ.out
        simp at hge
        omega
      have hlen : (Z ++ List.replicate (n - k) noItem).length = n := by rw [List.length_append, hZl.out, List.length_replicate]; omega
      have HP := (hO.out.later HBZ.out).put2 (i := k) (by rw [hlen]; exact hlt) HLZ
      rw [set_noItem hZl.out hlt] at HP
      have HP' : Hid _ := HP
      have HL' : Hid ((Z ++ [(([.slice a' rn cap', .int .i64 (-p)] : List Value), (⟨r, -p⟩ : PI))]).length = k + 1) := by show _ = _; rw [List.length_append, hZl.out]; rfl
      have HM' : Hid ((Z ++ [(([.slice a' rn cap', .int .i64 (-p)] : List Value), (⟨r, -p⟩ : PI))]).map (·.2) = negZ (X.take (k + 1))) := by show _ = _; rw [List.map_append, hZm.out, HST.out]; rfl
      have HBF : Hid (Below w1.heap.size w1 _) := ((chain hB.out HBZ.out).setCell (p := ⟨w1.heap.size, k * 2, none⟩) (Nat.le_refl _) (.slice a' rn cap')).setCell (p := ⟨w1.heap.size, k * 2 + 1, none⟩) (Nat.le_refl _) (.int .i64 (-p))
      clear HLZ hlen HP d0' d1' f0' f1' HS CV
      go_wp2
      go_roundw
      case rel => exact ⟨k + 1, _, by omega, by go_num, HL', HM', HP', HBF⟩
      case measure => simp [RowKit.intOf]; omega
    · obtain rfl : k = n := by omega
      have HF := hO.out
      rw [Nat.sub_self, List.replicate_zero, List.append_nil] at HF
      have hm := hZm.out
      rw [List.take_of_length_le (by rw [HN.out]; omega)] at hm
      have HFF : Hid (RowZ wr w1.heap.size (.slice (some ⟨w1.heap.size, 0, none⟩) k k) Z) := HF
      have HM : Hid (Z.map (·.2) = negZ X) := hm
      clear HF hm hO hZm
      go_wp2
      refine bodyPost_ret (by simp [results, Try.results21, go_sem]; rfl) rfl ?_
      exact ⟨_, Z, rfl, HM.out, HFF.out.base HB1.out.size, chain HB1.out hB.out⟩

end Go.Proofs.Ytajlkaedkifaoaa

namespace Go.Proofs.Ytajlkaedkifaoaa
open Go.RowKit Go.Lib
set_option linter.unusedVariables false

structure SetAt (w : World) (a : Option Addr) (n cap : Nat) (R : List PI) : Prop where
  len : R.length = n
  le : n ≤ cap
  rd : RdZ w a R
  nil : a = none → R = [] ∧ cap = 0

theorem SetAt.later {w w' : World} {a : Option Addr} {n cap : Nat} {R : List PI} (h : SetAt w a n cap R) (hb : Below w.heap.size w w') : SetAt w' a n cap R := ⟨h.len, h.le, h.rd.later hb, h.nil⟩

theorem SetAt.of_row {w : World} {B : Nat} {v : Value} {Z : List (List Value × PI)} {R : List PI} (h : RowZ w B v Z) (hZ : Z.map (·.2) = R) : ∃ a n cap, v = .slice a n cap ∧ SetAt w a n cap R := by
  obtain ⟨a, cap, e, hc, -, hr, hn, -⟩ := h.form
  rw [hZ] at hr hn
  have hl : R.length = Z.length := by rw [← hZ, List.length_map]
  exact ⟨a, _, cap, e, hl, hc, hr, hn⟩

/-- What a call hands back that tells a set. -/
def TellsZ (w w' : World) (e : Ending) (R : List PI) : Prop := ∃ a n cap, e = .returned (.tuple #[.slice a n cap, .int .i64 0]) ∧ SetAt w' a n cap R ∧ Below w.heap.size w w'

theorem TellsZ.of {w w' : World} {e : Ending} {R : List PI} (h : GivesZ w w' e (R, 0)) : TellsZ w w' e R := by
  obtain ⟨v, Z, rfl, hZ, hr, hb⟩ := h
  obtain ⟨a, n, cap, rfl, hs⟩ := SetAt.of_row hr hZ
  exact ⟨a, n, cap, rfl, hs, hb⟩

theorem add_c {a c : Option Addr} {n m cap dap : Nat} {A C S : List PI} {w : World} (hA : SetAt w a n cap A) (hC : SetAt w c m dap C) (hn : n ≤ 16384) (hm : m ≤ 16384) (h : addZ A C = (S, 0)) :
    Calls Try.prog 20 #[.slice a n cap, .slice c m dap] w fun e w' => TellsZ w w' e S := by
  have := zAdd_any a c n m cap dap A C w hA.len hC.len hn hm hA.le hC.le hA.nil hC.nil hA.rd hC.rd
  rw [h] at this
  exact this.mono fun e w' k => TellsZ.of k

theorem neg_c {a : Option Addr} {n cap : Nat} {A : List PI} {w : World} (hA : SetAt w a n cap A) (hn : n ≤ 65536) (h : riseZ A = true) :
    Calls Try.prog 21 #[.slice a n cap] w fun e w' => TellsZ w w' e (negZ A) :=
  (zNeg_good a n cap A w hA.len hn hA.rd h).mono fun e w' k => TellsZ.of k

theorem make_c {a : Option Addr} {n cap : Nat} {A S : List PI} {w : World} (hA : SetAt w a n cap A) (hn : n ≤ 32768) (h : makeZ A = (S, 0)) :
    Calls Try.prog 11 #[.slice a n cap] w fun e w' => TellsZ w w' e S := by
  have := zMake_any a n cap A w hA.len hn hA.rd
  rw [h] at this
  exact this.mono fun e w' k => TellsZ.of k

theorem check_c {a : Option Addr} {n cap : Nat} {A : List PI} {w : World} (hA : SetAt w a n cap A) (hn : n ≤ 65536) (h : riseZ A = true) :
    Calls Try.prog 22 #[.slice a n cap] w fun e w' => e = .returned (.int .i64 0) ∧ Below w.heap.size w w' := by
  have := zCheck_any a n cap A w hA.len hn hA.rd
  rw [chkZ_yes h] at this
  exact this

theorem size_c {a : Option Addr} {n cap : Nat} {A : List PI} {w : World} (hA : SetAt w a n cap A) (hn : n ≤ 32768) :
    Calls Try.prog 16 #[.slice a n cap] w fun e w' => e = .returned (.int .i64 (sizeZ A)) ∧ Below w.heap.size w w' := zSize_any a n cap A w hA.len hn hA.rd

theorem same_c {a c : Option Addr} {n m cap dap : Nat} {A C : List PI} {w : World} (hA : SetAt w a n cap A) (hC : SetAt w c m dap C) (hn : n ≤ 65536) (h : A = C) :
    Calls Try.prog 13 #[.slice a n cap, .slice c m dap] w fun e w' => e = .returned (.bool true) ∧ Below w.heap.size w w' := by
  subst h
  have hm : m ≤ 65536 := by have := hA.len; have := hC.len; omega
  have := keepSet_any a c n m cap dap A A w hA.len hC.len hn hm hA.rd hC.rd
  rw [sameIs_yes rfl] at this
  exact this

/-- Of a right set a row's weight is the sum of what weighs so. -/
theorem weight_sum : ∀ {X : List PI}, RiseZ X → ∀ (x : PI), weightZ X x.row = sumZ X x
  | [], _, x => rfl
  | y :: X, h, x => by
    obtain ⟨h1, h2⟩ := List.pairwise_cons.1 h
    show (if cmpR y.row x.row = 0 then y.wt else weightZ X x.row) = (if cmpZ y x = 0 then y.wt else 0) + sumZ X x
    have e : cmpR y.row x.row = cmpZ y x := rfl
    rw [e]
    by_cases hc : cmpZ y x = 0
    · rw [if_pos hc, if_pos hc, sumZ_none (fun z hz hz0 => by
        have h3 := h1 z hz
        have h4 : cmpZ y z = cmpZ x z := cmpZ_congr_left hc
        have h5 := cmpZ_flip z x
        omega)]
      omega
    · rw [if_neg hc, if_neg hc, weight_sum h2 x]
      omega

theorem one_match {y : PI} {c : Int} (hc : 0 ≤ c) : ∀ {S : List PI}, RiseZ S → (S.map fun s => if cmpZ y s = 0 then c else 0).sum ≤ c
  | [], _ => by simpa using hc
  | s :: S, h => by
    obtain ⟨h1, h2⟩ := List.pairwise_cons.1 h
    rw [List.map_cons, List.sum_cons]
    by_cases hs : cmpZ y s = 0
    · rw [if_pos hs]
      have : (S.map fun s => if cmpZ y s = 0 then c else 0).sum = 0 := by
        have hz : ∀ t ∈ S, (if cmpZ y t = 0 then c else 0) = 0 := fun t ht => if_neg (by
          have h3 := h1 t ht
          rw [cmpZ_congr_left hs]
          omega)
        clear h h1 h2
        induction S with
        | nil => rfl
        | cons t S ih =>
          rw [List.map_cons, List.sum_cons, hz t (by simp), ih (fun u hu => hz u (List.mem_cons_of_mem _ hu))]
          rfl
      rw [this]
      omega
    · rw [if_neg hs]
      have := one_match hc h2 (y := y)
      omega

theorem sum_add_le {α : Type} (f g h : α → Int) (hle : ∀ a, f a ≤ g a + h a) : ∀ l : List α, (l.map f).sum ≤ (l.map g).sum + (l.map h).sum
  | [] => by simp
  | a :: l => by
    have := sum_add_le f g h hle l
    have := hle a
    simp only [List.map_cons, List.sum_cons]
    omega

def absI (n : Int) : Int := max n (-n)

theorem abs_add (m n : Int) : absI (m + n) ≤ absI m + absI n := by unfold absI; omega

theorem absI_nn (n : Int) : 0 ≤ absI n := by unfold absI; omega

/-- What the rows of a right set weigh elsewhere is no more than all that is there. -/
theorem sums_le {S : List PI} (hS : RiseZ S) : ∀ A : List PI, (S.map fun s => absI (sumZ A s)).sum ≤ absS A
  | [] => by
    have : ∀ l : List PI, (l.map fun s => absI (sumZ [] s)).sum = 0 := fun l => by
      induction l with
      | nil => rfl
      | cons a l ih => rw [List.map_cons, List.sum_cons, ih]; rfl
    rw [this]
    exact absS_nn _
  | y :: A => by
    have ih := sums_le hS A
    have e : absS (y :: A) = absZ y + absS A := by simp [absS]
    have h1 := sum_add_le (fun s => absI (sumZ (y :: A) s)) (fun s => if cmpZ y s = 0 then absZ y else 0) (fun s => absI (sumZ A s)) (fun s => by
      show absI ((if cmpZ y s = 0 then y.wt else 0) + sumZ A s) ≤ _
      have := abs_add (if cmpZ y s = 0 then y.wt else 0) (sumZ A s)
      have h2 : absI (if cmpZ y s = 0 then y.wt else 0) = if cmpZ y s = 0 then absZ y else 0 := by split <;> rfl
      rw [h2] at this
      exact this) S
    have h2 := one_match (absZ_nn y) hS (y := y)
    rw [e]
    omega

theorem abs_sum {S : List PI} (hS : RiseZ S) : absS S = (S.map fun s => absI (sumZ S s)).sum := by
  have : ∀ (l : List PI), (∀ s ∈ l, s ∈ S) → absS l = (l.map fun s => absI (sumZ S s)).sum := fun l hl => by
    induction l with
    | nil => rfl
    | cons a l ih =>
      have e : absS (a :: l) = absZ a + absS l := by simp [absS]
      rw [e, List.map_cons, List.sum_cons, ih (fun s hs => hl s (List.mem_cons_of_mem _ hs)), sum_there hS (hl a (by simp))]
      rfl
  exact this S (fun s hs => hs)

theorem abs_of_sum {S A C : List PI} (hS : riseZ S = true) (h : ∀ x, sumZ S x = sumZ A x + sumZ C x) : absS S ≤ absS A + absS C := by
  have hr := (riseZ_iff.1 hS).2
  rw [abs_sum hr]
  have h1 := sum_add_le (fun s => absI (sumZ S s)) (fun s => absI (sumZ A s)) (fun s => absI (sumZ C s)) (fun s => by rw [h s]; exact abs_add _ _) S
  have h2 := sums_le hr A
  have h3 := sums_le hr C
  omega

theorem abs_neg (X : List PI) : absS (negZ X) = absS X := by
  unfold absS negZ
  rw [List.map_map]
  congr 1
  refine List.map_congr_left fun x _ => ?_
  show max (-x.wt) (- -x.wt) = max x.wt (-x.wt)
  omega

theorem neg_bnd {B : Int} {X : List PI} (h : BndZ B X) : BndZ B (negZ X) := fun x => by
  rw [negZ_sum]
  have := h x
  omega

theorem add_neg {A : List PI} (h : riseZ A = true) : addZ A (negZ A) = ([], 0) := by
  unfold addZ
  rw [if_pos h, if_pos (negZ_rise h)]
  exact make_is (by rw [List.all_append, rise_all h, rise_all (negZ_rise h)]; rfl) rfl fun x => by
    rw [sumZ_append, negZ_sum]
    have : sumZ [] x = 0 := rfl
    omega

end Go.Proofs.Ytajlkaedkifaoaa

namespace Go.Proofs.Ytajlkaedkifaoaa
open Go.ChangeShapes Go.WideShapes Go.ChangeAt Go.RowKit Go.Lib
set_option linter.unusedVariables false

/-- A slice's beginning, and the rows that lie there. -/
def RdW (w : World) (a : Option Addr) (L : List (List PV)) : Prop := 0 < L.length → ∃ b off, a = some ⟨b, off, none⟩ ∧ ∀ i (hi : i < L.length), ∃ ra rc, w.cell? ⟨b, off + i, none⟩ = some (.slice ra L[i].length rc) ∧ InI w ⟨L[i], 1⟩ ra rc

theorem RdW.later {w w' : World} {a : Option Addr} {L : List (List PV)} (h : RdW w a L) (hb : Below w.heap.size w w') : RdW w' a L := fun h0 => by
  obtain ⟨b, off, e, hk⟩ := h h0
  refine ⟨b, off, e, fun i hi => ?_⟩
  obtain ⟨ra, rc, x0, hin⟩ := hk i hi
  exact ⟨ra, rc, cell_later hb x0, hin.later hb⟩

set_option maxRecDepth 100000 in
/-- A slice of rows that came in. -/
theorem vrows_of {H : Type} {enc : TypeId × Value → H} {w : World} {a : Option Addr} {len cap : Nat} {d : DataW H} {p : List MemPlace}
    (h : DataW.Trod enc Try.prog w 0 (fun _ => true) true 42 (Value.slice a len cap) d p) : ∃ L : List (List PV), L.length = len ∧ len ≤ 9223372036854775807 ∧ RdW w a L := by
  obtain ⟨fuel, hf⟩ := h
  have hc : Try.prog.cellsOf 23 = 1 := by kernel_rfl
  rcases DataW.trod_slice Try.underlying42 hf with ⟨hcs, _⟩ | ⟨x, l, c, elems, rest, n, _, hcs, _, _, hl, hm, hlen, hel, _, _⟩
  · simp [Value.cells] at hcs
    obtain ⟨rfl, rfl, rfl⟩ := hcs
    exact ⟨[], rfl, by omega, (fun h => absurd h (by simp))⟩
  · simp [Value.cells] at hcs
    obtain ⟨rfl, rfl, rfl⟩ := hcs
    have each : ∀ i, i < len → ∃ (r : List PV) (ra : Option Addr) (rc : Nat), w.cell? ((x.add i).add 0) = some (.slice ra r.length rc) ∧ InI w ⟨r, 1⟩ ra rc := by
      intro i hi
      have h1 := hel i hi
      rw [hc, List.getElem?_eq_getElem (by omega), Option.bind_eq_some_iff, Nat.mul_one] at h1
      obtain ⟨cs, hcs, hy⟩ := h1
      obtain ⟨_, hl12, hcell⟩ := World.cells?_some hcs
      match cs, hl12 with
      | [d0], _ =>
        obtain ⟨ra, rn, rc, e0⟩ := Joins.slice_form Try.underlying23 hy
        simp at e0
        subst e0
        obtain ⟨vs, hv⟩ := vals_of (show DataW.Trod enc Try.prog w 0 (fun _ => true) true 23 (Value.slice ra rn rc) _ _ from ⟨n, hy⟩)
        obtain ⟨hv1, hv2, hv3, hv4⟩ := hv.vals
        have hs := hv.small
        subst hv1
        exact ⟨vs, ra, rc, hcell 0 (by simp), hv3, hs, hv2, hv4, by show In64 1; constructor <;> omega⟩
    have hch : ∃ f : Nat → List PV, ∀ i, i < len → ∃ (ra : Option Addr) (rc : Nat), w.cell? ((x.add i).add 0) = some (.slice ra (f i).length rc) ∧ InI w ⟨f i, 1⟩ ra rc :=
      ⟨fun i => if h : i < len then (each i h).choose else [], fun i hi => by simp only [dif_pos hi]; exact (each i hi).choose_spec⟩
    obtain ⟨f, hf2⟩ := hch
    clear each hel
    refine ⟨(List.range len).map f, by simp, by unfold maxLen at hm; omega, fun h0 => ?_⟩
    have h00 : 0 < len := by simpa using h0
    have hx : x.spot = none := by
      obtain ⟨ra, rc, x0, _⟩ := hf2 0 h00
      have := World.cell?_spot x0
      simpa [Addr.add] using this
    obtain ⟨b, off, sp⟩ := x
    simp only at hx
    subst hx
    refine ⟨b, off, rfl, fun i hi => ?_⟩
    have hi' : i < len := by simpa using hi
    obtain ⟨ra, rc, x0, hin⟩ := hf2 i hi'
    simp only [List.getElem_map, List.getElem_range]
    rw [add_plain3, add_plain3] at x0
    exact ⟨ra, rc, by simpa using x0, hin⟩

theorem SharedZ.put2 {w : World} {B g n cap i : Nat} {Z : List (List Value × PI)} {x y : Value} {u : PI} (h : SharedZ w B (.slice (some ⟨g, 0, none⟩) n cap) Z) (hg : B ≤ g) (hi : i < Z.length) (hz : LiesZ (fun b => B ≤ b) w [x, y] u) :
    SharedZ ((w.setCell ⟨g, i * 2, none⟩ x).setCell ⟨g, i * 2 + 1, none⟩ y) B (.slice (some ⟨g, 0, none⟩) n cap) (Z.set i ([x, y], u)) := by
  have hs : Sz (fun b => B ≤ b) w ((w.setCell ⟨g, i * 2, none⟩ x).setCell ⟨g, i * 2 + 1, none⟩ y) :=
    Stay.setCell (Stay.setCell (Stay.refl _ _) (p := ⟨g, i * 2, none⟩) (fun h => h.2 hg) x) (p := ⟨g, i * 2 + 1, none⟩) (fun h => h.2 hg) y
  refine ⟨?_, fun z hz' => ?_⟩
  · have := OwnK.put (k := 2) (by omega) h.1 (LiesZ.wide hz) i (by rw [List.length_map]; exact hi)
    rw [List.map_set]
    exact this
  · rcases List.mem_or_eq_of_mem_set hz' with hz' | rfl
    · exact (h.2 z hz').sz hs
    · exact hz.sz hs

theorem made_shared {w : World} {B g n : Nat} (h : OwnK 2 40 w B (.slice (some ⟨g, 0, none⟩) n n) (List.replicate n [.slice none 0 0, .int .i64 0])) : SharedZ w B (.slice (some ⟨g, 0, none⟩) n n) (List.replicate n noItem) := by
  refine ⟨by rw [List.map_replicate]; exact h, fun z hz => ?_⟩
  rw [List.eq_of_mem_replicate hz]
  exact noItem_lies _ _

/-- Each row once. -/
def onceZ (L : List (List PV)) : List PI := L.map fun r => ⟨r, 1⟩

set_option maxRecDepth 100000 in
set_option maxHeartbeats 4000000 in
theorem zRows_any (a : Option Addr) (n cap : Nat) (L : List (List PV)) (w : World) (hn : L.length = n) (h4 : n ≤ 32768) (hr : RdW w a L) (hl : ∀ r ∈ L, r.length ≤ 65536) :
    Calls Try.prog 29 #[.slice a n cap] w fun e w' => GivesZ w w' e (makeZ (onceZ L)) := by
  have HN : Hid (L.length = n) := hn
  have HR : Hid (RdW w a L) := hr
  have HL : Hid (∀ r ∈ L, r.length ≤ 65536) := hl
  clear hn hr hl
  obtain ⟨w2, hmake, hO2, hB2⟩ := run_make_k ktItem w n (by omega)
  have HZ2 : Hid (SharedZ w2 w.heap.size (.slice (some ⟨w.heap.size, 0, none⟩) n n) (List.replicate n noItem)) := made_shared hO2
  have HB2 : Hid (Below w.heap.size w w2) := hB2
  clear hO2 hB2
  go_enter Try.func29, Try.ntmps29
  go_wp2
  go_loopw [12] (fun i wr => ∃ (k : Nat) (Z : List (List Value × PI)), k ≤ n ∧ i = .int .i64 k ∧ Hid (Z.length = k) ∧ Hid (Z.map (·.2) = onceZ (L.take k)) ∧ Hid (SharedZ wr w.heap.size (.slice (some ⟨w.heap.size, 0, none⟩) n n) (Z ++ List.replicate (n - k) noItem)) ∧ Hid (Below w.heap.size w wr)) (fun i _ => n - (RowKit.intOf i).toNat)
  case atStart => exact ⟨0, [], Nat.zero_le _, rfl, rfl, rfl, HZ2, HB2⟩
  case round =>
    clear hmake HZ2 HB2
    obtain ⟨k, Z, hk, rfl, hZl, hZm, hO, hB⟩ := hrel
    by_cases hlt : k < n
    · have hkl : k < L.length := by rw [HN.out]; exact hlt
      obtain ⟨b, off, rfl, hc⟩ := HR.out (by omega)
      obtain ⟨ra, rc, x0, hin⟩ := hc k hkl
      have y0 := cell_later hB.out x0
      have hlen : (Z ++ List.replicate (n - k) noItem).length = n := by rw [List.length_append, hZl.out, List.length_replicate]; omega
      obtain ⟨⟨d0, hd0⟩, f0⟩ := OwnK.slots hO.out.1 (m := k) (by rw [List.length_map, hlen]; exact hlt) 0 (by omega)
      obtain ⟨⟨d1, hd1⟩, f1⟩ := OwnK.slots hO.out.1 (m := k) (by rw [List.length_map, hlen]; exact hlt) 1 (by omega)
      rw [Nat.add_zero] at hd0 f0
      have hzl : LiesZ (fun _ => False) w [.slice ra L[k].length rc, .int .i64 1] ⟨L[k], 1⟩ := ⟨ra, rc, rfl, hin.vals, HL.out _ (List.getElem_mem hkl), hin.cap, hin.nil, hin.wt, fun _ b o s _ => id⟩
      have hzs : LiesZ (fun b => w.heap.size ≤ b) wr [.slice ra L[k].length rc, .int .i64 1] ⟨L[k], 1⟩ := ((hzl.now).less fun b hb => .inr hb).later hB.out
      have HP := hO.out.put2 (i := k) (Nat.le_refl _) (by rw [hlen]; exact hlt) hzs
      rw [set_noItem hZl.out hlt] at HP
      have HP' : Hid _ := HP
      have HL' : Hid ((Z ++ [(([.slice ra L[k].length rc, .int .i64 1] : List Value), (⟨L[k], 1⟩ : PI))]).length = k + 1) := by show _ = _; rw [List.length_append, hZl.out]; rfl
      have HM' : Hid ((Z ++ [(([.slice ra L[k].length rc, .int .i64 1] : List Value), (⟨L[k], 1⟩ : PI))]).map (·.2) = onceZ (L.take (k + 1))) := by
        show _ = _
        rw [List.map_append, hZm.out, List.take_succ_eq_append_getElem hkl]
        unfold onceZ
        rw [List.map_append]
        rfl
      have HBF : Hid (Below w.heap.size w _) := (hB.out.setCell (p := ⟨w.heap.size, k * 2, none⟩) (Nat.le_refl _) (.slice ra L[k].length rc)).setCell (p := ⟨w.heap.size, k * 2 + 1, none⟩) (Nat.le_refl _) (.int .i64 1)
      clear hzl hzs hin hc hlen HP x0 hO hZl hZm hB
      generalize L[k].length = rn at *
      have k0 : (0 : Int) ≤ (k : Int) := by omega
      have k1 : (k : Int) < (n : Int) := by omega
      go_wp2
      go_roundw
      case rel => exact ⟨k + 1, _, by omega, by go_num, HL', HM', HP', HBF⟩
      case measure => simp [RowKit.intOf]; omega
    · obtain rfl : k = n := by omega
      have HF := hO.out
      rw [Nat.sub_self, List.replicate_zero, List.append_nil] at HF
      have hm := hZm.out
      rw [List.take_of_length_le (by rw [HN.out]; omega)] at hm
      obtain ⟨a5, c5, e5, hc5, hr5, hn5⟩ := HF.form
      simp only [Value.slice.injEq] at e5
      obtain ⟨rfl, e6, rfl⟩ := e5
      rw [hm] at hr5
      have CM := zMake_any (some ⟨w.heap.size, 0, none⟩) k k (onceZ L) wr (by simp [onceZ, HN.out]) h4 hr5
      have HB5 : Hid (Below w.heap.size w wr) := hB.out
      clear HF hm hr5 hn5 hc5 e6 hO hZm hZl hB hlt
      go_wp2_with fail
      refine CM.mono ?_
      rintro e w6 ⟨v, Z6, rfl, hZ6, hRz6, hb6⟩
      have HF : Hid (GivesZ w w6 (.returned (.tuple #[v, .int .i64 (makeZ (onceZ L)).2])) (makeZ (onceZ L))) := ⟨v, Z6, rfl, hZ6, hRz6.base HB5.out.size, chain HB5.out hb6⟩
      clear CM hZ6 hRz6 hb6
      go_wp2
      go_ret2
      exact HF.out

end Go.Proofs.Ytajlkaedkifaoaa

namespace Go.Proofs.Ytajlkaedkifaoaa
open Go.RowKit Go.Lib
set_option linter.unusedVariables false

/-- What SetMakes makes its sets of. -/
def fiveL (X : List PI) (k : Nat) : List PI := ((X.take k).filter fun x => decide (chkR x.row = 0)).map fun x => ⟨x.row, x.wt.tmod 5⟩

theorem five_yes {X : List PI} {k : Nat} (hk : k < X.length) (h : chkR X[k].row = 0) : fiveL X (k + 1) = fiveL X k ++ [⟨X[k].row, X[k].wt.tmod 5⟩] := by
  unfold fiveL
  rw [List.take_succ_eq_append_getElem hk, List.filter_append, List.map_append]
  simp [h]

theorem five_no {X : List PI} {k : Nat} (hk : k < X.length) (h : chkR X[k].row ≠ 0) : fiveL X (k + 1) = fiveL X k := by
  unfold fiveL
  rw [List.take_succ_eq_append_getElem hk, List.filter_append, List.map_append]
  simp [h]

theorem five_end {X : List PI} {k : Nat} (h : X.length ≤ k) (h6 : k ≤ 100) : fiveL X k = fiveL X 100 := by
  unfold fiveL
  rw [List.take_of_length_le h, List.take_of_length_le (by omega)]

theorem mod5_in (p : Int) : -4 ≤ p.tmod 5 ∧ p.tmod 5 ≤ 4 := by
  have h1 := Int.tmod_lt_of_pos p (show (0 : Int) < 5 by omega)
  have h2 := Int.lt_tmod_of_pos p (show (0 : Int) < 5 by omega)
  omega

theorem LiesZ.five {E : Nat → Prop} {w : World} {ra : Option Addr} {rn rc : Nat} {p : Int} {x : PI} (h : LiesZ E w [.slice ra rn rc, .int .i64 p] x) : LiesZ E w [.slice ra rn rc, .int .i64 (p.tmod 5)] ⟨x.row, p.tmod 5⟩ := by
  obtain ⟨a, cap, e, h1, h2, h3, h4, h5, h6⟩ := h
  cases e
  refine ⟨ra, rc, rfl, h1, h2, h3, h4, ?_, h6⟩
  show In64 (x.wt.tmod 5)
  have := mod5_in x.wt
  unfold In64
  omega

theorem five_in {X : List PI} {k : Nat} : ∀ x ∈ fiveL X k, chkR x.row = 0 ∧ -4 ≤ x.wt ∧ x.wt ≤ 4 := by
  unfold fiveL
  intro x hx
  simp only [List.mem_map, List.mem_filter, decide_eq_true_eq] at hx
  obtain ⟨y, ⟨-, h⟩, rfl⟩ := hx
  exact ⟨h, mod5_in _⟩

theorem five_len (X : List PI) : (fiveL X 100).length ≤ 100 := by
  unfold fiveL
  rw [List.length_map]
  exact Nat.le_trans (List.length_filter_le _ _) (by rw [List.length_take]; omega)

/-- What is made of these. -/
theorem five_make (X : List PI) : ∃ R, makeZ (fiveL X 100) = (R, 0) ∧ riseZ R = true ∧ (∀ x, sumZ R x = sumZ (fiveL X 100) x) ∧ R.length ≤ 100 := by
  have hb := bnd_items (B := 4) (by omega) (fun x hx => (five_in (X := X) (k := 100) x hx).2)
  have hl := five_len X
  have hb2 : BndZ 400 (fiveL X 100) := fun x => by have := hb x; omega
  obtain ⟨R, e, h1, h2, -, h4⟩ := make_spec (X := fiveL X 100) (List.all_eq_true.2 fun x hx => by
    obtain ⟨k1, k2, k3⟩ := five_in x hx
    exact okI_parts.2 ⟨k1, isW_iff.2 (by omega)⟩) (fun x _ => hb2.isW (by omega) x)
  exact ⟨R, e, h1, h2, by omega⟩

/-- A list turned. -/
def rotZ {α : Type} (l : List α) (t : Nat) : List α := l.drop t ++ l.take t

theorem rot_perm {α : Type} (l : List α) (t : Nat) : (rotZ l t).Perm l := by
  unfold rotZ
  exact List.perm_append_comm.trans (by rw [List.take_append_drop])

theorem rot_len {α : Type} (l : List α) (t : Nat) : (rotZ l t).length = l.length := (rot_perm l t).length_eq

theorem rot_map {α β : Type} (f : α → β) (l : List α) (t : Nat) : (rotZ l t).map f = rotZ (l.map f) t := by
  unfold rotZ
  rw [List.map_append, List.map_drop, List.map_take]

theorem rot_opt {α : Type} {l : List α} {t i : Nat} (ht : t < l.length) (hl : i < l.length) : (rotZ l t)[i]? = l[(i + t) % l.length]? := by
  unfold rotZ
  by_cases h : i < l.length - t
  · rw [List.getElem?_append_left (by rw [List.length_drop]; exact h), List.getElem?_drop]
    congr 1
    rw [Nat.mod_eq_of_lt (by omega)]
    omega
  · rw [List.getElem?_append_right (by rw [List.length_drop]; omega), List.getElem?_take_of_lt (by rw [List.length_drop]; omega)]
    congr 1
    rw [List.length_drop, Nat.mod_eq_sub_mod (by omega), Nat.mod_eq_of_lt (by omega)]
    omega

theorem rot_at {α : Type} {l : List α} {t i : Nat} (ht : t < l.length) (hi : i < (rotZ l t).length) (hq : (i + t) % l.length < l.length) : (rotZ l t)[i] = l[(i + t) % l.length] := by
  have := rot_opt ht (show i < l.length by rw [rot_len] at hi; exact hi)
  rw [List.getElem?_eq_getElem hi, List.getElem?_eq_getElem hq] at this
  exact Option.some.inj this

theorem rot_take {l : List PI} {t k : Nat} (ht : t < l.length) (hk : k < l.length) (hq : (k + t) % l.length < l.length) : (rotZ l t).take (k + 1) = (rotZ l t).take k ++ [l[(k + t) % l.length]] := by
  have hk2 : k < (rotZ l t).length := by rw [rot_len]; exact hk
  rw [List.take_succ_eq_append_getElem hk2, rot_at ht hk2 hq]

theorem modAtZ (k : Int) (m : Nat) (h1 : 1 ≤ m) (h40 : m ≤ 1000) : ∃ j : Nat, j < m ∧ (IntKind.u64.wrap k).tmod (m : Int) = (j : Int) := by
  have h0 : 0 ≤ IntKind.u64.wrap k := by rw [IntKind.wrap_u64]; omega
  have h2 : (IntKind.u64.wrap k).tmod (m : Int) = IntKind.u64.wrap k % (m : Int) := Int.tmod_eq_emod_of_nonneg h0
  have h3 := Int.emod_nonneg (IntKind.u64.wrap k) (show (m : Int) ≠ 0 by omega)
  have h4 := Int.emod_lt_of_pos (IntKind.u64.wrap k) (show (0 : Int) < (m : Int) by omega)
  exact ⟨(IntKind.u64.wrap k % (m : Int)).toNat, by omega, by rw [h2]; omega⟩

theorem turn_mod {k t m : Nat} (hm : 0 < m) : ((k : Int) + (t : Int)).tmod (m : Int) = (((k + t) % m : Nat) : Int) := by
  rw [Int.tmod_eq_emod_of_nonneg (by omega)]
  push_cast
  rfl

theorem sum_take {l : List PI} {k : Nat} (hk : k < l.length) (x : PI) : sumZ (l.take (k + 1)) x = sumZ (l.take k) x + if cmpZ l[k] x = 0 then l[k].wt else 0 := by
  rw [List.take_succ_eq_append_getElem hk, sumZ_append]
  show _ = _
  simp [sumZ]

theorem same_cmp (x y : PI) : sameVs x.row y.row = decide (cmpZ x y = 0) := by
  rw [Bool.eq_iff_iff, sameVs_iff, decide_eq_true_iff, cmpZ_zero]

theorem one_match_eq {y : PI} {c : Int} : ∀ {S : List PI}, RiseZ S → (∃ s ∈ S, cmpZ y s = 0) → (S.map fun s => if cmpZ y s = 0 then c else 0).sum = c
  | [], _, h => by obtain ⟨s, hs, _⟩ := h; cases hs
  | s :: S, h, hex => by
    obtain ⟨h1, h2⟩ := List.pairwise_cons.1 h
    rw [List.map_cons, List.sum_cons]
    by_cases hs : cmpZ y s = 0
    · rw [if_pos hs]
      have : (S.map fun s => if cmpZ y s = 0 then c else 0).sum = 0 := by
        have hz : ∀ t ∈ S, (if cmpZ y t = 0 then c else 0) = 0 := fun t ht => if_neg (by
          have h3 := h1 t ht
          rw [cmpZ_congr_left hs]
          omega)
        clear h h1 h2 hex
        induction S with
        | nil => rfl
        | cons t S ih =>
          rw [List.map_cons, List.sum_cons, hz t (by simp), ih (fun u hu => hz u (List.mem_cons_of_mem _ hu))]
          rfl
      rw [this]
      omega
    · rw [if_neg hs]
      obtain ⟨t, ht, hc⟩ := hex
      rcases List.mem_cons.1 ht with e | ht
      · subst e
        exact absurd hc hs
      · rw [one_match_eq h2 ⟨t, ht, hc⟩]
        omega

theorem sum_map_add {α : Type} (g h : α → Int) : ∀ l : List α, (l.map fun a => g a + h a).sum = (l.map g).sum + (l.map h).sum
  | [] => by simp
  | a :: l => by
    have := sum_map_add g h l
    simp only [List.map_cons, List.sum_cons]
    omega

theorem total_is {S : List PI} (hS : RiseZ S) : ∀ X : List PI, (∀ x ∈ X, ∃ s ∈ S, cmpZ x s = 0) → (S.map fun s => sumZ X s).sum = (X.map (·.wt)).sum
  | [], _ => by
    have : ∀ l : List PI, (l.map fun s => sumZ [] s).sum = 0 := fun l => by
      induction l with
      | nil => rfl
      | cons a l ih => rw [List.map_cons, List.sum_cons, ih]; rfl
    rw [this]
    rfl
  | y :: X, h => by
    have ih := total_is hS X (fun x hx => h x (List.mem_cons_of_mem _ hx))
    have e : (S.map fun s => sumZ (y :: X) s) = S.map fun s => (if cmpZ y s = 0 then y.wt else 0) + sumZ X s := rfl
    rw [e, sum_map_add, ih, one_match_eq hS (h y (by simp)), List.map_cons, List.sum_cons]

theorem once_nn (L : List (List PV)) (x : PI) : 0 ≤ sumZ (onceZ L) x := by
  induction L with
  | nil => exact Int.le_refl _
  | cons r L ih =>
    show 0 ≤ (if cmpZ ⟨r, 1⟩ x = 0 then (1 : Int) else 0) + sumZ (onceZ L) x
    split <;> omega

theorem once_self {L : List (List PV)} {x : PI} (h : x ∈ onceZ L) : 1 ≤ sumZ (onceZ L) x := by
  induction L with
  | nil => cases h
  | cons r L ih =>
    show 1 ≤ (if cmpZ ⟨r, 1⟩ x = 0 then (1 : Int) else 0) + sumZ (onceZ L) x
    have h1 := once_nn L x
    rcases List.mem_cons.1 (show x ∈ (⟨r, 1⟩ : PI) :: onceZ L from h) with e | hx
    · rw [e, if_pos (cmpZ_self _)]
      rw [e] at h1
      omega
    · have := ih hx
      split <;> omega

theorem once_total (L : List (List PV)) : ((onceZ L).map (·.wt)).sum = (L.length : Int) := by
  induction L with
  | nil => rfl
  | cons r L ih =>
    have e : (onceZ (r :: L)).map (·.wt) = 1 :: (onceZ L).map (·.wt) := rfl
    rw [e, List.sum_cons, ih, List.length_cons]
    push_cast
    omega

/-- What is made of rows, each once. -/
theorem once_make {L : List (List PV)} (hl : L.length ≤ 100) (hok : ∀ r ∈ L, chkR r = 0) : ∃ S, makeZ (onceZ L) = (S, 0) ∧ riseZ S = true ∧ (∀ x, sumZ S x = sumZ (onceZ L) x) ∧ S.length ≤ 100 ∧ sizeZ S = (L.length : Int) := by
  have hb := bnd_items (B := 1) (by omega) (X := onceZ L) (fun x hx => by
    obtain ⟨r, -, rfl⟩ := List.mem_map.1 hx
    simp only
    omega)
  have hlen : (onceZ L).length = L.length := by simp [onceZ]
  have hb2 : BndZ 100 (onceZ L) := fun x => by have := hb x; omega
  obtain ⟨S, e, h1, h2, -, h4⟩ := make_spec (X := onceZ L) (List.all_eq_true.2 fun x hx => by
    obtain ⟨r, hr, rfl⟩ := List.mem_map.1 hx
    exact okI_parts.2 ⟨hok r hr, isW_iff.2 (by simp only; omega)⟩) (fun x _ => hb2.isW (by omega) x)
  have hS := (riseZ_iff.1 h1).2
  refine ⟨S, e, h1, h2, by omega, ?_⟩
  have hbS : BndZ 100 S := fun x => by rw [h2 x]; exact hb2 x
  rw [size_is h1 (by omega) hbS (by omega), abs_sum hS]
  have e1 : (S.map fun s => absI (sumZ S s)) = S.map fun s => sumZ (onceZ L) s := List.map_congr_left fun s _ => by
    rw [h2 s]
    have := once_nn L s
    unfold absI
    omega
  rw [e1, total_is hS (onceZ L) (fun x hx => by
    have h5 := once_self hx
    rw [← h2 x] at h5
    obtain ⟨s, hs, hc, -⟩ := sum_in hS x (by omega)
    exact ⟨s, hs, by rw [cmpZ_flip s x]; omega⟩), once_total]

end Go.Proofs.Ytajlkaedkifaoaa
