/-
  Texts of the proof of SetGroup, one behind the other.
-/
import Derived.Test.YtajlkaedkifaoaaRows
import Derived.Test.YtajlkaedkifaoaaG43SetGroup
import Derived.Test.YtajlkaedkifaoaaG47SetGroup
import Derived.Test.YtajlkaedkifaoaaG48SetGroup
import Derived.Test.YtajlkaedkifaoaaG37SetGroup
import Derived.Test.YtajlkaedkifaoaaG23SetGroup
import Derived.Test.YtajlkaedkifaoaaG17SetGroup
import Derived.Deep.CutRange
import Derived.Test.YtajlkaedkifaoaaG44SetGroup
import Derived.Test.YtajlkaedkifaoaaG46SetGroup
namespace Go.Proofs.Ytajlkaedkifaoaa
open Go.RowKit Go.Lib
set_option linter.unusedVariables false

/-- A set turned about. -/
def negZ (X : List PI) : List PI := X.map fun x => ⟨x.row, -x.wt⟩

theorem negZ_sum : ∀ (X : List PI) (x : PI), sumZ (negZ X) x = -sumZ X x
  | [], x => by simp [negZ, sumZ]
  | y :: X, x => by
    have ih := negZ_sum X x
    show (if cmpZ ⟨y.row, -y.wt⟩ x = 0 then -y.wt else 0) + sumZ (negZ X) x = -((if cmpZ y x = 0 then y.wt else 0) + sumZ X x)
    rw [ih]
    have e : cmpZ ⟨y.row, -y.wt⟩ x = cmpZ y x := rfl
    rw [e]
    split <;> omega

theorem negZ_len (X : List PI) : (negZ X).length = X.length := by simp [negZ]

theorem negZ_rise {X : List PI} (h : riseZ X = true) : riseZ (negZ X) = true := by
  obtain ⟨h1, h2⟩ := riseZ_iff.1 h
  refine riseZ_iff.2 ⟨fun x hx => ?_, List.pairwise_map.2 (h2.imp fun {a b} hab => hab)⟩
  obtain ⟨y, hy, rfl⟩ := List.mem_map.1 hx
  obtain ⟨o1, o2⟩ := h1 y hy
  obtain ⟨p1, p2⟩ := okI_parts.1 o1
  have hw := isW_iff.1 p2
  exact ⟨okI_parts.2 ⟨p1, isW_iff.2 ⟨by simp only; omega, by simp only; omega⟩⟩, by simp only; omega⟩

theorem negZ_neg (X : List PI) : negZ (negZ X) = X := by
  unfold negZ
  rw [List.map_map]
  conv => rhs; rw [← List.map_id X]
  refine List.map_congr_left fun x _ => ?_
  cases x
  simp

theorem RowZ.put2 {w : World} {B g n cap i : Nat} {Z : List (List Value × PI)} {x y : Value} {u : PI} (h : RowZ w B (.slice (some ⟨g, 0, none⟩) n cap) Z) (hi : i < Z.length) (hz : LiesZ (fun b => b < B ∨ b = g) w [x, y] u) :
    RowZ ((w.setCell ⟨g, i * 2, none⟩ x).setCell ⟨g, i * 2 + 1, none⟩ y) B (.slice (some ⟨g, 0, none⟩) n cap) (Z.set i ([x, y], u)) := by
  have hE : ∀ b, (b < B ∨ (Value.slice (some ⟨g, 0, none⟩) n cap).ownBlock = some b) → (b < B ∨ b = g) := fun b hb => hb.imp id fun h => by cases h; rfl
  have hE' : ∀ b, (b < B ∨ b = g) → (b < B ∨ (Value.slice (some ⟨g, 0, none⟩) n cap).ownBlock = some b) := fun b hb => hb.imp id fun h => by subst h; rfl
  have hs : Sz (fun b => b < B ∨ b = g) w ((w.setCell ⟨g, i * 2, none⟩ x).setCell ⟨g, i * 2 + 1, none⟩ y) :=
    Stay.setCell (Stay.setCell (Stay.refl _ _) (p := ⟨g, i * 2, none⟩) (fun h => h.2 (.inr rfl)) x) (p := ⟨g, i * 2 + 1, none⟩) (fun h => h.2 (.inr rfl)) y
  refine ⟨?_, fun z hz' => ?_⟩
  · have := OwnK.put (k := 2) (by omega) h.1 (LiesZ.wide hz) i (by rw [List.length_map]; exact hi)
    rw [List.map_set]
    exact this
  · rcases List.mem_or_eq_of_mem_set hz' with hz' | rfl
    · exact (((h.2 z hz').less fun b hb => hE' b hb).sz hs).less fun b hb => hE b hb
    · exact (hz.sz hs).less fun b hb => hE b hb

/-- What lies in a new slot. -/
def noItem : List Value × PI := ([.slice none 0 0, .int .i64 0], ⟨[], 0⟩)

theorem noItem_lies (E : Nat → Prop) (w : World) : LiesZ E w noItem.1 noItem.2 :=
  ⟨none, 0, rfl, RdV.nil _ _, by simp [noItem], by simp [noItem], fun _ => ⟨rfl, rfl⟩, by constructor <;> simp [noItem], fun h => by simp [noItem] at h⟩

theorem made_items {w : World} {B g n : Nat} (h : OwnK 2 40 w B (.slice (some ⟨g, 0, none⟩) n n) (List.replicate n [.slice none 0 0, .int .i64 0])) : RowZ w B (.slice (some ⟨g, 0, none⟩) n n) (List.replicate n noItem) := by
  refine ⟨by rw [List.map_replicate]; exact h, fun z hz => ?_⟩
  rw [List.eq_of_mem_replicate hz]
  exact noItem_lies _ _

theorem frozen_later {w w' : World} {b o : Nat} {v : Value} (h : Below w.heap.size w w') (hc : w.cell? ⟨b, o, none⟩ = some v) (hf : w.frozen? ⟨b, o, none⟩ = false) : w'.frozen? ⟨b, o, none⟩ = false := by
  have e := h.block b (cellZ_lt hc)
  unfold World.frozen? at hf ⊢
  rw [e]
  exact hf

theorem set_noItem {Z : List (List Value × PI)} {n k : Nat} {z : List Value × PI} (hl : Z.length = k) (hk : k < n) : (Z ++ List.replicate (n - k) noItem).set k z = (Z ++ [z]) ++ List.replicate (n - (k + 1)) noItem := by
  subst hl
  rw [List.set_append_right _ _ (Nat.le_refl _), Nat.sub_self, show n - Z.length = (n - (Z.length + 1)) + 1 from by omega, List.replicate_succ, List.set_cons_zero]
  simp

set_option maxRecDepth 100000 in
set_option maxHeartbeats 8000000 in
theorem zNeg_good (a : Option Addr) (n cap : Nat) (X : List PI) (w : World) (hn : X.length = n) (h4 : n ≤ 65536) (hr : RdZ w a X) (hri : riseZ X = true) :
    Calls Try.prog 21 #[.slice a n cap] w fun e w' => GivesZ w w' e (negZ X, 0) := by
  have HN : Hid (X.length = n) := hn
  have HR : Hid (RdZ w a X) := hr
  have C1 := zCheck_any a n cap X w hn h4 hr
  rw [chkZ_yes hri] at C1
  have HW : Hid (∀ x ∈ X, -72057594037927936 ≤ x.wt ∧ x.wt ≤ 72057594037927936) := fun x hx => isW_iff.1 (okI_parts.1 ((riseZ_iff.1 hri).1 x hx).1).2
  clear hn hr hri
  go_enter Try.func21, Try.ntmps21
  go_wp2_with fail
  refine C1.mono ?_
  rintro e w1 ⟨rfl, hb1⟩
  have HB1 : Hid (Below w.heap.size w w1) := hb1
  clear C1 hb1
  obtain ⟨w2, hmake, hO2, hB2⟩ := run_make_k ktItem w1 n (by omega)
  have HZ2 : Hid (RowZ w2 w1.heap.size (.slice (some ⟨w1.heap.size, 0, none⟩) n n) (List.replicate n noItem)) := made_items hO2
  have HB2 : Hid (Below w1.heap.size w1 w2) := hB2
  clear hO2 hB2
  go_wp2
  go_loopw [18] (fun i wr => ∃ (k : Nat) (Z : List (List Value × PI)), k ≤ n ∧ i = .int .i64 k ∧ Hid (Z.length = k) ∧ Hid (Z.map (·.2) = negZ (X.take k)) ∧ Hid (RowZ wr w1.heap.size (.slice (some ⟨w1.heap.size, 0, none⟩) n n) (Z ++ List.replicate (n - k) noItem)) ∧ Hid (Below w1.heap.size w1 wr)) (fun i _ => n - (RowKit.intOf i).toNat)
  case atStart => exact ⟨0, [], Nat.zero_le _, rfl, rfl, rfl, HZ2, HB2⟩
  case round =>
    clear hmake HZ2 HB2
    obtain ⟨k, Z, hk, rfl, hZl, hZm, hO, hB⟩ := hrel
    by_cases hlt : k < n
    · have hkl : k < X.length := by rw [HN.out]; exact hlt
      obtain ⟨b, off, ra, rc, rfl, x0, x1, hz⟩ := (HR.out.later (chain HB1.out hB.out)).at_ hkl
      have HZ : Hid (LiesZ (fun _ => False) wr [.slice ra X[k].row.length rc, .int .i64 X[k].wt] X[k]) := hz
      have hlen : (Z ++ List.replicate (n - k) noItem).length = n := by rw [List.length_append, hZl.out, List.length_replicate]; omega
      obtain ⟨⟨d0, hd0⟩, f0⟩ := OwnK.slots hO.out.1 (m := k) (by rw [List.length_map, hlen]; exact hlt) 0 (by omega)
      obtain ⟨⟨d1, hd1⟩, f1⟩ := OwnK.slots hO.out.1 (m := k) (by rw [List.length_map, hlen]; exact hlt) 1 (by omega)
      rw [Nat.add_zero] at hd0 f0
      have hwk := HW.out _ (List.getElem_mem hkl)
      have nw : wrap64 (-X[k].wt) = -X[k].wt := wrap_in (by omega)
      have nw2 : IntKind.i64.wrap (-X[k].wt) = -X[k].wt := by rw [IntKind.wrap_i64]; omega
      have CV : ∀ V, Below wr.heap.size wr V → Calls Try.prog 45 #[.slice ra X[k].row.length rc] V fun e w' => ∃ a' cap', e = .returned (.slice a' X[k].row.length cap') ∧ X[k].row.length ≤ cap' ∧ OwnV w' V.heap.size (.slice a' X[k].row.length cap') X[k].row ∧ (a' = none → X[k].row = [] ∧ cap' = 0) ∧ Below V.heap.size V w' := fun V hb => by
        obtain ⟨a1, c1, e1, r1, l1, m1, q1, -⟩ := HZ.out.later hb
        cases e1
        exact vclone_any ra X[k].row.length rc X[k].row V rfl l1 q1 r1
      have HX65 : Hid (X[k].row.length ≤ 65536) := by
        obtain ⟨a1, c1, e1, r1, l1, -⟩ := HZ.out
        exact l1
      have HST : Hid (negZ (X.take (k + 1)) = negZ (X.take k) ++ [⟨X[k].row, -X[k].wt⟩]) := by
        show _ = _
        rw [List.take_succ_eq_append_getElem hkl]
        unfold negZ
        rw [List.map_append]
        rfl
      have HNW : Hid (In64 (-X[k].wt)) := by
        show In64 _
        constructor <;> omega
      generalize hxk : X[k] = xk at *
      obtain ⟨r, p⟩ := xk
      simp only at x0 x1 nw nw2 CV HX65 HST HNW hwk
      have BX : Hid (Below wr.heap.size wr (wr.alloc (.cells #[.slice ra r.length rc, .int .i64 p] 40))) := alloc_below _ _
      obtain ⟨B2a, B2b⟩ := two_cells_new wr (.slice ra r.length rc) (.int .i64 p) 40
      obtain ⟨rn, hrn⟩ : ∃ rn, r.length = rn := ⟨_, rfl⟩
      rw [hrn] at x0 CV BX B2a B2b
      have HRN : Hid (r.length = rn) := hrn
      have HSZ : Hid (w1.heap.size < wr.heap.size) := cellZ_lt hd0
      have HDK : Hid (wr.cell? ⟨w1.heap.size, k * 2, none⟩ = some d0 ∧ wr.cell? ⟨w1.heap.size, k * 2 + 1, none⟩ = some d1 ∧ wr.frozen? ⟨w1.heap.size, k * 2, none⟩ = false ∧ wr.frozen? ⟨w1.heap.size, k * 2 + 1, none⟩ = false) := ⟨hd0, hd1, f0, f1⟩
      clear hz HZ hlen hxk hkl hrn hd0 hd1 f0 f1
      have k0 : (0 : Int) ≤ (k : Int) := by omega
      have k1 : (k : Int) < (n : Int) := by omega
      go_upto_region 8 with fail
      have HS : (wr.alloc (.cells #[.slice ra rn rc, .int .i64 p] 40)).drew.cell? ⟨wr.heap.size, 0, none⟩ = some (.slice ra rn rc) ∧ (wr.alloc (.cells #[.slice ra rn rc, .int .i64 p] 40)).drew.cell? ⟨wr.heap.size, 1, none⟩ = some (.int .i64 p) ∧ Hid (Below wr.heap.size wr (wr.alloc (.cells #[.slice ra rn rc, .int .i64 p] 40)).drew) := ⟨cell_later (Below.refl _ _).drew B2a, cell_later (Below.refl _ _).drew B2b, BX.out.drew⟩
      clear B2a B2b BX
      refine region_S (S := (fun w' => w'.cell? ⟨wr.heap.size, 0, none⟩ = some (.slice ra rn rc) ∧ w'.cell? ⟨wr.heap.size, 1, none⟩ = some (.int .i64 p) ∧ Hid (Below wr.heap.size wr w'))) 10 (by kernel_rfl) HS (fun hHeld => ?_)
      refine sPure (v := ?_) 0 23 rfl rfl (by kernel_rfl) (by kernel_rfl) (by kernel_rfl) (by decide) (fun _ _ _ h => h) (by rfl) (fun w => ?_) (.inr (by assumption)) ?_
      rotate_left
      · first | (go_simp; done) | (go_simp; with_reducible rfl)
      simp only [List.setIfInBounds_toArray, List.set_cons_zero, List.set_cons_succ]
      refine sPure (v := ?_) 1 24 rfl rfl (by kernel_rfl) (by kernel_rfl) (by kernel_rfl) (by decide) (fun _ _ _ h => h) (by rfl) (fun w => ?_) (.inr (by assumption)) ?_
      rotate_left
      · first | (go_simp; done) | (go_simp; with_reducible rfl)
      simp only [List.setIfInBounds_toArray, List.set_cons_zero, List.set_cons_succ]
      refine sPure (v := ?_) 2 25 rfl rfl (by kernel_rfl) (by kernel_rfl) (by kernel_rfl) (by decide) (fun _ _ _ h => h) (by rfl) (fun w => ?_) (.inr (by assumption)) ?_
      rotate_left
      · first | (go_simp; done) | (go_simp; with_reducible rfl)
      simp only [List.setIfInBounds_toArray, List.set_cons_zero, List.set_cons_succ]
      refine sTake (v := ?_) 3 26 rfl rfl (by kernel_rfl) (by kernel_rfl) (by kernel_rfl) (by kernel_rfl) (by kernel_rfl) (fun _ _ _ h => h) (by rfl) (fun w hSw => ?_) (by assumption) ?_
      rotate_left
      · (try dsimp only at hSw); first | (go_simp; done) | (go_simp; with_reducible rfl)
      simp only [List.setIfInBounds_toArray, List.set_cons_zero, List.set_cons_succ]
      refine sPure (v := ?_) 5 28 rfl rfl (by kernel_rfl) (by kernel_rfl) (by kernel_rfl) (by decide) (fun _ _ _ h => h) (by rfl) (fun w => ?_) (.inr (by assumption)) ?_
      rotate_left
      · first | (go_simp; done) | (go_simp; with_reducible rfl)
      simp only [List.setIfInBounds_toArray, List.set_cons_zero, List.set_cons_succ]
      refine sTake (v := ?_) 6 29 rfl rfl (by kernel_rfl) (by kernel_rfl) (by kernel_rfl) (by kernel_rfl) (by kernel_rfl) (fun _ _ _ h => h) (by rfl) (fun w hSw => ?_) (by assumption) ?_
      rotate_left
      · (try dsimp only at hSw); first | (go_simp; done) | (go_simp; with_reducible rfl)
      simp only [List.setIfInBounds_toArray, List.set_cons_zero, List.set_cons_succ]
      refine sPure (v := ?_) 7 30 rfl rfl (by kernel_rfl) (by kernel_rfl) (by kernel_rfl) (by decide) (fun _ _ _ h => h) (by rfl) (fun w => ?_) (.inr (by assumption)) ?_
      rotate_left
      · first | (go_simp; done) | (go_simp; with_reducible rfl)
      simp only [List.setIfInBounds_toArray, List.set_cons_zero, List.set_cons_succ]
      refine sOne 4 rfl (by kernel_rfl) (by rfl) (fun K2 hK => ?_)
      go_simp
      refine (CV _ hHeld.2.2.out).mono ?_
      rintro e wz ⟨a', cap', rfl, hc', ho', hn', hb⟩
      simp only []
      obtain ⟨g0, g1, g2, g3⟩ := HDK.out
      have HBZ : Hid (Below wr.heap.size wr wz) := chain hHeld.2.2.out hb
      have d0' := cell_later HBZ.out g0
      have d1' := cell_later HBZ.out g1
      have f0' : wz.frozen? ⟨w1.heap.size, k * 2, none⟩ = false := frozen_later HBZ.out g0 g2
      have f1' : wz.frozen? ⟨w1.heap.size, k * 2 + 1, none⟩ = false := frozen_later HBZ.out g1 g3
      clear g0 g1 g2 g3
      have HC : Hid (OwnV wz _ (.slice a' rn cap') r ∧ rn ≤ cap' ∧ (a' = none → r = [] ∧ cap' = 0)) := ⟨ho', hc', hn'⟩
      clear ho' hc' hn'
      refine hK.out _ _ ?_ (fun hHeld => ?_)
      · exact .inr (by exact ⟨cell_later hb hHeld.1, cell_later hb hHeld.2.1, chain hHeld.2.2.out hb⟩)
      clear hK K2
      replace hHeld := hHeld.resolve_left (by decide)
      try simp only [List.setIfInBounds_toArray, List.set_cons_zero, List.set_cons_succ]
      refine sPure (v := ?_) 8 31 rfl rfl (by kernel_rfl) (by kernel_rfl) (by kernel_rfl) (by decide) (fun _ _ _ h => h) (by rfl) (fun w => ?_) (.inr (by assumption)) ?_
      rotate_left
      · first | (go_simp; done) | (go_simp; with_reducible rfl)
      simp only [List.setIfInBounds_toArray, List.set_cons_zero, List.set_cons_succ]
      refine sPure (v := ?_) 9 32 rfl rfl (by kernel_rfl) (by kernel_rfl) (by kernel_rfl) (by decide) (fun _ _ _ h => h) (by rfl) (fun w => ?_) (.inr (by assumption)) ?_
      rotate_left
      · first | (go_simp; done) | (go_simp; with_reducible rfl)
      simp only [List.setIfInBounds_toArray, List.set_cons_zero, List.set_cons_succ]
      refine sOne 10 rfl (by kernel_rfl) (by rfl) (fun K2 hK => ?_)
      go_simp
      refine hK.out _ _ ?_ (fun hHeld => ?_)
      · exact .inl (by rfl)
      clear hK K2 hHeld
      try simp only [List.setIfInBounds_toArray, List.set_cons_zero, List.set_cons_succ]
      refine sDone (by kernel_rfl) ?_ _
      have HLZ : LiesZ (fun b => b < w1.heap.size ∨ b = w1.heap.size) wz [.slice a' rn cap', .int .i64 (-p)] ⟨r, -p⟩ := by
        obtain ⟨ho', hc', hn'⟩ := HC.out
        obtain ⟨a5, c5, e5, -, r5, -⟩ := ho'.form
        have e6 := e5
        simp only [Value.slice.injEq] at e6
        obtain ⟨rfl, -, rfl⟩ := e6
        have hrn := HRN.out
        subst hrn
        refine ⟨a', cap', rfl, r5, HX65.out, hc', hn', HNW.out, fun h0 b o s e => ?_⟩
        have hge := ho'.block b (by rw [e]; rfl)
        have hsz := HSZ.out
        simp at hge
        omega
      have hlen : (Z ++ List.replicate (n - k) noItem).length = n := by rw [List.length_append, hZl.out, List.length_replicate]; omega
      have HP := (hO.out.later HBZ.out).put2 (i := k) (by rw [hlen]; exact hlt) HLZ
      rw [set_noItem hZl.out hlt] at HP
      have HP' : Hid _ := HP
      have HL' : Hid ((Z ++ [(([.slice a' rn cap', .int .i64 (-p)] : List Value), (⟨r, -p⟩ : PI))]).length = k + 1) := by show _ = _; rw [List.length_append, hZl.out]; rfl
      have HM' : Hid ((Z ++ [(([.slice a' rn cap', .int .i64 (-p)] : List Value), (⟨r, -p⟩ : PI))]).map (·.2) = negZ (X.take (k + 1))) := by show _ = _; rw [List.map_append, hZm.out, HST.out]; rfl
      have HBF : Hid (Below w1.heap.size w1 _) := ((chain hB.out HBZ.out).setCell (p := ⟨w1.heap.size, k * 2, none⟩) (Nat.le_refl _) (.slice a' rn cap')).setCell (p := ⟨w1.heap.size, k * 2 + 1, none⟩) (Nat.le_refl _) (.int .i64 (-p))
      clear HLZ hlen HP d0' d1' f0' f1' HS CV
      go_wp2
      go_roundw
      case rel => exact ⟨k + 1, _, by omega, by go_num, HL', HM', HP', HBF⟩
      case measure => simp [RowKit.intOf]; omega
    · obtain rfl : k = n := by omega
      have HF := hO.out
      rw [Nat.sub_self, List.replicate_zero, List.append_nil] at HF
      have hm := hZm.out
      rw [List.take_of_length_le (by rw [HN.out]; omega)] at hm
      have HFF : Hid (RowZ wr w1.heap.size (.slice (some ⟨w1.heap.size, 0, none⟩) k k) Z) := HF
      have HM : Hid (Z.map (·.2) = negZ X) := hm
      clear HF hm hO hZm
      go_wp2
      refine bodyPost_ret (by simp [results, Try.results21, go_sem]; rfl) rfl ?_
      exact ⟨_, Z, rfl, HM.out, HFF.out.base HB1.out.size, chain HB1.out hB.out⟩

end Go.Proofs.Ytajlkaedkifaoaa

namespace Go.Proofs.Ytajlkaedkifaoaa
open Go.RowKit Go.Lib
set_option linter.unusedVariables false

structure SetAt (w : World) (a : Option Addr) (n cap : Nat) (R : List PI) : Prop where
  len : R.length = n
  le : n ≤ cap
  rd : RdZ w a R
  nil : a = none → R = [] ∧ cap = 0

theorem SetAt.later {w w' : World} {a : Option Addr} {n cap : Nat} {R : List PI} (h : SetAt w a n cap R) (hb : Below w.heap.size w w') : SetAt w' a n cap R := ⟨h.len, h.le, h.rd.later hb, h.nil⟩

theorem SetAt.of_row {w : World} {B : Nat} {v : Value} {Z : List (List Value × PI)} {R : List PI} (h : RowZ w B v Z) (hZ : Z.map (·.2) = R) : ∃ a n cap, v = .slice a n cap ∧ SetAt w a n cap R := by
  obtain ⟨a, cap, e, hc, -, hr, hn, -⟩ := h.form
  rw [hZ] at hr hn
  have hl : R.length = Z.length := by rw [← hZ, List.length_map]
  exact ⟨a, _, cap, e, hl, hc, hr, hn⟩

/-- What a call hands back that tells a set. -/
def TellsZ (w w' : World) (e : Ending) (R : List PI) : Prop := ∃ a n cap, e = .returned (.tuple #[.slice a n cap, .int .i64 0]) ∧ SetAt w' a n cap R ∧ Below w.heap.size w w'

theorem TellsZ.of {w w' : World} {e : Ending} {R : List PI} (h : GivesZ w w' e (R, 0)) : TellsZ w w' e R := by
  obtain ⟨v, Z, rfl, hZ, hr, hb⟩ := h
  obtain ⟨a, n, cap, rfl, hs⟩ := SetAt.of_row hr hZ
  exact ⟨a, n, cap, rfl, hs, hb⟩

theorem add_c {a c : Option Addr} {n m cap dap : Nat} {A C S : List PI} {w : World} (hA : SetAt w a n cap A) (hC : SetAt w c m dap C) (hn : n ≤ 16384) (hm : m ≤ 16384) (h : addZ A C = (S, 0)) :
    Calls Try.prog 20 #[.slice a n cap, .slice c m dap] w fun e w' => TellsZ w w' e S := by
  have := zAdd_any a c n m cap dap A C w hA.len hC.len hn hm hA.le hC.le hA.nil hC.nil hA.rd hC.rd
  rw [h] at this
  exact this.mono fun e w' k => TellsZ.of k

theorem neg_c {a : Option Addr} {n cap : Nat} {A : List PI} {w : World} (hA : SetAt w a n cap A) (hn : n ≤ 65536) (h : riseZ A = true) :
    Calls Try.prog 21 #[.slice a n cap] w fun e w' => TellsZ w w' e (negZ A) :=
  (zNeg_good a n cap A w hA.len hn hA.rd h).mono fun e w' k => TellsZ.of k

theorem make_c {a : Option Addr} {n cap : Nat} {A S : List PI} {w : World} (hA : SetAt w a n cap A) (hn : n ≤ 32768) (h : makeZ A = (S, 0)) :
    Calls Try.prog 11 #[.slice a n cap] w fun e w' => TellsZ w w' e S := by
  have := zMake_any a n cap A w hA.len hn hA.rd
  rw [h] at this
  exact this.mono fun e w' k => TellsZ.of k

theorem check_c {a : Option Addr} {n cap : Nat} {A : List PI} {w : World} (hA : SetAt w a n cap A) (hn : n ≤ 65536) (h : riseZ A = true) :
    Calls Try.prog 22 #[.slice a n cap] w fun e w' => e = .returned (.int .i64 0) ∧ Below w.heap.size w w' := by
  have := zCheck_any a n cap A w hA.len hn hA.rd
  rw [chkZ_yes h] at this
  exact this

theorem size_c {a : Option Addr} {n cap : Nat} {A : List PI} {w : World} (hA : SetAt w a n cap A) (hn : n ≤ 32768) :
    Calls Try.prog 16 #[.slice a n cap] w fun e w' => e = .returned (.int .i64 (sizeZ A)) ∧ Below w.heap.size w w' := zSize_any a n cap A w hA.len hn hA.rd

theorem same_c {a c : Option Addr} {n m cap dap : Nat} {A C : List PI} {w : World} (hA : SetAt w a n cap A) (hC : SetAt w c m dap C) (hn : n ≤ 65536) (h : A = C) :
    Calls Try.prog 13 #[.slice a n cap, .slice c m dap] w fun e w' => e = .returned (.bool true) ∧ Below w.heap.size w w' := by
  subst h
  have hm : m ≤ 65536 := by have := hA.len; have := hC.len; omega
  have := keepSet_any a c n m cap dap A A w hA.len hC.len hn hm hA.rd hC.rd
  rw [sameIs_yes rfl] at this
  exact this

/-- Of a right set a row's weight is the sum of what weighs so. -/
theorem weight_sum : ∀ {X : List PI}, RiseZ X → ∀ (x : PI), weightZ X x.row = sumZ X x
  | [], _, x => rfl
  | y :: X, h, x => by
    obtain ⟨h1, h2⟩ := List.pairwise_cons.1 h
    show (if cmpR y.row x.row = 0 then y.wt else weightZ X x.row) = (if cmpZ y x = 0 then y.wt else 0) + sumZ X x
    have e : cmpR y.row x.row = cmpZ y x := rfl
    rw [e]
    by_cases hc : cmpZ y x = 0
    · rw [if_pos hc, if_pos hc, sumZ_none (fun z hz hz0 => by
        have h3 := h1 z hz
        have h4 : cmpZ y z = cmpZ x z := cmpZ_congr_left hc
        have h5 := cmpZ_flip z x
        omega)]
      omega
    · rw [if_neg hc, if_neg hc, weight_sum h2 x]
      omega

theorem one_match {y : PI} {c : Int} (hc : 0 ≤ c) : ∀ {S : List PI}, RiseZ S → (S.map fun s => if cmpZ y s = 0 then c else 0).sum ≤ c
  | [], _ => by simpa using hc
  | s :: S, h => by
    obtain ⟨h1, h2⟩ := List.pairwise_cons.1 h
    rw [List.map_cons, List.sum_cons]
    by_cases hs : cmpZ y s = 0
    · rw [if_pos hs]
      have : (S.map fun s => if cmpZ y s = 0 then c else 0).sum = 0 := by
        have hz : ∀ t ∈ S, (if cmpZ y t = 0 then c else 0) = 0 := fun t ht => if_neg (by
          have h3 := h1 t ht
          rw [cmpZ_congr_left hs]
          omega)
        clear h h1 h2
        induction S with
        | nil => rfl
        | cons t S ih =>
          rw [List.map_cons, List.sum_cons, hz t (by simp), ih (fun u hu => hz u (List.mem_cons_of_mem _ hu))]
          rfl
      rw [this]
      omega
    · rw [if_neg hs]
      have := one_match hc h2 (y := y)
      omega

theorem sum_add_le {α : Type} (f g h : α → Int) (hle : ∀ a, f a ≤ g a + h a) : ∀ l : List α, (l.map f).sum ≤ (l.map g).sum + (l.map h).sum
  | [] => by simp
  | a :: l => by
    have := sum_add_le f g h hle l
    have := hle a
    simp only [List.map_cons, List.sum_cons]
    omega

def absI (n : Int) : Int := max n (-n)

theorem abs_add (m n : Int) : absI (m + n) ≤ absI m + absI n := by unfold absI; omega

theorem absI_nn (n : Int) : 0 ≤ absI n := by unfold absI; omega

/-- What the rows of a right set weigh elsewhere is no more than all that is there. -/
theorem sums_le {S : List PI} (hS : RiseZ S) : ∀ A : List PI, (S.map fun s => absI (sumZ A s)).sum ≤ absS A
  | [] => by
    have : ∀ l : List PI, (l.map fun s => absI (sumZ [] s)).sum = 0 := fun l => by
      induction l with
      | nil => rfl
      | cons a l ih => rw [List.map_cons, List.sum_cons, ih]; rfl
    rw [this]
    exact absS_nn _
  | y :: A => by
    have ih := sums_le hS A
    have e : absS (y :: A) = absZ y + absS A := by simp [absS]
    have h1 := sum_add_le (fun s => absI (sumZ (y :: A) s)) (fun s => if cmpZ y s = 0 then absZ y else 0) (fun s => absI (sumZ A s)) (fun s => by
      show absI ((if cmpZ y s = 0 then y.wt else 0) + sumZ A s) ≤ _
      have := abs_add (if cmpZ y s = 0 then y.wt else 0) (sumZ A s)
      have h2 : absI (if cmpZ y s = 0 then y.wt else 0) = if cmpZ y s = 0 then absZ y else 0 := by split <;> rfl
      rw [h2] at this
      exact this) S
    have h2 := one_match (absZ_nn y) hS (y := y)
    rw [e]
    omega

theorem abs_sum {S : List PI} (hS : RiseZ S) : absS S = (S.map fun s => absI (sumZ S s)).sum := by
  have : ∀ (l : List PI), (∀ s ∈ l, s ∈ S) → absS l = (l.map fun s => absI (sumZ S s)).sum := fun l hl => by
    induction l with
    | nil => rfl
    | cons a l ih =>
      have e : absS (a :: l) = absZ a + absS l := by simp [absS]
      rw [e, List.map_cons, List.sum_cons, ih (fun s hs => hl s (List.mem_cons_of_mem _ hs)), sum_there hS (hl a (by simp))]
      rfl
  exact this S (fun s hs => hs)

theorem abs_of_sum {S A C : List PI} (hS : riseZ S = true) (h : ∀ x, sumZ S x = sumZ A x + sumZ C x) : absS S ≤ absS A + absS C := by
  have hr := (riseZ_iff.1 hS).2
  rw [abs_sum hr]
  have h1 := sum_add_le (fun s => absI (sumZ S s)) (fun s => absI (sumZ A s)) (fun s => absI (sumZ C s)) (fun s => by rw [h s]; exact abs_add _ _) S
  have h2 := sums_le hr A
  have h3 := sums_le hr C
  omega

theorem abs_neg (X : List PI) : absS (negZ X) = absS X := by
  unfold absS negZ
  rw [List.map_map]
  congr 1
  refine List.map_congr_left fun x _ => ?_
  show max (-x.wt) (- -x.wt) = max x.wt (-x.wt)
  omega

theorem neg_bnd {B : Int} {X : List PI} (h : BndZ B X) : BndZ B (negZ X) := fun x => by
  rw [negZ_sum]
  have := h x
  omega

theorem add_neg {A : List PI} (h : riseZ A = true) : addZ A (negZ A) = ([], 0) := by
  unfold addZ
  rw [if_pos h, if_pos (negZ_rise h)]
  exact make_is (by rw [List.all_append, rise_all h, rise_all (negZ_rise h)]; rfl) rfl fun x => by
    rw [sumZ_append, negZ_sum]
    have : sumZ [] x = 0 := rfl
    omega

end Go.Proofs.Ytajlkaedkifaoaa

namespace Go.Proofs.Ytajlkaedkifaoaa
open Go.RowKit Go.Lib
set_option linter.unusedVariables false

theorem three_items (w : World) (a b c : Option Addr) (n m l cap dap eap : Nat) (X Y Z : List PI) (hn : X.length = n) (hm : Y.length = m) (hl : Z.length = l) (n1 : n ≤ 9223372036854775807) (n2 : m ≤ 9223372036854775807) (n3 : l ≤ 9223372036854775807) (hX : RdJ w a X) (hY : RdJ w b Y) (hZ : RdJ w c Z) :
    RdSl (w.alloc (.cells #[.slice a n cap, .slice b m dap, .slice c l eap] 22)) w.heap.size 0 [(a, cap, X), (b, dap, Y), (c, eap, Z)] := by
  intro i hi
  subst hn hm hl
  match i, hi with
  | 0, _ =>
    refine ⟨?_, n1, hX.later (alloc_below _ _)⟩
    simp only [World.cell?, new_block]
    rfl
  | 1, _ =>
    refine ⟨?_, n2, hY.later (alloc_below _ _)⟩
    simp only [World.cell?, new_block]
    rfl
  | 2, _ =>
    refine ⟨?_, n3, hZ.later (alloc_below _ _)⟩
    simp only [World.cell?, new_block]
    rfl

theorem keep2M {W w w' : World} {b0 b1 o0 o1 : Nat} {x0 x1 : Value} (hb : Below w.heap.size w w') (h : w.cell? ⟨b0, o0, none⟩ = some x0 ∧ w.cell? ⟨b1, o1, none⟩ = some x1 ∧ Hid (Below W.heap.size W w)) :
    w'.cell? ⟨b0, o0, none⟩ = some x0 ∧ w'.cell? ⟨b1, o1, none⟩ = some x1 ∧ Hid (Below W.heap.size W w') := ⟨cell_later hb h.1, cell_later hb h.2.1, chain h.2.2.out hb⟩

/-- Three sets, and what SetGroup makes of them. -/
structure Group (A B C S P Q : List PI) : Prop where
  ra : riseZ A = true
  rb : riseZ B = true
  rc : riseZ C = true
  la : A.length ≤ 60
  lb : B.length ≤ 60
  lc : C.length ≤ 60
  ba : BndZ 5940 A
  bb : BndZ 5940 B
  ab : addZ A B = (S, 0)
  ba' : addZ B A = (S, 0)
  rs : riseZ S = true
  ss : ∀ x, sumZ S x = sumZ A x + sumZ B x
  ls : S.length ≤ 120
  bs : BndZ 11880 S
  sc : addZ S C = (P, 0)
  bc : addZ B C = (Q, 0)
  aq : addZ A Q = (P, 0)
  lp : P.length ≤ 180
  lq : Q.length ≤ 120

theorem group_of {A B C : List PI} (ra : riseZ A = true) (rb : riseZ B = true) (rc : riseZ C = true) (la : A.length ≤ 60) (lb : B.length ≤ 60) (lc : C.length ≤ 60) (ba : BndZ 5940 A) (bb : BndZ 5940 B) (bc : BndZ 5940 C) : ∃ S P Q, Group A B C S P Q := by
  obtain ⟨S, s1, s2, s3, s4, s5, -⟩ := add_spec ra rb ba bb (by omega)
  obtain ⟨Q, q1, q2, q3, q4, q5, -⟩ := add_spec rb rc bb bc (by omega)
  obtain ⟨P, p1, p2, p3, p4, p5, -⟩ := add_spec s2 rc s4 bc (by omega)
  obtain ⟨R, r1, r2, r3, r4, r5, -⟩ := add_spec ra q2 ba q4 (by omega)
  have e : R = P := rise_sums r2 p2 fun x => by rw [r3, p3, q3, s3]; omega
  subst e
  exact ⟨S, R, Q, ra, rb, rc, la, lb, lc, ba, bb, s1, by rw [add_comm rb ra]; exact s1, s2, s3, by omega, s4, p1, q1, r1, by omega, by omega⟩

theorem group_size {A B C S P Q : List PI} (g : Group A B C S P Q) : sizeZ S ≤ sizeZ A + sizeZ B ∧ 0 ≤ sizeZ A ∧ 0 ≤ sizeZ B ∧ sizeZ A ≤ 356400 ∧ sizeZ B ≤ 356400 ∧ sizeZ (negZ A) = sizeZ A := by
  have h1 := size_is g.ra (by omega) g.ba (by have := g.la; omega)
  have h2 := size_is g.rb (by omega) g.bb (by have := g.lb; omega)
  have h3 := size_is g.rs (by omega) g.bs (by have := g.ls; omega)
  have h4 := size_is (negZ_rise g.ra) (by omega) (neg_bnd g.ba) (by rw [negZ_len]; have := g.la; omega)
  have h5 := abs_of_sum g.rs g.ss
  have h6 := abs_bnd (B := 5940) (by omega) (wt_bnd (riseZ_iff.1 g.ra).2 g.ba)
  have h7 := abs_bnd (B := 5940) (by omega) (wt_bnd (riseZ_iff.1 g.rb).2 g.bb)
  have h8 := absS_nn A
  have h9 := absS_nn B
  have h10 := abs_neg A
  have := g.la
  have := g.lb
  omega

theorem group_weight {A B C S P Q : List PI} (g : Group A B C S P Q) {x : PI} (hx : x ∈ A) : weightZ S x.row = x.wt + weightZ B x.row ∧ weightZ (negZ A) x.row = -x.wt ∧ -5940 ≤ x.wt ∧ x.wt ≤ 5940 ∧ -5940 ≤ weightZ B x.row ∧ weightZ B x.row ≤ 5940 := by
  have h1 := (riseZ_iff.1 g.ra).2
  rw [weight_sum (riseZ_iff.1 g.rs).2, weight_sum (riseZ_iff.1 g.rb).2, weight_sum (riseZ_iff.1 (negZ_rise g.ra)).2, g.ss, negZ_sum, sum_there h1 hx]
  have := g.bb x
  have := wt_bnd h1 g.ba x hx
  omega

set_option maxRecDepth 100000 in
set_option maxHeartbeats 4000000 in
theorem group_heavy (a b c : Option Addr) (n m l cap dap eap : Nat) (X Y Z : List PI) (w : World) (hn : X.length = n) (hm : Y.length = m) (hl : Z.length = l) (n1 : n ≤ 9223372036854775807) (n2 : m ≤ 9223372036854775807) (n3 : l ≤ 9223372036854775807) (hX : RdJ w a X) (hY : RdJ w b Y) (hZ : RdJ w c Z) (hh : (heavyI X || (heavyI Y || heavyI Z)) = true) :
    Calls Try.prog 4 #[.slice a n cap, .slice b m dap, .slice c l eap] w fun e w' => e = .returned (.bool true) ∧ Below w.heap.size w w' := by
  have C1 := heavyZ_any _ _ 3 3 _ _ rfl (by omega) (three_items w a b c n m l cap dap eap X Y Z hn hm hl n1 n2 n3 hX hY hZ)
  simp only [List.any_cons, List.any_nil, Bool.or_false] at C1
  have HB1 : Hid (Below w.heap.size w (w.alloc (.cells #[.slice a n cap, .slice b m dap, .slice c l eap] 22))) := alloc_below _ _
  rw [hh] at C1
  clear hX hY hZ hn hm hl hh
  go_enter Try.func4, Try.ntmps4
  go_wp2_with fail
  refine C1.mono ?_
  rintro e w1 ⟨rfl, hw⟩
  subst hw
  clear C1
  go_wp2
  go_ret
  exact ⟨by simp, HB1.out⟩

set_option maxRecDepth 100000 in
set_option maxHeartbeats 8000000 in
theorem group_light (a b c : Option Addr) (n m l cap dap eap : Nat) (X Y Z : List PI) (w : World) (hn : X.length = n) (hm : Y.length = m) (hl : Z.length = l) (n1 : n ≤ 9223372036854775807) (n2 : m ≤ 9223372036854775807) (n3 : l ≤ 9223372036854775807) (hX : RdJ w a X) (hY : RdJ w b Y) (hZ : RdJ w c Z) (hx : heavyI X = false) (hy : heavyI Y = false) (hz : heavyI Z = false) :
    Calls Try.prog 4 #[.slice a n cap, .slice b m dap, .slice c l eap] w fun e w' => e = .returned (.bool true) ∧ Below w.heap.size w w' := by
  have C1 := heavyZ_any _ _ 3 3 _ _ rfl (by omega) (three_items w a b c n m l cap dap eap X Y Z hn hm hl n1 n2 n3 hX hY hZ)
  simp only [List.any_cons, List.any_nil, Bool.or_false] at C1
  have HB1 : Hid (Below w.heap.size w (w.alloc (.cells #[.slice a n cap, .slice b m dap, .slice c l eap] 22))) := alloc_below _ _
  rw [hx, hy, hz] at C1
  obtain ⟨hx3, hx4⟩ := heavyI_small hx
  obtain ⟨hy3, hy4⟩ := heavyI_small hy
  obtain ⟨hz3, hz4⟩ := heavyI_small hz
  have rX := hX.rdZ fun x hx => by have := hx4 x hx; omega
  have rY := hY.rdZ fun x hx => by have := hy4 x hx; omega
  have rZ := hZ.rdZ fun x hx => by have := hz4 x hx; omega
  have CTA : ∀ V, Below w.heap.size w V → _ := fun V hb => tame_any a n cap X V hn (by omega) (rX.later hb)
  have CTB : ∀ V, Below w.heap.size w V → _ := fun V hb => tame_any b m dap Y V hm (by omega) (rY.later hb)
  have CTC : ∀ V, Below w.heap.size w V → _ := fun V hb => tame_any c l eap Z V hl (by omega) (rZ.later hb)
  obtain ⟨ra, la⟩ := make_rises (tameL X 60)
  obtain ⟨rb, lb⟩ := make_rises (tameL Y 60)
  obtain ⟨rc, lc⟩ := make_rises (tameL Z 60)
  have hg := group_of ra rb rc (Nat.le_trans la (tame_len X)) (Nat.le_trans lb (tame_len Y)) (Nat.le_trans lc (tame_len Z)) (tame_bnd X) (tame_bnd Y) (tame_bnd Z)
  clear rX rY rZ hX hY hZ hn hm hl hx hy hz hx3 hx4 hy3 hy4 hz3 hz4 ra rb rc la lb lc
  generalize (makeZ (tameL X 60)).1 = A at *
  generalize (makeZ (tameL Y 60)).1 = B at *
  generalize (makeZ (tameL Z 60)).1 = C at *
  obtain ⟨S, P, Q, g⟩ := hg
  have G : Hid (Group A B C S P Q) := g
  clear g
  go_enter Try.func4, Try.ntmps4
  go_wp2_with fail
  refine C1.mono ?_
  rintro e w1 ⟨rfl, hw⟩
  subst hw
  clear C1
  go_wp2_with fail
  refine (CTA _ HB1.out).mono ?_
  rintro e w2 ⟨v, Zt, rfl, hZt, hRt, hb⟩
  obtain ⟨aA, nA, cA, rfl, hS⟩ := SetAt.of_row hRt hZt
  have HBA : Hid (Below w.heap.size w w2) := chain HB1.out hb
  have HSA : Hid (SetAt w2 aA nA cA A) := hS
  clear hZt hRt hS hb
  go_wp2_with fail
  refine (CTB _ HBA.out).mono ?_
  rintro e w3 ⟨v, Zt, rfl, hZt, hRt, hb⟩
  obtain ⟨aB, nB, cB, rfl, hS⟩ := SetAt.of_row hRt hZt
  replace HSA : Hid (SetAt w3 aA nA cA A) := HSA.out.later hb
  have HBB : Hid (Below w.heap.size w w3) := chain HBA.out hb
  have HSB : Hid (SetAt w3 aB nB cB B) := hS
  clear hZt hRt hS hb
  go_wp2_with fail
  refine (CTC _ HBB.out).mono ?_
  rintro e w4 ⟨v, Zt, rfl, hZt, hRt, hb⟩
  obtain ⟨aC, nC, cC, rfl, hS⟩ := SetAt.of_row hRt hZt
  replace HSA : Hid (SetAt w4 aA nA cA A) := HSA.out.later hb
  replace HSB : Hid (SetAt w4 aB nB cB B) := HSB.out.later hb
  have HBC : Hid (Below w.heap.size w w4) := chain HBB.out hb
  have HSC : Hid (SetAt w4 aC nC cC C) := hS
  clear hZt hRt hS hb
  clear CTA CTB CTC HB1 HBA HBB
  have nA60 : nA ≤ 60 := by rw [← HSA.out.len]; exact G.out.la
  have nB60 : nB ≤ 60 := by rw [← HSB.out.len]; exact G.out.lb
  have nC60 : nC ≤ 60 := by rw [← HSC.out.len]; exact G.out.lc
  have HB := HBC
  clear HBC
  go_wp2_with fail
  refine (add_c HSA.out HSB.out (by omega) (by omega) G.out.ab).mono ?_
  rintro e w5 ⟨aX, nX, cX, rfl, hS, hb⟩
  replace HSA : Hid (SetAt w5 aA nA cA A) := HSA.out.later hb
  replace HSB : Hid (SetAt w5 aB nB cB B) := HSB.out.later hb
  replace HSC : Hid (SetAt w5 aC nC cC C) := HSC.out.later hb
  have HSX : Hid (SetAt w5 aX nX cX S) := hS
  replace HB : Hid (Below w.heap.size w w5) := chain HB.out hb
  clear hS hb
  have nXb : nX ≤ 120 := by rw [← HSX.out.len]; exact G.out.ls
  go_wp2_with fail
  refine (add_c HSB.out HSA.out (by omega) (by omega) G.out.ba').mono ?_
  rintro e w6 ⟨aY, nY, cY, rfl, hS, hb⟩
  replace HSA : Hid (SetAt w6 aA nA cA A) := HSA.out.later hb
  replace HSB : Hid (SetAt w6 aB nB cB B) := HSB.out.later hb
  replace HSC : Hid (SetAt w6 aC nC cC C) := HSC.out.later hb
  replace HSX : Hid (SetAt w6 aX nX cX S) := HSX.out.later hb
  have HSY : Hid (SetAt w6 aY nY cY S) := hS
  replace HB : Hid (Below w.heap.size w w6) := chain HB.out hb
  clear hS hb
  have nYb : nY ≤ 120 := by rw [← HSY.out.len]; exact G.out.ls
  go_wp2_with fail
  refine (neg_c HSA.out (by omega) G.out.ra).mono ?_
  rintro e w7 ⟨aN, nN, cN, rfl, hS, hb⟩
  replace HSA : Hid (SetAt w7 aA nA cA A) := HSA.out.later hb
  replace HSB : Hid (SetAt w7 aB nB cB B) := HSB.out.later hb
  replace HSC : Hid (SetAt w7 aC nC cC C) := HSC.out.later hb
  replace HSX : Hid (SetAt w7 aX nX cX S) := HSX.out.later hb
  replace HSY : Hid (SetAt w7 aY nY cY S) := HSY.out.later hb
  have HSN : Hid (SetAt w7 aN nN cN (negZ A)) := hS
  replace HB : Hid (Below w.heap.size w w7) := chain HB.out hb
  clear hS hb
  have nNb : nN ≤ 60 := by rw [← HSN.out.len]; rw [negZ_len]; exact G.out.la
  go_wp2_with fail
  refine (add_c HSA.out HSN.out (by omega) (by omega) (add_neg G.out.ra)).mono ?_
  rintro e w8 ⟨aZ, nZ, cZ, rfl, hS, hb⟩
  replace HSA : Hid (SetAt w8 aA nA cA A) := HSA.out.later hb
  replace HSB : Hid (SetAt w8 aB nB cB B) := HSB.out.later hb
  replace HSC : Hid (SetAt w8 aC nC cC C) := HSC.out.later hb
  replace HSX : Hid (SetAt w8 aX nX cX S) := HSX.out.later hb
  replace HSY : Hid (SetAt w8 aY nY cY S) := HSY.out.later hb
  replace HSN : Hid (SetAt w8 aN nN cN (negZ A)) := HSN.out.later hb
  have HSZ : Hid (SetAt w8 aZ nZ cZ []) := hS
  replace HB : Hid (Below w.heap.size w w8) := chain HB.out hb
  clear hS hb
  have nZb : nZ ≤ 0 := by rw [← HSZ.out.len]; simp
  obtain rfl : nZ = 0 := by omega
  go_wp2_with fail
  refine (neg_c HSN.out (by omega) (negZ_rise G.out.ra)).mono ?_
  rintro e w9 ⟨aM, nM, cM, rfl, hS, hb⟩
  replace HSA : Hid (SetAt w9 aA nA cA A) := HSA.out.later hb
  replace HSB : Hid (SetAt w9 aB nB cB B) := HSB.out.later hb
  replace HSC : Hid (SetAt w9 aC nC cC C) := HSC.out.later hb
  replace HSX : Hid (SetAt w9 aX nX cX S) := HSX.out.later hb
  replace HSY : Hid (SetAt w9 aY nY cY S) := HSY.out.later hb
  replace HSN : Hid (SetAt w9 aN nN cN (negZ A)) := HSN.out.later hb
  replace HSZ : Hid (SetAt w9 aZ 0 cZ []) := HSZ.out.later hb
  have HSM : Hid (SetAt w9 aM nM cM (negZ (negZ A))) := hS
  replace HB : Hid (Below w.heap.size w w9) := chain HB.out hb
  clear hS hb
  have nMb : nM ≤ 60 := by rw [← HSM.out.len]; rw [negZ_neg]; exact G.out.la
  go_wp2_with fail
  refine (same_c HSX.out HSY.out (by omega) rfl).mono ?_
  rintro e w10 ⟨rfl, hb⟩
  replace HSA : Hid (SetAt w10 aA nA cA A) := HSA.out.later hb
  replace HSB : Hid (SetAt w10 aB nB cB B) := HSB.out.later hb
  replace HSC : Hid (SetAt w10 aC nC cC C) := HSC.out.later hb
  replace HSX : Hid (SetAt w10 aX nX cX S) := HSX.out.later hb
  replace HSY : Hid (SetAt w10 aY nY cY S) := HSY.out.later hb
  replace HSN : Hid (SetAt w10 aN nN cN (negZ A)) := HSN.out.later hb
  replace HSZ : Hid (SetAt w10 aZ 0 cZ []) := HSZ.out.later hb
  replace HSM : Hid (SetAt w10 aM nM cM (negZ (negZ A))) := HSM.out.later hb
  replace HB : Hid (Below w.heap.size w w10) := chain HB.out hb
  clear hb
  go_wp2_with fail
  refine (same_c HSM.out HSA.out (by omega) (negZ_neg A)).mono ?_
  rintro e w11 ⟨rfl, hb⟩
  replace HSA : Hid (SetAt w11 aA nA cA A) := HSA.out.later hb
  replace HSB : Hid (SetAt w11 aB nB cB B) := HSB.out.later hb
  replace HSC : Hid (SetAt w11 aC nC cC C) := HSC.out.later hb
  replace HSX : Hid (SetAt w11 aX nX cX S) := HSX.out.later hb
  replace HSY : Hid (SetAt w11 aY nY cY S) := HSY.out.later hb
  replace HSN : Hid (SetAt w11 aN nN cN (negZ A)) := HSN.out.later hb
  replace HSZ : Hid (SetAt w11 aZ 0 cZ []) := HSZ.out.later hb
  replace HSM : Hid (SetAt w11 aM nM cM (negZ (negZ A))) := HSM.out.later hb
  replace HB : Hid (Below w.heap.size w w11) := chain HB.out hb
  clear hb
  go_wp2_with fail
  refine (check_c HSX.out (by omega) G.out.rs).mono ?_
  rintro e w12 ⟨rfl, hb⟩
  replace HSA : Hid (SetAt w12 aA nA cA A) := HSA.out.later hb
  replace HSB : Hid (SetAt w12 aB nB cB B) := HSB.out.later hb
  replace HSC : Hid (SetAt w12 aC nC cC C) := HSC.out.later hb
  replace HSX : Hid (SetAt w12 aX nX cX S) := HSX.out.later hb
  replace HSY : Hid (SetAt w12 aY nY cY S) := HSY.out.later hb
  replace HSN : Hid (SetAt w12 aN nN cN (negZ A)) := HSN.out.later hb
  replace HSZ : Hid (SetAt w12 aZ 0 cZ []) := HSZ.out.later hb
  replace HSM : Hid (SetAt w12 aM nM cM (negZ (negZ A))) := HSM.out.later hb
  replace HB : Hid (Below w.heap.size w w12) := chain HB.out hb
  clear hb
  clear HSY HSZ HSM nZb
  go_wp2_with fail
  refine (add_c HSX.out HSC.out (by omega) (by omega) G.out.sc).mono ?_
  rintro e w13 ⟨aP, nP, cP, rfl, hS, hb⟩
  replace HSA : Hid (SetAt w13 aA nA cA A) := HSA.out.later hb
  replace HSB : Hid (SetAt w13 aB nB cB B) := HSB.out.later hb
  replace HSC : Hid (SetAt w13 aC nC cC C) := HSC.out.later hb
  replace HSX : Hid (SetAt w13 aX nX cX S) := HSX.out.later hb
  replace HSN : Hid (SetAt w13 aN nN cN (negZ A)) := HSN.out.later hb
  have HSP : Hid (SetAt w13 aP nP cP P) := hS
  replace HB : Hid (Below w.heap.size w w13) := chain HB.out hb
  clear hS hb
  have nPb : nP ≤ 180 := by rw [← HSP.out.len]; exact G.out.lp
  go_wp2_with fail
  refine (add_c HSB.out HSC.out (by omega) (by omega) G.out.bc).mono ?_
  rintro e w14 ⟨aQ, nQ, cQ, rfl, hS, hb⟩
  replace HSA : Hid (SetAt w14 aA nA cA A) := HSA.out.later hb
  replace HSB : Hid (SetAt w14 aB nB cB B) := HSB.out.later hb
  replace HSC : Hid (SetAt w14 aC nC cC C) := HSC.out.later hb
  replace HSX : Hid (SetAt w14 aX nX cX S) := HSX.out.later hb
  replace HSN : Hid (SetAt w14 aN nN cN (negZ A)) := HSN.out.later hb
  replace HSP : Hid (SetAt w14 aP nP cP P) := HSP.out.later hb
  have HSQ : Hid (SetAt w14 aQ nQ cQ Q) := hS
  replace HB : Hid (Below w.heap.size w w14) := chain HB.out hb
  clear hS hb
  have nQb : nQ ≤ 120 := by rw [← HSQ.out.len]; exact G.out.lq
  go_wp2_with fail
  refine (add_c HSA.out HSQ.out (by omega) (by omega) G.out.aq).mono ?_
  rintro e w15 ⟨aR, nR, cR, rfl, hS, hb⟩
  replace HSA : Hid (SetAt w15 aA nA cA A) := HSA.out.later hb
  replace HSB : Hid (SetAt w15 aB nB cB B) := HSB.out.later hb
  replace HSC : Hid (SetAt w15 aC nC cC C) := HSC.out.later hb
  replace HSX : Hid (SetAt w15 aX nX cX S) := HSX.out.later hb
  replace HSN : Hid (SetAt w15 aN nN cN (negZ A)) := HSN.out.later hb
  replace HSP : Hid (SetAt w15 aP nP cP P) := HSP.out.later hb
  replace HSQ : Hid (SetAt w15 aQ nQ cQ Q) := HSQ.out.later hb
  have HSR : Hid (SetAt w15 aR nR cR P) := hS
  replace HB : Hid (Below w.heap.size w w15) := chain HB.out hb
  clear hS hb
  have nRb : nR ≤ 180 := by rw [← HSR.out.len]; exact G.out.lp
  go_wp2_with fail
  refine (same_c HSP.out HSR.out (by omega) rfl).mono ?_
  rintro e w16 ⟨rfl, hb⟩
  replace HSA : Hid (SetAt w16 aA nA cA A) := HSA.out.later hb
  replace HSB : Hid (SetAt w16 aB nB cB B) := HSB.out.later hb
  replace HSC : Hid (SetAt w16 aC nC cC C) := HSC.out.later hb
  replace HSX : Hid (SetAt w16 aX nX cX S) := HSX.out.later hb
  replace HSN : Hid (SetAt w16 aN nN cN (negZ A)) := HSN.out.later hb
  replace HSP : Hid (SetAt w16 aP nP cP P) := HSP.out.later hb
  replace HSQ : Hid (SetAt w16 aQ nQ cQ Q) := HSQ.out.later hb
  replace HSR : Hid (SetAt w16 aR nR cR P) := HSR.out.later hb
  replace HB : Hid (Below w.heap.size w w16) := chain HB.out hb
  clear hb
  clear HSC HSP HSQ HSR
  obtain ⟨hs1, hs2, hs3, hs4, hs5, hs6⟩ := group_size G.out
  have HSZ : Hid (sizeZ S ≤ sizeZ A + sizeZ B ∧ 0 ≤ sizeZ A ∧ 0 ≤ sizeZ B ∧ sizeZ A ≤ 356400 ∧ sizeZ B ≤ 356400 ∧ sizeZ (negZ A) = sizeZ A) := ⟨hs1, hs2, hs3, hs4, hs5, hs6⟩
  clear hs1 hs2 hs3 hs4 hs5 hs6
  go_wp2
  go_loopw [20] (fun i wq => ∃ k : Nat, k ≤ nA ∧ i = .int .i64 k ∧ Hid (Below w16.heap.size w16 wq)) (fun i _ => nA - (RowKit.intOf i).toNat)
  case atStart => exact ⟨0, Nat.zero_le _, rfl, Below.refl _ _⟩
  case round =>
    obtain ⟨k, hk, rfl, hBq⟩ := hrel
    rename World => wq
    by_cases hlt : k < nA
    · have hkA : k < A.length := by rw [HSA.out.len]; exact hlt
      obtain ⟨b', off, ra, rc, hab, x0, x1, hz0⟩ := (HSA.out.rd.later hBq.out).at_ hkA
      obtain ⟨g1, g2, g3, g4, g5, g6⟩ := group_weight G.out (List.getElem_mem hkA)
      have CW : ∀ {aX : Option Addr} {nX cX : Nat} {R : List PI} (V : World), SetAt wq aX nX cX R → nX ≤ 65536 → Below wq.heap.size wq V → Calls Try.prog 14 #[.slice aX nX cX, .slice ra A[k].row.length rc] V fun e w' => e = .returned (.int .i64 (weightZ R A[k].row)) ∧ Below V.heap.size V w' := by
        intro aX nX cX R V hs hle hb
        obtain ⟨a1, c1, f1, r1, l1, -⟩ := hz0.later hb
        cases f1
        exact zWeight_any aX nX cX R ra A[k].row.length rc A[k].row V hs.len hle (hs.rd.later hb) rfl l1 r1
      have CX : ∀ V, Below wq.heap.size wq V → _ := fun V hb => CW V (HSX.out.later hBq.out) (by omega) hb
      have CB : ∀ V, Below wq.heap.size wq V → _ := fun V hb => CW V (HSB.out.later hBq.out) (by omega) hb
      have CN : ∀ V, Below wq.heap.size wq V → _ := fun V hb => CW V (HSN.out.later hBq.out) (by omega) hb
      simp only [g1] at CX
      simp only [g2] at CN
      clear hz0 CW g1 g2
      subst hab
      generalize weightZ B A[k].row = wb at *
      generalize A[k].row.length = rn at *
      generalize A[k].wt = p at *
      have e1 : wrap64 (p + wb) = p + wb := wrap_in (by omega)
      have e2 : IntKind.i64.wrap (p + wb) = p + wb := by rw [IntKind.wrap_i64]; omega
      have e3 : wrap64 (-p) = -p := wrap_in (by omega)
      have e4 : IntKind.i64.wrap (-p) = -p := by rw [IntKind.wrap_i64]; omega
      clear hkA g3 g4 g5 g6
      have k0 : (0 : Int) ≤ (k : Int) := by omega
      have k1 : (k : Int) < (nA : Int) := by omega
      go_upto_region 19 with fail
      have HS : wq.drew.cell? ⟨b', off + k * 2, none⟩ = some (.slice ra rn rc) ∧ wq.drew.cell? ⟨b', off + k * 2 + 1, none⟩ = some (.int .i64 p) ∧ Hid (Below wq.heap.size wq wq.drew) := keep2M (Below.refl _ _).drew ⟨x0, x1, Below.refl _ _⟩
      clear x0 x1
      refine wp_region_held_drew (S := (fun w' => w'.cell? ⟨b', off + k * 2, none⟩ = some (.slice ra rn rc) ∧ w'.cell? ⟨b', off + k * 2 + 1, none⟩ = some (.int .i64 p) ∧ Hid (Below wq.heap.size wq w'))) (by kernel_rfl) HS (fun hHeld => ?_)
      refine heldTake (v := ?_) 0 140 rfl rfl (by kernel_rfl) (by kernel_rfl) (by kernel_rfl) (fun _ _ _ h => h) (by rfl) (fun w hSw => ?_) (by assumption) ?_
      rotate_left
      · (try dsimp only at hSw); first | (go_simp; done) | (go_simp; with_reducible rfl)
      simp only [List.setIfInBounds_toArray, List.set_cons_zero, List.set_cons_succ]
      refine heldTake (v := ?_) 1 141 rfl rfl (by kernel_rfl) (by kernel_rfl) (by kernel_rfl) (fun _ _ _ h => h) (by rfl) (fun w hSw => ?_) (by assumption) ?_
      rotate_left
      · (try dsimp only at hSw); first | (go_simp; done) | (go_simp; with_reducible rfl)
      simp only [List.setIfInBounds_toArray, List.set_cons_zero, List.set_cons_succ]
      refine heldTake (v := ?_) 2 142 rfl rfl (by kernel_rfl) (by kernel_rfl) (by kernel_rfl) (fun _ _ _ h => h) (by rfl) (fun w hSw => ?_) (by assumption) ?_
      rotate_left
      · (try dsimp only at hSw); first | (go_simp; done) | (go_simp; with_reducible rfl)
      simp only [List.setIfInBounds_toArray, List.set_cons_zero, List.set_cons_succ]
      refine heldTake (v := ?_) 3 143 rfl rfl (by kernel_rfl) (by kernel_rfl) (by kernel_rfl) (fun _ _ _ h => h) (by rfl) (fun w hSw => ?_) (by assumption) ?_
      rotate_left
      · (try dsimp only at hSw); first | (go_simp; done) | (go_simp; with_reducible rfl)
      simp only [List.setIfInBounds_toArray, List.set_cons_zero, List.set_cons_succ]
      refine heldTake (v := ?_) 4 144 rfl rfl (by kernel_rfl) (by kernel_rfl) (by kernel_rfl) (fun _ _ _ h => h) (by rfl) (fun w hSw => ?_) (by assumption) ?_
      rotate_left
      · (try dsimp only at hSw); first | (go_simp; done) | (go_simp; with_reducible rfl)
      simp only [List.setIfInBounds_toArray, List.set_cons_zero, List.set_cons_succ]
      refine heldTake (v := ?_) 5 145 rfl rfl (by kernel_rfl) (by kernel_rfl) (by kernel_rfl) (fun _ _ _ h => h) (by rfl) (fun w hSw => ?_) (by assumption) ?_
      rotate_left
      · (try dsimp only at hSw); first | (go_simp; done) | (go_simp; with_reducible rfl)
      simp only [List.setIfInBounds_toArray, List.set_cons_zero, List.set_cons_succ]
      refine heldTake (v := ?_) 7 147 rfl rfl (by kernel_rfl) (by kernel_rfl) (by kernel_rfl) (fun _ _ _ h => h) (by rfl) (fun w hSw => ?_) (by assumption) ?_
      rotate_left
      · (try dsimp only at hSw); first | (go_simp; done) | (go_simp; with_reducible rfl)
      simp only [List.setIfInBounds_toArray, List.set_cons_zero, List.set_cons_succ]
      refine heldTake (v := ?_) 8 148 rfl rfl (by kernel_rfl) (by kernel_rfl) (by kernel_rfl) (fun _ _ _ h => h) (by rfl) (fun w hSw => ?_) (by assumption) ?_
      rotate_left
      · (try dsimp only at hSw); first | (go_simp; done) | (go_simp; with_reducible rfl)
      simp only [List.setIfInBounds_toArray, List.set_cons_zero, List.set_cons_succ]
      refine heldTake (v := ?_) 9 149 rfl rfl (by kernel_rfl) (by kernel_rfl) (by kernel_rfl) (fun _ _ _ h => h) (by rfl) (fun w hSw => ?_) (by assumption) ?_
      rotate_left
      · (try dsimp only at hSw); first | (go_simp; done) | (go_simp; with_reducible rfl)
      simp only [List.setIfInBounds_toArray, List.set_cons_zero, List.set_cons_succ]
      refine heldTake (v := ?_) 10 150 rfl rfl (by kernel_rfl) (by kernel_rfl) (by kernel_rfl) (fun _ _ _ h => h) (by rfl) (fun w hSw => ?_) (by assumption) ?_
      rotate_left
      · (try dsimp only at hSw); first | (go_simp; done) | (go_simp; with_reducible rfl)
      simp only [List.setIfInBounds_toArray, List.set_cons_zero, List.set_cons_succ]
      refine heldTake (v := ?_) 11 151 rfl rfl (by kernel_rfl) (by kernel_rfl) (by kernel_rfl) (fun _ _ _ h => h) (by rfl) (fun w hSw => ?_) (by assumption) ?_
      rotate_left
      · (try dsimp only at hSw); first | (go_simp; done) | (go_simp; with_reducible rfl)
      simp only [List.setIfInBounds_toArray, List.set_cons_zero, List.set_cons_succ]
      refine heldTake (v := ?_) 12 152 rfl rfl (by kernel_rfl) (by kernel_rfl) (by kernel_rfl) (fun _ _ _ h => h) (by rfl) (fun w hSw => ?_) (by assumption) ?_
      rotate_left
      · (try dsimp only at hSw); first | (go_simp; done) | (go_simp; with_reducible rfl)
      simp only [List.setIfInBounds_toArray, List.set_cons_zero, List.set_cons_succ]
      refine heldTake (v := ?_) 13 153 rfl rfl (by kernel_rfl) (by kernel_rfl) (by kernel_rfl) (fun _ _ _ h => h) (by rfl) (fun w hSw => ?_) (by assumption) ?_
      rotate_left
      · (try dsimp only at hSw); first | (go_simp; done) | (go_simp; with_reducible rfl)
      simp only [List.setIfInBounds_toArray, List.set_cons_zero, List.set_cons_succ]
      refine heldTake (v := ?_) 14 154 rfl rfl (by kernel_rfl) (by kernel_rfl) (by kernel_rfl) (fun _ _ _ h => h) (by rfl) (fun w hSw => ?_) (by assumption) ?_
      rotate_left
      · (try dsimp only at hSw); first | (go_simp; done) | (go_simp; with_reducible rfl)
      simp only [List.setIfInBounds_toArray, List.set_cons_zero, List.set_cons_succ]
      refine heldTake (v := ?_) 15 155 rfl rfl (by kernel_rfl) (by kernel_rfl) (by kernel_rfl) (fun _ _ _ h => h) (by rfl) (fun w hSw => ?_) (by assumption) ?_
      rotate_left
      · (try dsimp only at hSw); first | (go_simp; done) | (go_simp; with_reducible rfl)
      simp only [List.setIfInBounds_toArray, List.set_cons_zero, List.set_cons_succ]
      refine heldTake (v := ?_) 16 156 rfl rfl (by kernel_rfl) (by kernel_rfl) (by kernel_rfl) (fun _ _ _ h => h) (by rfl) (fun w hSw => ?_) (by assumption) ?_
      rotate_left
      · (try dsimp only at hSw); first | (go_simp; done) | (go_simp; with_reducible rfl)
      simp only [List.setIfInBounds_toArray, List.set_cons_zero, List.set_cons_succ]
      refine heldTake (v := ?_) 17 157 rfl rfl (by kernel_rfl) (by kernel_rfl) (by kernel_rfl) (fun _ _ _ h => h) (by rfl) (fun w hSw => ?_) (by assumption) ?_
      rotate_left
      · (try dsimp only at hSw); first | (go_simp; done) | (go_simp; with_reducible rfl)
      simp only [List.setIfInBounds_toArray, List.set_cons_zero, List.set_cons_succ]
      refine heldOne 6 rfl (by kernel_rfl) (by rfl) (fun K2 hK => ?_)
      go_simp
      refine (CX _ hHeld.2.2.out).mono ?_
      rintro e wz ⟨rfl, hb⟩
      simp only []
      refine hK.out _ _ ?_ (fun hHeld => ?_)
      · first | exact keep2M (by assumption) (by assumption) | exact keep2M (Below.refl _ _).drew (by assumption)
      clear hK K2
      try simp only [List.setIfInBounds_toArray, List.set_cons_zero, List.set_cons_succ]
      refine heldOne 18 rfl (by kernel_rfl) (by rfl) (fun K2 hK => ?_)
      go_simp
      refine (CB _ hHeld.2.2.out).mono ?_
      rintro e wz ⟨rfl, hb⟩
      simp only []
      refine hK.out _ _ ?_ (fun hHeld => ?_)
      · first | exact keep2M (by assumption) (by assumption) | exact keep2M (Below.refl _ _).drew (by assumption)
      clear hK K2
      try simp only [List.setIfInBounds_toArray, List.set_cons_zero, List.set_cons_succ]
      refine heldTake (v := ?_) 19 159 rfl rfl (by kernel_rfl) (by kernel_rfl) (by kernel_rfl) (fun _ _ _ h => h) (by rfl) (fun w hSw => ?_) (by assumption) ?_
      rotate_left
      · (try dsimp only at hSw); first | (go_simp; done) | (go_simp; with_reducible rfl)
      simp only [List.setIfInBounds_toArray, List.set_cons_zero, List.set_cons_succ]
      refine heldTake (v := ?_) 20 160 rfl rfl (by kernel_rfl) (by kernel_rfl) (by kernel_rfl) (fun _ _ _ h => h) (by rfl) (fun w hSw => ?_) (by assumption) ?_
      rotate_left
      · (try dsimp only at hSw); first | (go_simp; done) | (go_simp; with_reducible rfl)
      simp only [List.setIfInBounds_toArray, List.set_cons_zero, List.set_cons_succ]
      refine heldTake (v := ?_) 21 161 rfl rfl (by kernel_rfl) (by kernel_rfl) (by kernel_rfl) (fun _ _ _ h => h) (by rfl) (fun w hSw => ?_) (by assumption) ?_
      rotate_left
      · (try dsimp only at hSw); first | (go_simp; done) | (go_simp; with_reducible rfl)
      simp only [List.setIfInBounds_toArray, List.set_cons_zero, List.set_cons_succ]
      refine heldTake (v := ?_) 22 162 rfl rfl (by kernel_rfl) (by kernel_rfl) (by kernel_rfl) (fun _ _ _ h => h) (by rfl) (fun w hSw => ?_) (by assumption) ?_
      rotate_left
      · (try dsimp only at hSw); first | (go_simp; done) | (go_simp; with_reducible rfl)
      simp only [List.setIfInBounds_toArray, List.set_cons_zero, List.set_cons_succ]
      refine heldTake (v := ?_) 23 163 rfl rfl (by kernel_rfl) (by kernel_rfl) (by kernel_rfl) (fun _ _ _ h => h) (by rfl) (fun w hSw => ?_) (by assumption) ?_
      rotate_left
      · (try dsimp only at hSw); first | (go_simp; done) | (go_simp; with_reducible rfl)
      simp only [List.setIfInBounds_toArray, List.set_cons_zero, List.set_cons_succ]
      refine heldTake (v := ?_) 24 164 rfl rfl (by kernel_rfl) (by kernel_rfl) (by kernel_rfl) (fun _ _ _ h => h) (by rfl) (fun w hSw => ?_) (by assumption) ?_
      rotate_left
      · (try dsimp only at hSw); first | (go_simp; done) | (go_simp; with_reducible rfl)
      simp only [List.setIfInBounds_toArray, List.set_cons_zero, List.set_cons_succ]
      refine heldTake (v := ?_) 25 165 rfl rfl (by kernel_rfl) (by kernel_rfl) (by kernel_rfl) (fun _ _ _ h => h) (by rfl) (fun w hSw => ?_) (by assumption) ?_
      rotate_left
      · (try dsimp only at hSw); first | (go_simp; done) | (go_simp; with_reducible rfl)
      simp only [List.setIfInBounds_toArray, List.set_cons_zero, List.set_cons_succ]
      refine heldTake (v := ?_) 26 166 rfl rfl (by kernel_rfl) (by kernel_rfl) (by kernel_rfl) (fun _ _ _ h => h) (by rfl) (fun w hSw => ?_) (by assumption) ?_
      rotate_left
      · (try dsimp only at hSw); first | (go_simp; done) | (go_simp; with_reducible rfl)
      simp only [List.setIfInBounds_toArray, List.set_cons_zero, List.set_cons_succ]
      refine heldTake (v := ?_) 27 167 rfl rfl (by kernel_rfl) (by kernel_rfl) (by kernel_rfl) (fun _ _ _ h => h) (by rfl) (fun w hSw => ?_) (by assumption) ?_
      rotate_left
      · (try dsimp only at hSw); first | (go_simp; done) | (go_simp; with_reducible rfl)
      simp only [List.setIfInBounds_toArray, List.set_cons_zero, List.set_cons_succ]
      refine heldTake (v := ?_) 29 169 rfl rfl (by kernel_rfl) (by kernel_rfl) (by kernel_rfl) (fun _ _ _ h => h) (by rfl) (fun w hSw => ?_) (by assumption) ?_
      rotate_left
      · (try dsimp only at hSw); first | (go_simp; done) | (go_simp; with_reducible rfl)
      simp only [List.setIfInBounds_toArray, List.set_cons_zero, List.set_cons_succ]
      refine heldTake (v := ?_) 30 170 rfl rfl (by kernel_rfl) (by kernel_rfl) (by kernel_rfl) (fun _ _ _ h => h) (by rfl) (fun w hSw => ?_) (by assumption) ?_
      rotate_left
      · (try dsimp only at hSw); first | (go_simp; done) | (go_simp; with_reducible rfl)
      simp only [List.setIfInBounds_toArray, List.set_cons_zero, List.set_cons_succ]
      refine heldTake (v := ?_) 31 171 rfl rfl (by kernel_rfl) (by kernel_rfl) (by kernel_rfl) (fun _ _ _ h => h) (by rfl) (fun w hSw => ?_) (by assumption) ?_
      rotate_left
      · (try dsimp only at hSw); first | (go_simp; done) | (go_simp; with_reducible rfl)
      simp only [List.setIfInBounds_toArray, List.set_cons_zero, List.set_cons_succ]
      refine heldTake (v := ?_) 32 172 rfl rfl (by kernel_rfl) (by kernel_rfl) (by kernel_rfl) (fun _ _ _ h => h) (by rfl) (fun w hSw => ?_) (by assumption) ?_
      rotate_left
      · (try dsimp only at hSw); first | (go_simp; done) | (go_simp; with_reducible rfl)
      simp only [List.setIfInBounds_toArray, List.set_cons_zero, List.set_cons_succ]
      refine heldTake (v := ?_) 33 173 rfl rfl (by kernel_rfl) (by kernel_rfl) (by kernel_rfl) (fun _ _ _ h => h) (by rfl) (fun w hSw => ?_) (by assumption) ?_
      rotate_left
      · (try dsimp only at hSw); first | (go_simp; done) | (go_simp; with_reducible rfl)
      simp only [List.setIfInBounds_toArray, List.set_cons_zero, List.set_cons_succ]
      refine heldTake (v := ?_) 34 174 rfl rfl (by kernel_rfl) (by kernel_rfl) (by kernel_rfl) (fun _ _ _ h => h) (by rfl) (fun w hSw => ?_) (by assumption) ?_
      rotate_left
      · (try dsimp only at hSw); first | (go_simp; done) | (go_simp; with_reducible rfl)
      simp only [List.setIfInBounds_toArray, List.set_cons_zero, List.set_cons_succ]
      refine heldOne 28 rfl (by kernel_rfl) (by rfl) (fun K2 hK => ?_)
      go_simp
      refine (CN _ hHeld.2.2.out).mono ?_
      rintro e wz ⟨rfl, hb⟩
      simp only []
      refine hK.out _ _ ?_ (fun hHeld => ?_)
      · first | exact keep2M (by assumption) (by assumption) | exact keep2M (Below.refl _ _).drew (by assumption)
      clear hK K2
      try simp only [List.setIfInBounds_toArray, List.set_cons_zero, List.set_cons_succ]
      refine heldTake (v := ?_) 35 175 rfl rfl (by kernel_rfl) (by kernel_rfl) (by kernel_rfl) (fun _ _ _ h => h) (by rfl) (fun w hSw => ?_) (by assumption) ?_
      rotate_left
      · (try dsimp only at hSw); first | (go_simp; done) | (go_simp; with_reducible rfl)
      simp only [List.setIfInBounds_toArray, List.set_cons_zero, List.set_cons_succ]
      refine heldTake (v := ?_) 36 176 rfl rfl (by kernel_rfl) (by kernel_rfl) (by kernel_rfl) (fun _ _ _ h => h) (by rfl) (fun w hSw => ?_) (by assumption) ?_
      rotate_left
      · (try dsimp only at hSw); first | (go_simp; done) | (go_simp; with_reducible rfl)
      simp only [List.setIfInBounds_toArray, List.set_cons_zero, List.set_cons_succ]
      refine wpAnyH_done (by kernel_rfl) ?_ _
      have HB9 := hHeld.2.2
      clear hHeld HS CX CB CN
      go_wp2
      go_roundw
      case rel => exact ⟨k + 1, by omega, by go_num, chain hBq.out HB9.out⟩
      case measure => simp [RowKit.intOf]; omega
    · obtain ⟨hs1, hs2, hs3, hs4, hs5, hs6⟩ := HSZ.out
      have HBR : Hid (Below w.heap.size w wq) := chain HB.out hBq.out
      have CX := size_c (HSX.out.later hBq.out) (by omega)
      have CA : ∀ V, Below wq.heap.size wq V → _ := fun V hb => size_c ((HSA.out.later hBq.out).later hb) (by omega)
      have CB : ∀ V, Below wq.heap.size wq V → _ := fun V hb => size_c ((HSB.out.later hBq.out).later hb) (by omega)
      have CN : ∀ V, Below wq.heap.size wq V → _ := fun V hb => size_c ((HSN.out.later hBq.out).later hb) (by omega)
      simp only [hs6] at CN
      generalize sizeZ S = sx at *
      generalize sizeZ A = sa at *
      generalize sizeZ B = sb at *
      have e1 : wrap64 (sa + sb) = sa + sb := wrap_in (by omega)
      have e2 : decide (sx ≤ sa + sb) = true := decide_eq_true hs1
      clear HSZ
      go_wp2_with fail
      refine CX.mono ?_
      rintro e v1 ⟨rfl, h1⟩
      go_wp2_with fail
      refine (CA v1 h1).mono ?_
      rintro e v2 ⟨rfl, hb⟩
      have h2 := chain h1 hb
      clear hb
      go_wp2_with fail
      refine (CB v2 h2).mono ?_
      rintro e v3 ⟨rfl, hb⟩
      have h3 := chain h2 hb
      clear hb
      go_wp2_with fail
      refine (CN v3 h3).mono ?_
      rintro e v4 ⟨rfl, hb⟩
      have h4 := chain h3 hb
      clear hb
      go_wp2_with fail
      refine (CA v4 h4).mono ?_
      rintro e v5 ⟨rfl, hb⟩
      have h5 := chain h4 hb
      clear hb
      go_wp2_with fail
      refine (zwakes_any _).mono ?_
      rintro e v6 ⟨rfl, hb⟩
      go_wp2
      go_ret
      exact ⟨by simp, chain HBR.out (chain h5 hb)⟩

theorem group_any (a b c : Option Addr) (n m l cap dap eap : Nat) (X Y Z : List PI) (w : World) (hn : X.length = n) (hm : Y.length = m) (hl : Z.length = l) (n1 : n ≤ 9223372036854775807) (n2 : m ≤ 9223372036854775807) (n3 : l ≤ 9223372036854775807) (hX : RdJ w a X) (hY : RdJ w b Y) (hZ : RdJ w c Z) :
    Calls Try.prog 4 #[.slice a n cap, .slice b m dap, .slice c l eap] w fun e w' => e = .returned (.bool true) ∧ Below w.heap.size w w' := by
  cases hx : heavyI X with
  | true => exact group_heavy a b c n m l cap dap eap X Y Z w hn hm hl n1 n2 n3 hX hY hZ (by rw [hx]; rfl)
  | false =>
    cases hy : heavyI Y with
    | true => exact group_heavy a b c n m l cap dap eap X Y Z w hn hm hl n1 n2 n3 hX hY hZ (by rw [hx, hy]; rfl)
    | false =>
      cases hz : heavyI Z with
      | true => exact group_heavy a b c n m l cap dap eap X Y Z w hn hm hl n1 n2 n3 hX hY hZ (by rw [hx, hy, hz]; rfl)
      | false => exact group_light a b c n m l cap dap eap X Y Z w hn hm hl n1 n2 n3 hX hY hZ hx hy hz

end Go.Proofs.Ytajlkaedkifaoaa
