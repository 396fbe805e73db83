/-
  HlcLater's walk: what the law answers, whatever its times.
-/
import Derived.Test.YtncidjlobjgibaaRows
import Derived.Test.YtncidjlobjgibaaHCh
import Derived.Test.YtncidjlobjgibaaHMem
namespace Go.Proofs.Ytncidjlobjgibaa
open Go.RowKit Go.Lib
set_option linter.unusedVariables false

/-- Three cells, and three more, stay. -/
theorem keep3 {w w' : World} {b o : Nat} {x y z : Value} (hb : Below w.heap.size w w')
    (H : w.cell? ⟨b, o, none⟩ = some x ∧ w.cell? ⟨b, o + 1, none⟩ = some y ∧ w.cell? ⟨b, o + 2, none⟩ = some z) :
    w'.cell? ⟨b, o, none⟩ = some x ∧ w'.cell? ⟨b, o + 1, none⟩ = some y ∧ w'.cell? ⟨b, o + 2, none⟩ = some z :=
  ⟨cell_later hb H.1, cell_later hb H.2.1, cell_later hb H.2.2⟩

theorem keep3B {B : Nat} {w w' : World} {b o : Nat} {x y z : Value} (hb : Below B w w') (h : b < B)
    (H : w.cell? ⟨b, o, none⟩ = some x ∧ w.cell? ⟨b, o + 1, none⟩ = some y ∧ w.cell? ⟨b, o + 2, none⟩ = some z) :
    w'.cell? ⟨b, o, none⟩ = some x ∧ w'.cell? ⟨b, o + 1, none⟩ = some y ∧ w'.cell? ⟨b, o + 2, none⟩ = some z :=
  ⟨(hb.cell (p := ⟨b, o, none⟩) h).trans H.1, (hb.cell (p := ⟨b, o + 1, none⟩) h).trans H.2.1, (hb.cell (p := ⟨b, o + 2, none⟩) h).trans H.2.2⟩

theorem keep6 {w w' : World} {b o c q : Nat} {x y z x' y' z' : Value} (hb : Below w.heap.size w w')
    (H : w.cell? ⟨b, o, none⟩ = some x ∧ w.cell? ⟨b, o + 1, none⟩ = some y ∧ w.cell? ⟨b, o + 2, none⟩ = some z ∧ w.cell? ⟨c, q, none⟩ = some x' ∧ w.cell? ⟨c, q + 1, none⟩ = some y' ∧ w.cell? ⟨c, q + 2, none⟩ = some z') :
    w'.cell? ⟨b, o, none⟩ = some x ∧ w'.cell? ⟨b, o + 1, none⟩ = some y ∧ w'.cell? ⟨b, o + 2, none⟩ = some z ∧ w'.cell? ⟨c, q, none⟩ = some x' ∧ w'.cell? ⟨c, q + 1, none⟩ = some y' ∧ w'.cell? ⟨c, q + 2, none⟩ = some z' :=
  ⟨cell_later hb H.1, cell_later hb H.2.1, cell_later hb H.2.2.1, cell_later hb H.2.2.2.1, cell_later hb H.2.2.2.2.1, cell_later hb H.2.2.2.2.2⟩

theorem keep6B {B : Nat} {w w' : World} {b o c q : Nat} {x y z x' y' z' : Value} (hb : Below B w w') (h : b < B) (h' : c < B)
    (H : w.cell? ⟨b, o, none⟩ = some x ∧ w.cell? ⟨b, o + 1, none⟩ = some y ∧ w.cell? ⟨b, o + 2, none⟩ = some z ∧ w.cell? ⟨c, q, none⟩ = some x' ∧ w.cell? ⟨c, q + 1, none⟩ = some y' ∧ w.cell? ⟨c, q + 2, none⟩ = some z') :
    w'.cell? ⟨b, o, none⟩ = some x ∧ w'.cell? ⟨b, o + 1, none⟩ = some y ∧ w'.cell? ⟨b, o + 2, none⟩ = some z ∧ w'.cell? ⟨c, q, none⟩ = some x' ∧ w'.cell? ⟨c, q + 1, none⟩ = some y' ∧ w'.cell? ⟨c, q + 2, none⟩ = some z' :=
  ⟨(hb.cell (p := ⟨b, o, none⟩) h).trans H.1, (hb.cell (p := ⟨b, o + 1, none⟩) h).trans H.2.1, (hb.cell (p := ⟨b, o + 2, none⟩) h).trans H.2.2.1, (hb.cell (p := ⟨c, q, none⟩) h').trans H.2.2.2.1, (hb.cell (p := ⟨c, q + 1, none⟩) h').trans H.2.2.2.2.1, (hb.cell (p := ⟨c, q + 2, none⟩) h').trans H.2.2.2.2.2⟩

/-- A box beside another one that is written. -/
theorem BoxS.beside {w : World} {g h : Nat} {p l q : Int} {x y z : Value} (H : BoxS w g p l q) (hn : g ≠ h) : BoxS (((w.setCell ⟨h, 0, none⟩ x).setCell ⟨h, 1, none⟩ y).setCell ⟨h, 2, none⟩ z) g p l q := by
  unfold BoxS at H ⊢
  rw [Go.heap_setCell_other _ _ _ _ (by simpa using hn), Go.heap_setCell_other _ _ _ _ (by simpa using hn), Go.heap_setCell_other _ _ _ _ (by simpa using hn)]
  exact H

set_option maxRecDepth 100000 in
set_option maxHeartbeats 4000000 in
theorem hlater_some (D : HlcApi) (a : Option Addr) (n cap : Nat) (turn : Int) (L : List PS) (w : World) (hL : L.length = n) (h1 : 1 ≤ n) (h50 : n ≤ 50) (ra : RdT w a L) (h64 : ∀ v ∈ L, S64 v) :
    Calls Try.prog 6 #[.slice a n cap, .int .i64 turn] w fun e w' => e = .returned (.bool true) ∧ Below w.heap.size w w' := by
  have LL : Hid (L.length = n) := hL
  have RA : Hid (RdT w a L) := ra
  have H64 : Hid (∀ v ∈ L, S64 v) := h64
  have CW := fun (W : World) => hwakes_any D W
  obtain ⟨b0, o0, rfl, hc⟩ := ra (by omega)
  obtain ⟨t, ht, hm⟩ := placeTo turn n h1 (by omega)
  have hm' : IntKind.i64.wrap ((IntKind.u64.wrap turn).tmod (n : Int)) = (t : Int) := wrapTo hm (by omega) (by omega)
  have hA := hc 0 (by omega)
  have hB := hc t (by omega)
  rw [Nat.zero_mul, Nat.add_zero] at hA
  obtain ⟨⟨ap, al, aq⟩, hxa⟩ : ∃ x, L[0]'(by omega) = x := ⟨_, rfl⟩
  obtain ⟨⟨bp, bl, bq⟩, hxb⟩ : ∃ x, L[t]'(by omega) = x := ⟨_, rfl⟩
  have HXA : Hid (∃ h : 0 < L.length, L[0] = ⟨ap, al, aq⟩) := ⟨by omega, hxa⟩
  have HXB : Hid (∃ h : t < L.length, L[t] = ⟨bp, bl, bq⟩) := ⟨by omega, hxb⟩
  rw [hxa] at hA
  rw [hxb] at hB
  simp only at hA hB
  have HLt : Hid (b0 < w.heap.size) := World.block_lt_of_cell? _ ⟨_, _, none⟩ hA.1
  have HS := And.intro hA.1 (And.intro hA.2.1 (And.intro hA.2.2 hB))
  have HSd := keep6 (Below.refl _ _).drew HS
  have HS0 : Hid _ := HS
  clear hxa hxb hc hA hB HS ra h64 hL
  have hq0 : ((n : Int) == 0) = false := by simp; omega
  have hqw : IntKind.u64.wrap (n : Int) = (n : Int) := by rw [IntKind.wrap_u64]; omega
  have z1 : (t : Int) < (n : Int) := by omega
  have z0 : (0 : Int) < (n : Int) := by omega
  have z2 : 0 < n := by omega
  have z3 : (n = 0) = False := by simp; omega
  have HT : Hid (t < n) := ht
  go_enter Try.func6, Try.ntmps6
  go_upto_region 3 with fail
  go_cut [5, 6] from 17 (fun s5 s6 wx => ∃ ga gb, s5 = .pointer (some ⟨ga, 0, none⟩) ∧ s6 = .pointer (some ⟨gb, 0, none⟩) ∧ Hid (ga ≠ gb ∧ w.heap.size ≤ ga ∧ w.heap.size ≤ gb ∧ BoxS wx ga ap al aq ∧ BoxS wx gb bp bl bq ∧ Below w.heap.size w wx))
  case first =>
    refine wp_region_held_drew (S := (fun w' => w'.cell? ⟨b0, o0, none⟩ = some (.int .i64 ap) ∧ w'.cell? ⟨b0, o0 + 1, none⟩ = some (.int .i64 al) ∧ w'.cell? ⟨b0, o0 + 2, none⟩ = some (.int .i64 aq) ∧ w'.cell? ⟨b0, o0 + t * 3, none⟩ = some (.int .i64 bp) ∧ w'.cell? ⟨b0, o0 + t * 3 + 1, none⟩ = some (.int .i64 bl) ∧ w'.cell? ⟨b0, o0 + t * 3 + 2, none⟩ = some (.int .i64 bq))) (by kernel_rfl) HSd (fun hHeld => ?_)
    refine heldTake (v := ?_) 0 17 rfl rfl (by kernel_rfl) (by kernel_rfl) (by kernel_rfl) (fun _ _ _ h => h) (by rfl) (fun w hSw => ?_) (by assumption) ?_
    rotate_left
    · (try dsimp only at hSw); first | (go_simp; done) | (go_simp; with_reducible rfl)
    simp only [List.setIfInBounds_toArray, List.set_cons_zero, List.set_cons_succ]
    refine heldTake (v := ?_) 1 18 rfl rfl (by kernel_rfl) (by kernel_rfl) (by kernel_rfl) (fun _ _ _ h => h) (by rfl) (fun w hSw => ?_) (by assumption) ?_
    rotate_left
    · (try dsimp only at hSw); first | (go_simp; done) | (go_simp; with_reducible rfl)
    simp only [List.setIfInBounds_toArray, List.set_cons_zero, List.set_cons_succ]
    refine heldTake (v := ?_) 2 19 rfl rfl (by kernel_rfl) (by kernel_rfl) (by kernel_rfl) (fun _ _ _ h => h) (by rfl) (fun w hSw => ?_) (by assumption) ?_
    rotate_left
    · (try dsimp only at hSw); first | (go_simp; done) | (go_simp; with_reducible rfl)
    simp only [List.setIfInBounds_toArray, List.set_cons_zero, List.set_cons_succ]
    refine heldTake (v := ?_) 3 20 rfl rfl (by kernel_rfl) (by kernel_rfl) (by kernel_rfl) (fun _ _ _ h => h) (by rfl) (fun w hSw => ?_) (by assumption) ?_
    rotate_left
    · (try dsimp only at hSw); first | (go_simp; done) | (go_simp; with_reducible rfl)
    simp only [List.setIfInBounds_toArray, List.set_cons_zero, List.set_cons_succ]
    refine heldTake (v := ?_) 4 21 rfl rfl (by kernel_rfl) (by kernel_rfl) (by kernel_rfl) (fun _ _ _ h => h) (by rfl) (fun w hSw => ?_) (by assumption) ?_
    rotate_left
    · (try dsimp only at hSw); first | (go_simp; done) | (go_simp; with_reducible rfl)
    simp only [List.setIfInBounds_toArray, List.set_cons_zero, List.set_cons_succ]
    refine heldTake (v := ?_) 5 22 rfl rfl (by kernel_rfl) (by kernel_rfl) (by kernel_rfl) (fun _ _ _ h => h) (by rfl) (fun w hSw => ?_) (by assumption) ?_
    rotate_left
    · (try dsimp only at hSw); first | (go_simp; done) | (go_simp; with_reducible rfl)
    simp only [List.setIfInBounds_toArray, List.set_cons_zero, List.set_cons_succ]
    refine heldTake (v := ?_) 6 23 rfl rfl (by kernel_rfl) (by kernel_rfl) (by kernel_rfl) (fun _ _ _ h => h) (by rfl) (fun w hSw => ?_) (by assumption) ?_
    rotate_left
    · (try dsimp only at hSw); first | (go_simp; done) | (go_simp; with_reducible rfl)
    simp only [List.setIfInBounds_toArray, List.set_cons_zero, List.set_cons_succ]
    refine heldTake (v := ?_) 7 24 rfl rfl (by kernel_rfl) (by kernel_rfl) (by kernel_rfl) (fun _ _ _ h => h) (by rfl) (fun w hSw => ?_) (by assumption) ?_
    rotate_left
    · (try dsimp only at hSw); first | (go_simp; done) | (go_simp; with_reducible rfl)
    simp only [List.setIfInBounds_toArray, List.set_cons_zero, List.set_cons_succ]
    refine heldTake (v := ?_) 8 25 rfl rfl (by kernel_rfl) (by kernel_rfl) (by kernel_rfl) (fun _ _ _ h => h) (by rfl) (fun w hSw => ?_) (by assumption) ?_
    rotate_left
    · (try dsimp only at hSw); first | (go_simp; done) | (go_simp; with_reducible rfl)
    simp only [List.setIfInBounds_toArray, List.set_cons_zero, List.set_cons_succ]
    refine heldTake (v := ?_) 9 26 rfl rfl (by kernel_rfl) (by kernel_rfl) (by kernel_rfl) (fun _ _ _ h => h) (by rfl) (fun w hSw => ?_) (by assumption) ?_
    rotate_left
    · (try dsimp only at hSw); first | (go_simp; done) | (go_simp; with_reducible rfl)
    simp only [List.setIfInBounds_toArray, List.set_cons_zero, List.set_cons_succ]
    refine heldTake (v := ?_) 10 27 rfl rfl (by kernel_rfl) (by kernel_rfl) (by kernel_rfl) (fun _ _ _ h => h) (by rfl) (fun w hSw => ?_) (by assumption) ?_
    rotate_left
    · (try dsimp only at hSw); first | (go_simp; done) | (go_simp; with_reducible rfl)
    simp only [List.setIfInBounds_toArray, List.set_cons_zero, List.set_cons_succ]
    refine heldTake (v := ?_) 11 28 rfl rfl (by kernel_rfl) (by kernel_rfl) (by kernel_rfl) (fun _ _ _ h => h) (by rfl) (fun w hSw => ?_) (by assumption) ?_
    rotate_left
    · (try dsimp only at hSw); first | (go_simp; done) | (go_simp; with_reducible rfl)
    simp only [List.setIfInBounds_toArray, List.set_cons_zero, List.set_cons_succ]
    refine heldTake (v := ?_) 12 29 rfl rfl (by kernel_rfl) (by kernel_rfl) (by kernel_rfl) (fun _ _ _ h => h) (by rfl) (fun w hSw => ?_) (by assumption) ?_
    rotate_left
    · (try dsimp only at hSw); first | (go_simp; done) | (go_simp; with_reducible rfl)
    simp only [List.setIfInBounds_toArray, List.set_cons_zero, List.set_cons_succ]
    refine heldTwo 13 14 rfl rfl (by kernel_rfl) (by rfl) (by rfl) (fun K2 hK => ?_) (fun K2 hK => ?_)
    · go_simp
      refine hK.out _ _ ?_ (fun hHeld => ?_)
      · exact keep6 (alloc_below _ _) (by assumption)
      clear hK K2
      try simp only [List.setIfInBounds_toArray, List.set_cons_zero, List.set_cons_succ]
      refine heldOne 14 rfl (by kernel_rfl) (by rfl) (fun K2 hK => ?_)
      go_simp
      refine hK.out _ _ ?_ (fun hHeld => ?_)
      · exact keep6 (alloc_below _ _) (by assumption)
      clear hK K2
      try simp only [List.setIfInBounds_toArray, List.set_cons_zero, List.set_cons_succ]
      refine heldOne 15 rfl (by kernel_rfl) (by rfl) (fun K2 hK => ?_)
      go_simp
      refine hK.out _ _ ?_ (fun hHeld => ?_)
      · exact keep6 (chain (below_two _ _ _) (Below.refl _ _).drew) HS0.out
      clear hK K2
      try simp only [List.setIfInBounds_toArray, List.set_cons_zero, List.set_cons_succ]
      refine heldOne 16 rfl (by kernel_rfl) (by rfl) (fun K2 hK => ?_)
      go_simp
      refine hK.out _ _ ?_ (fun hHeld => ?_)
      · exact keep6 (chain (below_two _ _ _) (Below.refl _ _).drew) HS0.out
      clear hK K2
      try simp only [List.setIfInBounds_toArray, List.set_cons_zero, List.set_cons_succ]
      refine wpAnyH_done (by kernel_rfl) ?_ _
      go_wp2
      go_meet
      exact ⟨_, _, rfl, rfl, by omega, by omega, by omega, (BoxS.made rfl).later (chain (alloc_below _ _) (Below.refl _ _).drew), (BoxS.made (by simp)).later (Below.refl _ _).drew, chain (below_two _ _ _) (Below.refl _ _).drew⟩
    · go_simp
      refine hK.out _ _ ?_ (fun hHeld => ?_)
      · exact keep6 (alloc_below _ _) (by assumption)
      clear hK K2
      try simp only [List.setIfInBounds_toArray, List.set_cons_zero, List.set_cons_succ]
      refine heldOne 13 rfl (by kernel_rfl) (by rfl) (fun K2 hK => ?_)
      go_simp
      refine hK.out _ _ ?_ (fun hHeld => ?_)
      · exact keep6 (alloc_below _ _) (by assumption)
      clear hK K2
      try simp only [List.setIfInBounds_toArray, List.set_cons_zero, List.set_cons_succ]
      refine heldOne 15 rfl (by kernel_rfl) (by rfl) (fun K2 hK => ?_)
      go_simp
      refine hK.out _ _ ?_ (fun hHeld => ?_)
      · exact keep6 (chain (below_two _ _ _) (Below.refl _ _).drew) HS0.out
      clear hK K2
      try simp only [List.setIfInBounds_toArray, List.set_cons_zero, List.set_cons_succ]
      refine heldOne 16 rfl (by kernel_rfl) (by rfl) (fun K2 hK => ?_)
      go_simp
      refine hK.out _ _ ?_ (fun hHeld => ?_)
      · exact keep6 (chain (below_two _ _ _) (Below.refl _ _).drew) HS0.out
      clear hK K2
      try simp only [List.setIfInBounds_toArray, List.set_cons_zero, List.set_cons_succ]
      refine wpAnyH_done (by kernel_rfl) ?_ _
      go_wp2
      go_meet
      exact ⟨_, _, rfl, rfl, by omega, by omega, by omega, (BoxS.made (by simp)).later (Below.refl _ _).drew, (BoxS.made rfl).later (chain (alloc_below _ _) (Below.refl _ _).drew), chain (below_two _ _ _) (Below.refl _ _).drew⟩
  case rest =>
  obtain ⟨ga, gb, rfl, rfl, HC⟩ := hcut
  obtain ⟨wd, rfl⟩ : ∃ x, x = wc := ⟨_, rfl⟩
  have HN : Hid (ga ≠ gb ∧ w.heap.size ≤ ga ∧ w.heap.size ≤ gb) := ⟨HC.out.1, HC.out.2.1, HC.out.2.2.1⟩
  have HK : Hid (BoxS wd ga ap al aq ∧ BoxS wd gb bp bl bq ∧ Below w.heap.size w wd) := HC.out.2.2.2
  have HM : Hid ((⟨ap, al, aq⟩ : PS) ∈ L ∧ (⟨bp, bl, bq⟩ : PS) ∈ L) := ⟨by obtain ⟨h, e⟩ := HXA.out; rw [← e]; exact List.getElem_mem h, by obtain ⟨h, e⟩ := HXB.out; rw [← e]; exact List.getElem_mem h⟩
  clear HC HSd HS0 HXA HXB
  go_wp2
  go_loopw [7] (fun i wr => ∃ (k : Nat) (xp xl xq yp yl yq : Int), k ≤ n ∧ i = .int .i64 k ∧ Hid (BoxS wr ga xp xl xq ∧ BoxS wr gb yp yl yq ∧ Below w.heap.size w wr) ∧ Hid ((⟨xp, xl, xq⟩ : PS) ∈ L ∧ (⟨yp, yl, yq⟩ : PS) ∈ L ∧ (∀ j (hj : j < L.length), j < k → LeS L[j] ⟨xp, xl, xq⟩) ∧ (∀ j i (hi : i < L.length), j < k → i = (j + t) % n → LeS L[i] ⟨yp, yl, yq⟩))) (fun i _ => n - (RowKit.intOf i).toNat)
  case atStart => exact ⟨0, ap, al, aq, bp, bl, bq, Nat.zero_le _, rfl, HK, HM.out.1, HM.out.2, fun j _ h => absurd h (by omega), fun j _ _ h => absurd h (by omega)⟩
  case round =>
  clear HK HM
  obtain ⟨k, xp, xl, xq, yp, yl, yq, hk, rfl, HK, HI⟩ := hrel
  by_cases hlt : k < n
  · have hkl : k < L.length := by rw [LL.out]; exact hlt
    obtain ⟨s, hs, hrs⟩ : ∃ s : Nat, s < n ∧ (k + t) % n = s := ⟨(k + t) % n, Nat.mod_lt _ (by omega), rfl⟩
    have hsl : s < L.length := by rw [LL.out]; exact hs
    have HRS : Hid ((k + t) % n = s) := hrs
    obtain ⟨b', o', e', hc⟩ := RA.out (by omega)
    simp only [Option.some.injEq, Addr.mk.injEq, and_true] at e'
    obtain ⟨rfl, rfl⟩ := e'
    have y1 := keep3B HK.out.2.2 HLt.out (hc k hkl)
    have y2 := keep3B HK.out.2.2 HLt.out (hc s hsl)
    have y0 := hc s hsl
    have u1 := H64.out _ (List.getElem_mem hkl)
    have u2 := H64.out _ (List.getElem_mem hsl)
    have HI1 : Hid (∀ v, v = L[k] → laterS ⟨xp, xl, xq⟩ v ∈ L ∧ (∀ j (hj : j < L.length), j < k + 1 → LeS L[j] (laterS ⟨xp, xl, xq⟩ v))) := by
      intro v hv
      refine ⟨?_, fun j hj h => ?_⟩
      · rcases laterS_or ⟨xp, xl, xq⟩ v with e | e <;> rw [e]
        · exact HI.out.1
        · rw [hv]; exact List.getElem_mem hkl
      · by_cases hjk : j = k
        · subst hjk; rw [hv]; exact laterS_right _ _
        · exact (HI.out.2.2.1 j hj (by omega)).trans (laterS_left _ _)
    have HI2 : Hid (∀ v, v = L[s] → laterS v ⟨yp, yl, yq⟩ ∈ L ∧ (∀ j i (hi : i < L.length), j < k + 1 → i = (j + t) % n → LeS L[i] (laterS v ⟨yp, yl, yq⟩))) := by
      intro v hv
      refine ⟨?_, fun j i hi h hm => ?_⟩
      · rcases laterS_or v ⟨yp, yl, yq⟩ with e | e <;> rw [e]
        · rw [hv]; exact List.getElem_mem hsl
        · exact HI.out.2.1
      · by_cases hjk : j = k
        · subst hjk
          obtain rfl : i = s := by rw [hm]; exact HRS.out
          rw [hv]; exact laterS_left _ _
        · exact (HI.out.2.2.2 j i hi (by omega) hm).trans (laterS_right _ _)
    have HX64 : Hid (S64 ⟨xp, xl, xq⟩ ∧ S64 ⟨yp, yl, yq⟩) := ⟨H64.out _ HI.out.1, H64.out _ HI.out.2.1⟩
    have hrem : (IntKind.i64.wrap ((k : Int) + (t : Int))).tmod (n : Int) = (s : Int) := by
      have hww : IntKind.i64.wrap ((k : Int) + (t : Int)) = (k : Int) + (t : Int) := by rw [IntKind.wrap_i64]; omega
      rw [hww, Int.tmod_eq_emod_of_nonneg (by omega), ← hrs, Int.natCast_emod, Int.natCast_add]
    clear hc hrs
    generalize L[k] = v at *
    generalize L[s] = v' at *
    obtain ⟨vp, vl, vq⟩ := v
    obtain ⟨rp, rl, rq⟩ := v'
    simp only at y1 y2 y0
    have C1 := fun (W : World) => D.later xp xl xq vp vl vq W HX64.out.1 u1
    have C2 := fun (W : World) => D.later rp rl rq yp yl yq W u2 HX64.out.2
    have HJ1 := HI1.out _ rfl
    have HJ2 := HI2.out _ rfl
    generalize laterS ⟨xp, xl, xq⟩ ⟨vp, vl, vq⟩ = A at *
    generalize laterS ⟨rp, rl, rq⟩ ⟨yp, yl, yq⟩ = B at *
    obtain ⟨np, nl, nq⟩ := A
    obtain ⟨mp, ml, mq⟩ := B
    simp only at C1 C2
    have HJ : Hid ((⟨np, nl, nq⟩ : PS) ∈ L ∧ (⟨mp, ml, mq⟩ : PS) ∈ L ∧ (∀ j (hj : j < L.length), j < k + 1 → LeS L[j] ⟨np, nl, nq⟩) ∧ (∀ j i (hi : i < L.length), j < k + 1 → i = (j + t) % n → LeS L[i] ⟨mp, ml, mq⟩)) := ⟨HJ1.1, HJ2.1, HJ1.2, HJ2.2⟩
    have Hs : Hid (s < n) := hs
    clear HJ1 HJ2 HI1 HI2 HI u1 u2 hkl hsl HX64
    have zk : (k : Int) < (n : Int) := by omega
    have zs : (s : Int) < (n : Int) := by omega
    go_upto_region 7 with fail
    have HSd := keep3 (Below.refl _ _).drew y1
    have Y2 : Hid _ := y2
    have Y0 : Hid (w.cell? ⟨b0, o0 + s * 3, none⟩ = some (.int .i64 rp) ∧ w.cell? ⟨b0, o0 + s * 3 + 1, none⟩ = some (.int .i64 rl) ∧ w.cell? ⟨b0, o0 + s * 3 + 2, none⟩ = some (.int .i64 rq)) := y0
    clear y0
    clear y1 y2
    obtain ⟨x0, x1, x2⟩ := (HK.out.1.later (Below.refl _ _).drew).cells
    go_cut [] from 36 to 58 (fun wx => Hid (BoxS wx ga np nl nq ∧ BoxS wx gb yp yl yq ∧ Below w.heap.size w wx))
    case first =>
      refine wp_region_held_drew (S := (fun w' => w'.cell? ⟨b0, o0 + k * 3, none⟩ = some (.int .i64 vp) ∧ w'.cell? ⟨b0, o0 + k * 3 + 1, none⟩ = some (.int .i64 vl) ∧ w'.cell? ⟨b0, o0 + k * 3 + 2, none⟩ = some (.int .i64 vq))) (by kernel_rfl) HSd (fun hHeld => ?_)
      refine heldTake (v := ?_) 1 37 rfl rfl (by kernel_rfl) (by kernel_rfl) (by kernel_rfl) (fun _ _ _ h => h) (by rfl) (fun w hSw => ?_) (by assumption) ?_
      rotate_left
      · (try dsimp only at hSw); first | (go_simp; done) | (go_simp; with_reducible rfl)
      simp only [List.setIfInBounds_toArray, List.set_cons_zero, List.set_cons_succ]
      refine heldTake (v := ?_) 2 38 rfl rfl (by kernel_rfl) (by kernel_rfl) (by kernel_rfl) (fun _ _ _ h => h) (by rfl) (fun w hSw => ?_) (by assumption) ?_
      rotate_left
      · (try dsimp only at hSw); first | (go_simp; done) | (go_simp; with_reducible rfl)
      simp only [List.setIfInBounds_toArray, List.set_cons_zero, List.set_cons_succ]
      refine heldTake (v := ?_) 3 39 rfl rfl (by kernel_rfl) (by kernel_rfl) (by kernel_rfl) (fun _ _ _ h => h) (by rfl) (fun w hSw => ?_) (by assumption) ?_
      rotate_left
      · (try dsimp only at hSw); first | (go_simp; done) | (go_simp; with_reducible rfl)
      simp only [List.setIfInBounds_toArray, List.set_cons_zero, List.set_cons_succ]
      refine heldTake (v := ?_) 4 40 rfl rfl (by kernel_rfl) (by kernel_rfl) (by kernel_rfl) (fun _ _ _ h => h) (by rfl) (fun w hSw => ?_) (by assumption) ?_
      rotate_left
      · (try dsimp only at hSw); first | (go_simp; done) | (go_simp; with_reducible rfl)
      simp only [List.setIfInBounds_toArray, List.set_cons_zero, List.set_cons_succ]
      refine heldOne 0 rfl (by kernel_rfl) (by rfl) (fun K2 hK => ?_)
      go_simp
      refine hK.out _ _ ?_ (fun hHeld => ?_)
      · assumption
      clear hK K2
      try simp only [List.setIfInBounds_toArray, List.set_cons_zero, List.set_cons_succ]
      refine heldOne 5 rfl (by kernel_rfl) (by rfl) (fun K2 hK => ?_)
      go_simp
      refine (C1 _).mono ?_
      rintro e w1 ⟨rfl, hb1⟩
      have HZ : Hid (BoxS w1 ga xp xl xq) := HK.out.1.later (chain (Below.refl _ _).drew hb1)
      have HW : Hid (BoxS w1 gb yp yl yq) := HK.out.2.1.later (chain (Below.refl _ _).drew hb1)
      have HB1 : Hid (Below w.heap.size w w1) := chain HK.out.2.2 (chain (Below.refl _ _).drew hb1)
      refine hK.out _ _ ?_ (fun hHeld => ?_)
      · exact keep3 hb1 (by assumption)
      clear hK K2
      try simp only [List.setIfInBounds_toArray, List.set_cons_zero, List.set_cons_succ]
      refine heldOne 6 rfl (by kernel_rfl) (by rfl) (fun K2 hK => ?_)
      obtain ⟨r0, r1, r2⟩ := HZ.out.cells
      have f0 := HZ.out.frozen
      go_simp
      refine hK.out _ _ ?_ (fun hHeld => ?_)
      · exact keep3B (below_set3 (Below.refl _ _) HN.out.2.1) HLt.out (by assumption)
      clear hK K2
      try simp only [List.setIfInBounds_toArray, List.set_cons_zero, List.set_cons_succ]
      refine wpAnyH_done (by kernel_rfl) ?_ _
      go_wp2
      go_meet
      exact ⟨HZ.out.set np nl nq, HW.out.beside HN.out.1.symm, below_set3 HB1.out HN.out.2.1⟩
    case rest =>
    clear x0 x1 x2 HSd
    obtain ⟨we, rfl⟩ : ∃ x, x = wc := ⟨_, rfl⟩
    clear HK
    have HK := hcut
    clear hcut
    go_upto_region 8 with fail
    have HSd := keep3 (Below.refl _ _).drew (keep3B HK.out.2.2 HLt.out Y0.out)
    clear Y2
    obtain ⟨x0, x1, x2⟩ := (HK.out.2.1.later (Below.refl _ _).drew).cells
    refine wp_region_held_drew (S := (fun w' => w'.cell? ⟨b0, o0 + s * 3, none⟩ = some (.int .i64 rp) ∧ w'.cell? ⟨b0, o0 + s * 3 + 1, none⟩ = some (.int .i64 rl) ∧ w'.cell? ⟨b0, o0 + s * 3 + 2, none⟩ = some (.int .i64 rq))) (by kernel_rfl) HSd (fun hHeld => ?_)
    refine heldTake (v := ?_) 0 42 rfl rfl (by kernel_rfl) (by kernel_rfl) (by kernel_rfl) (fun _ _ _ h => h) (by rfl) (fun w hSw => ?_) (by assumption) ?_
    rotate_left
    · (try dsimp only at hSw); first | (go_simp; done) | (go_simp; with_reducible rfl)
    simp only [List.setIfInBounds_toArray, List.set_cons_zero, List.set_cons_succ]
    refine heldTake (v := ?_) 1 43 rfl rfl (by kernel_rfl) (by kernel_rfl) (by kernel_rfl) (fun _ _ _ h => h) (by rfl) (fun w hSw => ?_) (by assumption) ?_
    rotate_left
    · (try dsimp only at hSw); first | (go_simp; done) | (go_simp; with_reducible rfl)
    simp only [List.setIfInBounds_toArray, List.set_cons_zero, List.set_cons_succ]
    refine heldTake (v := ?_) 2 44 rfl rfl (by kernel_rfl) (by kernel_rfl) (by kernel_rfl) (fun _ _ _ h => h) (by rfl) (fun w hSw => ?_) (by assumption) ?_
    rotate_left
    · (try dsimp only at hSw); first | (go_simp; done) | (go_simp; with_reducible rfl)
    simp only [List.setIfInBounds_toArray, List.set_cons_zero, List.set_cons_succ]
    refine heldTake (v := ?_) 3 45 rfl rfl (by kernel_rfl) (by kernel_rfl) (by kernel_rfl) (fun _ _ _ h => h) (by rfl) (fun w hSw => ?_) (by assumption) ?_
    rotate_left
    · (try dsimp only at hSw); first | (go_simp; done) | (go_simp; with_reducible rfl)
    simp only [List.setIfInBounds_toArray, List.set_cons_zero, List.set_cons_succ]
    refine heldTake (v := ?_) 4 46 rfl rfl (by kernel_rfl) (by kernel_rfl) (by kernel_rfl) (fun _ _ _ h => h) (by rfl) (fun w hSw => ?_) (by assumption) ?_
    rotate_left
    · (try dsimp only at hSw); first | (go_simp; done) | (go_simp; with_reducible rfl)
    simp only [List.setIfInBounds_toArray, List.set_cons_zero, List.set_cons_succ]
    refine heldTake (v := ?_) 5 47 rfl rfl (by kernel_rfl) (by kernel_rfl) (by kernel_rfl) (fun _ _ _ h => h) (by rfl) (fun w hSw => ?_) (by assumption) ?_
    rotate_left
    · (try dsimp only at hSw); first | (go_simp; done) | (go_simp; with_reducible rfl)
    simp only [List.setIfInBounds_toArray, List.set_cons_zero, List.set_cons_succ]
    refine heldTake (v := ?_) 6 48 rfl rfl (by kernel_rfl) (by kernel_rfl) (by kernel_rfl) (fun _ _ _ h => h) (by rfl) (fun w hSw => ?_) (by assumption) ?_
    rotate_left
    · (try dsimp only at hSw); first | (go_simp; done) | (go_simp; with_reducible rfl)
    simp only [List.setIfInBounds_toArray, List.set_cons_zero, List.set_cons_succ]
    refine heldTake (v := ?_) 7 49 rfl rfl (by kernel_rfl) (by kernel_rfl) (by kernel_rfl) (fun _ _ _ h => h) (by rfl) (fun w hSw => ?_) (by assumption) ?_
    rotate_left
    · (try dsimp only at hSw); first | (go_simp; done) | (go_simp; with_reducible rfl)
    simp only [List.setIfInBounds_toArray, List.set_cons_zero, List.set_cons_succ]
    refine heldTake (v := ?_) 8 50 rfl rfl (by kernel_rfl) (by kernel_rfl) (by kernel_rfl) (fun _ _ _ h => h) (by rfl) (fun w hSw => ?_) (by assumption) ?_
    rotate_left
    · (try dsimp only at hSw); first | (go_simp; done) | (go_simp; with_reducible rfl)
    simp only [List.setIfInBounds_toArray, List.set_cons_zero, List.set_cons_succ]
    refine heldTake (v := ?_) 9 51 rfl rfl (by kernel_rfl) (by kernel_rfl) (by kernel_rfl) (fun _ _ _ h => h) (by rfl) (fun w hSw => ?_) (by assumption) ?_
    rotate_left
    · (try dsimp only at hSw); first | (go_simp; done) | (go_simp; with_reducible rfl)
    simp only [List.setIfInBounds_toArray, List.set_cons_zero, List.set_cons_succ]
    refine heldTake (v := ?_) 10 52 rfl rfl (by kernel_rfl) (by kernel_rfl) (by kernel_rfl) (fun _ _ _ h => h) (by rfl) (fun w hSw => ?_) (by assumption) ?_
    rotate_left
    · (try dsimp only at hSw); first | (go_simp; done) | (go_simp; with_reducible rfl)
    simp only [List.setIfInBounds_toArray, List.set_cons_zero, List.set_cons_succ]
    refine heldTake (v := ?_) 11 53 rfl rfl (by kernel_rfl) (by kernel_rfl) (by kernel_rfl) (fun _ _ _ h => h) (by rfl) (fun w hSw => ?_) (by assumption) ?_
    rotate_left
    · (try dsimp only at hSw); first | (go_simp; done) | (go_simp; with_reducible rfl)
    simp only [List.setIfInBounds_toArray, List.set_cons_zero, List.set_cons_succ]
    refine heldTake (v := ?_) 12 54 rfl rfl (by kernel_rfl) (by kernel_rfl) (by kernel_rfl) (fun _ _ _ h => h) (by rfl) (fun w hSw => ?_) (by assumption) ?_
    rotate_left
    · (try dsimp only at hSw); first | (go_simp; done) | (go_simp; with_reducible rfl)
    simp only [List.setIfInBounds_toArray, List.set_cons_zero, List.set_cons_succ]
    refine heldTake (v := ?_) 13 55 rfl rfl (by kernel_rfl) (by kernel_rfl) (by kernel_rfl) (fun _ _ _ h => h) (by rfl) (fun w hSw => ?_) (by assumption) ?_
    rotate_left
    · (try dsimp only at hSw); first | (go_simp; done) | (go_simp; with_reducible rfl)
    simp only [List.setIfInBounds_toArray, List.set_cons_zero, List.set_cons_succ]
    refine heldTake (v := ?_) 14 56 rfl rfl (by kernel_rfl) (by kernel_rfl) (by kernel_rfl) (fun _ _ _ h => h) (by rfl) (fun w hSw => ?_) (by assumption) ?_
    rotate_left
    · (try dsimp only at hSw); first | (go_simp; done) | (go_simp; with_reducible rfl)
    simp only [List.setIfInBounds_toArray, List.set_cons_zero, List.set_cons_succ]
    refine heldOne 15 rfl (by kernel_rfl) (by rfl) (fun K2 hK => ?_)
    go_simp
    refine hK.out _ _ ?_ (fun hHeld => ?_)
    · assumption
    clear hK K2
    try simp only [List.setIfInBounds_toArray, List.set_cons_zero, List.set_cons_succ]
    refine heldOne 16 rfl (by kernel_rfl) (by rfl) (fun K2 hK => ?_)
    go_simp
    refine (C2 _).mono ?_
    rintro e w1 ⟨rfl, hb1⟩
    have HW : Hid (BoxS w1 ga np nl nq) := HK.out.1.later (chain (Below.refl _ _).drew hb1)
    have HZ : Hid (BoxS w1 gb yp yl yq) := HK.out.2.1.later (chain (Below.refl _ _).drew hb1)
    have HB1 : Hid (Below w.heap.size w w1) := chain HK.out.2.2 (chain (Below.refl _ _).drew hb1)
    refine hK.out _ _ ?_ (fun hHeld => ?_)
    · exact keep3 hb1 (by assumption)
    clear hK K2
    try simp only [List.setIfInBounds_toArray, List.set_cons_zero, List.set_cons_succ]
    refine heldOne 17 rfl (by kernel_rfl) (by rfl) (fun K2 hK => ?_)
    obtain ⟨r0, r1, r2⟩ := HZ.out.cells
    have f0 := HZ.out.frozen
    go_simp
    refine hK.out _ _ ?_ (fun hHeld => ?_)
    · exact keep3B (below_set3 (Below.refl _ _) HN.out.2.2) HLt.out (by assumption)
    clear hK K2
    try simp only [List.setIfInBounds_toArray, List.set_cons_zero, List.set_cons_succ]
    refine wpAnyH_done (by kernel_rfl) ?_ _
    have HKN : Hid (BoxS (((w1.setCell ⟨gb, 0, none⟩ (.int .i64 mp)).setCell ⟨gb, 1, none⟩ (.int .i64 ml)).setCell ⟨gb, 2, none⟩ (.int .i64 mq)) ga np nl nq ∧ BoxS (((w1.setCell ⟨gb, 0, none⟩ (.int .i64 mp)).setCell ⟨gb, 1, none⟩ (.int .i64 ml)).setCell ⟨gb, 2, none⟩ (.int .i64 mq)) gb mp ml mq ∧ Below w.heap.size w (((w1.setCell ⟨gb, 0, none⟩ (.int .i64 mp)).setCell ⟨gb, 1, none⟩ (.int .i64 ml)).setCell ⟨gb, 2, none⟩ (.int .i64 mq))) := ⟨HW.out.beside HN.out.1, HZ.out.set mp ml mq, below_set3 HB1.out HN.out.2.2⟩
    go_wp2
    go_roundw
    case rel => exact ⟨k + 1, np, nl, nq, mp, ml, mq, by omega, by go_num, HKN, HJ⟩
    case measure => simp [RowKit.intOf]; omega
  · obtain rfl : k = n := by omega
    have HE : Hid ((⟨xp, xl, xq⟩ : PS) = ⟨yp, yl, yq⟩) := by
      refine LeS.anti ?_ ?_
      · obtain ⟨i, hi, e⟩ := List.mem_iff_getElem.1 HI.out.1
        rw [← e]
        refine HI.out.2.2.2 ((i + (k - t)) % k) i hi (Nat.mod_lt _ (by omega)) ?_
        have hik : i < k := by rw [← LL.out]; exact hi
        have := HT.out
        by_cases h : i + (k - t) < k
        · rw [Nat.mod_eq_of_lt h, show i + (k - t) + t = i + k by omega, Nat.add_mod_right, Nat.mod_eq_of_lt hik]
        · have e2 : (i + (k - t)) % k = i + (k - t) - k := by rw [Nat.mod_eq_sub_mod (by omega), Nat.mod_eq_of_lt (by omega)]
          rw [e2, show i + (k - t) - k + t = i by omega, Nat.mod_eq_of_lt hik]
      · obtain ⟨i, hi, e⟩ := List.mem_iff_getElem.1 HI.out.2.1
        rw [← e]
        exact HI.out.2.2.1 i hi (by rw [← LL.out]; exact hi)
    have HAll : Hid (∀ j (hj : j < L.length), cmpS L[j] ⟨xp, xl, xq⟩ ≤ 0) := fun j hj => cmpS_le.2 (HI.out.2.2.1 j hj (by rw [← LL.out]; exact hj))
    have HX64 : Hid (S64 ⟨xp, xl, xq⟩) := H64.out _ HI.out.1
    obtain ⟨wg, rfl⟩ : ∃ x, x = wr := ⟨_, rfl⟩
    clear HI hlt
    go_wp2
    go_loopw [8] (fun i wr => ∃ j : Nat, j ≤ k ∧ i = .int .i64 j ∧ Hid (BoxS wr ga xp xl xq ∧ BoxS wr gb yp yl yq ∧ Below w.heap.size w wr)) (fun i _ => k - (RowKit.intOf i).toNat)
    case atStart => exact ⟨0, Nat.zero_le _, rfl, HK⟩
    case round =>
    clear HK
    obtain ⟨j, hj, rfl, HK⟩ := hrel
    by_cases hlt : j < k
    · have hjl : j < L.length := by rw [LL.out]; exact hlt
      obtain ⟨b', o', e', hc⟩ := RA.out (by omega)
      simp only [Option.some.injEq, Addr.mk.injEq, and_true] at e'
      obtain ⟨rfl, rfl⟩ := e'
      have y1 := keep3B HK.out.2.2 HLt.out (hc j hjl)
      have u1 := H64.out _ (List.getElem_mem hjl)
      have HQ : Hid _ := HAll.out j hjl
      clear hc
      generalize L[j] = v at *
      obtain ⟨vp, vl, vq⟩ := v
      simp only at y1
      have C1 := fun (W : World) => D.compare vp vl vq xp xl xq W u1 HX64.out
      generalize cmpS ⟨vp, vl, vq⟩ ⟨xp, xl, xq⟩ = c at *
      have hcd : decide (0 < c) = false := by have := HQ.out; simp; omega
      clear hjl u1
      have zk : (j : Int) < (k : Int) := by omega
      obtain ⟨x0, x1, x2⟩ := HK.out.1.cells
      have HS := And.intro y1.1 (And.intro y1.2.1 (And.intro y1.2.2 (And.intro x0 (And.intro x1 x2))))
      have HSd := keep6 (q := 0) (Below.refl _ _).drew HS
      clear y1 x0 x1 x2 HS
      go_upto_region 12 with fail
      go_cut [71] from 65 to 71 (fun s71 wx => s71 = .bool false ∧ Hid (BoxS wx ga xp xl xq ∧ BoxS wx gb yp yl yq ∧ Below w.heap.size w wx))
      case first =>
        refine wp_region_held_drew (S := (fun w' => w'.cell? ⟨b0, o0 + j * 3, none⟩ = some (.int .i64 vp) ∧ w'.cell? ⟨b0, o0 + j * 3 + 1, none⟩ = some (.int .i64 vl) ∧ w'.cell? ⟨b0, o0 + j * 3 + 2, none⟩ = some (.int .i64 vq) ∧ w'.cell? ⟨ga, 0, none⟩ = some (.int .i64 xp) ∧ w'.cell? ⟨ga, 0 + 1, none⟩ = some (.int .i64 xl) ∧ w'.cell? ⟨ga, 0 + 2, none⟩ = some (.int .i64 xq))) (by kernel_rfl) HSd (fun hHeld => ?_)
        refine heldTake (v := ?_) 0 65 rfl rfl (by kernel_rfl) (by kernel_rfl) (by kernel_rfl) (fun _ _ _ h => h) (by rfl) (fun w hSw => ?_) (by assumption) ?_
        rotate_left
        · (try dsimp only at hSw); first | (go_simp; done) | (go_simp; with_reducible rfl)
        simp only [List.setIfInBounds_toArray, List.set_cons_zero, List.set_cons_succ]
        refine heldTake (v := ?_) 1 66 rfl rfl (by kernel_rfl) (by kernel_rfl) (by kernel_rfl) (fun _ _ _ h => h) (by rfl) (fun w hSw => ?_) (by assumption) ?_
        rotate_left
        · (try dsimp only at hSw); first | (go_simp; done) | (go_simp; with_reducible rfl)
        simp only [List.setIfInBounds_toArray, List.set_cons_zero, List.set_cons_succ]
        refine heldTake (v := ?_) 2 67 rfl rfl (by kernel_rfl) (by kernel_rfl) (by kernel_rfl) (fun _ _ _ h => h) (by rfl) (fun w hSw => ?_) (by assumption) ?_
        rotate_left
        · (try dsimp only at hSw); first | (go_simp; done) | (go_simp; with_reducible rfl)
        simp only [List.setIfInBounds_toArray, List.set_cons_zero, List.set_cons_succ]
        refine heldTake (v := ?_) 3 68 rfl rfl (by kernel_rfl) (by kernel_rfl) (by kernel_rfl) (fun _ _ _ h => h) (by rfl) (fun w hSw => ?_) (by assumption) ?_
        rotate_left
        · (try dsimp only at hSw); first | (go_simp; done) | (go_simp; with_reducible rfl)
        simp only [List.setIfInBounds_toArray, List.set_cons_zero, List.set_cons_succ]
        refine heldTake (v := ?_) 4 69 rfl rfl (by kernel_rfl) (by kernel_rfl) (by kernel_rfl) (fun _ _ _ h => h) (by rfl) (fun w hSw => ?_) (by assumption) ?_
        rotate_left
        · (try dsimp only at hSw); first | (go_simp; done) | (go_simp; with_reducible rfl)
        simp only [List.setIfInBounds_toArray, List.set_cons_zero, List.set_cons_succ]
        refine heldOne 5 rfl (by kernel_rfl) (by rfl) (fun K2 hK => ?_)
        go_simp
        refine (C1 _).mono ?_
        rintro e w1 ⟨rfl, hb1⟩
        refine hK.out _ _ ?_ (fun hHeld => ?_)
        · exact keep6 hb1 (by assumption)
        clear hK K2
        try simp only [List.setIfInBounds_toArray, List.set_cons_zero, List.set_cons_succ]
        refine heldTake (v := ?_) 6 71 rfl rfl (by kernel_rfl) (by kernel_rfl) (by kernel_rfl) (fun _ _ _ h => h) (by rfl) (fun w hSw => ?_) (by assumption) ?_
        rotate_left
        · (try dsimp only at hSw); first | (go_simp; done) | (go_simp; with_reducible rfl)
        simp only [List.setIfInBounds_toArray, List.set_cons_zero, List.set_cons_succ]
        refine wpAnyH_done (by kernel_rfl) ?_ _
        have HK1 : Hid (BoxS w1 ga xp xl xq ∧ BoxS w1 gb yp yl yq ∧ Below w.heap.size w w1) := ⟨HK.out.1.later (chain (Below.refl _ _).drew hb1), HK.out.2.1.later (chain (Below.refl _ _).drew hb1), chain HK.out.2.2 (chain (Below.refl _ _).drew hb1)⟩
        go_wp2
        go_meet
        exact ⟨rfl, HK1⟩
      case rest =>
      obtain ⟨rfl, HK'⟩ := hcut
      go_wp2
      go_roundw
      case rel => exact ⟨j + 1, by omega, by go_num, HK'⟩
      case measure => simp [RowKit.intOf]; omega
    · have hdd : decide ((⟨xp, xl, xq⟩ : PS) = ⟨yp, yl, yq⟩) = true := decide_eq_true HE.out
      obtain ⟨x0, x1, x2⟩ := HK.out.1.cells
      obtain ⟨y0, y1, y2⟩ := HK.out.2.1.cells
      have CS := fun (W : World) => keepStamp_any xp xl xq yp yl yq W
      rw [hdd] at CS
      clear hdd
      go_wp2_with fail
      refine (CS _).mono ?_
      rintro e w1 ⟨rfl, hb1⟩
      have HB1 : Hid (Below w.heap.size w w1) := chain HK.out.2.2 hb1
      clear x0 x1 x2 y0 y1 y2 hb1
      go_wp2_with fail
      refine (CW _).mono ?_
      rintro e w2 ⟨rfl, hb2⟩
      have HB2 : Hid (Below w.heap.size w w2) := chain HB1.out hb2
      clear hb2
      go_wp2
      go_ret
      exact ⟨rfl, HB2.out⟩

set_option maxHeartbeats 400000 in
theorem hlater_out (a : Option Addr) (n cap : Nat) (turn : Int) (w : World) (hn : n ≤ 9223372036854775807) (h : n < 1 ∨ 50 < n) :
    Calls Try.prog 6 #[.slice a n cap, .int .i64 turn] w fun e w' => e = .returned (.bool true) ∧ Below w.heap.size w w' := by
  rcases h with h | h
  · obtain rfl : n = 0 := by omega
    go_enter Try.func6, Try.ntmps6
    go_wp2
    go_ret
    exact ⟨rfl, Below.refl _ _⟩
  · have h2 : decide ((n : Int) < 1) = false := by simp; omega
    go_enter Try.func6, Try.ntmps6
    go_wp2
    go_ret
    exact ⟨rfl, Below.refl _ _⟩

theorem hlater_walk (D : HlcApi) (a : Option Addr) (n cap : Nat) (turn : Int) (vs : List PS) (w : World) (ha : IsStamps w a n cap vs) :
    Calls Try.prog 6 #[.slice a n cap, .int .i64 turn] w fun e w' => e = .returned (.bool true) ∧ Below w.heap.size w w' := by
  obtain ⟨h1, _, h3, _, h5⟩ := ha.stamps
  by_cases h : n < 1 ∨ 50 < n
  · exact hlater_out a n cap turn w ha.small h
  · exact hlater_some D a n cap turn vs w h1 (by omega) (by omega) h3 h5

end Go.Proofs.Ytncidjlobjgibaa
