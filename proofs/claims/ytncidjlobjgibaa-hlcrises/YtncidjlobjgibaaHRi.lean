/-
  HlcRises' walk: what the law answers, whatever its times.
-/
import Derived.Test.YtncidjlobjgibaaRows
import Derived.Test.YtncidjlobjgibaaHLaws
namespace Go.Proofs.Ytncidjlobjgibaa
open Go.RowKit Go.Lib
set_option linter.unusedVariables false

/-- What stays while the law goes on. -/
structure KR (w0 : World) (g : Nat) (p l q p' l' q' p'' l'' q'' : Int) (w : World) : Prop where
  A : BoxS w g p l q
  B : BoxS w (g + 1) p' l' q'
  C : BoxS w (g + 1 + 1) p'' l'' q''
  S : Below w0.heap.size w0 w

theorem KR.later {w0 : World} {g : Nat} {p l q p' l' q' p'' l'' q'' : Int} {w w' : World} (h : KR w0 g p l q p' l' q' p'' l'' q'' w) (hb : Below w.heap.size w w') : KR w0 g p l q p' l' q' p'' l'' q'' w' :=
  ⟨h.A.later hb, h.B.later hb, h.C.later hb, chain h.S hb⟩

theorem keepN {W w w' : World} {g h x : Nat} {a b c d e f i j k : Value} (hb : Below w.heap.size w w')
    (H : w.cell? ⟨g, 0, none⟩ = some a ∧ w.cell? ⟨g, 1, none⟩ = some b ∧ w.cell? ⟨g, 2, none⟩ = some c ∧ w.cell? ⟨h, 0, none⟩ = some d ∧ w.cell? ⟨h, 1, none⟩ = some e ∧ w.cell? ⟨h, 2, none⟩ = some f ∧ w.cell? ⟨x, 0, none⟩ = some i ∧ w.cell? ⟨x, 1, none⟩ = some j ∧ w.cell? ⟨x, 2, none⟩ = some k ∧ Hid (Below W.heap.size W w)) :
    w'.cell? ⟨g, 0, none⟩ = some a ∧ w'.cell? ⟨g, 1, none⟩ = some b ∧ w'.cell? ⟨g, 2, none⟩ = some c ∧ w'.cell? ⟨h, 0, none⟩ = some d ∧ w'.cell? ⟨h, 1, none⟩ = some e ∧ w'.cell? ⟨h, 2, none⟩ = some f ∧ w'.cell? ⟨x, 0, none⟩ = some i ∧ w'.cell? ⟨x, 1, none⟩ = some j ∧ w'.cell? ⟨x, 2, none⟩ = some k ∧ Hid (Below W.heap.size W w') := by
  obtain ⟨h1, h2, h3, h4, h5, h6, h7, h8, h9, h13⟩ := H
  exact ⟨cell_later hb h1, cell_later hb h2, cell_later hb h3, cell_later hb h4, cell_later hb h5, cell_later hb h6, cell_later hb h7, cell_later hb h8, cell_later hb h9, chain h13.out hb⟩

theorem ofN {W w : World} {A B C D E F G H I : Prop} (h : A ∧ B ∧ C ∧ D ∧ E ∧ F ∧ G ∧ H ∧ I ∧ Hid (Below W.heap.size W w)) : Below W.heap.size W w := h.2.2.2.2.2.2.2.2.2.out

set_option maxRecDepth 100000 in
set_option maxHeartbeats 8000000 in
theorem hrises_walk (D : HlcApi) (p l q p' l' q' p'' l'' q'' wall peer : Int) (w : World) (i0 : In64 p) (i1 : In64 l) (i2 : In64 q) (i3 : In64 p') (i4 : In64 l') (i5 : In64 q') (i8 : In64 p'') (i9 : In64 l'') (i10 : In64 q'') (i6 : In64 wall) (i7 : In64 peer) :
    Calls Try.prog 4 #[vS p l q, vS p' l' q', vS p'' l'' q'', .int .i64 wall, .int .i64 peer] w fun e w' => e = .returned (.bool true) ∧ Below w.heap.size w w' := by
  obtain ⟨g, hg⟩ : ∃ g, w.heap.size = g := ⟨_, rfl⟩
  have K : Hid (KR w g p l q p' l' q' p'' l'' q'' (((w.alloc (.cells #[.int .i64 p, .int .i64 l, .int .i64 q] 23)).alloc (.cells #[.int .i64 p', .int .i64 l', .int .i64 q'] 23)).alloc (.cells #[.int .i64 p'', .int .i64 l'', .int .i64 q''] 23))) := ⟨by rw [← hg]; exact ((BoxS.made rfl).later (alloc_below _ _)).later (alloc_below _ _), by rw [← hg]; exact (BoxS.made (by simp)).later (alloc_below _ _), by rw [← hg]; exact BoxS.made (by simp), chain (below_two _ _ _) (alloc_below _ _)⟩
  have C1 := fun (W : World) => D.compare p l q p' l' q' W ⟨i0, i1, i2⟩ ⟨i3, i4, i5⟩
  have C2 := fun (W : World) => D.compare p' l' q' p'' l'' q'' W ⟨i3, i4, i5⟩ ⟨i8, i9, i10⟩
  have C3 := fun (W : World) => D.compare p l q p'' l'' q'' W ⟨i0, i1, i2⟩ ⟨i8, i9, i10⟩
  have C4 := fun (W : World) => D.compare p' l' q' p l q W ⟨i3, i4, i5⟩ ⟨i0, i1, i2⟩
  have C5 := fun (W : World) => keepStamp_any p l q p' l' q' W
  rw [cmpS_neg ⟨p, l, q⟩ ⟨p', l', q'⟩] at C4
  have HX : Hid (decide ((⟨p, l, q⟩ : PS) = ⟨p', l', q'⟩) = decide (cmpS ⟨p, l, q⟩ ⟨p', l', q'⟩ = 0)) := by show _ = _; rw [decide_eq_decide]; exact cmpS_zero.symm
  rw [HX.out] at C5
  have HZ1 : Hid (cmpS ⟨p, l, q⟩ ⟨p', l', q'⟩ ≤ 0 → cmpS ⟨p', l', q'⟩ ⟨p'', l'', q''⟩ ≤ 0 → cmpS ⟨p, l, q⟩ ⟨p'', l'', q''⟩ ≤ 0) := fun h1 h2 => cmpS_le.2 ((cmpS_le.1 h1).trans (cmpS_le.1 h2))
  have HZ2 : Hid (0 ≤ cmpS ⟨p, l, q⟩ ⟨p', l', q'⟩ → 0 ≤ cmpS ⟨p', l', q'⟩ ⟨p'', l'', q''⟩ → 0 ≤ cmpS ⟨p, l, q⟩ ⟨p'', l'', q''⟩) := fun h1 h2 => cmpS_ge.2 ((cmpS_ge.1 h2).trans (cmpS_ge.1 h1))
  have HR1 : Hid (-1 ≤ cmpS ⟨p, l, q⟩ ⟨p', l', q'⟩ ∧ cmpS ⟨p, l, q⟩ ⟨p', l', q'⟩ ≤ 1) := cmpS_range _ _
  have HR2 : Hid (-1 ≤ cmpS ⟨p', l', q'⟩ ⟨p'', l'', q''⟩ ∧ cmpS ⟨p', l', q'⟩ ⟨p'', l'', q''⟩ ≤ 1) := cmpS_range _ _
  generalize cmpS ⟨p, l, q⟩ ⟨p', l', q'⟩ = x at *
  generalize cmpS ⟨p', l', q'⟩ ⟨p'', l'', q''⟩ = y at *
  generalize cmpS ⟨p, l, q⟩ ⟨p'', l'', q''⟩ = z at *
  clear HX
  have CC : ∀ (A : Array Value) (r : Int) (W : World), (A = #[vS p l q, vS p' l' q'] ∧ r = x ∨ A = #[vS p' l' q', vS p'' l'' q''] ∧ r = y ∨ A = #[vS p l q, vS p'' l'' q''] ∧ r = z) → Calls Try.prog 13 A W fun e w' => e = .returned (.int .i64 r) ∧ Below W.heap.size W w' := by
    rintro A r W (⟨rfl, rfl⟩ | ⟨rfl, rfl⟩ | ⟨rfl, rfl⟩)
    · exact C1 W
    · exact C2 W
    · exact C3 W
  clear C1 C2 C3
  go_enter Try.func4, Try.ntmps4
  go_upto_region 1 with fail
  generalize (((w.alloc (.cells #[.int .i64 p, .int .i64 l, .int .i64 q] 23)).alloc (.cells #[.int .i64 p', .int .i64 l', .int .i64 q'] 23)).alloc (.cells #[.int .i64 p'', .int .i64 l'', .int .i64 q''] 23)) = wv at *
  have HG : Hid (w.heap.size = g) := hg
  clear hg
  obtain ⟨a0, a1, a2⟩ := K.out.A.cells
  obtain ⟨b0, b1, b2⟩ := K.out.B.cells
  obtain ⟨c0, c1, c2⟩ := K.out.C.cells
  have HS := And.intro a0 (And.intro a1 (And.intro a2 (And.intro b0 (And.intro b1 (And.intro b2 (And.intro c0 (And.intro c1 (And.intro c2 (show Hid (Below wv.heap.size wv wv) from (Below.refl _ _))))))))))
  clear a0 a1 a2 b0 b1 b2 c0 c1 c2
  go_region_held3 (fun w' => w'.cell? ⟨g, 0, none⟩ = some (.int .i64 p) ∧ w'.cell? ⟨g, 1, none⟩ = some (.int .i64 l) ∧ w'.cell? ⟨g, 2, none⟩ = some (.int .i64 q) ∧ w'.cell? ⟨g + 1, 0, none⟩ = some (.int .i64 p') ∧ w'.cell? ⟨g + 1, 1, none⟩ = some (.int .i64 l') ∧ w'.cell? ⟨g + 1, 2, none⟩ = some (.int .i64 q') ∧ w'.cell? ⟨g + 1 + 1, 0, none⟩ = some (.int .i64 p'') ∧ w'.cell? ⟨g + 1 + 1, 1, none⟩ = some (.int .i64 l'') ∧ w'.cell? ⟨g + 1 + 1, 2, none⟩ = some (.int .i64 q'') ∧ Hid (Below wv.heap.size wv w')) (first | exact keepN (by assumption) (by assumption) | exact keepN (Below.refl _ _).drew (by assumption)) (first | (go_at_call 13; refine (CC _ _ _ (by first | exact .inl ⟨rfl, rfl⟩ | exact .inr (.inl ⟨rfl, rfl⟩) | exact .inr (.inr ⟨rfl, rfl⟩))).mono ?_; rintro e w' ⟨rfl, hb⟩))
  have HS1 : w'.cell? ⟨g, 0, none⟩ = some (.int .i64 p) ∧ w'.cell? ⟨g, 1, none⟩ = some (.int .i64 l) ∧ w'.cell? ⟨g, 2, none⟩ = some (.int .i64 q) ∧ w'.cell? ⟨g + 1, 0, none⟩ = some (.int .i64 p') ∧ w'.cell? ⟨g + 1, 1, none⟩ = some (.int .i64 l') ∧ w'.cell? ⟨g + 1, 2, none⟩ = some (.int .i64 q') ∧ w'.cell? ⟨g + 1 + 1, 0, none⟩ = some (.int .i64 p'') ∧ w'.cell? ⟨g + 1 + 1, 1, none⟩ = some (.int .i64 l'') ∧ w'.cell? ⟨g + 1 + 1, 2, none⟩ = some (.int .i64 q'') ∧ Hid (Below wv.heap.size wv w') := by assumption
  obtain ⟨_, _, _, _, _, _, _, _, _, HBv⟩ := HS1
  obtain ⟨wb, rfl⟩ : ∃ x, x = w' := ⟨_, rfl⟩
  replace K : Hid (KR w g p l q p' l' q' p'' l'' q'' wb) := K.out.later HBv.out
  clear HBv CC
  go_upto_region 2 with fail
  go_cut [72] from 26 (fun s72 wx => s72 = .bool false ∧ Hid (KR w g p l q p' l' q' p'' l'' q'' wx))
  case first =>
    as_aux_lemma =>
    obtain ⟨a0, a1, a2⟩ := K.out.A.cells
    obtain ⟨b0, b1, b2⟩ := K.out.B.cells
    go_wp2_with fail
    refine (C4 _).mono ?_
    rintro e w1 ⟨rfl, hb1⟩
    replace K : Hid (KR w g p l q p' l' q' p'' l'' q'' w1) := K.out.later hb1
    clear a0 a1 a2 b0 b1 b2 hb1
    obtain ⟨a0, a1, a2⟩ := K.out.A.cells
    obtain ⟨b0, b1, b2⟩ := K.out.B.cells
    have hxx : (x != - -x) = false := by simp
    rw [Int.neg_neg] at hxx
    have hr1 := HR1.out
    have e1 : -9223372036854775808 ≤ - -x := by omega
    have e2 : - -x ≤ 9223372036854775807 := by omega
    go_wp2_with fail
    refine (C5 _).mono ?_
    rintro e w2 ⟨rfl, hb2⟩
    replace K : Hid (KR w g p l q p' l' q' p'' l'' q'' w2) := K.out.later hb2
    clear a0 a1 a2 b0 b1 b2 hb2 e1 e2 hxx
    have hr2 := HR2.out
    have hx3 : x = -1 ∨ x = 0 ∨ x = 1 := by omega
    have hy3 : y = -1 ∨ y = 0 ∨ y = 1 := by omega
    have hz1 := HZ1.out
    have hz2 := HZ2.out
    clear hr1 hr2 HR1 HR2 HZ1 HZ2
    rcases hx3 with rfl | rfl | rfl <;> rcases hy3 with rfl | rfl | rfl
    all_goals
      first
      | (replace hz1 := decide_eq_true (hz1 (by decide) (by decide)); replace hz2 := decide_eq_true (hz2 (by decide) (by decide)))
      | (clear hz2; replace hz1 := decide_eq_true (hz1 (by decide) (by decide)))
      | (clear hz1; replace hz2 := decide_eq_true (hz2 (by decide) (by decide)))
      | clear hz1 hz2
      go_wp2
      go_meet
      exact ⟨rfl, K⟩
  case rest =>
  as_aux_lemma =>
  obtain ⟨rfl, K⟩ := hcut
  clear HZ1 HZ2 HR1 HR2 C4 C5
  obtain ⟨wc, rfl⟩ : ∃ x, x = wc := ⟨_, rfl⟩
  have CL := fun (W : World) => D.later p l q p' l' q' W ⟨i0, i1, i2⟩ ⟨i3, i4, i5⟩
  obtain ⟨L, hL⟩ : ∃ L, laterS ⟨p, l, q⟩ ⟨p', l', q'⟩ = L := ⟨_, rfl⟩
  have HL64 : Hid (S64 L) := by
    rw [← hL]
    rcases laterS_or ⟨p, l, q⟩ ⟨p', l', q'⟩ with e | e <;> rw [e]
    · exact ⟨i0, i1, i2⟩
    · exact ⟨i3, i4, i5⟩
  have HLor : Hid (L = ⟨p, l, q⟩ ∨ L = ⟨p', l', q'⟩) := by rw [← hL]; exact laterS_or _ _
  have HL1 : Hid (0 ≤ cmpS L ⟨p, l, q⟩) := by rw [← hL]; exact cmpS_ge.2 (laterS_left _ _)
  have HL2 : Hid (0 ≤ cmpS L ⟨p', l', q'⟩) := by rw [← hL]; exact cmpS_ge.2 (laterS_right _ _)
  rw [hL] at CL
  clear hL
  obtain ⟨lp, ll, lq⟩ := L
  simp only at CL
  have C6 := fun (W : World) => keepStamp_any lp ll lq p l q W
  have C7 := fun (W : World) => keepStamp_any lp ll lq p' l' q' W
  have C8 := fun (W : World) => D.compare lp ll lq p l q W HL64.out ⟨i0, i1, i2⟩
  have C9 := fun (W : World) => D.compare lp ll lq p' l' q' W HL64.out ⟨i3, i4, i5⟩
  have HE : Hid (decide ((⟨lp, ll, lq⟩ : PS) = ⟨p, l, q⟩) = true ∨ decide ((⟨lp, ll, lq⟩ : PS) = ⟨p, l, q⟩) = false ∧ decide ((⟨lp, ll, lq⟩ : PS) = ⟨p', l', q'⟩) = true) := by
    by_cases h : (⟨lp, ll, lq⟩ : PS) = ⟨p, l, q⟩
    · exact .inl (decide_eq_true h)
    · exact .inr ⟨decide_eq_false h, decide_eq_true (HLor.out.resolve_left h)⟩
  generalize decide ((⟨lp, ll, lq⟩ : PS) = ⟨p, l, q⟩) = b1 at *
  generalize decide ((⟨lp, ll, lq⟩ : PS) = ⟨p', l', q'⟩) = b2 at *
  generalize cmpS ⟨lp, ll, lq⟩ ⟨p, l, q⟩ = c1 at *
  generalize cmpS ⟨lp, ll, lq⟩ ⟨p', l', q'⟩ = c2 at *
  clear HLor
  obtain ⟨a0, a1, a2⟩ := K.out.A.cells
  obtain ⟨b0, b1', b2'⟩ := K.out.B.cells
  go_wp2_with fail
  refine (CL _).mono ?_
  rintro e wl ⟨rfl, hb⟩
  clear a0 a1 a2 b0 b1' b2' CL
  obtain ⟨gl, hgl⟩ : ∃ gl, wl.heap.size = gl := ⟨_, rfl⟩
  replace K : Hid (KR w g p l q p' l' q' p'' l'' q'' (wl.alloc (.cells #[.int .i64 lp, .int .i64 ll, .int .i64 lq] 23))) := K.out.later (chain hb (alloc_below _ _))
  have HL : Hid (BoxS (wl.alloc (.cells #[.int .i64 lp, .int .i64 ll, .int .i64 lq] 23)) gl lp ll lq) := BoxS.made hgl
  clear hb
  go_upto_region 5 with fail
  generalize wl.alloc (.cells #[.int .i64 lp, .int .i64 ll, .int .i64 lq] 23) = wd at *
  clear hgl
  go_cut [97] from 76 (fun s97 wx => s97 = .bool false ∧ Hid (KR w g p l q p' l' q' p'' l'' q'' wx))
  case first =>
    as_aux_lemma =>
    have hc1 : decide (c1 < 0) = false := by have := HL1.out; simp; omega
    have hc2 : decide (c2 < 0) = false := by have := HL2.out; simp; omega
    obtain ⟨a0, a1, a2⟩ := K.out.A.cells
    obtain ⟨l0, l1, l2⟩ := HL.out.cells
    go_wp2_with fail
    refine (C6 _).mono ?_
    rintro e w1 ⟨rfl, hb1⟩
    replace K : Hid (KR w g p l q p' l' q' p'' l'' q'' w1) := K.out.later hb1
    replace HL : Hid (BoxS w1 gl lp ll lq) := HL.out.later hb1
    clear hb1 a0 a1 a2 l0 l1 l2
    rcases HE.out with rfl | ⟨rfl, rfl⟩
    · obtain ⟨a0, a1, a2⟩ := K.out.A.cells
      obtain ⟨l0, l1, l2⟩ := HL.out.cells
      go_wp2_with fail
      refine (C8 _).mono ?_
      rintro e w2 ⟨rfl, hb1⟩
      replace K : Hid (KR w g p l q p' l' q' p'' l'' q'' w2) := K.out.later hb1
      replace HL : Hid (BoxS w2 gl lp ll lq) := HL.out.later hb1
      clear hb1 a0 a1 a2 l0 l1 l2
      obtain ⟨a0, a1, a2⟩ := K.out.B.cells
      obtain ⟨l0, l1, l2⟩ := HL.out.cells
      go_wp2_with fail
      refine (C9 _).mono ?_
      rintro e w3 ⟨rfl, hb1⟩
      replace K : Hid (KR w g p l q p' l' q' p'' l'' q'' w3) := K.out.later hb1
      clear hb1 a0 a1 a2 l0 l1 l2
      go_wp2
      go_meet
      exact ⟨rfl, K⟩
    · obtain ⟨a0, a1, a2⟩ := K.out.B.cells
      obtain ⟨l0, l1, l2⟩ := HL.out.cells
      go_wp2_with fail
      refine (C7 _).mono ?_
      rintro e w4 ⟨rfl, hb1⟩
      replace K : Hid (KR w g p l q p' l' q' p'' l'' q'' w4) := K.out.later hb1
      replace HL : Hid (BoxS w4 gl lp ll lq) := HL.out.later hb1
      clear hb1 a0 a1 a2 l0 l1 l2
      obtain ⟨a0, a1, a2⟩ := K.out.A.cells
      obtain ⟨l0, l1, l2⟩ := HL.out.cells
      go_wp2_with fail
      refine (C8 _).mono ?_
      rintro e w2 ⟨rfl, hb1⟩
      replace K : Hid (KR w g p l q p' l' q' p'' l'' q'' w2) := K.out.later hb1
      replace HL : Hid (BoxS w2 gl lp ll lq) := HL.out.later hb1
      clear hb1 a0 a1 a2 l0 l1 l2
      obtain ⟨a0, a1, a2⟩ := K.out.B.cells
      obtain ⟨l0, l1, l2⟩ := HL.out.cells
      go_wp2_with fail
      refine (C9 _).mono ?_
      rintro e w3 ⟨rfl, hb1⟩
      replace K : Hid (KR w g p l q p' l' q' p'' l'' q'' w3) := K.out.later hb1
      clear hb1 a0 a1 a2 l0 l1 l2
      go_wp2
      go_meet
      exact ⟨rfl, K⟩
  case rest =>
  as_aux_lemma =>
  obtain ⟨rfl, K⟩ := hcut
  clear HL64 HL1 HL2 C6 C7 C8 C9 HE HL
  obtain ⟨we, rfl⟩ : ∃ x, x = wc := ⟨_, rfl⟩
  go_upto_region 7 with fail
  go_cut [116] from 98 (fun s116 wx => s116 = .bool (!mayN ⟨p, l, q⟩ wall peer) ∧ Hid (KR w g p l q p' l' q' p'' l'' q'' wx))
  case first =>
    as_aux_lemma =>
    obtain ⟨a0, a1, a2⟩ := K.out.A.cells
    cases hok : okS ⟨p, l, q⟩ with
    | false =>
      have HM : Hid (mayN ⟨p, l, q⟩ wall peer = false) := by show _ = _; simp [mayN, hok]
      go_wp2_with fail
      refine (rStamp_of _ _ _ _ hok).mono ?_
      rintro e w1 ⟨rfl, hb1⟩
      replace K : Hid (KR w g p l q p' l' q' p'' l'' q'' w1) := K.out.later hb1
      clear hok
      go_wp2
      go_meet
      exact ⟨by rw [HM.out]; rfl, K⟩
    | true =>
      go_wp2_with fail
      refine (rStamp_of _ _ _ _ hok).mono ?_
      rintro e w1 ⟨rfl, hb1⟩
      replace K : Hid (KR w g p l q p' l' q' p'' l'' q'' w1) := K.out.later hb1
      clear hb1 a0 a1 a2
      by_cases h1 : wall < 0
      · have HM : Hid (mayN ⟨p, l, q⟩ wall peer = false) := by show _ = _; rw [Bool.eq_false_iff]; exact fun h => by have := (mayN_iff.1 h).2.1; omega
        clear hok
        go_wp2
        go_meet
        exact ⟨by rw [HM.out]; rfl, K⟩
      by_cases h2 : 1099511627776 < wall
      · have HM : Hid (mayN ⟨p, l, q⟩ wall peer = false) := by show _ = _; rw [Bool.eq_false_iff]; exact fun h => by have := (mayN_iff.1 h).2.1; omega
        clear hok
        have d1 : decide (wall < 0) = false := by simpa using h1
        go_wp2
        go_meet
        exact ⟨by rw [HM.out]; rfl, K⟩
      by_cases h3 : peer < 0
      · have HM : Hid (mayN ⟨p, l, q⟩ wall peer = false) := by show _ = _; rw [Bool.eq_false_iff]; exact fun h => by have := (mayN_iff.1 h).2.2; omega
        clear hok
        have d1 : decide (wall < 0) = false := by simpa using h1
        have d2 : decide (1099511627776 < wall) = false := by simpa using h2
        go_wp2
        go_meet
        exact ⟨by rw [HM.out]; rfl, K⟩
      by_cases h4 : 5 ≤ peer
      · have HM : Hid (mayN ⟨p, l, q⟩ wall peer = false) := by show _ = _; rw [Bool.eq_false_iff]; exact fun h => by have := (mayN_iff.1 h).2.2; omega
        clear hok
        have d1 : decide (wall < 0) = false := by simpa using h1
        have d2 : decide (1099511627776 < wall) = false := by simpa using h2
        have d3 : decide (peer < 0) = false := by simpa using h3
        go_wp2
        go_meet
        exact ⟨by rw [HM.out]; rfl, K⟩
      have HM : Hid (mayN ⟨p, l, q⟩ wall peer = true) := mayN_iff.2 ⟨hok, by omega, by omega⟩
      clear hok
      have d1 : decide (wall < 0) = false := by simpa using h1
      have d2 : decide (1099511627776 < wall) = false := by simpa using h2
      have d3 : decide (peer < 0) = false := by simpa using h3
      have d4 : decide (5 ≤ peer) = false := by simpa using h4
      go_wp2
      go_meet
      exact ⟨by rw [HM.out]; rfl, K⟩
  case rest =>
  as_aux_lemma =>
  obtain ⟨rfl, K⟩ := hcut
  obtain ⟨wf, rfl⟩ : ∃ x, x = wc := ⟨_, rfl⟩
  have CW := fun (W : World) => hwakes_any D W
  cases hm : mayN ⟨p, l, q⟩ wall peer with
  | false =>
    clear hm
    go_wp2_with fail
    refine (CW _).mono ?_
    rintro e w1 ⟨rfl, hb1⟩
    have HB : Hid (Below w.heap.size w w1) := chain K.out.S hb1
    go_wp2
    go_ret
    exact ⟨rfl, HB.out⟩
  | true =>
    have CN := fun (W : World) => D.next p l q wall peer W ⟨i0, i1, i2⟩ i6 i7
    unfold TellsS at CN
    obtain ⟨a0, a1, a2⟩ := K.out.A.cells
    by_cases hf : ¬ p < wall ∧ l = 65536
    · rw [nextS_full hm hf.1 hf.2] at CN
      simp only [noS] at CN
      obtain ⟨hf1, hf2⟩ := hf
      have hw1 : wall ≤ p := by omega
      subst hf2
      clear hm hf1
      go_wp2_with fail
      refine (CN _).mono ?_
      rintro e w1 ⟨rfl, hb1⟩
      obtain ⟨gn, hgn⟩ : ∃ gn, w1.heap.size = gn := ⟨_, rfl⟩
      replace K : Hid (KR w g p 65536 q p' l' q' p'' l'' q'' (w1.alloc (.cells #[.int .i64 0, .int .i64 0, .int .i64 0] 23))) := K.out.later (chain hb1 (alloc_below _ _))
      clear hb1 a0 a1 a2
      obtain ⟨a0, a1, a2⟩ := K.out.A.cells
      go_wp2_with fail
      refine (CW _).mono ?_
      rintro e w2 ⟨rfl, hb1⟩
      have HB : Hid (Below w.heap.size w w2) := chain K.out.S hb1
      go_wp2
      go_ret
      exact ⟨rfl, HB.out⟩
    · obtain ⟨n, hn, hlt, hok, hw, hp, hq, _⟩ := nextS_ok hm (by simp only; omega)
      rw [hn] at CN
      have HC : Hid (cmpS n ⟨p, l, q⟩ = 1) := cmpS_one.2 hlt
      have HK : Hid (chkS n = 0) := by show _ = _; simp [chkS, hok]
      have HN64 : Hid (S64 n) := okS_64 hok
      obtain ⟨np, nl, nq⟩ := n
      simp only at CN hw hp hq
      have CC := fun (W : World) => D.compare np nl nq p l q W HN64.out ⟨i0, i1, i2⟩
      have CK := fun (W : World) => D.check np nl nq W HN64.out
      rw [HC.out] at CC
      rw [HK.out] at CK
      subst hq
      clear hm hn hlt hok hf HC HK
      go_wp2_with fail
      refine (CN _).mono ?_
      rintro e w1 ⟨rfl, hb1⟩
      obtain ⟨gn, hgn⟩ : ∃ gn, w1.heap.size = gn := ⟨_, rfl⟩
      replace K : Hid (KR w g p l q p' l' q' p'' l'' q'' (w1.alloc (.cells #[.int .i64 np, .int .i64 nl, .int .i64 nq] 23))) := K.out.later (chain hb1 (alloc_below _ _))
      have HX : Hid (BoxS (w1.alloc (.cells #[.int .i64 np, .int .i64 nl, .int .i64 nq] 23)) gn np nl nq) := BoxS.made hgn
      clear hb1 a0 a1 a2
      obtain ⟨a0, a1, a2⟩ := K.out.A.cells
      obtain ⟨x0, x1, x2⟩ := HX.out.cells
      go_wp2_with fail
      refine (CC _).mono ?_
      rintro e w2 ⟨rfl, hb1⟩
      replace K : Hid (KR w g p l q p' l' q' p'' l'' q'' w2) := K.out.later hb1
      replace HX : Hid (BoxS w2 gn np nl nq) := HX.out.later hb1
      clear hb1 a0 a1 a2 x0 x1 x2
      obtain ⟨a0, a1, a2⟩ := K.out.A.cells
      obtain ⟨x0, x1, x2⟩ := HX.out.cells
      go_wp2_with fail
      refine (CK _).mono ?_
      rintro e w3 ⟨rfl, hb1⟩
      replace K : Hid (KR w g p l q p' l' q' p'' l'' q'' w3) := K.out.later hb1
      clear hb1 a0 a1 a2 x0 x1 x2 HX
      go_wp2_with fail
      refine (CW _).mono ?_
      rintro e w4 ⟨rfl, hb1⟩
      have HB : Hid (Below w.heap.size w w4) := chain K.out.S hb1
      go_wp2
      go_ret
      exact ⟨rfl, HB.out⟩

end Go.Proofs.Ytncidjlobjgibaa
