/-
  HlcMeets' walk: what the law answers, whatever its walls, whoever is told.
-/
import Derived.Test.YtncidjlobjgibaaRows
import Derived.Test.YtncidjlobjgibaaHMe
namespace Go.Proofs.Ytncidjlobjgibaa
open Go.RowKit Go.Lib
set_option linter.unusedVariables false

/-- What is known of the two times, and of those seen. -/
structure FM (k p r : Nat) (X Y : PS) (S : List PS) : Prop where
  x : okS X = true
  y : okS Y = true
  xl : X.l ≤ k
  yl : Y.l ≤ k
  s : ∀ s ∈ S, okS s = true ∧ (s.q = p ∧ LeS s X ∨ s.q = r ∧ LeS s Y)

theorem keep4 {w w' : World} {b o c q : Nat} {x y z u : Value} (hb : Below w.heap.size w w')
    (H : w.cell? ⟨b, o, none⟩ = some x ∧ w.cell? ⟨b, o + 1, none⟩ = some y ∧ w.cell? ⟨b, o + 2, none⟩ = some z ∧ w.cell? ⟨c, q, none⟩ = some u) :
    w'.cell? ⟨b, o, none⟩ = some x ∧ w'.cell? ⟨b, o + 1, none⟩ = some y ∧ w'.cell? ⟨b, o + 2, none⟩ = some z ∧ w'.cell? ⟨c, q, none⟩ = some u :=
  ⟨cell_later hb H.1, cell_later hb H.2.1, cell_later hb H.2.2.1, cell_later hb H.2.2.2⟩

theorem keep4B {B : Nat} {w w' : World} {b o c q : Nat} {x y z u : Value} (hb : Below B w w') (h : b < B) (h' : c < B)
    (H : w.cell? ⟨b, o, none⟩ = some x ∧ w.cell? ⟨b, o + 1, none⟩ = some y ∧ w.cell? ⟨b, o + 2, none⟩ = some z ∧ w.cell? ⟨c, q, none⟩ = some u) :
    w'.cell? ⟨b, o, none⟩ = some x ∧ w'.cell? ⟨b, o + 1, none⟩ = some y ∧ w'.cell? ⟨b, o + 2, none⟩ = some z ∧ w'.cell? ⟨c, q, none⟩ = some u :=
  ⟨(hb.cell (p := ⟨b, o, none⟩) h).trans H.1, (hb.cell (p := ⟨b, o + 1, none⟩) h).trans H.2.1, (hb.cell (p := ⟨b, o + 2, none⟩) h).trans H.2.2.1, (hb.cell (p := ⟨c, q, none⟩) h').trans H.2.2.2⟩

theorem keep9 {w w' : World} {b o c q d s : Nat} {x y z x' y' z' x'' y'' z'' : Value} (hb : Below w.heap.size w w')
    (H : w.cell? ⟨b, o, none⟩ = some x ∧ w.cell? ⟨b, o + 1, none⟩ = some y ∧ w.cell? ⟨b, o + 2, none⟩ = some z ∧ w.cell? ⟨c, q, none⟩ = some x' ∧ w.cell? ⟨c, q + 1, none⟩ = some y' ∧ w.cell? ⟨c, q + 2, none⟩ = some z' ∧ w.cell? ⟨d, s, none⟩ = some x'' ∧ w.cell? ⟨d, s + 1, none⟩ = some y'' ∧ w.cell? ⟨d, s + 2, none⟩ = some z'') :
    w'.cell? ⟨b, o, none⟩ = some x ∧ w'.cell? ⟨b, o + 1, none⟩ = some y ∧ w'.cell? ⟨b, o + 2, none⟩ = some z ∧ w'.cell? ⟨c, q, none⟩ = some x' ∧ w'.cell? ⟨c, q + 1, none⟩ = some y' ∧ w'.cell? ⟨c, q + 2, none⟩ = some z' ∧ w'.cell? ⟨d, s, none⟩ = some x'' ∧ w'.cell? ⟨d, s + 1, none⟩ = some y'' ∧ w'.cell? ⟨d, s + 2, none⟩ = some z'' :=
  ⟨cell_later hb H.1, cell_later hb H.2.1, cell_later hb H.2.2.1, cell_later hb H.2.2.2.1, cell_later hb H.2.2.2.2.1, cell_later hb H.2.2.2.2.2.1, cell_later hb H.2.2.2.2.2.2.1, cell_later hb H.2.2.2.2.2.2.2.1, cell_later hb H.2.2.2.2.2.2.2.2⟩

theorem kmLater {w0 W W' : World} {g p r : Nat} {X Y : PS} {v : Value} {S : List PS} (h : AtB W g p r X Y ∧ OwnT W (g + 1) v S ∧ Below g w0 W) (hb : Below W.heap.size W W') : AtB W' g p r X Y ∧ OwnT W' (g + 1) v S ∧ Below g w0 W' :=
  ⟨h.1.later hb h.1.lt, h.2.1.later hb, h.2.2.trans (hb.mono (Nat.le_of_lt h.1.lt))⟩

theorem FM.next {k p r : Nat} {X Y N : PS} {S : List PS} (h : FM k p r X Y S) (h1 : okS N = true) (h2 : LtS X N) (h3 : N.q = p) (h4 : N.l ≤ (k + 1 : Nat)) : FM (k + 1) r p Y N (S ++ [N]) := by
  refine ⟨h.y, h1, by have := h.yl; omega, h4, fun s hs => ?_⟩
  rcases List.mem_append.1 hs with hs | hs
  · obtain ⟨ho, ⟨hq, hl⟩ | ⟨hq, hl⟩⟩ := h.s s hs
    · exact ⟨ho, .inr ⟨hq, hl.trans h2.le⟩⟩
    · exact ⟨ho, .inl ⟨hq, hl⟩⟩
  · simp at hs
    subst hs
    exact ⟨h1, .inr ⟨h3, LeS.refl _⟩⟩

theorem FM.told {k p r : Nat} {Y N : PS} {S : List PS} (h : FM k r p Y N S) : FM k r p (laterS Y N) N S := by
  refine ⟨?_, h.y, ?_, h.yl, fun s hs => ?_⟩
  · rcases laterS_or Y N with e | e <;> rw [e]
    · exact h.x
    · exact h.y
  · rcases laterS_or Y N with e | e <;> rw [e]
    · exact h.xl
    · exact h.yl
  · obtain ⟨ho, ⟨hq, hl⟩ | ⟨hq, hl⟩⟩ := h.s s hs
    · exact ⟨ho, .inl ⟨hq, hl.trans (laterS_left _ _)⟩⟩
    · exact ⟨ho, .inr ⟨hq, hl⟩⟩

theorem FM.unlike {k p r : Nat} {X Y N : PS} {S : List PS} (h : FM k p r X Y S) (hpr : p ≠ r) (h2 : LtS X N) (h3 : N.q = p) {s : PS} (hs : s ∈ S) : cmpS s N ≠ 0 := by
  intro e
  have e' := cmpS_zero.1 e
  subst e'
  rcases (h.s s hs).2 with ⟨_, hl⟩ | ⟨hq, _⟩
  · exact LtS.irrefl _ (hl.lt h2)
  · omega

/-- A row of one time. -/
theorem rdT_one (w : World) (g : Nat) (hg : w.heap.size = g) (p l q : Int) : RdT (w.alloc (.cells #[.int .i64 p, .int .i64 l, .int .i64 q] 23)) (some ⟨g, 0, none⟩) [⟨p, l, q⟩] := by
  obtain ⟨a, b, c⟩ := (BoxS.made (p := p) (l := l) (q := q) hg).cells
  refine fun _ => ⟨g, 0, rfl, fun i hi => ?_⟩
  obtain rfl : i = 0 := by simp at hi; omega
  exact ⟨a, b, c⟩

set_option maxRecDepth 100000 in
set_option maxHeartbeats 8000000 in
theorem hmeets_some (D : HlcApi) (a b : Option Addr) (n m cap dap : Nat) (A : List Int) (B : List Bool) (w : World) (hA : A.length = n) (hB : B.length = m) (hn : n ≤ 60) (hm : m ≤ 100) (ra : RdI .i64 w a A) (rb : RdB w b B) :
    Calls Try.prog 8 #[.slice a n cap, .slice b m dap] w fun e w' => e = .returned (.bool true) ∧ Below w.heap.size w w' := by
  have LA : Hid (A.length = n) := hA
  have LB : Hid (B.length = m) := hB
  have RA : Hid (RdI .i64 w a A) := ra
  have RB : Hid (RdB w b B) := rb
  have CW := fun (W : World) => hwakes_any D W
  clear hA hB ra rb
  obtain ⟨g, hg⟩ : ∃ g, w.heap.size = g := ⟨_, rfl⟩
  have HG : Hid (w.heap.size = g) := hg
  have HX0 : Hid (AtB (w.alloc (.cells #[.int .i64 0, .int .i64 0, .int .i64 0, .int .i64 0, .int .i64 0, .int .i64 0] 42)) g 0 1 noS noS) := AtB.made hg
  go_enter Try.func8, Try.ntmps8
  go_wp2
  clear hg
  go_loopw [6, 7] (fun s6 i wr => ∃ (k p r cs : Nat) (sa : Option Addr) (xp xl xq yp yl yq : Int) (S : List PS), k ≤ n ∧ i = .int .i64 k ∧ s6 = .slice sa k cs ∧ S.length = k ∧ Hid (p = k % 2 ∧ p + r = 1) ∧ Hid (AtB wr g p r ⟨xp, xl, xq⟩ ⟨yp, yl, yq⟩ ∧ OwnT wr (g + 1) (.slice sa k cs) S ∧ Below g w wr) ∧ Hid (FM k p r ⟨xp, xl, xq⟩ ⟨yp, yl, yq⟩ S)) (fun _ i _ => n - (RowKit.intOf i).toNat)
  case atStart => exact ⟨0, 0, 1, 0, none, 0, 0, 0, 0, 0, 0, [], Nat.zero_le _, rfl, rfl, rfl, ⟨rfl, rfl⟩, ⟨HX0.out, OwnT.nought _ _, by have := alloc_below w (.cells #[.int .i64 0, .int .i64 0, .int .i64 0, .int .i64 0, .int .i64 0, .int .i64 0] 42); rw [HG.out] at this; exact this⟩, ⟨rfl, rfl, by simp, by simp, fun s hs => by cases hs⟩⟩
  case round =>
  clear HX0
  obtain ⟨k, p, r, cs, sa, xp, xl, xq, yp, yl, yq, S, hk, rfl, rfl, hS, HP, HK, HF⟩ := hrel
  have LS : Hid (S.length = k) := hS
  clear hS
  by_cases hlt : k < n
  · have hp := HP.out
    have hmod : (k : Int).tmod 2 = (p : Int) := by rw [Int.tmod_eq_emod_of_nonneg (by omega)]; omega
    have hp2 : p < 2 := by omega
    have hsub : (1 : Int) - (p : Int) = (r : Int) := by omega
    have hr2 : r < 2 := by omega
    have hsub' : IntKind.i64.wrap (r : Int) = (r : Int) := by rw [IntKind.wrap_i64]; omega
    have HPR : Hid (p ≠ r) := by show p ≠ r; omega
    clear hp
    obtain ⟨b1, o1, rfl, hc1⟩ := RA.out (by rw [LA.out]; omega)
    have y1 := hc1 k (by rw [LA.out]; exact hlt)
    have HB1 : Hid (b1 < g) := by have := World.block_lt_of_cell? _ ⟨_, _, none⟩ y1; rw [HG.out] at this; exact this
    replace y1 := (HK.out.2.2.cell (p := ⟨b1, o1 + k, none⟩) HB1.out).trans y1
    generalize A[k]'(by rw [LA.out]; exact hlt) = wall at *
    clear hc1
    obtain ⟨v, hv, hv0, hv1⟩ := modTo wall 1099511627777 (by omega) (by omega)
    have hv' : IntKind.i64.wrap ((IntKind.u64.wrap wall).tmod 1099511627777) = v := wrapTo hv hv0 (by omega)
    have hm' : mayN ⟨xp, xl, xq⟩ v p = true := mayN_iff.2 ⟨HF.out.x, by omega, by omega⟩
    obtain ⟨nx, hnx, hlt', hok, -, -, hnq, hll⟩ := nextS_ok hm' (by have := HF.out.xl; simp only at this ⊢; omega)
    have CN := fun (W : World) => D.next xp xl xq v p W (okS_64 HF.out.x) (in64' (by omega)) (in64' (by omega))
    unfold TellsS at CN
    rw [hnx] at CN
    have CC := fun (W : World) => D.compare nx.p nx.l nx.q xp xl xq W (okS_64 hok) (okS_64 HF.out.x)
    rw [show cmpS ⟨nx.p, nx.l, nx.q⟩ ⟨xp, xl, xq⟩ = 1 from cmpS_one.2 hlt'] at CC
    have CL := fun (W : World) => D.later yp yl yq nx.p nx.l nx.q W (okS_64 HF.out.y) (okS_64 hok)
    have HNX : Hid (okS nx = true ∧ LtS ⟨xp, xl, xq⟩ nx ∧ nx.q = p ∧ nx.l ≤ (k + 1 : Nat)) := ⟨hok, hlt', hnq, by have := HF.out.xl; simp only at this hll; omega⟩
    obtain ⟨np, nl, nq⟩ := nx
    simp only at CN CC HNX CL
    clear hm' hnx hlt' hok hll hnq
    obtain ⟨x0, x1, x2⟩ := HK.out.1.cells
    have HS := And.intro x0 (And.intro x1 (And.intro x2 y1))
    have HSd := keep4 (Below.refl _ _).drew HS
    have HLt : Hid (g < wr.heap.size ∧ b1 < wr.heap.size) := ⟨HK.out.1.lt, World.block_lt_of_cell? _ ⟨_, _, none⟩ y1⟩
    clear x0 x1 x2 y1 HS
    have z2 : (k : Int) < (n : Int) := by omega
    have zp : (p : Int) < 2 := by omega
    have zr : (r : Int) < 2 := by omega
    go_upto_region 9 with fail
    go_cut [9, 10] from 29 to 43 (fun s9 s10 wx => ∃ gn, s9 = .pointer (some ⟨gn, 0, none⟩) ∧ s10 = .int .i64 0 ∧ Hid (BoxS wx gn np nl nq ∧ (AtB wx g p r ⟨xp, xl, xq⟩ ⟨yp, yl, yq⟩ ∧ OwnT wx (g + 1) (.slice sa k cs) S ∧ Below g w wx) ∧ wr.heap.size ≤ gn))
    case first =>
      refine wp_region_held_drew (S := (fun w' => w'.cell? ⟨g, p * 3, none⟩ = some (.int .i64 xp) ∧ w'.cell? ⟨g, p * 3 + 1, none⟩ = some (.int .i64 xl) ∧ w'.cell? ⟨g, p * 3 + 2, none⟩ = some (.int .i64 xq) ∧ w'.cell? ⟨b1, o1 + k, none⟩ = some (.int .i64 wall))) (by kernel_rfl) HSd (fun hHeld => ?_)
      refine heldTake (v := ?_) 0 30 rfl rfl (by kernel_rfl) (by kernel_rfl) (by kernel_rfl) (fun _ _ _ h => h) (by rfl) (fun w hSw => ?_) (by assumption) ?_
      rotate_left
      · (try dsimp only at hSw); first | (go_simp; done) | (go_simp; with_reducible rfl)
      simp only [List.setIfInBounds_toArray, List.set_cons_zero, List.set_cons_succ]
      refine heldTake (v := ?_) 1 31 rfl rfl (by kernel_rfl) (by kernel_rfl) (by kernel_rfl) (fun _ _ _ h => h) (by rfl) (fun w hSw => ?_) (by assumption) ?_
      rotate_left
      · (try dsimp only at hSw); first | (go_simp; done) | (go_simp; with_reducible rfl)
      simp only [List.setIfInBounds_toArray, List.set_cons_zero, List.set_cons_succ]
      refine heldTake (v := ?_) 2 32 rfl rfl (by kernel_rfl) (by kernel_rfl) (by kernel_rfl) (fun _ _ _ h => h) (by rfl) (fun w hSw => ?_) (by assumption) ?_
      rotate_left
      · (try dsimp only at hSw); first | (go_simp; done) | (go_simp; with_reducible rfl)
      simp only [List.setIfInBounds_toArray, List.set_cons_zero, List.set_cons_succ]
      refine heldTake (v := ?_) 3 33 rfl rfl (by kernel_rfl) (by kernel_rfl) (by kernel_rfl) (fun _ _ _ h => h) (by rfl) (fun w hSw => ?_) (by assumption) ?_
      rotate_left
      · (try dsimp only at hSw); first | (go_simp; done) | (go_simp; with_reducible rfl)
      simp only [List.setIfInBounds_toArray, List.set_cons_zero, List.set_cons_succ]
      refine heldTake (v := ?_) 4 34 rfl rfl (by kernel_rfl) (by kernel_rfl) (by kernel_rfl) (fun _ _ _ h => h) (by rfl) (fun w hSw => ?_) (by assumption) ?_
      rotate_left
      · (try dsimp only at hSw); first | (go_simp; done) | (go_simp; with_reducible rfl)
      simp only [List.setIfInBounds_toArray, List.set_cons_zero, List.set_cons_succ]
      refine heldTake (v := ?_) 5 35 rfl rfl (by kernel_rfl) (by kernel_rfl) (by kernel_rfl) (fun _ _ _ h => h) (by rfl) (fun w hSw => ?_) (by assumption) ?_
      rotate_left
      · (try dsimp only at hSw); first | (go_simp; done) | (go_simp; with_reducible rfl)
      simp only [List.setIfInBounds_toArray, List.set_cons_zero, List.set_cons_succ]
      refine heldTake (v := ?_) 6 36 rfl rfl (by kernel_rfl) (by kernel_rfl) (by kernel_rfl) (fun _ _ _ h => h) (by rfl) (fun w hSw => ?_) (by assumption) ?_
      rotate_left
      · (try dsimp only at hSw); first | (go_simp; done) | (go_simp; with_reducible rfl)
      simp only [List.setIfInBounds_toArray, List.set_cons_zero, List.set_cons_succ]
      refine heldTake (v := ?_) 7 37 rfl rfl (by kernel_rfl) (by kernel_rfl) (by kernel_rfl) (fun _ _ _ h => h) (by rfl) (fun w hSw => ?_) (by assumption) ?_
      rotate_left
      · (try dsimp only at hSw); first | (go_simp; done) | (go_simp; with_reducible rfl)
      simp only [List.setIfInBounds_toArray, List.set_cons_zero, List.set_cons_succ]
      refine heldTake (v := ?_) 8 38 rfl rfl (by kernel_rfl) (by kernel_rfl) (by kernel_rfl) (fun _ _ _ h => h) (by rfl) (fun w hSw => ?_) (by assumption) ?_
      rotate_left
      · (try dsimp only at hSw); first | (go_simp; done) | (go_simp; with_reducible rfl)
      simp only [List.setIfInBounds_toArray, List.set_cons_zero, List.set_cons_succ]
      refine heldTake (v := ?_) 9 39 rfl rfl (by kernel_rfl) (by kernel_rfl) (by kernel_rfl) (fun _ _ _ h => h) (by rfl) (fun w hSw => ?_) (by assumption) ?_
      rotate_left
      · (try dsimp only at hSw); first | (go_simp; done) | (go_simp; with_reducible rfl)
      simp only [List.setIfInBounds_toArray, List.set_cons_zero, List.set_cons_succ]
      refine heldTake (v := ?_) 10 40 rfl rfl (by kernel_rfl) (by kernel_rfl) (by kernel_rfl) (fun _ _ _ h => h) (by rfl) (fun w hSw => ?_) (by assumption) ?_
      rotate_left
      · (try dsimp only at hSw); first | (go_simp; done) | (go_simp; with_reducible rfl)
      simp only [List.setIfInBounds_toArray, List.set_cons_zero, List.set_cons_succ]
      refine heldTwo 11 15 rfl rfl (by kernel_rfl) (by rfl) (by rfl) (fun K2 hK => ?_) (fun K2 hK => ?_)
      · go_simp
        refine (CN _).mono ?_
        rintro e w1 ⟨rfl, hb1⟩
        refine hK.out _ _ ?_ (fun hHeld => ?_)
        · exact keep4 hb1 (by assumption)
        clear hK K2
        try simp only [List.setIfInBounds_toArray, List.set_cons_zero, List.set_cons_succ]
        refine heldTake (v := ?_) 12 29 rfl rfl (by kernel_rfl) (by kernel_rfl) (by kernel_rfl) (fun _ _ _ h => h) (by rfl) (fun w hSw => ?_) (by assumption) ?_
        rotate_left
        · (try dsimp only at hSw); first | (go_simp; done) | (go_simp; with_reducible rfl)
        simp only [List.setIfInBounds_toArray, List.set_cons_zero, List.set_cons_succ]
        refine heldTake (v := ?_) 13 42 rfl rfl (by kernel_rfl) (by kernel_rfl) (by kernel_rfl) (fun _ _ _ h => h) (by rfl) (fun w hSw => ?_) (by assumption) ?_
        rotate_left
        · (try dsimp only at hSw); first | (go_simp; done) | (go_simp; with_reducible rfl)
        simp only [List.setIfInBounds_toArray, List.set_cons_zero, List.set_cons_succ]
        refine heldTake (v := ?_) 14 43 rfl rfl (by kernel_rfl) (by kernel_rfl) (by kernel_rfl) (fun _ _ _ h => h) (by rfl) (fun w hSw => ?_) (by assumption) ?_
        rotate_left
        · (try dsimp only at hSw); first | (go_simp; done) | (go_simp; with_reducible rfl)
        simp only [List.setIfInBounds_toArray, List.set_cons_zero, List.set_cons_succ]
        refine heldOne 15 rfl (by kernel_rfl) (by rfl) (fun K2 hK => ?_)
        go_simp
        refine hK.out _ _ ?_ (fun hHeld => ?_)
        · exact keep4 (alloc_below _ _) (by assumption)
        clear hK K2
        try simp only [List.setIfInBounds_toArray, List.set_cons_zero, List.set_cons_succ]
        refine heldOne 16 rfl (by kernel_rfl) (by rfl) (fun K2 hK => ?_)
        go_simp
        refine hK.out _ _ ?_ (fun hHeld => ?_)
        · exact keep4 (alloc_below _ _) (by assumption)
        clear hK K2
        try simp only [List.setIfInBounds_toArray, List.set_cons_zero, List.set_cons_succ]
        refine heldTake (v := ?_) 17 10 rfl rfl (by kernel_rfl) (by kernel_rfl) (by kernel_rfl) (fun _ _ _ h => h) (by rfl) (fun w hSw => ?_) (by assumption) ?_
        rotate_left
        · (try dsimp only at hSw); first | (go_simp; done) | (go_simp; with_reducible rfl)
        simp only [List.setIfInBounds_toArray, List.set_cons_zero, List.set_cons_succ]
        refine wpAnyH_done (by kernel_rfl) ?_ _
        have HNB : Hid (Below wr.heap.size wr (w1.alloc (.cells #[.int .i64 np, .int .i64 nl, .int .i64 nq] 23))) := chain (Below.refl _ _).drew (chain hb1 (alloc_below _ _))
        have HNX2 : Hid (BoxS (w1.alloc (.cells #[.int .i64 np, .int .i64 nl, .int .i64 nq] 23)) w1.heap.size np nl nq) := BoxS.made rfl
        go_wp2
        go_meet
        exact ⟨_, rfl, rfl, HNX2.out, ⟨HK.out.1.later HNB.out HK.out.1.lt, HK.out.2.1.later HNB.out, HK.out.2.2.trans (HNB.out.mono (Nat.le_of_lt HK.out.1.lt))⟩, (chain (Below.refl wr.heap.size wr).drew hb1).size⟩
      · go_simp
        have HZ : Hid (BoxS (wr.drew.alloc (.cells #[.int .i64 0, .int .i64 0, .int .i64 0] 23)) wr.heap.size 0 0 0) := BoxS.made rfl
        refine hK.out _ _ ?_ (fun hHeld => ?_)
        · exact keep4 (alloc_below _ _) (by assumption)
        clear hK K2
        try simp only [List.setIfInBounds_toArray, List.set_cons_zero, List.set_cons_succ]
        refine heldOne 11 rfl (by kernel_rfl) (by rfl) (fun K2 hK => ?_)
        go_simp
        refine (CN _).mono ?_
        rintro e w1 ⟨rfl, hb1⟩
        replace HZ : Hid (BoxS w1 wr.heap.size 0 0 0) := HZ.out.later hb1
        refine hK.out _ _ ?_ (fun hHeld => ?_)
        · exact keep4 hb1 (by assumption)
        clear hK K2
        try simp only [List.setIfInBounds_toArray, List.set_cons_zero, List.set_cons_succ]
        refine heldTake (v := ?_) 12 29 rfl rfl (by kernel_rfl) (by kernel_rfl) (by kernel_rfl) (fun _ _ _ h => h) (by rfl) (fun w hSw => ?_) (by assumption) ?_
        rotate_left
        · (try dsimp only at hSw); first | (go_simp; done) | (go_simp; with_reducible rfl)
        simp only [List.setIfInBounds_toArray, List.set_cons_zero, List.set_cons_succ]
        refine heldTake (v := ?_) 13 42 rfl rfl (by kernel_rfl) (by kernel_rfl) (by kernel_rfl) (fun _ _ _ h => h) (by rfl) (fun w hSw => ?_) (by assumption) ?_
        rotate_left
        · (try dsimp only at hSw); first | (go_simp; done) | (go_simp; with_reducible rfl)
        simp only [List.setIfInBounds_toArray, List.set_cons_zero, List.set_cons_succ]
        refine heldTake (v := ?_) 14 43 rfl rfl (by kernel_rfl) (by kernel_rfl) (by kernel_rfl) (fun _ _ _ h => h) (by rfl) (fun w hSw => ?_) (by assumption) ?_
        rotate_left
        · (try dsimp only at hSw); first | (go_simp; done) | (go_simp; with_reducible rfl)
        simp only [List.setIfInBounds_toArray, List.set_cons_zero, List.set_cons_succ]
        refine heldOne 16 rfl (by kernel_rfl) (by rfl) (fun K2 hK => ?_)
        obtain ⟨r0, r1, r2⟩ := HZ.out.cells
        have f0 := HZ.out.frozen
        go_simp
        refine hK.out _ _ ?_ (fun hHeld => ?_)
        · exact keep4B (below_set3 (Below.refl _ _) (Nat.le_refl _)) HLt.out.1 HLt.out.2 (by assumption)
        clear hK K2
        try simp only [List.setIfInBounds_toArray, List.set_cons_zero, List.set_cons_succ]
        refine heldTake (v := ?_) 17 10 rfl rfl (by kernel_rfl) (by kernel_rfl) (by kernel_rfl) (fun _ _ _ h => h) (by rfl) (fun w hSw => ?_) (by assumption) ?_
        rotate_left
        · (try dsimp only at hSw); first | (go_simp; done) | (go_simp; with_reducible rfl)
        simp only [List.setIfInBounds_toArray, List.set_cons_zero, List.set_cons_succ]
        refine wpAnyH_done (by kernel_rfl) ?_ _
        have HNB : Hid (Below wr.heap.size wr (((w1.setCell ⟨wr.heap.size, 0, none⟩ (.int .i64 np)).setCell ⟨wr.heap.size, 1, none⟩ (.int .i64 nl)).setCell ⟨wr.heap.size, 2, none⟩ (.int .i64 nq))) := below_set3 (chain (Below.refl _ _).drew (chain (alloc_below _ _) hb1)) (Nat.le_refl _)
        have HNX2 : Hid (BoxS (((w1.setCell ⟨wr.heap.size, 0, none⟩ (.int .i64 np)).setCell ⟨wr.heap.size, 1, none⟩ (.int .i64 nl)).setCell ⟨wr.heap.size, 2, none⟩ (.int .i64 nq)) wr.heap.size np nl nq) := HZ.out.set np nl nq
        go_wp2
        go_meet
        exact ⟨_, rfl, rfl, HNX2.out, ⟨HK.out.1.later HNB.out HK.out.1.lt, HK.out.2.1.later HNB.out, HK.out.2.2.trans (HNB.out.mono (Nat.le_of_lt HK.out.1.lt))⟩, Nat.le_refl _⟩
    case rest =>
    obtain ⟨gn, rfl, rfl, HC⟩ := hcut
    obtain ⟨we, rfl⟩ : ∃ x, x = wc := ⟨_, rfl⟩
    have HGN : Hid (g < gn ∧ (∀ j, Value.ownBlock (.slice sa k cs) = some j → j < gn)) := ⟨Nat.lt_of_lt_of_le HLt.out.1 HC.out.2.2, fun j hj => Nat.lt_of_lt_of_le (World.ownsRow.lt HK.out.2.1 j hj).2 HC.out.2.2⟩
    have HNB : Hid (BoxS we gn np nl nq) := HC.out.1
    clear HK HSd HLt hv hv' hv0 hv1 CN
    have HK : Hid (AtB we g p r ⟨xp, xl, xq⟩ ⟨yp, yl, yq⟩ ∧ OwnT we (g + 1) (.slice sa k cs) S ∧ Below g w we) := HC.out.2.1
    clear HC
    obtain ⟨x0, x1, x2⟩ := HK.out.1.cells
    obtain ⟨n0, n1, n2⟩ := HNB.out.cells
    have HSd := keep6 (o := p * 3) (q := 0) (Below.refl _ _).drew (And.intro x0 (And.intro x1 (And.intro x2 (And.intro n0 (And.intro n1 n2)))))
    clear x0 x1 x2 n0 n1 n2
    go_upto_region 10 with fail
    go_cut [53] from 44 to 53 (fun s53 wx => s53 = .bool false ∧ Hid (BoxS wx gn np nl nq ∧ (AtB wx g p r ⟨xp, xl, xq⟩ ⟨yp, yl, yq⟩ ∧ OwnT wx (g + 1) (.slice sa k cs) S ∧ Below g w wx)))
    case first =>
      refine wp_region_held_drew (S := (fun w' => w'.cell? ⟨g, p * 3, none⟩ = some (.int .i64 xp) ∧ w'.cell? ⟨g, p * 3 + 1, none⟩ = some (.int .i64 xl) ∧ w'.cell? ⟨g, p * 3 + 2, none⟩ = some (.int .i64 xq) ∧ w'.cell? ⟨gn, 0, none⟩ = some (.int .i64 np) ∧ w'.cell? ⟨gn, 0 + 1, none⟩ = some (.int .i64 nl) ∧ w'.cell? ⟨gn, 0 + 2, none⟩ = some (.int .i64 nq))) (by kernel_rfl) HSd (fun hHeld => ?_)
      refine heldTake (v := ?_) 0 44 rfl rfl (by kernel_rfl) (by kernel_rfl) (by kernel_rfl) (fun _ _ _ h => h) (by rfl) (fun w hSw => ?_) (by assumption) ?_
      rotate_left
      · (try dsimp only at hSw); first | (go_simp; done) | (go_simp; with_reducible rfl)
      simp only [List.setIfInBounds_toArray, List.set_cons_zero, List.set_cons_succ]
      refine heldTake (v := ?_) 1 45 rfl rfl (by kernel_rfl) (by kernel_rfl) (by kernel_rfl) (fun _ _ _ h => h) (by rfl) (fun w hSw => ?_) (by assumption) ?_
      rotate_left
      · (try dsimp only at hSw); first | (go_simp; done) | (go_simp; with_reducible rfl)
      simp only [List.setIfInBounds_toArray, List.set_cons_zero, List.set_cons_succ]
      refine heldTake (v := ?_) 2 46 rfl rfl (by kernel_rfl) (by kernel_rfl) (by kernel_rfl) (fun _ _ _ h => h) (by rfl) (fun w hSw => ?_) (by assumption) ?_
      rotate_left
      · (try dsimp only at hSw); first | (go_simp; done) | (go_simp; with_reducible rfl)
      simp only [List.setIfInBounds_toArray, List.set_cons_zero, List.set_cons_succ]
      refine heldTake (v := ?_) 3 47 rfl rfl (by kernel_rfl) (by kernel_rfl) (by kernel_rfl) (fun _ _ _ h => h) (by rfl) (fun w hSw => ?_) (by assumption) ?_
      rotate_left
      · (try dsimp only at hSw); first | (go_simp; done) | (go_simp; with_reducible rfl)
      simp only [List.setIfInBounds_toArray, List.set_cons_zero, List.set_cons_succ]
      refine heldTake (v := ?_) 4 48 rfl rfl (by kernel_rfl) (by kernel_rfl) (by kernel_rfl) (fun _ _ _ h => h) (by rfl) (fun w hSw => ?_) (by assumption) ?_
      rotate_left
      · (try dsimp only at hSw); first | (go_simp; done) | (go_simp; with_reducible rfl)
      simp only [List.setIfInBounds_toArray, List.set_cons_zero, List.set_cons_succ]
      refine heldTake (v := ?_) 5 49 rfl rfl (by kernel_rfl) (by kernel_rfl) (by kernel_rfl) (fun _ _ _ h => h) (by rfl) (fun w hSw => ?_) (by assumption) ?_
      rotate_left
      · (try dsimp only at hSw); first | (go_simp; done) | (go_simp; with_reducible rfl)
      simp only [List.setIfInBounds_toArray, List.set_cons_zero, List.set_cons_succ]
      refine heldTake (v := ?_) 6 50 rfl rfl (by kernel_rfl) (by kernel_rfl) (by kernel_rfl) (fun _ _ _ h => h) (by rfl) (fun w hSw => ?_) (by assumption) ?_
      rotate_left
      · (try dsimp only at hSw); first | (go_simp; done) | (go_simp; with_reducible rfl)
      simp only [List.setIfInBounds_toArray, List.set_cons_zero, List.set_cons_succ]
      refine heldOne 7 rfl (by kernel_rfl) (by rfl) (fun K2 hK => ?_)
      go_simp
      refine (CC _).mono ?_
      rintro e w1 ⟨rfl, hb1⟩
      refine hK.out _ _ ?_ (fun hHeld => ?_)
      · exact keep6 hb1 (by assumption)
      clear hK K2
      try simp only [List.setIfInBounds_toArray, List.set_cons_zero, List.set_cons_succ]
      refine heldTake (v := ?_) 8 52 rfl rfl (by kernel_rfl) (by kernel_rfl) (by kernel_rfl) (fun _ _ _ h => h) (by rfl) (fun w hSw => ?_) (by assumption) ?_
      rotate_left
      · (try dsimp only at hSw); first | (go_simp; done) | (go_simp; with_reducible rfl)
      simp only [List.setIfInBounds_toArray, List.set_cons_zero, List.set_cons_succ]
      refine heldTake (v := ?_) 9 53 rfl rfl (by kernel_rfl) (by kernel_rfl) (by kernel_rfl) (fun _ _ _ h => h) (by rfl) (fun w hSw => ?_) (by assumption) ?_
      rotate_left
      · (try dsimp only at hSw); first | (go_simp; done) | (go_simp; with_reducible rfl)
      simp only [List.setIfInBounds_toArray, List.set_cons_zero, List.set_cons_succ]
      refine wpAnyH_done (by kernel_rfl) ?_ _
      have HBB : Hid (Below we.heap.size we w1) := chain (Below.refl _ _).drew hb1
      go_wp2
      go_meet
      exact ⟨rfl, HNB.out.later HBB.out, HK.out.1.later HBB.out HK.out.1.lt, HK.out.2.1.later HBB.out, HK.out.2.2.trans (HBB.out.mono (Nat.le_of_lt HK.out.1.lt))⟩
    case rest =>
    obtain ⟨rfl, HC⟩ := hcut
    obtain ⟨wf, rfl⟩ : ∃ x, x = wc := ⟨_, rfl⟩
    clear HK HNB HSd CC
    obtain ⟨HNB', HK'⟩ := HC.out
    have HNB : Hid (BoxS wf gn np nl nq) := HNB'
    have HK : Hid (AtB wf g p r ⟨xp, xl, xq⟩ ⟨yp, yl, yq⟩ ∧ OwnT wf (g + 1) (.slice sa k cs) S ∧ Below g w wf) := HK'
    clear HC HNB' HK'
    go_wp2
    go_loopw [11] (fun i wr => ∃ j : Nat, j ≤ k ∧ i = .int .i64 j ∧ Hid (BoxS wr gn np nl nq ∧ (AtB wr g p r ⟨xp, xl, xq⟩ ⟨yp, yl, yq⟩ ∧ OwnT wr (g + 1) (.slice sa k cs) S ∧ Below g w wr))) (fun i _ => k - (RowKit.intOf i).toNat)
    case atStart => exact ⟨0, Nat.zero_le _, rfl, HNB.out, HK.out⟩
    case round =>
    clear HNB HK
    obtain ⟨j, hj, rfl, HC⟩ := hrel
    obtain ⟨wh, rfl⟩ : ∃ x, x = wr := ⟨_, rfl⟩
    by_cases hjk : j < k
    · as_aux_lemma =>
      have hjl : j < S.length := by rw [LS.out]; exact hjk
      obtain ⟨a', cap', e', _, hr', _⟩ := HC.out.2.2.1.form
      simp only [Value.slice.injEq] at e'
      obtain ⟨rfl, -, -⟩ := e'
      obtain ⟨bs, os, rfl, hcs⟩ := hr' (by omega)
      have y1 := hcs j hjl
      have hne : cmpS S[j] ⟨np, nl, nq⟩ ≠ 0 := HF.out.unlike HPR.out HNX.out.2.1 HNX.out.2.2.1 (List.getElem_mem hjl)
      have C15 := fun (W : World) => D.compare S[j].p S[j].l S[j].q np nl nq W (okS_64 (HF.out.s _ (List.getElem_mem hjl)).1) (okS_64 HNX.out.1)
      clear hcs hr'
      generalize S[j] = sj at *
      obtain ⟨sp, sl, sq⟩ := sj
      simp only at y1 C15
      generalize cmpS ⟨sp, sl, sq⟩ ⟨np, nl, nq⟩ = c at *
      have hcb : (c == 0) = false := by simp [hne]
      clear hne hjl
      obtain ⟨n0, n1, n2⟩ := HC.out.1.cells
      have HSd := keep6 (q := 0) (Below.refl _ _).drew (And.intro y1.1 (And.intro y1.2.1 (And.intro y1.2.2 (And.intro n0 (And.intro n1 n2)))))
      clear y1 n0 n1 n2
      have zj : (j : Int) < (k : Int) := by omega
      go_upto_region 15 with fail
      go_cut [66] from 60 to 66 (fun s66 wx => s66 = .bool false ∧ Hid (BoxS wx gn np nl nq ∧ (AtB wx g p r ⟨xp, xl, xq⟩ ⟨yp, yl, yq⟩ ∧ OwnT wx (g + 1) (.slice (some ⟨bs, os, none⟩) k cs) S ∧ Below g w wx)))
      case first =>
        refine wp_region_held_drew (S := (fun w' => w'.cell? ⟨bs, os + j * 3, none⟩ = some (.int .i64 sp) ∧ w'.cell? ⟨bs, os + j * 3 + 1, none⟩ = some (.int .i64 sl) ∧ w'.cell? ⟨bs, os + j * 3 + 2, none⟩ = some (.int .i64 sq) ∧ w'.cell? ⟨gn, 0, none⟩ = some (.int .i64 np) ∧ w'.cell? ⟨gn, 0 + 1, none⟩ = some (.int .i64 nl) ∧ w'.cell? ⟨gn, 0 + 2, none⟩ = some (.int .i64 nq))) (by kernel_rfl) HSd (fun hHeld => ?_)
        refine heldTake (v := ?_) 0 60 rfl rfl (by kernel_rfl) (by kernel_rfl) (by kernel_rfl) (fun _ _ _ h => h) (by rfl) (fun w hSw => ?_) (by assumption) ?_
        rotate_left
        · (try dsimp only at hSw); first | (go_simp; done) | (go_simp; with_reducible rfl)
        simp only [List.setIfInBounds_toArray, List.set_cons_zero, List.set_cons_succ]
        refine heldTake (v := ?_) 1 61 rfl rfl (by kernel_rfl) (by kernel_rfl) (by kernel_rfl) (fun _ _ _ h => h) (by rfl) (fun w hSw => ?_) (by assumption) ?_
        rotate_left
        · (try dsimp only at hSw); first | (go_simp; done) | (go_simp; with_reducible rfl)
        simp only [List.setIfInBounds_toArray, List.set_cons_zero, List.set_cons_succ]
        refine heldTake (v := ?_) 2 62 rfl rfl (by kernel_rfl) (by kernel_rfl) (by kernel_rfl) (fun _ _ _ h => h) (by rfl) (fun w hSw => ?_) (by assumption) ?_
        rotate_left
        · (try dsimp only at hSw); first | (go_simp; done) | (go_simp; with_reducible rfl)
        simp only [List.setIfInBounds_toArray, List.set_cons_zero, List.set_cons_succ]
        refine heldTake (v := ?_) 3 63 rfl rfl (by kernel_rfl) (by kernel_rfl) (by kernel_rfl) (fun _ _ _ h => h) (by rfl) (fun w hSw => ?_) (by assumption) ?_
        rotate_left
        · (try dsimp only at hSw); first | (go_simp; done) | (go_simp; with_reducible rfl)
        simp only [List.setIfInBounds_toArray, List.set_cons_zero, List.set_cons_succ]
        refine heldTake (v := ?_) 4 64 rfl rfl (by kernel_rfl) (by kernel_rfl) (by kernel_rfl) (fun _ _ _ h => h) (by rfl) (fun w hSw => ?_) (by assumption) ?_
        rotate_left
        · (try dsimp only at hSw); first | (go_simp; done) | (go_simp; with_reducible rfl)
        simp only [List.setIfInBounds_toArray, List.set_cons_zero, List.set_cons_succ]
        refine heldOne 5 rfl (by kernel_rfl) (by rfl) (fun K2 hK => ?_)
        go_simp
        refine (C15 _).mono ?_
        rintro e w1 ⟨rfl, hb1⟩
        refine hK.out _ _ ?_ (fun hHeld => ?_)
        · exact keep6 hb1 (by assumption)
        clear hK K2
        try simp only [List.setIfInBounds_toArray, List.set_cons_zero, List.set_cons_succ]
        refine heldTake (v := ?_) 6 66 rfl rfl (by kernel_rfl) (by kernel_rfl) (by kernel_rfl) (fun _ _ _ h => h) (by rfl) (fun w hSw => ?_) (by assumption) ?_
        rotate_left
        · (try dsimp only at hSw); first | (go_simp; done) | (go_simp; with_reducible rfl)
        simp only [List.setIfInBounds_toArray, List.set_cons_zero, List.set_cons_succ]
        refine wpAnyH_done (by kernel_rfl) ?_ _
        have HBB : Hid (Below wh.heap.size wh w1) := chain (Below.refl _ _).drew hb1
        go_wp2
        go_meet
        exact ⟨rfl, HC.out.1.later HBB.out, kmLater HC.out.2 HBB.out⟩
      case rest =>
      obtain ⟨rfl, HC'⟩ := hcut
      go_wp2
      go_roundw
      case rel => exact ⟨j + 1, by omega, by go_num, HC'⟩
      case measure => simp [RowKit.intOf]; omega
    obtain rfl : j = k := by omega
    clear hjk hj
    obtain ⟨n0, n1, n2⟩ := HC.out.1.cells
    have HSd := keep3 (o := 0) (Below.refl _ _).drew (And.intro n0 (And.intro n1 n2))
    clear n0 n1 n2
    go_upto_region 17 with fail
    go_cut [6] from 67 to 73 (fun s6 wx => ∃ (sb : Option Addr) (ds : Nat), s6 = .slice sb (j + 1) ds ∧ Hid (BoxS wx gn np nl nq ∧ (AtB wx g p r ⟨np, nl, nq⟩ ⟨yp, yl, yq⟩ ∧ OwnT wx (g + 1) (.slice sb (j + 1) ds) (S ++ [⟨np, nl, nq⟩]) ∧ Below g w wx)))
    case first =>
      as_aux_lemma =>
      refine wp_region_held_drew (S := (fun w' => w'.cell? ⟨gn, 0, none⟩ = some (.int .i64 np) ∧ w'.cell? ⟨gn, 0 + 1, none⟩ = some (.int .i64 nl) ∧ w'.cell? ⟨gn, 0 + 2, none⟩ = some (.int .i64 nq))) (by kernel_rfl) HSd (fun hHeld => ?_)
      refine heldTake (v := ?_) 0 67 rfl rfl (by kernel_rfl) (by kernel_rfl) (by kernel_rfl) (fun _ _ _ h => h) (by rfl) (fun w hSw => ?_) (by assumption) ?_
      rotate_left
      · (try dsimp only at hSw); first | (go_simp; done) | (go_simp; with_reducible rfl)
      simp only [List.setIfInBounds_toArray, List.set_cons_zero, List.set_cons_succ]
      refine heldTake (v := ?_) 1 68 rfl rfl (by kernel_rfl) (by kernel_rfl) (by kernel_rfl) (fun _ _ _ h => h) (by rfl) (fun w hSw => ?_) (by assumption) ?_
      rotate_left
      · (try dsimp only at hSw); first | (go_simp; done) | (go_simp; with_reducible rfl)
      simp only [List.setIfInBounds_toArray, List.set_cons_zero, List.set_cons_succ]
      refine heldTake (v := ?_) 2 69 rfl rfl (by kernel_rfl) (by kernel_rfl) (by kernel_rfl) (fun _ _ _ h => h) (by rfl) (fun w hSw => ?_) (by assumption) ?_
      rotate_left
      · (try dsimp only at hSw); first | (go_simp; done) | (go_simp; with_reducible rfl)
      simp only [List.setIfInBounds_toArray, List.set_cons_zero, List.set_cons_succ]
      refine heldTake (v := ?_) 3 70 rfl rfl (by kernel_rfl) (by kernel_rfl) (by kernel_rfl) (fun _ _ _ h => h) (by rfl) (fun w hSw => ?_) (by assumption) ?_
      rotate_left
      · (try dsimp only at hSw); first | (go_simp; done) | (go_simp; with_reducible rfl)
      simp only [List.setIfInBounds_toArray, List.set_cons_zero, List.set_cons_succ]
      refine heldTake (v := ?_) 6 73 rfl rfl (by kernel_rfl) (by kernel_rfl) (by kernel_rfl) (fun _ _ _ h => h) (by rfl) (fun w hSw => ?_) (by assumption) ?_
      rotate_left
      · (try dsimp only at hSw); first | (go_simp; done) | (go_simp; with_reducible rfl)
      simp only [List.setIfInBounds_toArray, List.set_cons_zero, List.set_cons_succ]
      refine heldOne 4 rfl (by kernel_rfl) (by rfl) (fun K2 hK => ?_)
      go_simp
      refine hK.out _ _ ?_ (fun hHeld => ?_)
      · exact keep3 (alloc_below _ _) (by assumption)
      clear hK K2
      try simp only [List.setIfInBounds_toArray, List.set_cons_zero, List.set_cons_succ]
      refine heldOne 5 rfl (by kernel_rfl) (by rfl) (fun K2 hK => ?_)
      obtain ⟨sb, ds, w2, hrun, hds, ho, _, hbl, hst⟩ := append_stamp (ty := 38) ((HC.out.2.2.1.later (Below.refl _ _).drew).later (alloc_below wh.drew (.cells #[.int .i64 np, .int .i64 nl, .int .i64 nq] 23))) LS.out (by omega) (by have := HC.out.2.1.lt; simp; omega) (rdT_one wh.drew wh.heap.size rfl np nl nq)
      have HN2 : Hid (BoxS w2 gn np nl nq) := (hst gn (by have := HC.out.1.lt; simp; omega) (fun h => absurd (HGN.out.2 gn h) (by omega))).trans ((HC.out.1.later (Below.refl _ _).drew).later (alloc_below wh.drew (.cells #[.int .i64 np, .int .i64 nl, .int .i64 nq] 23)))
      have HA2 : Hid (AtB w2 g p r ⟨xp, xl, xq⟩ ⟨yp, yl, yq⟩) := ((HC.out.2.1.later (Below.refl wh.heap.size _).drew HC.out.2.1.lt).later (alloc_below wh.drew (.cells #[.int .i64 np, .int .i64 nl, .int .i64 nq] 23)) HC.out.2.1.lt).later hbl (Nat.lt_succ_self g)
      have HB2 : Hid (Below g w w2) := (HC.out.2.2.2.trans ((chain (Below.refl wh.heap.size wh).drew (alloc_below wh.drew (.cells #[.int .i64 np, .int .i64 nl, .int .i64 nq] 23))).mono (Nat.le_of_lt HC.out.2.1.lt))).trans (hbl.mono (Nat.le_succ g))
      have HO2 : Hid (OwnT w2 (g + 1) (.slice sb (j + 1) ds) (S ++ [⟨np, nl, nq⟩])) := ho
      clear ho hbl hst
      refine wp_append_run (.tmp 69) (.tmp 71) 38 38 rfl _ _ _ _ rfl rfl hrun ?_
      go_simp
      refine hK.out _ _ ?_ (fun hHeld => ?_)
      · exact HN2.out.cells
      clear hK K2
      try simp only [List.setIfInBounds_toArray, List.set_cons_zero, List.set_cons_succ]
      refine heldOne 7 rfl (by kernel_rfl) (by rfl) (fun K2 hK => ?_)
      obtain ⟨r0, r1, r2⟩ := HA2.out.cells
      have f0 := HA2.out.frozen
      go_simp
      refine hK.out _ _ ?_ (fun hHeld => ?_)
      · exact (HN2.out.beside' (by have := HGN.out.1; omega)).cells
      clear hK K2
      try simp only [List.setIfInBounds_toArray, List.set_cons_zero, List.set_cons_succ]
      refine heldTake (v := ?_) 8 6 rfl rfl (by kernel_rfl) (by kernel_rfl) (by kernel_rfl) (fun _ _ _ h => h) (by rfl) (fun w hSw => ?_) (by assumption) ?_
      rotate_left
      · (try dsimp only at hSw); first | (go_simp; done) | (go_simp; with_reducible rfl)
      simp only [List.setIfInBounds_toArray, List.set_cons_zero, List.set_cons_succ]
      refine wpAnyH_done (by kernel_rfl) ?_ _
      have HKK : Hid (BoxS (((w2.setCell ⟨g, p * 3, none⟩ (.int .i64 np)).setCell ⟨g, p * 3 + 1, none⟩ (.int .i64 nl)).setCell ⟨g, p * 3 + 2, none⟩ (.int .i64 nq)) gn np nl nq ∧ AtB (((w2.setCell ⟨g, p * 3, none⟩ (.int .i64 np)).setCell ⟨g, p * 3 + 1, none⟩ (.int .i64 nl)).setCell ⟨g, p * 3 + 2, none⟩ (.int .i64 nq)) g p r ⟨np, nl, nq⟩ ⟨yp, yl, yq⟩ ∧ OwnT (((w2.setCell ⟨g, p * 3, none⟩ (.int .i64 np)).setCell ⟨g, p * 3 + 1, none⟩ (.int .i64 nl)).setCell ⟨g, p * 3 + 2, none⟩ (.int .i64 nq)) (g + 1) (.slice sb (j + 1) ds) (S ++ [⟨np, nl, nq⟩]) ∧ Below g w (((w2.setCell ⟨g, p * 3, none⟩ (.int .i64 np)).setCell ⟨g, p * 3 + 1, none⟩ (.int .i64 nl)).setCell ⟨g, p * 3 + 2, none⟩ (.int .i64 nq))) := ⟨HN2.out.beside' (by have := HGN.out.1; omega), HA2.out.set HPR.out np nl nq, HO2.out.beside (Nat.lt_succ_self g), below_set3' HB2.out (Nat.le_refl _)⟩
      go_wp2
      go_meet
      exact ⟨sb, ds, rfl, HKK⟩
    case rest =>
    as_aux_lemma =>
    obtain ⟨sb, ds, rfl, HC'⟩ := hcut
    obtain ⟨wi, rfl⟩ : ∃ x, x = wc := ⟨_, rfl⟩
    clear HC HSd
    have HNB : Hid (BoxS wi gn np nl nq) := HC'.out.1
    have HK : Hid (AtB wi g p r ⟨np, nl, nq⟩ ⟨yp, yl, yq⟩ ∧ OwnT wi (g + 1) (.slice sb (j + 1) ds) (S ++ [⟨np, nl, nq⟩]) ∧ Below g w wi) := HC'.out.2
    clear HC'
    have HF2 : Hid (FM (j + 1) r p ⟨yp, yl, yq⟩ ⟨np, nl, nq⟩ (S ++ [⟨np, nl, nq⟩])) := HF.out.next HNX.out.1 HNX.out.2.1 HNX.out.2.2.1 HNX.out.2.2.2
    have LS2 : Hid ((S ++ [(⟨np, nl, nq⟩ : PS)]).length = j + 1) := by show _ = _; simp [LS.out]
    have HP2 : Hid (r = (j + 1) % 2 ∧ r + p = 1) := by have := HP.out; exact ⟨by omega, by omega⟩
    clear HF LS HP
    by_cases hkm : j < m
    · obtain ⟨b2, o2, rfl, hc2⟩ := RB.out (by rw [LB.out]; omega)
      have y2 := hc2 j (by rw [LB.out]; exact hkm)
      have HB2 : b2 < g := by have := World.block_lt_of_cell? _ ⟨_, _, none⟩ y2; rw [HG.out] at this; exact this
      replace y2 := (HK.out.2.2.cell (p := ⟨b2, o2 + j, none⟩) HB2).trans y2
      generalize B[j]'(by rw [LB.out]; exact hkm) = told at *
      clear hc2 HB2
      have zm : (j : Int) < (m : Int) := by omega
      cases told with
      | false =>
        as_aux_lemma =>
        go_wp2
        go_roundw
        case rel => exact ⟨j + 1, r, p, ds, sb, yp, yl, yq, np, nl, nq, _, by omega, by go_num, rfl, LS2.out, HP2, ⟨HK.out.1.flip, HK.out.2.1, HK.out.2.2⟩, HF2⟩
        case measure => simp [RowKit.intOf]; omega
      | true =>
        obtain ⟨L, hL⟩ : ∃ L, laterS ⟨yp, yl, yq⟩ ⟨np, nl, nq⟩ = L := ⟨_, rfl⟩
        have HF3 : Hid (FM (j + 1) r p L ⟨np, nl, nq⟩ (S ++ [⟨np, nl, nq⟩])) := by rw [← hL]; exact HF2.out.told
        have HL1 : Hid (0 ≤ cmpS L ⟨np, nl, nq⟩) := by rw [← hL]; exact cmpS_ge.2 (laterS_right _ _)
        have HL2 : Hid (0 ≤ cmpS L ⟨yp, yl, yq⟩) := by rw [← hL]; exact cmpS_ge.2 (laterS_left _ _)
        rw [hL] at CL
        clear hL
        have C21 := fun (W : World) => D.compare L.p L.l L.q np nl nq W (okS_64 HF3.out.x) (okS_64 HNX.out.1)
        have C22 := fun (W : World) => D.compare L.p L.l L.q yp yl yq W (okS_64 HF3.out.x) (okS_64 HF2.out.x)
        obtain ⟨lp, ll, lq⟩ := L
        simp only at CL C21 C22
        generalize cmpS ⟨lp, ll, lq⟩ ⟨np, nl, nq⟩ = c1 at *
        generalize cmpS ⟨lp, ll, lq⟩ ⟨yp, yl, yq⟩ = c2 at *
        have d1 : decide (c1 < 0) = false := by have := HL1.out; simp; omega
        have d2 : decide (c2 < 0) = false := by have := HL2.out; simp; omega
        obtain ⟨x0, x1, x2⟩ := HK.out.1.flip.cells
        obtain ⟨n0, n1, n2⟩ := HNB.out.cells
        have HSd := keep6 (o := r * 3) (q := 0) (Below.refl _ _).drew (And.intro x0 (And.intro x1 (And.intro x2 (And.intro n0 (And.intro n1 n2)))))
        have HLt : Hid (g < wi.heap.size ∧ gn < wi.heap.size) := ⟨HK.out.1.lt, HNB.out.lt⟩
        clear x0 x1 x2 n0 n1 n2 HL1 HL2
        go_upto_region 19 with fail
        go_cut [12] from 84 to 89 (fun s12 wx => ∃ gl, s12 = .pointer (some ⟨gl, 0, none⟩) ∧ Hid (BoxS wx gl lp ll lq ∧ BoxS wx gn np nl nq ∧ (AtB wx g p r ⟨np, nl, nq⟩ ⟨yp, yl, yq⟩ ∧ OwnT wx (g + 1) (.slice sb (j + 1) ds) (S ++ [⟨np, nl, nq⟩]) ∧ Below g w wx) ∧ g < gl))
        case first =>
          as_aux_lemma =>
          refine wp_region_held_drew (S := (fun w' => w'.cell? ⟨g, r * 3, none⟩ = some (.int .i64 yp) ∧ w'.cell? ⟨g, r * 3 + 1, none⟩ = some (.int .i64 yl) ∧ w'.cell? ⟨g, r * 3 + 2, none⟩ = some (.int .i64 yq) ∧ w'.cell? ⟨gn, 0, none⟩ = some (.int .i64 np) ∧ w'.cell? ⟨gn, 0 + 1, none⟩ = some (.int .i64 nl) ∧ w'.cell? ⟨gn, 0 + 2, none⟩ = some (.int .i64 nq))) (by kernel_rfl) HSd (fun hHeld => ?_)
          refine heldTake (v := ?_) 0 84 rfl rfl (by kernel_rfl) (by kernel_rfl) (by kernel_rfl) (fun _ _ _ h => h) (by rfl) (fun w hSw => ?_) (by assumption) ?_
          rotate_left
          · (try dsimp only at hSw); first | (go_simp; done) | (go_simp; with_reducible rfl)
          simp only [List.setIfInBounds_toArray, List.set_cons_zero, List.set_cons_succ]
          refine heldTake (v := ?_) 1 85 rfl rfl (by kernel_rfl) (by kernel_rfl) (by kernel_rfl) (fun _ _ _ h => h) (by rfl) (fun w hSw => ?_) (by assumption) ?_
          rotate_left
          · (try dsimp only at hSw); first | (go_simp; done) | (go_simp; with_reducible rfl)
          simp only [List.setIfInBounds_toArray, List.set_cons_zero, List.set_cons_succ]
          refine heldTake (v := ?_) 2 86 rfl rfl (by kernel_rfl) (by kernel_rfl) (by kernel_rfl) (fun _ _ _ h => h) (by rfl) (fun w hSw => ?_) (by assumption) ?_
          rotate_left
          · (try dsimp only at hSw); first | (go_simp; done) | (go_simp; with_reducible rfl)
          simp only [List.setIfInBounds_toArray, List.set_cons_zero, List.set_cons_succ]
          refine heldTake (v := ?_) 3 87 rfl rfl (by kernel_rfl) (by kernel_rfl) (by kernel_rfl) (fun _ _ _ h => h) (by rfl) (fun w hSw => ?_) (by assumption) ?_
          rotate_left
          · (try dsimp only at hSw); first | (go_simp; done) | (go_simp; with_reducible rfl)
          simp only [List.setIfInBounds_toArray, List.set_cons_zero, List.set_cons_succ]
          refine heldTake (v := ?_) 4 88 rfl rfl (by kernel_rfl) (by kernel_rfl) (by kernel_rfl) (fun _ _ _ h => h) (by rfl) (fun w hSw => ?_) (by assumption) ?_
          rotate_left
          · (try dsimp only at hSw); first | (go_simp; done) | (go_simp; with_reducible rfl)
          simp only [List.setIfInBounds_toArray, List.set_cons_zero, List.set_cons_succ]
          refine heldTwo 5 6 rfl rfl (by kernel_rfl) (by rfl) (by rfl) (fun K2 hK => ?_) (fun K2 hK => ?_)
          · go_simp
            refine (CL _).mono ?_
            rintro e w1 ⟨rfl, hb1⟩
            refine hK.out _ _ ?_ (fun hHeld => ?_)
            · exact keep6 hb1 (by assumption)
            clear hK K2
            try simp only [List.setIfInBounds_toArray, List.set_cons_zero, List.set_cons_succ]
            refine heldOne 6 rfl (by kernel_rfl) (by rfl) (fun K2 hK => ?_)
            go_simp
            refine hK.out _ _ ?_ (fun hHeld => ?_)
            · exact keep6 (alloc_below _ _) (by assumption)
            clear hK K2
            try simp only [List.setIfInBounds_toArray, List.set_cons_zero, List.set_cons_succ]
            refine heldOne 7 rfl (by kernel_rfl) (by rfl) (fun K2 hK => ?_)
            go_simp
            refine hK.out _ _ ?_ (fun hHeld => ?_)
            · exact keep6 (alloc_below _ _) (by assumption)
            clear hK K2
            try simp only [List.setIfInBounds_toArray, List.set_cons_zero, List.set_cons_succ]
            refine wpAnyH_done (by kernel_rfl) ?_ _
            have HBB : Hid (Below wi.heap.size wi (w1.alloc (.cells #[.int .i64 lp, .int .i64 ll, .int .i64 lq] 23))) := chain (Below.refl _ _).drew (chain hb1 (alloc_below _ _))
            have HLX : Hid (BoxS (w1.alloc (.cells #[.int .i64 lp, .int .i64 ll, .int .i64 lq] 23)) w1.heap.size lp ll lq) := BoxS.made rfl
            go_wp2
            go_meet
            exact ⟨_, rfl, HLX.out, HNB.out.later HBB.out, kmLater HK.out HBB.out, Nat.lt_of_lt_of_le HLt.out.1 (chain (Below.refl wi.heap.size wi).drew hb1).size⟩
          · go_simp
            have HZ : Hid (BoxS (wi.drew.alloc (.cells #[.int .i64 0, .int .i64 0, .int .i64 0] 23)) wi.heap.size 0 0 0) := BoxS.made rfl
            refine hK.out _ _ ?_ (fun hHeld => ?_)
            · exact keep6 (alloc_below _ _) (by assumption)
            clear hK K2
            try simp only [List.setIfInBounds_toArray, List.set_cons_zero, List.set_cons_succ]
            refine heldOne 5 rfl (by kernel_rfl) (by rfl) (fun K2 hK => ?_)
            go_simp
            refine (CL _).mono ?_
            rintro e w1 ⟨rfl, hb1⟩
            replace HZ : Hid (BoxS w1 wi.heap.size 0 0 0) := HZ.out.later hb1
            refine hK.out _ _ ?_ (fun hHeld => ?_)
            · exact keep6 hb1 (by assumption)
            clear hK K2
            try simp only [List.setIfInBounds_toArray, List.set_cons_zero, List.set_cons_succ]
            refine heldOne 7 rfl (by kernel_rfl) (by rfl) (fun K2 hK => ?_)
            obtain ⟨r0, r1, r2⟩ := HZ.out.cells
            have f0 := HZ.out.frozen
            go_simp
            refine hK.out _ _ ?_ (fun hHeld => ?_)
            · exact keep6B (below_set3 (Below.refl _ _) (Nat.le_refl _)) HLt.out.1 HLt.out.2 (by assumption)
            clear hK K2
            try simp only [List.setIfInBounds_toArray, List.set_cons_zero, List.set_cons_succ]
            refine wpAnyH_done (by kernel_rfl) ?_ _
            have HBB : Hid (Below wi.heap.size wi (((w1.setCell ⟨wi.heap.size, 0, none⟩ (.int .i64 lp)).setCell ⟨wi.heap.size, 1, none⟩ (.int .i64 ll)).setCell ⟨wi.heap.size, 2, none⟩ (.int .i64 lq))) := below_set3 (chain (Below.refl _ _).drew (chain (alloc_below _ _) hb1)) (Nat.le_refl _)
            have HLX : Hid (BoxS (((w1.setCell ⟨wi.heap.size, 0, none⟩ (.int .i64 lp)).setCell ⟨wi.heap.size, 1, none⟩ (.int .i64 ll)).setCell ⟨wi.heap.size, 2, none⟩ (.int .i64 lq)) wi.heap.size lp ll lq) := HZ.out.set lp ll lq
            go_wp2
            go_meet
            exact ⟨_, rfl, HLX.out, HNB.out.later HBB.out, kmLater HK.out HBB.out, HLt.out.1⟩
        case rest =>
        as_aux_lemma =>
        obtain ⟨gl, rfl, HC⟩ := hcut
        obtain ⟨wj, rfl⟩ : ∃ x, x = wc := ⟨_, rfl⟩
        clear HK HNB HSd HLt y2
        have HLB : Hid (BoxS wj gl lp ll lq) := HC.out.1
        have HNB : Hid (BoxS wj gn np nl nq) := HC.out.2.1
        have HK : Hid (AtB wj g p r ⟨np, nl, nq⟩ ⟨yp, yl, yq⟩ ∧ OwnT wj (g + 1) (.slice sb (j + 1) ds) (S ++ [⟨np, nl, nq⟩]) ∧ Below g w wj) := HC.out.2.2.1
        have HGL : Hid (g < gl) := HC.out.2.2.2
        clear HC
        obtain ⟨x0, x1, x2⟩ := HK.out.1.flip.cells
        obtain ⟨n0, n1, n2⟩ := HNB.out.cells
        obtain ⟨l0, l1, l2⟩ := HLB.out.cells
        have HSd := keep9 (o := r * 3) (q := 0) (s := 0) (Below.refl _ _).drew (And.intro x0 (And.intro x1 (And.intro x2 (And.intro n0 (And.intro n1 (And.intro n2 (And.intro l0 (And.intro l1 l2))))))))
        clear x0 x1 x2 n0 n1 n2 l0 l1 l2
        go_upto_region 20 with fail
        go_cut [102] from 90 to 102 (fun s102 wx => s102 = .bool false ∧ Hid (BoxS wx gl lp ll lq ∧ (AtB wx g p r ⟨np, nl, nq⟩ ⟨yp, yl, yq⟩ ∧ OwnT wx (g + 1) (.slice sb (j + 1) ds) (S ++ [⟨np, nl, nq⟩]) ∧ Below g w wx)))
        case first =>
          as_aux_lemma =>
          refine wp_region_held_drew (S := (fun w' => w'.cell? ⟨g, r * 3, none⟩ = some (.int .i64 yp) ∧ w'.cell? ⟨g, r * 3 + 1, none⟩ = some (.int .i64 yl) ∧ w'.cell? ⟨g, r * 3 + 2, none⟩ = some (.int .i64 yq) ∧ w'.cell? ⟨gn, 0, none⟩ = some (.int .i64 np) ∧ w'.cell? ⟨gn, 0 + 1, none⟩ = some (.int .i64 nl) ∧ w'.cell? ⟨gn, 0 + 2, none⟩ = some (.int .i64 nq) ∧ w'.cell? ⟨gl, 0, none⟩ = some (.int .i64 lp) ∧ w'.cell? ⟨gl, 0 + 1, none⟩ = some (.int .i64 ll) ∧ w'.cell? ⟨gl, 0 + 2, none⟩ = some (.int .i64 lq))) (by kernel_rfl) HSd (fun hHeld => ?_)
          refine heldTake (v := ?_) 0 90 rfl rfl (by kernel_rfl) (by kernel_rfl) (by kernel_rfl) (fun _ _ _ h => h) (by rfl) (fun w hSw => ?_) (by assumption) ?_
          rotate_left
          · (try dsimp only at hSw); first | (go_simp; done) | (go_simp; with_reducible rfl)
          simp only [List.setIfInBounds_toArray, List.set_cons_zero, List.set_cons_succ]
          refine heldTake (v := ?_) 1 91 rfl rfl (by kernel_rfl) (by kernel_rfl) (by kernel_rfl) (fun _ _ _ h => h) (by rfl) (fun w hSw => ?_) (by assumption) ?_
          rotate_left
          · (try dsimp only at hSw); first | (go_simp; done) | (go_simp; with_reducible rfl)
          simp only [List.setIfInBounds_toArray, List.set_cons_zero, List.set_cons_succ]
          refine heldOne 2 rfl (by kernel_rfl) (by rfl) (fun K2 hK => ?_)
          go_simp
          refine (C21 _).mono ?_
          rintro e w1 ⟨rfl, hb1⟩
          refine hK.out _ _ ?_ (fun hHeld => ?_)
          · exact keep9 hb1 (by assumption)
          clear hK K2
          try simp only [List.setIfInBounds_toArray, List.set_cons_zero, List.set_cons_succ]
          refine heldTake (v := ?_) 3 93 rfl rfl (by kernel_rfl) (by kernel_rfl) (by kernel_rfl) (fun _ _ _ h => h) (by rfl) (fun w hSw => ?_) (by assumption) ?_
          rotate_left
          · (try dsimp only at hSw); first | (go_simp; done) | (go_simp; with_reducible rfl)
          simp only [List.setIfInBounds_toArray, List.set_cons_zero, List.set_cons_succ]
          refine heldTake (v := ?_) 4 94 rfl rfl (by kernel_rfl) (by kernel_rfl) (by kernel_rfl) (fun _ _ _ h => h) (by rfl) (fun w hSw => ?_) (by assumption) ?_
          rotate_left
          · (try dsimp only at hSw); first | (go_simp; done) | (go_simp; with_reducible rfl)
          simp only [List.setIfInBounds_toArray, List.set_cons_zero, List.set_cons_succ]
          refine heldTake (v := ?_) 5 95 rfl rfl (by kernel_rfl) (by kernel_rfl) (by kernel_rfl) (fun _ _ _ h => h) (by rfl) (fun w hSw => ?_) (by assumption) ?_
          rotate_left
          · (try dsimp only at hSw); first | (go_simp; done) | (go_simp; with_reducible rfl)
          simp only [List.setIfInBounds_toArray, List.set_cons_zero, List.set_cons_succ]
          refine heldTake (v := ?_) 6 96 rfl rfl (by kernel_rfl) (by kernel_rfl) (by kernel_rfl) (fun _ _ _ h => h) (by rfl) (fun w hSw => ?_) (by assumption) ?_
          rotate_left
          · (try dsimp only at hSw); first | (go_simp; done) | (go_simp; with_reducible rfl)
          simp only [List.setIfInBounds_toArray, List.set_cons_zero, List.set_cons_succ]
          refine heldTake (v := ?_) 7 97 rfl rfl (by kernel_rfl) (by kernel_rfl) (by kernel_rfl) (fun _ _ _ h => h) (by rfl) (fun w hSw => ?_) (by assumption) ?_
          rotate_left
          · (try dsimp only at hSw); first | (go_simp; done) | (go_simp; with_reducible rfl)
          simp only [List.setIfInBounds_toArray, List.set_cons_zero, List.set_cons_succ]
          refine heldTake (v := ?_) 8 98 rfl rfl (by kernel_rfl) (by kernel_rfl) (by kernel_rfl) (fun _ _ _ h => h) (by rfl) (fun w hSw => ?_) (by assumption) ?_
          rotate_left
          · (try dsimp only at hSw); first | (go_simp; done) | (go_simp; with_reducible rfl)
          simp only [List.setIfInBounds_toArray, List.set_cons_zero, List.set_cons_succ]
          refine heldTake (v := ?_) 9 99 rfl rfl (by kernel_rfl) (by kernel_rfl) (by kernel_rfl) (fun _ _ _ h => h) (by rfl) (fun w hSw => ?_) (by assumption) ?_
          rotate_left
          · (try dsimp only at hSw); first | (go_simp; done) | (go_simp; with_reducible rfl)
          simp only [List.setIfInBounds_toArray, List.set_cons_zero, List.set_cons_succ]
          refine heldOne 10 rfl (by kernel_rfl) (by rfl) (fun K2 hK => ?_)
          go_simp
          refine (C22 _).mono ?_
          rintro e w2 ⟨rfl, hb2⟩
          refine hK.out _ _ ?_ (fun hHeld => ?_)
          · exact keep9 hb2 (by assumption)
          clear hK K2
          try simp only [List.setIfInBounds_toArray, List.set_cons_zero, List.set_cons_succ]
          refine heldTake (v := ?_) 11 101 rfl rfl (by kernel_rfl) (by kernel_rfl) (by kernel_rfl) (fun _ _ _ h => h) (by rfl) (fun w hSw => ?_) (by assumption) ?_
          rotate_left
          · (try dsimp only at hSw); first | (go_simp; done) | (go_simp; with_reducible rfl)
          simp only [List.setIfInBounds_toArray, List.set_cons_zero, List.set_cons_succ]
          refine heldTake (v := ?_) 12 102 rfl rfl (by kernel_rfl) (by kernel_rfl) (by kernel_rfl) (fun _ _ _ h => h) (by rfl) (fun w hSw => ?_) (by assumption) ?_
          rotate_left
          · (try dsimp only at hSw); first | (go_simp; done) | (go_simp; with_reducible rfl)
          simp only [List.setIfInBounds_toArray, List.set_cons_zero, List.set_cons_succ]
          refine wpAnyH_done (by kernel_rfl) ?_ _
          have HBB : Hid (Below wj.heap.size wj w2) := chain (Below.refl _ _).drew (chain hb1 hb2)
          go_wp2
          go_meet
          exact ⟨rfl, HLB.out.later HBB.out, kmLater HK.out HBB.out⟩
        case rest =>
        as_aux_lemma =>
        obtain ⟨rfl, HC⟩ := hcut
        obtain ⟨wk, rfl⟩ : ∃ x, x = wc := ⟨_, rfl⟩
        clear HK HNB HSd HLB
        obtain ⟨l0, l1, l2⟩ := HC.out.1.cells
        obtain ⟨x0, x1, x2⟩ := HC.out.2.1.flip.cells
        have f0 := HC.out.2.1.frozen
        have HA' : Hid (AtB (((wk.setCell ⟨g, r * 3, none⟩ (.int .i64 lp)).setCell ⟨g, r * 3 + 1, none⟩ (.int .i64 ll)).setCell ⟨g, r * 3 + 2, none⟩ (.int .i64 lq)) g r p ⟨lp, ll, lq⟩ ⟨np, nl, nq⟩) := HC.out.2.1.flip.set HPR.out.symm lp ll lq
        have HB' : Hid (Below g w (((wk.setCell ⟨g, r * 3, none⟩ (.int .i64 lp)).setCell ⟨g, r * 3 + 1, none⟩ (.int .i64 ll)).setCell ⟨g, r * 3 + 2, none⟩ (.int .i64 lq))) := below_set3' HC.out.2.2.2 (Nat.le_refl _)
        have HO' : Hid (OwnT (((wk.setCell ⟨g, r * 3, none⟩ (.int .i64 lp)).setCell ⟨g, r * 3 + 1, none⟩ (.int .i64 ll)).setCell ⟨g, r * 3 + 2, none⟩ (.int .i64 lq)) (g + 1) (.slice sb (j + 1) ds) (S ++ [⟨np, nl, nq⟩])) := HC.out.2.2.1.beside (Nat.lt_succ_self g)
        go_wp2
        go_roundw
        case rel => exact ⟨j + 1, r, p, ds, sb, lp, ll, lq, np, nl, nq, _, by omega, by go_num, rfl, LS2.out, HP2, ⟨HA'.out, HO'.out, HB'.out⟩, HF3⟩
        case measure => simp [RowKit.intOf]; omega
    · as_aux_lemma =>
      have dm : decide ((j : Int) < (m : Int)) = false := by simp; omega
      go_wp2
      go_roundw
      case rel => exact ⟨j + 1, r, p, ds, sb, yp, yl, yq, np, nl, nq, _, by omega, by go_num, rfl, LS2.out, HP2, ⟨HK.out.1.flip, HK.out.2.1, HK.out.2.2⟩, HF2⟩
      case measure => simp [RowKit.intOf]; omega
  · have HB : Hid (Below w.heap.size w wr) := by rw [HG.out]; exact HK.out.2.2
    have dk : decide ((k : Int) < (n : Int)) = false := by simp; omega
    go_wp2_with fail
    refine (CW _).mono ?_
    rintro e ww ⟨rfl, hbw⟩
    have HBW : Hid (Below w.heap.size w ww) := chain HB.out hbw
    clear hbw
    go_wp2
    go_ret
    exact ⟨rfl, HBW.out⟩

set_option maxHeartbeats 400000 in
theorem hmeets_out (a b : Option Addr) (n m cap dap : Nat) (w : World) (hn : n ≤ 9223372036854775807) (hm : m ≤ 9223372036854775807) (h : 60 < n ∨ 100 < m) :
    Calls Try.prog 8 #[.slice a n cap, .slice b m dap] w fun e w' => e = .returned (.bool true) ∧ Below w.heap.size w w' := by
  by_cases h1 : 60 < n
  · clear h
    go_enter Try.func8, Try.ntmps8
    go_wp2
    go_ret
    exact ⟨rfl, Below.refl _ _⟩
  · have h2 : 100 < m := by omega
    have h3 : decide ((60 : Int) < (n : Int)) = false := by simp; omega
    clear h h1
    go_enter Try.func8, Try.ntmps8
    go_wp2
    go_ret
    exact ⟨rfl, Below.refl _ _⟩

theorem hmeets_walk (D : HlcApi) (a b : Option Addr) (n m cap dap : Nat) (za : List Int) (zb : List Bool) (w : World) (ha : IsInts .i64 w a n cap za) (hb : IsBools w b m dap zb) :
    Calls Try.prog 8 #[.slice a n cap, .slice b m dap] w fun e w' => e = .returned (.bool true) ∧ Below w.heap.size w w' := by
  obtain ⟨A, hA, _, ra, _, _⟩ := ha.ints
  by_cases h : 60 < n ∨ 100 < m
  · exact hmeets_out a b n m cap dap w ha.small hb.2.1 h
  · exact hmeets_some D a b n m cap dap A zb w hA hb.1 (by omega) (by omega) ra hb.2.2

end Go.Proofs.Ytncidjlobjgibaa
