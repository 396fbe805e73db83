/-
  HlcChains' walk: what the law answers, whatever its walls and peers.
-/
import Derived.Test.YtncidjlobjgibaaRows
import Derived.Test.YtncidjlobjgibaaHWa
import Derived.Test.YtncidjlobjgibaaRInts
import Derived.Deep.CutRange
namespace Go.Proofs.Ytncidjlobjgibaa
open Go.RowKit Go.Lib
set_option linter.unusedVariables false

theorem wrapTo {x v : Int} (h : wrap64 x = v) (h0 : 0 ≤ v) (h1 : v ≤ 4611686018427387904) : IntKind.i64.wrap x = v := by
  rw [IntKind.wrap_i64]
  unfold wrap64 at h
  omega

theorem keepC {W w w' : World} {g b1 o1 b2 o2 : Nat} {a b c d e : Value} (hb : Below w.heap.size w w')
    (H : w.cell? ⟨g, 0, none⟩ = some a ∧ w.cell? ⟨g, 1, none⟩ = some b ∧ w.cell? ⟨g, 2, none⟩ = some c ∧ w.cell? ⟨b1, o1, none⟩ = some d ∧ w.cell? ⟨b2, o2, none⟩ = some e ∧ Hid (Below W.heap.size W w)) :
    w'.cell? ⟨g, 0, none⟩ = some a ∧ w'.cell? ⟨g, 1, none⟩ = some b ∧ w'.cell? ⟨g, 2, none⟩ = some c ∧ w'.cell? ⟨b1, o1, none⟩ = some d ∧ w'.cell? ⟨b2, o2, none⟩ = some e ∧ Hid (Below W.heap.size W w') := by
  obtain ⟨h1, h2, h3, h4, h5, h13⟩ := H
  exact ⟨cell_later hb h1, cell_later hb h2, cell_later hb h3, cell_later hb h4, cell_later hb h5, chain h13.out hb⟩

theorem keepC' {W w w' : World} {g b1 o1 b2 o2 : Nat} {a b c d e : Value} (hb : Below W.heap.size w w') (hg : g < W.heap.size) (h1 : b1 < W.heap.size) (h2 : b2 < W.heap.size)
    (H : w.cell? ⟨g, 0, none⟩ = some a ∧ w.cell? ⟨g, 1, none⟩ = some b ∧ w.cell? ⟨g, 2, none⟩ = some c ∧ w.cell? ⟨b1, o1, none⟩ = some d ∧ w.cell? ⟨b2, o2, none⟩ = some e ∧ Hid (Below W.heap.size W w)) :
    w'.cell? ⟨g, 0, none⟩ = some a ∧ w'.cell? ⟨g, 1, none⟩ = some b ∧ w'.cell? ⟨g, 2, none⟩ = some c ∧ w'.cell? ⟨b1, o1, none⟩ = some d ∧ w'.cell? ⟨b2, o2, none⟩ = some e ∧ Hid (Below W.heap.size W w') := by
  obtain ⟨k1, k2, k3, k4, k5, h13⟩ := H
  exact ⟨(hb.cell (p := ⟨g, 0, none⟩) hg).trans k1, (hb.cell (p := ⟨g, 1, none⟩) hg).trans k2, (hb.cell (p := ⟨g, 2, none⟩) hg).trans k3, (hb.cell (p := ⟨b1, o1, none⟩) h1).trans k4, (hb.cell (p := ⟨b2, o2, none⟩) h2).trans k5, h13.out.trans hb⟩

set_option maxRecDepth 100000 in
set_option maxHeartbeats 4000000 in
theorem hchains_some (D : HlcApi) (a b : Option Addr) (n m cap dap : Nat) (A B : List Int) (w : World) (hA : A.length = n) (hB : B.length = m) (hn : n ≤ 100) (hm : m ≤ 100) (ra : RdI .i64 w a A) (rb : RdI .i64 w b B) :
    Calls Try.prog 5 #[.slice a n cap, .slice b m dap] w fun e w' => e = .returned (.bool true) ∧ Below w.heap.size w w' := by
  have LA : Hid (A.length = n) := hA
  have LB : Hid (B.length = m) := hB
  have RA : Hid (RdI .i64 w a A) := ra
  have RB : Hid (RdI .i64 w b B) := rb
  have CW := fun (W : World) => hwakes_any D W
  clear hA hB ra rb
  obtain ⟨g, hg⟩ : ∃ g, w.heap.size = g := ⟨_, rfl⟩
  have HG : Hid (w.heap.size = g) := hg
  have HX0 : Hid (BoxS (w.alloc (.cells #[.int .i64 0, .int .i64 0, .int .i64 0] 23)) g 0 0 0) := BoxS.made hg
  go_enter Try.func5, Try.ntmps5
  go_wp2
  clear hg
  go_loopw [6] (fun i wr => ∃ (k : Nat) (p l q : Int), k ≤ n ∧ k ≤ m ∧ i = .int .i64 k ∧ Hid (BoxS wr g p l q) ∧ Hid (okS ⟨p, l, q⟩ = true ∧ l ≤ k) ∧ Hid (Below w.heap.size w wr)) (fun i _ => n - (RowKit.intOf i).toNat)
  case atStart => exact ⟨0, 0, 0, 0, Nat.zero_le _, Nat.zero_le _, rfl, HX0, ⟨rfl, by omega⟩, alloc_below _ _⟩
  case round =>
  clear HX0
  obtain ⟨k, p, l, q, hk, hk', rfl, HX, HL, HB⟩ := hrel
  by_cases hlt : k < n ∧ k < m
  · obtain ⟨hln, hlm⟩ := hlt
    obtain ⟨b1, o1, rfl, hc1⟩ := RA.out (by rw [LA.out]; omega)
    obtain ⟨b2, o2, rfl, hc2⟩ := RB.out (by rw [LB.out]; omega)
    have y1 := cell_later HB.out (hc1 k (by rw [LA.out]; exact hln))
    have y2 := cell_later HB.out (hc2 k (by rw [LB.out]; exact hlm))
    generalize A[k]'(by rw [LA.out]; exact hln) = wall at *
    generalize B[k]'(by rw [LB.out]; exact hlm) = peer at *
    clear hc1 hc2
    obtain ⟨v, hv, hv0, hv1⟩ := modTo wall 1099511627777 (by omega) (by omega)
    obtain ⟨u, hu, hu0, hu1⟩ := modTo peer 5 (by omega) (by omega)
    have hv' : IntKind.i64.wrap ((IntKind.u64.wrap wall).tmod 1099511627777) = v := wrapTo hv hv0 (by omega)
    have hu' : IntKind.i64.wrap ((IntKind.u64.wrap peer).tmod 5) = u := wrapTo hu hu0 (by omega)
    have hm' : mayN ⟨p, l, q⟩ v u = true := mayN_iff.2 ⟨HL.out.1, by omega, by omega⟩
    obtain ⟨nx, hnx, hlt, hok, -, -, -, hll⟩ := nextS_ok hm' (by simp only; have := HL.out.2; omega)
    have CN := fun (W : World) => D.next p l q v u W (okS_64 HL.out.1) (in64' (by omega)) (in64' (by omega))
    unfold TellsS at CN
    rw [hnx] at CN
    have CC := fun (W : World) => D.compare nx.p nx.l nx.q p l q W (okS_64 hok) (okS_64 HL.out.1)
    rw [show cmpS ⟨nx.p, nx.l, nx.q⟩ ⟨p, l, q⟩ = 1 from cmpS_one.2 hlt] at CC
    have HOK : Hid (okS nx = true ∧ nx.l ≤ (k + 1 : Nat)) := ⟨hok, by have := HL.out.2; simp only at hll; omega⟩
    obtain ⟨np, nl, nq⟩ := nx
    simp only at CN CC HOK
    clear hm' hnx hlt hok hll
    obtain ⟨x0, x1, x2⟩ := HX.out.cells
    have HLt : Hid (g < wr.heap.size ∧ b1 < wr.heap.size ∧ b2 < wr.heap.size) := ⟨HX.out.lt, World.block_lt_of_cell? _ ⟨_, _, none⟩ y1, World.block_lt_of_cell? _ ⟨_, _, none⟩ y2⟩
    have HS := And.intro x0 (And.intro x1 (And.intro x2 (And.intro y1 (And.intro y2 (show Hid (Below wr.heap.size wr wr) from Below.refl _ _)))))
    have HSd := keepC (Below.refl _ _).drew HS
    clear x0 x1 x2 y1 y2 HS
    have z1 : (0 : Int) ≤ (k : Int) := by omega
    have z2 : (k : Int) < (n : Int) := by omega
    have z3 : (k : Int) < (m : Int) := by omega
    go_upto_region 7 with fail
    go_cut [7, 8] from 29 to 47 (fun s7 s8 wx => ∃ gn, s7 = .pointer (some ⟨gn, 0, none⟩) ∧ s8 = .int .i64 0 ∧ Hid (BoxS wx gn np nl nq ∧ BoxS wx g p l q ∧ Below w.heap.size w wx))
    case first =>
      refine wp_region_held_drew (S := (fun w' => w'.cell? ⟨g, 0, none⟩ = some (.int .i64 p) ∧ w'.cell? ⟨g, 1, none⟩ = some (.int .i64 l) ∧ w'.cell? ⟨g, 2, none⟩ = some (.int .i64 q) ∧ w'.cell? ⟨b1, o1 + k, none⟩ = some (.int .i64 wall) ∧ w'.cell? ⟨b2, o2 + k, none⟩ = some (.int .i64 peer) ∧ Hid (Below wr.heap.size wr w'))) (by kernel_rfl) HSd (fun hHeld => ?_)
      refine heldTake (v := ?_) 0 30 rfl rfl (by kernel_rfl) (by kernel_rfl) (by kernel_rfl) (fun _ _ _ h => h) (by rfl) (fun w hSw => ?_) (by assumption) ?_
      rotate_left
      · (try dsimp only at hSw); first | (go_simp; done) | (go_simp; with_reducible rfl)
      simp only [List.setIfInBounds_toArray, List.set_cons_zero, List.set_cons_succ]
      refine heldTake (v := ?_) 1 31 rfl rfl (by kernel_rfl) (by kernel_rfl) (by kernel_rfl) (fun _ _ _ h => h) (by rfl) (fun w hSw => ?_) (by assumption) ?_
      rotate_left
      · (try dsimp only at hSw); first | (go_simp; done) | (go_simp; with_reducible rfl)
      simp only [List.setIfInBounds_toArray, List.set_cons_zero, List.set_cons_succ]
      refine heldTake (v := ?_) 2 32 rfl rfl (by kernel_rfl) (by kernel_rfl) (by kernel_rfl) (fun _ _ _ h => h) (by rfl) (fun w hSw => ?_) (by assumption) ?_
      rotate_left
      · (try dsimp only at hSw); first | (go_simp; done) | (go_simp; with_reducible rfl)
      simp only [List.setIfInBounds_toArray, List.set_cons_zero, List.set_cons_succ]
      refine heldTake (v := ?_) 3 33 rfl rfl (by kernel_rfl) (by kernel_rfl) (by kernel_rfl) (fun _ _ _ h => h) (by rfl) (fun w hSw => ?_) (by assumption) ?_
      rotate_left
      · (try dsimp only at hSw); first | (go_simp; done) | (go_simp; with_reducible rfl)
      simp only [List.setIfInBounds_toArray, List.set_cons_zero, List.set_cons_succ]
      refine heldTake (v := ?_) 4 34 rfl rfl (by kernel_rfl) (by kernel_rfl) (by kernel_rfl) (fun _ _ _ h => h) (by rfl) (fun w hSw => ?_) (by assumption) ?_
      rotate_left
      · (try dsimp only at hSw); first | (go_simp; done) | (go_simp; with_reducible rfl)
      simp only [List.setIfInBounds_toArray, List.set_cons_zero, List.set_cons_succ]
      refine heldTake (v := ?_) 5 35 rfl rfl (by kernel_rfl) (by kernel_rfl) (by kernel_rfl) (fun _ _ _ h => h) (by rfl) (fun w hSw => ?_) (by assumption) ?_
      rotate_left
      · (try dsimp only at hSw); first | (go_simp; done) | (go_simp; with_reducible rfl)
      simp only [List.setIfInBounds_toArray, List.set_cons_zero, List.set_cons_succ]
      refine heldTake (v := ?_) 6 36 rfl rfl (by kernel_rfl) (by kernel_rfl) (by kernel_rfl) (fun _ _ _ h => h) (by rfl) (fun w hSw => ?_) (by assumption) ?_
      rotate_left
      · (try dsimp only at hSw); first | (go_simp; done) | (go_simp; with_reducible rfl)
      simp only [List.setIfInBounds_toArray, List.set_cons_zero, List.set_cons_succ]
      refine heldTake (v := ?_) 7 37 rfl rfl (by kernel_rfl) (by kernel_rfl) (by kernel_rfl) (fun _ _ _ h => h) (by rfl) (fun w hSw => ?_) (by assumption) ?_
      rotate_left
      · (try dsimp only at hSw); first | (go_simp; done) | (go_simp; with_reducible rfl)
      simp only [List.setIfInBounds_toArray, List.set_cons_zero, List.set_cons_succ]
      refine heldTake (v := ?_) 8 38 rfl rfl (by kernel_rfl) (by kernel_rfl) (by kernel_rfl) (fun _ _ _ h => h) (by rfl) (fun w hSw => ?_) (by assumption) ?_
      rotate_left
      · (try dsimp only at hSw); first | (go_simp; done) | (go_simp; with_reducible rfl)
      simp only [List.setIfInBounds_toArray, List.set_cons_zero, List.set_cons_succ]
      refine heldTake (v := ?_) 9 39 rfl rfl (by kernel_rfl) (by kernel_rfl) (by kernel_rfl) (fun _ _ _ h => h) (by rfl) (fun w hSw => ?_) (by assumption) ?_
      rotate_left
      · (try dsimp only at hSw); first | (go_simp; done) | (go_simp; with_reducible rfl)
      simp only [List.setIfInBounds_toArray, List.set_cons_zero, List.set_cons_succ]
      refine heldTake (v := ?_) 10 40 rfl rfl (by kernel_rfl) (by kernel_rfl) (by kernel_rfl) (fun _ _ _ h => h) (by rfl) (fun w hSw => ?_) (by assumption) ?_
      rotate_left
      · (try dsimp only at hSw); first | (go_simp; done) | (go_simp; with_reducible rfl)
      simp only [List.setIfInBounds_toArray, List.set_cons_zero, List.set_cons_succ]
      refine heldTake (v := ?_) 11 41 rfl rfl (by kernel_rfl) (by kernel_rfl) (by kernel_rfl) (fun _ _ _ h => h) (by rfl) (fun w hSw => ?_) (by assumption) ?_
      rotate_left
      · (try dsimp only at hSw); first | (go_simp; done) | (go_simp; with_reducible rfl)
      simp only [List.setIfInBounds_toArray, List.set_cons_zero, List.set_cons_succ]
      refine heldTake (v := ?_) 12 42 rfl rfl (by kernel_rfl) (by kernel_rfl) (by kernel_rfl) (fun _ _ _ h => h) (by rfl) (fun w hSw => ?_) (by assumption) ?_
      rotate_left
      · (try dsimp only at hSw); first | (go_simp; done) | (go_simp; with_reducible rfl)
      simp only [List.setIfInBounds_toArray, List.set_cons_zero, List.set_cons_succ]
      refine heldTake (v := ?_) 13 43 rfl rfl (by kernel_rfl) (by kernel_rfl) (by kernel_rfl) (fun _ _ _ h => h) (by rfl) (fun w hSw => ?_) (by assumption) ?_
      rotate_left
      · (try dsimp only at hSw); first | (go_simp; done) | (go_simp; with_reducible rfl)
      simp only [List.setIfInBounds_toArray, List.set_cons_zero, List.set_cons_succ]
      refine heldTake (v := ?_) 14 44 rfl rfl (by kernel_rfl) (by kernel_rfl) (by kernel_rfl) (fun _ _ _ h => h) (by rfl) (fun w hSw => ?_) (by assumption) ?_
      rotate_left
      · (try dsimp only at hSw); first | (go_simp; done) | (go_simp; with_reducible rfl)
      simp only [List.setIfInBounds_toArray, List.set_cons_zero, List.set_cons_succ]
      refine heldTwo 15 19 rfl rfl (by kernel_rfl) (by rfl) (by rfl) (fun K2 hK => ?_) (fun K2 hK => ?_)
      · go_simp
        refine (CN _).mono ?_
        rintro e w1 ⟨rfl, hb1⟩
        refine hK.out _ _ ?_ (fun hHeld => ?_)
        · exact keepC hb1 (by assumption)
        clear hK K2
        try simp only [List.setIfInBounds_toArray, List.set_cons_zero, List.set_cons_succ]
        refine heldTake (v := ?_) 16 29 rfl rfl (by kernel_rfl) (by kernel_rfl) (by kernel_rfl) (fun _ _ _ h => h) (by rfl) (fun w hSw => ?_) (by assumption) ?_
        rotate_left
        · (try dsimp only at hSw); first | (go_simp; done) | (go_simp; with_reducible rfl)
        simp only [List.setIfInBounds_toArray, List.set_cons_zero, List.set_cons_succ]
        refine heldTake (v := ?_) 17 46 rfl rfl (by kernel_rfl) (by kernel_rfl) (by kernel_rfl) (fun _ _ _ h => h) (by rfl) (fun w hSw => ?_) (by assumption) ?_
        rotate_left
        · (try dsimp only at hSw); first | (go_simp; done) | (go_simp; with_reducible rfl)
        simp only [List.setIfInBounds_toArray, List.set_cons_zero, List.set_cons_succ]
        refine heldTake (v := ?_) 18 47 rfl rfl (by kernel_rfl) (by kernel_rfl) (by kernel_rfl) (fun _ _ _ h => h) (by rfl) (fun w hSw => ?_) (by assumption) ?_
        rotate_left
        · (try dsimp only at hSw); first | (go_simp; done) | (go_simp; with_reducible rfl)
        simp only [List.setIfInBounds_toArray, List.set_cons_zero, List.set_cons_succ]
        refine heldOne 19 rfl (by kernel_rfl) (by rfl) (fun K2 hK => ?_)
        go_simp
        refine hK.out _ _ ?_ (fun hHeld => ?_)
        · exact keepC (alloc_below _ _) (by assumption)
        clear hK K2
        try simp only [List.setIfInBounds_toArray, List.set_cons_zero, List.set_cons_succ]
        refine heldOne 20 rfl (by kernel_rfl) (by rfl) (fun K2 hK => ?_)
        go_simp
        refine hK.out _ _ ?_ (fun hHeld => ?_)
        · exact keepC (alloc_below _ _) (by assumption)
        clear hK K2
        try simp only [List.setIfInBounds_toArray, List.set_cons_zero, List.set_cons_succ]
        refine heldTake (v := ?_) 21 8 rfl rfl (by kernel_rfl) (by kernel_rfl) (by kernel_rfl) (fun _ _ _ h => h) (by rfl) (fun w hSw => ?_) (by assumption) ?_
        rotate_left
        · (try dsimp only at hSw); first | (go_simp; done) | (go_simp; with_reducible rfl)
        simp only [List.setIfInBounds_toArray, List.set_cons_zero, List.set_cons_succ]
        refine wpAnyH_done (by kernel_rfl) ?_ _
        have HNB : Hid (Below wr.heap.size wr (w1.alloc (.cells #[.int .i64 np, .int .i64 nl, .int .i64 nq] 23))) := chain (Below.refl _ _).drew (chain hb1 (alloc_below _ _))
        have HNX : Hid (BoxS (w1.alloc (.cells #[.int .i64 np, .int .i64 nl, .int .i64 nq] 23)) w1.heap.size np nl nq) := BoxS.made rfl
        go_wp2
        go_meet
        exact ⟨_, rfl, rfl, HNX.out, (HNB.out.block g HLt.out.1).trans HX.out, HB.out.trans (HNB.out.mono HB.out.size)⟩
      · go_simp
        have HZ : Hid (BoxS (wr.drew.alloc (.cells #[.int .i64 0, .int .i64 0, .int .i64 0] 23)) wr.heap.size 0 0 0) := BoxS.made rfl
        refine hK.out _ _ ?_ (fun hHeld => ?_)
        · exact keepC (alloc_below _ _) (by assumption)
        clear hK K2
        try simp only [List.setIfInBounds_toArray, List.set_cons_zero, List.set_cons_succ]
        refine heldOne 15 rfl (by kernel_rfl) (by rfl) (fun K2 hK => ?_)
        go_simp
        refine (CN _).mono ?_
        rintro e w1 ⟨rfl, hb1⟩
        replace HZ : Hid (BoxS w1 wr.heap.size 0 0 0) := HZ.out.later hb1
        refine hK.out _ _ ?_ (fun hHeld => ?_)
        · exact keepC hb1 (by assumption)
        clear hK K2
        try simp only [List.setIfInBounds_toArray, List.set_cons_zero, List.set_cons_succ]
        refine heldTake (v := ?_) 16 29 rfl rfl (by kernel_rfl) (by kernel_rfl) (by kernel_rfl) (fun _ _ _ h => h) (by rfl) (fun w hSw => ?_) (by assumption) ?_
        rotate_left
        · (try dsimp only at hSw); first | (go_simp; done) | (go_simp; with_reducible rfl)
        simp only [List.setIfInBounds_toArray, List.set_cons_zero, List.set_cons_succ]
        refine heldTake (v := ?_) 17 46 rfl rfl (by kernel_rfl) (by kernel_rfl) (by kernel_rfl) (fun _ _ _ h => h) (by rfl) (fun w hSw => ?_) (by assumption) ?_
        rotate_left
        · (try dsimp only at hSw); first | (go_simp; done) | (go_simp; with_reducible rfl)
        simp only [List.setIfInBounds_toArray, List.set_cons_zero, List.set_cons_succ]
        refine heldTake (v := ?_) 18 47 rfl rfl (by kernel_rfl) (by kernel_rfl) (by kernel_rfl) (fun _ _ _ h => h) (by rfl) (fun w hSw => ?_) (by assumption) ?_
        rotate_left
        · (try dsimp only at hSw); first | (go_simp; done) | (go_simp; with_reducible rfl)
        simp only [List.setIfInBounds_toArray, List.set_cons_zero, List.set_cons_succ]
        refine heldOne 20 rfl (by kernel_rfl) (by rfl) (fun K2 hK => ?_)
        obtain ⟨r0, r1, r2⟩ := HZ.out.cells
        have f0 := HZ.out.frozen
        go_simp
        refine hK.out _ _ ?_ (fun hHeld => ?_)
        · exact keepC' (below_set3 (Below.refl _ _) (Nat.le_refl _)) HLt.out.1 HLt.out.2.1 HLt.out.2.2 (by assumption)
        clear hK K2
        try simp only [List.setIfInBounds_toArray, List.set_cons_zero, List.set_cons_succ]
        refine heldTake (v := ?_) 21 8 rfl rfl (by kernel_rfl) (by kernel_rfl) (by kernel_rfl) (fun _ _ _ h => h) (by rfl) (fun w hSw => ?_) (by assumption) ?_
        rotate_left
        · (try dsimp only at hSw); first | (go_simp; done) | (go_simp; with_reducible rfl)
        simp only [List.setIfInBounds_toArray, List.set_cons_zero, List.set_cons_succ]
        refine wpAnyH_done (by kernel_rfl) ?_ _
        have HNB : Hid (Below wr.heap.size wr (((w1.setCell ⟨wr.heap.size, 0, none⟩ (.int .i64 np)).setCell ⟨wr.heap.size, 1, none⟩ (.int .i64 nl)).setCell ⟨wr.heap.size, 2, none⟩ (.int .i64 nq))) := below_set3 (chain (Below.refl _ _).drew (chain (alloc_below _ _) hb1)) (Nat.le_refl _)
        have HNX : Hid (BoxS (((w1.setCell ⟨wr.heap.size, 0, none⟩ (.int .i64 np)).setCell ⟨wr.heap.size, 1, none⟩ (.int .i64 nl)).setCell ⟨wr.heap.size, 2, none⟩ (.int .i64 nq)) wr.heap.size np nl nq) := HZ.out.set np nl nq
        go_wp2
        go_meet
        exact ⟨_, rfl, rfl, HNX.out, (HNB.out.block g HLt.out.1).trans HX.out, HB.out.trans (HNB.out.mono HB.out.size)⟩
    case rest =>
      obtain ⟨gn, rfl, rfl, HC⟩ := hcut
      obtain ⟨we, rfl⟩ : ∃ x, x = wc := ⟨_, rfl⟩
      clear HSd HLt hv hv' hu hu' hv0 hv1 hu0 hu1 CN HX HB
      obtain ⟨x0, x1, x2⟩ := HC.out.1.cells
      obtain ⟨y0, y1, y2⟩ := HC.out.2.1.cells
      go_wp2_with fail
      refine (CC _).mono ?_
      rintro e w1 ⟨rfl, hb1⟩
      have HN : Hid (BoxS w1 gn np nl nq) := HC.out.1.later hb1
      have HX : Hid (BoxS w1 g p l q) := HC.out.2.1.later hb1
      have HB : Hid (Below w.heap.size w w1) := chain HC.out.2.2 hb1
      clear x0 x1 x2 y0 y1 y2 HC hb1
      obtain ⟨x0, x1, x2⟩ := HN.out.cells
      obtain ⟨y0, y1, y2⟩ := HX.out.cells
      have f0 := HX.out.frozen
      have HN' : Hid (BoxS (((w1.setCell ⟨g, 0, none⟩ (.int .i64 np)).setCell ⟨g, 1, none⟩ (.int .i64 nl)).setCell ⟨g, 2, none⟩ (.int .i64 nq)) g np nl nq) := HX.out.set np nl nq
      have HB' : Hid (Below w.heap.size w (((w1.setCell ⟨g, 0, none⟩ (.int .i64 np)).setCell ⟨g, 1, none⟩ (.int .i64 nl)).setCell ⟨g, 2, none⟩ (.int .i64 nq))) := below_set3 HB.out (Nat.le_of_eq HG.out)
      go_wp2
      go_roundw
      case rel => exact ⟨k + 1, np, nl, nq, by omega, by omega, by go_num, HN', HOK, HB'⟩
      case measure => simp [RowKit.intOf]; omega
  · have hd : ¬ k < n ∨ ¬ k < m := by omega
    by_cases hkn : k < n
    · have hkm : (m : Int) ≤ (k : Int) := by omega
      have d2 : decide ((k : Int) < (m : Int)) = false := by simpa using hkm
      have z1 : (k : Int) < (n : Int) := by omega
      clear hd hlt
      go_wp2_with fail
      refine (CW _).mono ?_
      rintro e ww ⟨rfl, hbw⟩
      have HBW : Hid (Below w.heap.size w ww) := chain HB.out hbw
      clear hbw
      go_wp2
      go_ret
      exact ⟨rfl, HBW.out⟩
    · have hkm : (n : Int) ≤ (k : Int) := by omega
      have d2 : decide ((k : Int) < (n : Int)) = false := by simpa using hkm
      clear hd hlt
      go_wp2_with fail
      refine (CW _).mono ?_
      rintro e ww ⟨rfl, hbw⟩
      have HBW : Hid (Below w.heap.size w ww) := chain HB.out hbw
      clear hbw
      go_wp2
      go_ret
      exact ⟨rfl, HBW.out⟩

set_option maxHeartbeats 400000 in
theorem hchains_long (a b : Option Addr) (n m cap dap : Nat) (w : World) (hn : n ≤ 9223372036854775807) (hm : m ≤ 9223372036854775807) (h : 100 < n ∨ 100 < m) :
    Calls Try.prog 5 #[.slice a n cap, .slice b m dap] w fun e w' => e = .returned (.bool true) ∧ Below w.heap.size w w' := by
  by_cases h1 : 100 < n
  · clear h
    go_enter Try.func5, Try.ntmps5
    go_wp2
    go_ret
    exact ⟨rfl, Below.refl _ _⟩
  · have h2 : 100 < m := by omega
    have h3 : decide ((100 : Int) < (n : Int)) = false := by simp; omega
    clear h h1
    go_enter Try.func5, Try.ntmps5
    go_wp2
    go_ret
    exact ⟨rfl, Below.refl _ _⟩

theorem hchains_walk (D : HlcApi) (a b : Option Addr) (n m cap dap : Nat) (za zb : List Int) (w : World) (ha : IsInts .i64 w a n cap za) (hb : IsInts .i64 w b m dap zb) :
    Calls Try.prog 5 #[.slice a n cap, .slice b m dap] w fun e w' => e = .returned (.bool true) ∧ Below w.heap.size w w' := by
  obtain ⟨A, hA, _, ra, _, _⟩ := ha.ints
  obtain ⟨B, hB, _, rb, _, _⟩ := hb.ints
  by_cases h : 100 < n ∨ 100 < m
  · exact hchains_long a b n m cap dap w ha.small hb.small h
  · exact hchains_some D a b n m cap dap A B w hA hB (by omega) (by omega) ra rb

end Go.Proofs.Ytncidjlobjgibaa
