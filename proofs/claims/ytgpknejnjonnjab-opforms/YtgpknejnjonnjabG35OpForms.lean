/-
  Texts of the proof of OpForms, one behind the other.
-/
import Derived.Test.YtgpknejnjonnjabRows
import Derived.Test.YtgpknejnjonnjabG34OpForms
import Derived.Test.YtgpknejnjonnjabG26OpForms
import Derived.Test.YtgpknejnjonnjabG32OpForms
import Derived.Test.YtgpknejnjonnjabG20OpForms
import Derived.Deep.CutRange
namespace Go.Proofs.Ytgpknejnjonnjab
open Go.RowKit Go.Lib
set_option linter.unusedVariables false

theorem Try.infoT : (Try.prog.info? 26).map (fun i => (i.zero, i.size, i.bytes)) = some (some (.agg #[.slice none 0 0]), 1, 24) := by kernel_rfl

/-- The slice v is a row of slices of the call's own, from block B on, and its elements are rows of the call's own with these numbers. -/
def OwnTT (w : World) (B : Nat) (v : Value) (L : List (List Int)) : Prop := ∃ us : List Value, us.length = L.length ∧ w.ownsRow B 26 1 v L.length us ∧ ∀ i (h1 : i < us.length) (h2 : i < L.length), OwnI w B us[i] L[i]

theorem OwnTT.nought (w : World) (B : Nat) : OwnTT w B (.slice none 0 0) [] := ⟨[], rfl, World.ownsRow_nil w B 26 1, fun i h => absurd h (by simp)⟩

theorem OwnTT.form {w : World} {B : Nat} {v : Value} {L : List (List Int)} (h : OwnTT w B v L) : ∃ a cap, v = .slice a L.length cap ∧ L.length ≤ cap ∧ RdII w a L ∧ (a = none → L = [] ∧ cap = 0) := by
  obtain ⟨us, hl, ⟨_, ⟨hv, hn⟩ | ⟨g, cap, cur, hv, _, hh, hc, _, hs, ht⟩⟩, hsl⟩ := h
  · have : L = [] := List.eq_nil_of_length_eq_zero hn
    subst this
    exact ⟨none, 0, hv, Nat.le_refl _, RdII.nil _ _, fun _ => ⟨rfl, rfl⟩⟩
  · refine ⟨_, cap, hv, hc, fun _ => ⟨g, 0, rfl, fun i hi => ⟨us[i]'(by omega), ?_, (hsl i (by omega) hi).sl⟩⟩, fun h => by cases h⟩
    rw [cell_of_row w g _ _ _ _ hh, Nat.zero_add]
    have hx : us[i]? = some (us[i]'(by omega)) := List.getElem?_eq_getElem (by omega)
    rw [← hx, ← ht, Nat.mul_one, List.getElem?_take_of_lt hi]
    simp

theorem OwnTT.later {w w' : World} {B : Nat} {v : Value} {L : List (List Int)} (h : OwnTT w B v L) (hb : Below w.heap.size w w') : OwnTT w' B v L := by
  obtain ⟨us, hl, ⟨h1, h2⟩, hsl⟩ := h
  refine ⟨us, hl, ⟨h1, ?_⟩, fun i k1 k2 => (hsl i k1 k2).later hb⟩
  rcases h2 with h2 | ⟨g, cap, cur, hv, hg, hh, hc⟩
  · exact .inl h2
  · refine .inr ⟨g, cap, cur, hv, hg, (hb.block g ?_).trans hh, hc⟩
    rcases Nat.lt_or_ge g w.heap.size with h3 | h3
    · exact h3
    · simp [Array.getElem?_eq_none h3] at hh

/-- A row of numbers is no row of slices. -/
theorem own_apartT {w : World} {B C n : Nat} {u v : Value} {N : List Int} {us : List Value} (h : OwnI w B u N) (h' : w.ownsRow C 26 1 v n us) : u.ownBlock = none ∨ u.ownBlock ≠ v.ownBlock := by
  obtain ⟨_, ⟨rfl, _⟩ | ⟨g, cap, cur, rfl, _, hh, _⟩⟩ := h
  · exact .inl rfl
  · obtain ⟨_, ⟨rfl, _⟩ | ⟨g', cap', cur', rfl, _, hh', _⟩⟩ := h'
    · exact .inr (by simp [Value.ownBlock])
    · refine .inr fun e => ?_
      have e' : g = g' := by simpa [Value.ownBlock] using e
      subst e'
      rw [hh] at hh'
      simp at hh'

/-- append(v, u): v a row of slices of the call's own, u a row of numbers of its own. -/
theorem OwnTT.append {w : World} {B n ty s : Nat} {u v : Value} {L : List (List Int)} {N : List Int} (T : OwnTT w B v L) (hu : OwnI w B u N) (hn : L.length = n) (h1 : n ≤ 65536) (hB : B ≤ w.heap.size) (hs : w.cell? ⟨s, 0, none⟩ = some u) :
    ∃ a' cap' w', (Builtin.append_ #[23, 23] ty #[v, .slice (some ⟨s, 0, none⟩) 1 1]).run Try.prog w = .ok (.slice a' (n + 1) cap') w' ∧ n + 1 ≤ cap' ∧ OwnTT w' B (.slice a' (n + 1) cap') (L ++ [N]) ∧ Below B w w' := by
  subst hn
  obtain ⟨us, hl, hown, hsl⟩ := T
  obtain ⟨i0, hi, hz0, hz1, hz2⟩ := info_parts Try.infoT
  have h1c : u.oneCell' = true := by
    obtain ⟨a, cap, rfl, _⟩ := hu.form
    rfl
  obtain ⟨v', w', hrun, ho, hg, _⟩ := run_append_own (P := Try.prog) (w := w) B 23 ty 26 i0 (.agg #[.slice none 0 0]) 1 24 Try.underlying23 hi hz0 hz1 hz2 rfl (by decide) v L.length us hown ⟨s, 0, none⟩ 1 1 [u] rfl (fun j y hj => by
    obtain rfl : j = 0 := by
      rcases j with _ | j
      · rfl
      · simp at hj
    simp at hj
    subst hj
    rw [add_plain3]
    exact hs) (by simp [h1c]) (by unfold maxLen; omega) (by omega) hB
  have T' : OwnTT w' B v' (L ++ [N]) := by
    refine ⟨us ++ [u], by simp [hl], by rw [List.length_append]; exact ho, fun i k1 k2 => ?_⟩
    by_cases hi : i < us.length
    · rw [List.getElem_append_left hi, List.getElem_append_left (by omega)]
      exact World.ownsRow.kept (hsl i hi (by omega)) hg (own_apartT (hsl i hi (by omega)) hown)
    · have hi' : i = us.length := by simp at k1; omega
      subst hi'
      rw [List.getElem_append_right (Nat.le_refl _), List.getElem_append_right (by omega)]
      simp only [hl, Nat.sub_self, List.getElem_cons_zero]
      exact World.ownsRow.kept hu hg (own_apartT hu hown)
  obtain ⟨a', cap', rfl, hc, _, _⟩ := T'.form
  rw [List.length_append] at hrun T' hc
  exact ⟨a', cap', w', hrun, hc, T', (Below.refl _ _).grown hg hB (fun k hk => (World.ownsRow.lt hown k hk).1)⟩

theorem mod5 (k : Int) : ∃ j : Nat, j < 5 ∧ wrap64 ((IntKind.u64.wrap k).tmod 5) = (j : Int) := by
  have := modPlace k 5 (by omega) (by omega)
  simpa using this

theorem mod6 (k : Int) : ∃ j : Nat, j < 6 ∧ wrap64 ((IntKind.u64.wrap k).tmod 6) = (j : Int) := by
  have := modPlace k 6 (by omega) (by omega)
  simpa using this

theorem mod3 (i k : Nat) : ∃ s : Nat, s < 3 ∧ ((i : Int) + (k : Int)).tmod 3 = (s : Int) := by
  refine ⟨(i + k) % 3, Nat.mod_lt _ (by omega), ?_⟩
  rw [Int.tmod_eq_emod_of_nonneg (by omega)]
  omega

/-- Right forms, so far. -/
def FormsR (c : Nat) (L : List (List Int)) : Prop := ∀ v ∈ L, v.length = c ∧ v.all typeF = true

theorem formsR_ok {c n : Nat} {L : List (List Int)} (h : FormsR c L) (hn : L.length = n) (n1 : 1 ≤ n) (n3 : n ≤ 3) (c1 : 1 ≤ c) (c4 : c ≤ 4) : formsF L = 0 := by
  unfold formsF
  rw [if_neg (by omega)]
  have h1 : L.all widthF = true := by
    rw [List.all_eq_true]
    intro v hv
    have := (h v hv).1
    simp [widthF]
    omega
  have h2 : L.all (fun v => v.all typeF) = true := by
    rw [List.all_eq_true]
    exact fun v hv => (h v hv).2
  rw [h1, h2]
  rfl

theorem formsR_no {c n : Nat} {L : List (List Int)} (h : FormsR c L) (hn : L.length = n) (hb : ¬ (1 ≤ n ∧ n ≤ 3 ∧ 1 ≤ c ∧ c ≤ 4)) : formsF L = 2 := by
  unfold formsF
  by_cases hl : L.length < 1 ∨ 3 < L.length
  · rw [if_pos hl]
  · rw [if_neg hl]
    have h1 : L.all widthF = false := by
      rw [List.all_eq_false]
      refine ⟨L[0]'(by omega), List.getElem_mem _, ?_⟩
      have := (h _ (List.getElem_mem (show 0 < L.length by omega))).1
      simp [widthF]
      omega
    rw [h1]
    rfl

theorem mod4 (k : Int) : ∃ j : Nat, j < 4 ∧ wrap64 ((IntKind.u64.wrap k).tmod 4) = (j : Int) := by
  have := modPlace k 4 (by omega) (by omega)
  simpa using this

/-- A row of slices of the call's own: its block, its cells. -/
theorem row_cells {w : World} {B t n m cap : Nat} {a : Option Addr} {us : List Value} (h : w.ownsRow B t 1 (.slice a n cap) m us) (hm : us.length = m) (h0 : 0 < us.length) :
    ∃ b cur, a = some ⟨b, 0, none⟩ ∧ w.heap[b]? = some (.cells cur t (0, 0)) ∧ ∀ W : World, W.heap[b]? = w.heap[b]? → ∀ i (hi : i < us.length), W.cell? ⟨b, i, none⟩ = some us[i] := by
  subst hm
  obtain ⟨_, ⟨hv, hn⟩ | ⟨g, c2, cur, hv, hB, hh, hc, _, hs, ht⟩⟩ := h
  · omega
  · simp only [Value.slice.injEq] at hv
    obtain ⟨rfl, _, rfl⟩ := hv
    refine ⟨g, cur, rfl, hh, fun W hW i hi => ?_⟩
    rw [cell_of_row W g _ _ _ _ (hW.trans hh)]
    have hx : us[i]? = some us[i] := List.getElem?_eq_getElem hi
    rw [← hx]
    conv => rhs; rw [← ht]
    rw [Nat.mul_one, List.getElem?_take_of_lt hi]
    simp

theorem ints_block {w : World} {B : Nat} {v : Value} {N : List Int} (h : OwnI w B v N) (h0 : 0 < N.length) : ∃ g cap cur, v = .slice (some ⟨g, 0, none⟩) N.length cap ∧ B ≤ g ∧ w.heap[g]? = some (.cells cur 3 (0, 0)) := by
  obtain ⟨_, ⟨hv, hn⟩ | ⟨g, c2, cur, hv, hB, hh, _⟩⟩ := h
  · omega
  · exact ⟨g, c2, cur, hv, hB, hh⟩

theorem OwnI.off {w : World} {B g k : Nat} {u v : Value} {N : List Int} (h : OwnI w B v N) (hg : v.ownBlock ≠ some g) : OwnI (w.setCell ⟨g, k, none⟩ u) B v N := by
  obtain ⟨h1, h2⟩ := h
  refine ⟨h1, ?_⟩
  rcases h2 with h2 | ⟨g2, c2, cur, hv, hB, hh, hc⟩
  · exact .inl h2
  · refine .inr ⟨g2, c2, cur, hv, hB, (Below.heap_setCell w ⟨g, k, none⟩ u g2 (fun e => hg ?_)).trans hh, hc⟩
    rw [hv]
    exact congrArg some e

/-- Right forms of which one column has become none. -/
theorem forms_spoilt {W : World} {B c k gz y z bf : Nat} {cz : Nat} {val : Int} {us : List Value} {L : List (List Int)} (hul : us.length = L.length) (hL : L.length = k) (n3 : k ≤ 3) (hF : FormsR c L) (c1 : 1 ≤ c) (c4 : c ≤ 4)
    (hO : ∀ i (h1 : i < us.length) (h2 : i < L.length), OwnI W B us[i] L[i]) (hC : ∀ i (h : i < us.length), (W.setCell ⟨gz, y, none⟩ (.int .i64 val)).cell? ⟨bf, i, none⟩ = some us[i])
    (hzu : z < us.length) (hzL : z < L.length) (huz : us[z] = .slice (some ⟨gz, 0, none⟩) c cz) (hy : y < c) (hvt : typeF val = false) :
    ∃ L3, L3.length = k ∧ formsF L3 = 10 ∧ (∀ v ∈ L3, v.length ≤ 65536) ∧ RdII (W.setCell ⟨gz, y, none⟩ (.int .i64 val)) (some ⟨bf, 0, none⟩) L3 := by
  obtain ⟨f, hf⟩ : ∃ f : Value → List Int → List Int, ∀ u N, f u N = if u.ownBlock = some gz then N.set y val else N := ⟨fun u N => if u.ownBlock = some gz then N.set y val else N, fun _ _ => rfl⟩
  have hl : (List.zipWith f us L).length = k := by simp [hul, hL]
  have hat : ∀ i (h : i < (List.zipWith f us L).length), (List.zipWith f us L)[i] = f (us[i]'(by omega)) (L[i]'(by omega)) := fun i h => by simp
  have hlen : ∀ v ∈ List.zipWith f us L, v.length = c := fun v hv => by
    obtain ⟨i, hi, rfl⟩ := List.mem_iff_getElem.1 hv
    rw [hat i hi, hf]
    have := (hF _ (List.getElem_mem (show i < L.length by omega))).1
    split
    · rw [List.length_set]; exact this
    · exact this
  refine ⟨List.zipWith f us L, hl, ?_, fun v hv => by have := hlen v hv; omega, fun _ => ⟨bf, 0, rfl, fun i hi => ⟨us[i]'(by omega), ?_, ?_⟩⟩⟩
  · unfold formsF
    rw [if_neg (by omega)]
    have h1 : (List.zipWith f us L).all widthF = true := by
      rw [List.all_eq_true]
      intro v hv
      have := hlen v hv
      simp [widthF]
      omega
    have h2 : (List.zipWith f us L).all (fun v => v.all typeF) = false := by
      rw [List.all_eq_false]
      refine ⟨(List.zipWith f us L)[z]'(by omega), List.getElem_mem _, ?_⟩
      rw [hat z (by omega), hf, huz]
      have hy' : y < L[z].length := by have := (hF _ (List.getElem_mem hzL)).1; omega
      simp only [Value.ownBlock, if_true]
      rw [Bool.not_eq_true, List.all_eq_false]
      exact ⟨val, List.mem_set hy' val, by simp [hvt]⟩
    rw [h1, h2]
    rfl
  · rw [Nat.zero_add]
    exact hC i (by omega)
  · rw [hat i hi, hf]
    have ho := hO i (by omega) (by omega)
    split
    · rename_i hb
      have h0 : 0 < (L[i]'(by omega)).length := by have := (hF _ (List.getElem_mem (show i < L.length by omega))).1; omega
      obtain ⟨g, cap, cur, hv, _, _⟩ := ints_block ho h0
      rw [hv] at ho hb ⊢
      have e : g = gz := by simpa [Value.ownBlock] using hb
      subst e
      exact (ho.put rfl y val).1.sl
    · rename_i hb
      exact (ho.off hb).sl

set_option maxRecDepth 100000 in
set_option maxHeartbeats 3000000 in
theorem oforms_walk (n0 m0 b0 : Int) (w : World) :
    Calls Try.prog 3 #[.int .i64 n0, .int .i64 m0, .int .i64 b0] w fun e w' => e = .returned (.bool true) ∧ Below w.heap.size w w' := by
  obtain ⟨n, hn, hne⟩ := mod5 n0
  obtain ⟨c, hc, hce⟩ := mod6 m0
  go_enter Try.func3, Try.ntmps3
  go_wp2
  try rw [hne]
  try rw [hce]
  clear hne hce
  go_loopw [7, 8] (fun o i wr => ∃ (k cp : Nat) (aw : Option Addr) (L : List (List Int)), k ≤ n ∧ i = .int .i64 k ∧ o = .slice aw k cp ∧ k ≤ cp ∧ Hid (L.length = k) ∧ Hid (FormsR c L) ∧ Hid (OwnTT wr w.heap.size (.slice aw k cp) L) ∧ Hid (Below w.heap.size w wr)) (fun _ i _ => n - (RowKit.intOf i).toNat)
  case atStart => exact ⟨0, 0, none, [], Nat.zero_le _, rfl, rfl, Nat.le_refl _, rfl, (fun v hv => absurd hv (by simp)), OwnTT.nought _ _, Below.refl _ _⟩
  case round =>
  obtain ⟨k, cp, aw, L, hk, rfl, rfl, hcp, hL, hFR, hO, hB⟩ := hrel
  by_cases hlt : k < n
  · have HK0 : Hid (CellsAt (wr.alloc (.cells #[.slice none 0 0] 26)) wr.heap.size #[.slice none 0 0] 26) := CellsAt.made rfl
    have HB0 : Hid (Below wr.heap.size wr (wr.alloc (.cells #[.slice none 0 0] 26))) := alloc_below _ _
    have HS0 : Hid (wr.heap.size + 1 ≤ (wr.alloc (.cells #[.slice none 0 0] 26)).heap.size) := by show _ ≤ _; simp
    go_wp2
    go_loopw [10] (fun i wx => ∃ (q cq : Nat) (aq : Option Addr) (N : List Int), q ≤ c ∧ i = .int .i64 q ∧ q ≤ cq ∧ Hid (N.length = q) ∧ Hid (N.all typeF = true) ∧ Hid (CellsAt wx wr.heap.size #[.slice aq q cq] 26) ∧ Hid (OwnI wx (wr.heap.size + 1) (.slice aq q cq) N) ∧ Hid (wr.heap.size + 1 ≤ wx.heap.size) ∧ Hid (Below wr.heap.size wr wx)) (fun i _ => c - (RowKit.intOf i).toNat)
    case atStart => exact ⟨0, 0, none, [], Nat.zero_le _, rfl, Nat.le_refl _, rfl, rfl, HK0, OwnI.nought _ _, HS0, HB0⟩
    case round =>
    rename World => wx
    clear HK0 HB0 HS0
    obtain ⟨q, cq, aq, N, hq, rfl, hcq, hN, hNT, hK, hON, hSz, hB1⟩ := hrel
    by_cases hlq : q < c
    · obtain ⟨s, hs, es⟩ := mod3 k q
      have x0 : wx.cell? ⟨wr.heap.size, 0, none⟩ = some (.slice aq q cq) := hK.out.cell 0
      obtain ⟨a', cap', w', hrun, hc', ho', _, _, hsz', hb'⟩ := run_append_ints (ty := 24) (cap := 1) (hON.out.later (alloc_below wx (.cells #[.int .i64 (2 + (s : Int))] 3))) hN.out (m := 1) (N := [2 + (s : Int)]) rfl (rdI_of (cell_new wx wx.heap.size rfl _ _)) (fun h => by cases h) (by omega) (by omega) (Nat.le_trans hSz.out (by simp))
      have hkw : CellsAt w' wr.heap.size #[.slice aq q cq] 26 := ((hb'.block wr.heap.size (by omega)).trans ((alloc_below wx (.cells #[.int .i64 (2 + (s : Int))] 3)).block wr.heap.size (by have := hSz.out; omega))).trans hK.out
      have y0 := hkw.cell 0
      have f0 := hkw.free 0
      have HK2 : Hid (CellsAt (w'.setCell ⟨wr.heap.size, 0, none⟩ (.slice a' (q + 1) cap')) wr.heap.size #[.slice a' (q + 1) cap'] 26) := hkw.set 0 (.slice a' (q + 1) cap')
      have HO2 : Hid (OwnI (w'.setCell ⟨wr.heap.size, 0, none⟩ (.slice a' (q + 1) cap')) (wr.heap.size + 1) (.slice a' (q + 1) cap') (N ++ [2 + (s : Int)])) := by
        obtain ⟨h1, h2⟩ := ho'
        refine ⟨h1, ?_⟩
        rcases h2 with h2 | ⟨g2, c2, cur, hv, hB2, hh, hcc⟩
        · exact .inl h2
        · exact .inr ⟨g2, c2, cur, hv, hB2, (Below.heap_setCell w' ⟨wr.heap.size, 0, none⟩ _ g2 (by show g2 ≠ wr.heap.size; omega)).trans hh, hcc⟩
      have HN2 : Hid ((N ++ [2 + (s : Int)]).length = q + 1) := by show _ = _; rw [List.length_append, hN.out]; rfl
      have HT2 : Hid ((N ++ [2 + (s : Int)]).all typeF = true) := by
        show _ = _
        rw [List.all_append, hNT.out]
        simp [typeF]
        omega
      have HS2 : Hid (wr.heap.size + 1 ≤ (w'.setCell ⟨wr.heap.size, 0, none⟩ (.slice a' (q + 1) cap')).heap.size) := by
        show _ ≤ _
        have h1 := hSz.out
        have h2 : wx.heap.size ≤ (wx.alloc (.cells #[.int .i64 (2 + (s : Int))] 3)).heap.size := by simp
        have h3 : (w'.setCell ⟨wr.heap.size, 0, none⟩ (.slice a' (q + 1) cap')).heap.size = w'.heap.size := by simp [World.setCell]
        rw [h3]
        omega
      have HB2 : Hid (Below wr.heap.size wr (w'.setCell ⟨wr.heap.size, 0, none⟩ (.slice a' (q + 1) cap'))) := ((chain hB1.out (alloc_below _ _)).trans (hb'.mono (by omega))).setCell (p := ⟨wr.heap.size, 0, none⟩) (Nat.le_refl _) _
      have s0 : (0 : Int) ≤ (s : Int) := by omega
      have s1 : (s : Int) < 3 := by omega
      clear ho' hb' hkw hK hON hSz hB1 hsz' hN hNT
      go_wp2_with (at_builtin; refine wpList_append_run rfl _ _ 24 24 rfl _ _ _ _ rfl rfl hrun ?_)
      go_roundw
      case rel => exact ⟨q + 1, cap', a', _, by omega, by go_num, hc', HN2, HT2, HK2, HO2, HS2, HB2⟩
      case measure => simp [RowKit.intOf]; omega
    obtain rfl : q = c := by omega
    have x0 : wx.cell? ⟨wr.heap.size, 0, none⟩ = some (.slice aq q cq) := hK.out.cell 0
    have hO1 := hO.out.later hB1.out
    obtain ⟨a', cap', w', hrun, hc', ho', hb'⟩ := OwnTT.append (ty := 23) (s := wx.heap.size) (hO1.later (alloc_below wx (.cells #[.slice aq q cq] 26))) ((hON.out.base (C := w.heap.size) (by have := hB.out.size; omega)).later (alloc_below wx (.cells #[.slice aq q cq] 26))) hL.out (by omega) (Nat.le_trans hB.out.size (Nat.le_trans hB1.out.size (by simp))) (cell_new wx _ rfl _ _)
    have HO' : Hid (OwnTT w' w.heap.size (.slice a' (k + 1) cap') (L ++ [N])) := ho'
    have HB' : Hid (Below w.heap.size w w') := (chain (chain hB.out hB1.out) (alloc_below _ _)).trans hb'
    have HL' : Hid ((L ++ [N]).length = k + 1) := by show _ = _; rw [List.length_append, hL.out]; rfl
    have HF' : Hid (FormsR q (L ++ [N])) := fun v hv => by
      rcases List.mem_append.1 hv with hv | hv
      · exact hFR.out v hv
      · rw [List.mem_singleton] at hv
        rw [hv]
        exact ⟨hN.out, hNT.out⟩
    clear ho' hb' hO1 hO hB hK hON hSz hB1 hL hFR
    go_wp2_with (at_builtin; refine wpList_append_run rfl _ _ 23 23 rfl _ _ _ _ rfl rfl hrun ?_)
    go_roundw
    case rel => exact ⟨k + 1, cap', a', _, by omega, by go_num, rfl, hc', HL', HF', HO', HB'⟩
    case measure => simp [RowKit.intOf]; omega
  obtain rfl : k = n := by omega
  clear hlt hk
  obtain ⟨a5, cap5, e5, _, hr5, _⟩ := hO.out.form
  simp only [Value.slice.injEq] at e5
  obtain ⟨rfl, hk5, rfl⟩ := e5
  clear hk5
  have HV : Hid (∀ v ∈ L, v.length ≤ 65536) := fun v hv => by have := (hFR.out v hv).1; omega
  have C := opForms_any aw k cp L wr hL.out (by omega) HV.out hr5
  clear hr5
  by_cases hgood : 1 ≤ k ∧ k ≤ 3 ∧ 1 ≤ c ∧ c ≤ 4
  case neg =>
    rw [formsR_no hFR.out hL.out hgood] at C
    have HB5 : Hid (Below w.heap.size w wr) := hB.out
    by_cases h1 : k = 0
    · subst h1
      clear hgood
      go_wp2_with fail
      refine C.mono ?_
      rintro e w6 ⟨rfl, hb6⟩
      go_wp2_with fail
      refine (owakes_any _).mono ?_
      rintro e w7 ⟨rfl, hb7⟩
      go_wp2
      go_ret
      exact ⟨rfl, chain HB5.out (chain hb6 hb7)⟩
    · by_cases h2 : 3 < k
      · have q1 : decide ((1 : Int) ≤ (k : Int)) = true := by simp; omega
        have q2 : decide ((k : Int) ≤ 3) = false := by simp; omega
        clear hgood
        go_wp2_with fail
        refine C.mono ?_
        rintro e w6 ⟨rfl, hb6⟩
        go_wp2_with fail
        refine (owakes_any _).mono ?_
        rintro e w7 ⟨rfl, hb7⟩
        go_wp2
        go_ret
        exact ⟨rfl, chain HB5.out (chain hb6 hb7)⟩
      · by_cases h3 : c = 0
        · subst h3
          have q1 : decide ((1 : Int) ≤ (k : Int)) = true := by simp; omega
          have q2 : decide ((k : Int) ≤ 3) = true := by simp; omega
          clear hgood
          go_wp2_with fail
          refine C.mono ?_
          rintro e w6 ⟨rfl, hb6⟩
          go_wp2_with fail
          refine (owakes_any _).mono ?_
          rintro e w7 ⟨rfl, hb7⟩
          go_wp2
          go_ret
          exact ⟨rfl, chain HB5.out (chain hb6 hb7)⟩
        · have q1 : decide ((1 : Int) ≤ (k : Int)) = true := by simp; omega
          have q2 : decide ((k : Int) ≤ 3) = true := by simp; omega
          have q3 : decide ((1 : Int) ≤ (c : Int)) = true := by simp; omega
          have q4 : decide ((c : Int) ≤ 4) = false := by simp; omega
          clear hgood
          go_wp2_with fail
          refine C.mono ?_
          rintro e w6 ⟨rfl, hb6⟩
          go_wp2_with fail
          refine (owakes_any _).mono ?_
          rintro e w7 ⟨rfl, hb7⟩
          go_wp2
          go_ret
          exact ⟨rfl, chain HB5.out (chain hb6 hb7)⟩
  obtain ⟨n1, n3, c1, c4⟩ := hgood
  rw [formsR_ok hFR.out hL.out n1 n3 c1 c4] at C
  have q1 : decide ((1 : Int) ≤ (k : Int)) = true := by simp; omega
  have q2 : decide ((k : Int) ≤ 3) = true := by simp; omega
  have q3 : decide ((1 : Int) ≤ (c : Int)) = true := by simp; omega
  have q4 : decide ((c : Int) ≤ 4) = true := by simp; omega
  go_wp2_with fail
  refine C.mono ?_
  rintro e W ⟨rfl, hb6⟩
  obtain ⟨z, hz, hz1⟩ := modPlace b0 k n1 (by omega)
  obtain ⟨y, hy, hy1⟩ := modPlace b0 c c1 (by omega)
  obtain ⟨t4, ht4, ht1⟩ := mod4 b0
  have hz2 : IntKind.i64.wrap ((IntKind.u64.wrap b0).tmod (k : Int)) = (z : Int) := (IntWalk.i64_left _).trans hz1
  have hy2 : IntKind.i64.wrap ((IntKind.u64.wrap b0).tmod (c : Int)) = (y : Int) := (IntWalk.i64_left _).trans hy1
  have ht2 : IntKind.i64.wrap ((IntKind.u64.wrap b0).tmod 4) = (t4 : Int) := (IntWalk.i64_left _).trans ht1
  have hku : IntKind.u64.wrap (k : Int) = (k : Int) := by rw [IntKind.wrap_u64]; omega
  have hcu : IntKind.u64.wrap (c : Int) = (c : Int) := by rw [IntKind.wrap_u64]; omega
  have hk0 : (k : Int) ≠ 0 := by omega
  have hc0 : (c : Int) ≠ 0 := by omega
  have hk0n : (k = 0) = False := by simp; omega
  have hc0n : (c = 0) = False := by simp; omega
  have HB6 : Hid (Below w.heap.size w W) := chain hB.out hb6
  obtain ⟨us, hul, hown, hsl⟩ := hO.out.later hb6
  have hkL : L.length = k := hL.out
  obtain ⟨bf, cur, hbf, hhf, hsame⟩ := row_cells hown hul (by omega)
  subst hbf
  have hzu : z < us.length := by omega
  have hzL : z < L.length := by omega
  have hlz : L[z].length = c := (hFR.out _ (List.getElem_mem hzL)).1
  obtain ⟨gz, cz, cur2, huz, hgB, hhz⟩ := ints_block (hsl z hzu hzL) (by omega)
  rw [hlz] at huz
  have hne : bf ≠ gz := fun e => by
    subst e
    rw [hhf] at hhz
    simp at hhz
  have x0 : W.drew.cell? ⟨bf, z, none⟩ = some (.slice (some ⟨gz, 0, none⟩) c cz) := by
    have := hsame W.drew rfl z hzu
    rw [huz] at this
    exact this
  obtain ⟨val, hval, hvt⟩ : ∃ val : Int, ([0, 1, 5, -1] : List Int)[t4]? = some val ∧ typeF val = false := by
    have : t4 = 0 ∨ t4 = 1 ∨ t4 = 2 ∨ t4 = 3 := by omega
    rcases this with rfl | rfl | rfl | rfl
    · exact ⟨0, rfl, rfl⟩
    · exact ⟨1, rfl, rfl⟩
    · exact ⟨5, rfl, rfl⟩
    · exact ⟨-1, rfl, rfl⟩
  have hW2 : ∀ i (h1 : i < us.length) (h2 : i < L.length), OwnI ((W.alloc (.cells #[.int .i64 0, .int .i64 1, .int .i64 5, .int .i64 (-1)] 3)).drew) w.heap.size us[i] L[i] := fun i h1 h2 => ((hsl i h1 h2).later (alloc_below _ _)).later ((Below.refl _ _).drew)
  have y0 : ([.int .i64 0, .int .i64 1, .int .i64 5, .int .i64 (-1)] : List Value)[t4]'(by simpa using ht4) = .int .i64 val := by
    have : t4 = 0 ∨ t4 = 1 ∨ t4 = 2 ∨ t4 = 3 := by omega
    rcases this with rfl | rfl | rfl | rfl <;> (simp at hval; subst hval; rfl)
  have hOz2 := hW2 z hzu hzL
  rw [huz] at hOz2
  obtain ⟨v0, f0⟩ := hOz2.at_ (k := y) hlz hy
  have hCs : ∀ (v : Value) i (h : i < us.length), (((W.alloc (.cells #[.int .i64 0, .int .i64 1, .int .i64 5, .int .i64 (-1)] 3)).drew).setCell ⟨gz, y, none⟩ v).cell? ⟨bf, i, none⟩ = some us[i] := fun v i h => hsame _ ((same_set bf hne).trans ((alloc_below W (.cells #[.int .i64 0, .int .i64 1, .int .i64 5, .int .i64 (-1)] 3)).block bf (heap_lt hhf))) i h
  have HSt : Hid ((((W.alloc (.cells #[.int .i64 0, .int .i64 1, .int .i64 5, .int .i64 (-1)] 3)).drew).setCell ⟨gz, y, none⟩ (.int .i64 val)).cell? ⟨bf, z, none⟩ = some (.slice (some ⟨gz, 0, none⟩) c cz)) := by
    have := hCs (.int .i64 val) z hzu
    rw [huz] at this
    exact this
  have HL3 : Hid (∃ L3, L3.length = k ∧ formsF L3 = 10 ∧ (∀ v ∈ L3, v.length ≤ 65536) ∧ RdII (((W.alloc (.cells #[.int .i64 0, .int .i64 1, .int .i64 5, .int .i64 (-1)] 3)).drew).setCell ⟨gz, y, none⟩ (.int .i64 val)) (some ⟨bf, 0, none⟩) L3) := forms_spoilt hul hkL n3 hFR.out c1 c4 hW2 (hCs _) hzu hzL huz hy hvt
  have HB7 : Hid (Below w.heap.size w (((W.alloc (.cells #[.int .i64 0, .int .i64 1, .int .i64 5, .int .i64 (-1)] 3)).drew).setCell ⟨gz, y, none⟩ (.int .i64 val))) := (chain HB6.out (chain (alloc_below _ _) (Below.refl _ _).drew)).setCell (p := ⟨gz, y, none⟩) hgB _
  have z0 : (0 : Int) ≤ (z : Int) := by omega
  have z1 : (z : Int) < (k : Int) := by omega
  have y00 : (0 : Int) ≤ (y : Int) := by omega
  have y01 : (y : Int) < (c : Int) := by omega
  have t00 : (0 : Int) ≤ (t4 : Int) := by omega
  have t01 : (t4 : Int) < 4 := by omega
  generalize L[z][y]'(by omega) = v00 at v0
  clear hown hsl hhf hhz hsame hul huz hW2 hOz2 hCs hval hvt hzu hzL hlz hkL hb6 C hFR hO hB HV hL HB6 hne
  go_upto_region 17 with fail
  refine wp_region_held_drew (S := (fun w' => w'.cell? ⟨bf, z, none⟩ = some (.slice (some ⟨gz, 0, none⟩) c cz))) (by kernel_rfl) x0 (fun hHeld => ?_)
  refine heldTake (v := ?_) 0 69 rfl rfl (by kernel_rfl) (by kernel_rfl) (by kernel_rfl) (fun _ _ _ h => h) (by rfl) (fun w hSw => ?_) (by assumption) ?_
  rotate_left
  · (try dsimp only at hSw); first | (go_simp; done) | (go_simp; with_reducible rfl)
  simp only [List.setIfInBounds_toArray, List.set_cons_zero, List.set_cons_succ]
  refine heldTake (v := ?_) 1 70 rfl rfl (by kernel_rfl) (by kernel_rfl) (by kernel_rfl) (fun _ _ _ h => h) (by rfl) (fun w hSw => ?_) (by assumption) ?_
  rotate_left
  · (try dsimp only at hSw); first | (go_simp; done) | (go_simp; with_reducible rfl)
  simp only [List.setIfInBounds_toArray, List.set_cons_zero, List.set_cons_succ]
  refine heldTake (v := ?_) 2 71 rfl rfl (by kernel_rfl) (by kernel_rfl) (by kernel_rfl) (fun _ _ _ h => h) (by rfl) (fun w hSw => ?_) (by assumption) ?_
  rotate_left
  · (try dsimp only at hSw); first | (go_simp; done) | (go_simp; with_reducible rfl)
  simp only [List.setIfInBounds_toArray, List.set_cons_zero, List.set_cons_succ]
  refine heldTake (v := ?_) 3 72 rfl rfl (by kernel_rfl) (by kernel_rfl) (by kernel_rfl) (fun _ _ _ h => h) (by rfl) (fun w hSw => ?_) (by assumption) ?_
  rotate_left
  · (try dsimp only at hSw); first | (go_simp; done) | (go_simp; with_reducible rfl)
  simp only [List.setIfInBounds_toArray, List.set_cons_zero, List.set_cons_succ]
  refine heldTake (v := ?_) 4 73 rfl rfl (by kernel_rfl) (by kernel_rfl) (by kernel_rfl) (fun _ _ _ h => h) (by rfl) (fun w hSw => ?_) (by assumption) ?_
  rotate_left
  · (try dsimp only at hSw); first | (go_simp; done) | (go_simp; with_reducible rfl)
  simp only [List.setIfInBounds_toArray, List.set_cons_zero, List.set_cons_succ]
  refine heldTake (v := ?_) 5 74 rfl rfl (by kernel_rfl) (by kernel_rfl) (by kernel_rfl) (fun _ _ _ h => h) (by rfl) (fun w hSw => ?_) (by assumption) ?_
  rotate_left
  · (try dsimp only at hSw); first | (go_simp; done) | (go_simp; with_reducible rfl)
  simp only [List.setIfInBounds_toArray, List.set_cons_zero, List.set_cons_succ]
  refine heldTake (v := ?_) 6 75 rfl rfl (by kernel_rfl) (by kernel_rfl) (by kernel_rfl) (fun _ _ _ h => h) (by rfl) (fun w hSw => ?_) (by assumption) ?_
  rotate_left
  · (try dsimp only at hSw); first | (go_simp; done) | (go_simp; with_reducible rfl)
  simp only [List.setIfInBounds_toArray, List.set_cons_zero, List.set_cons_succ]
  refine heldTake (v := ?_) 7 76 rfl rfl (by kernel_rfl) (by kernel_rfl) (by kernel_rfl) (fun _ _ _ h => h) (by rfl) (fun w hSw => ?_) (by assumption) ?_
  rotate_left
  · (try dsimp only at hSw); first | (go_simp; done) | (go_simp; with_reducible rfl)
  simp only [List.setIfInBounds_toArray, List.set_cons_zero, List.set_cons_succ]
  refine heldTake (v := ?_) 8 77 rfl rfl (by kernel_rfl) (by kernel_rfl) (by kernel_rfl) (fun _ _ _ h => h) (by rfl) (fun w hSw => ?_) (by assumption) ?_
  rotate_left
  · (try dsimp only at hSw); first | (go_simp; done) | (go_simp; with_reducible rfl)
  simp only [List.setIfInBounds_toArray, List.set_cons_zero, List.set_cons_succ]
  refine heldTake (v := ?_) 9 78 rfl rfl (by kernel_rfl) (by kernel_rfl) (by kernel_rfl) (fun _ _ _ h => h) (by rfl) (fun w hSw => ?_) (by assumption) ?_
  rotate_left
  · (try dsimp only at hSw); first | (go_simp; done) | (go_simp; with_reducible rfl)
  simp only [List.setIfInBounds_toArray, List.set_cons_zero, List.set_cons_succ]
  refine heldTake (v := ?_) 10 79 rfl rfl (by kernel_rfl) (by kernel_rfl) (by kernel_rfl) (fun _ _ _ h => h) (by rfl) (fun w hSw => ?_) (by assumption) ?_
  rotate_left
  · (try dsimp only at hSw); first | (go_simp; done) | (go_simp; with_reducible rfl)
  simp only [List.setIfInBounds_toArray, List.set_cons_zero, List.set_cons_succ]
  refine heldTake (v := ?_) 11 80 rfl rfl (by kernel_rfl) (by kernel_rfl) (by kernel_rfl) (fun _ _ _ h => h) (by rfl) (fun w hSw => ?_) (by assumption) ?_
  rotate_left
  · (try dsimp only at hSw); first | (go_simp; done) | (go_simp; with_reducible rfl)
  simp only [List.setIfInBounds_toArray, List.set_cons_zero, List.set_cons_succ]
  refine heldTake (v := ?_) 12 81 rfl rfl (by kernel_rfl) (by kernel_rfl) (by kernel_rfl) (fun _ _ _ h => h) (by rfl) (fun w hSw => ?_) (by assumption) ?_
  rotate_left
  · (try dsimp only at hSw); first | (go_simp; done) | (go_simp; with_reducible rfl)
  simp only [List.setIfInBounds_toArray, List.set_cons_zero, List.set_cons_succ]
  refine heldTake (v := ?_) 13 82 rfl rfl (by kernel_rfl) (by kernel_rfl) (by kernel_rfl) (fun _ _ _ h => h) (by rfl) (fun w hSw => ?_) (by assumption) ?_
  rotate_left
  · (try dsimp only at hSw); first | (go_simp; done) | (go_simp; with_reducible rfl)
  simp only [List.setIfInBounds_toArray, List.set_cons_zero, List.set_cons_succ]
  refine heldTake (v := ?_) 14 83 rfl rfl (by kernel_rfl) (by kernel_rfl) (by kernel_rfl) (fun _ _ _ h => h) (by rfl) (fun w hSw => ?_) (by assumption) ?_
  rotate_left
  · (try dsimp only at hSw); first | (go_simp; done) | (go_simp; with_reducible rfl)
  simp only [List.setIfInBounds_toArray, List.set_cons_zero, List.set_cons_succ]
  refine heldTake (v := ?_) 15 84 rfl rfl (by kernel_rfl) (by kernel_rfl) (by kernel_rfl) (fun _ _ _ h => h) (by rfl) (fun w hSw => ?_) (by assumption) ?_
  rotate_left
  · (try dsimp only at hSw); first | (go_simp; done) | (go_simp; with_reducible rfl)
  simp only [List.setIfInBounds_toArray, List.set_cons_zero, List.set_cons_succ]
  refine heldTake (v := ?_) 17 86 rfl rfl (by kernel_rfl) (by kernel_rfl) (by kernel_rfl) (fun _ _ _ h => h) (by rfl) (fun w hSw => ?_) (by assumption) ?_
  rotate_left
  · (try dsimp only at hSw); first | (go_simp; done) | (go_simp; with_reducible rfl)
  simp only [List.setIfInBounds_toArray, List.set_cons_zero, List.set_cons_succ]
  refine heldTake (v := ?_) 18 87 rfl rfl (by kernel_rfl) (by kernel_rfl) (by kernel_rfl) (fun _ _ _ h => h) (by rfl) (fun w hSw => ?_) (by assumption) ?_
  rotate_left
  · (try dsimp only at hSw); first | (go_simp; done) | (go_simp; with_reducible rfl)
  simp only [List.setIfInBounds_toArray, List.set_cons_zero, List.set_cons_succ]
  refine heldTake (v := ?_) 19 88 rfl rfl (by kernel_rfl) (by kernel_rfl) (by kernel_rfl) (fun _ _ _ h => h) (by rfl) (fun w hSw => ?_) (by assumption) ?_
  rotate_left
  · (try dsimp only at hSw); first | (go_simp; done) | (go_simp; with_reducible rfl)
  simp only [List.setIfInBounds_toArray, List.set_cons_zero, List.set_cons_succ]
  refine heldTake (v := ?_) 20 89 rfl rfl (by kernel_rfl) (by kernel_rfl) (by kernel_rfl) (fun _ _ _ h => h) (by rfl) (fun w hSw => ?_) (by assumption) ?_
  rotate_left
  · (try dsimp only at hSw); first | (go_simp; done) | (go_simp; with_reducible rfl)
  simp only [List.setIfInBounds_toArray, List.set_cons_zero, List.set_cons_succ]
  refine heldOne 16 rfl (by kernel_rfl) (by rfl) (fun K2 hK => ?_)
  go_simp
  refine hK.out _ _ ?_ (fun hHeld => ?_)
  · exact cell_later (alloc_below _ _) hHeld
  clear hK K2
  try simp only [List.setIfInBounds_toArray, List.set_cons_zero, List.set_cons_succ]
  refine heldTake (v := ?_) 21 90 rfl rfl (by kernel_rfl) (by kernel_rfl) (by kernel_rfl) (fun _ _ _ h => h) (by rfl) (fun w hSw => ?_) (by assumption) ?_
  rotate_left
  · (try dsimp only at hSw); first | (go_simp; done) | (go_simp; with_reducible rfl)
  simp only [List.setIfInBounds_toArray, List.set_cons_zero, List.set_cons_succ]
  refine heldOne 22 rfl (by kernel_rfl) (by rfl) (fun K2 hK => ?_)
  go_simp
  refine hK.out _ _ ?_ (fun hHeld => ?_)
  · exact hHeld
  clear hK K2
  try simp only [List.setIfInBounds_toArray, List.set_cons_zero, List.set_cons_succ]
  refine heldTake (v := ?_) 23 92 rfl rfl (by kernel_rfl) (by kernel_rfl) (by kernel_rfl) (fun _ _ _ h => h) (by rfl) (fun w hSw => ?_) (by assumption) ?_
  rotate_left
  · (try dsimp only at hSw); first | (go_simp; done) | (go_simp; with_reducible rfl)
  simp only [List.setIfInBounds_toArray, List.set_cons_zero, List.set_cons_succ]
  refine heldOne 24 rfl (by kernel_rfl) (by rfl) (fun K2 hK => ?_)
  go_simp
  refine hK.out _ _ ?_ (fun hHeld => ?_)
  · exact HSt.out
  clear hK K2
  try simp only [List.setIfInBounds_toArray, List.set_cons_zero, List.set_cons_succ]
  refine wpAnyH_done (by kernel_rfl) ?_ _
  obtain ⟨L3, l1, l2, l3, l4⟩ := HL3.out
  have C9 := opForms_any (some ⟨bf, 0, none⟩) k cp L3 _ l1 (by omega) l3 l4
  rw [l2] at C9
  clear l1 l2 l3 l4 HL3 HSt
  go_wp2_with fail
  refine C9.mono ?_
  rintro e w8 ⟨rfl, hb8⟩
  have HB8 : Hid (Below w.heap.size w w8) := chain HB7.out hb8
  clear hb8 C9
  go_wp2_with fail
  refine (owakes_any _).mono ?_
  rintro e w9 ⟨rfl, hb9⟩
  go_wp2
  go_ret
  exact ⟨rfl, chain HB8.out hb9⟩

end Go.Proofs.Ytgpknejnjonnjab
