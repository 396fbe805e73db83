/-
  Texts of the proof of OpDots, one behind the other.
-/
import Derived.Test.YtfijnmleadgapaaRows
import Derived.Test.YtfijnmleadgapaaG34OpDots
import Derived.Test.YtfijnmleadgapaaG32OpDots
import Derived.Deep.CutRange
namespace Go.Proofs.Ytfijnmleadgapaa
open Go.RowKit Go.Lib
set_option linter.unusedVariables false

theorem mod65 (k : Int) : ∃ j : Nat, (1 ≤ j ∧ j ≤ 65) ∧ wrap64 (1 + wrap64 ((IntKind.u64.wrap k).tmod 65)) = (j : Int) := by
  obtain ⟨j, hj, e⟩ := modPlace k 65 (by omega) (by omega)
  have e' : wrap64 ((IntKind.u64.wrap k).tmod 65) = (j : Int) := by simpa using e
  rw [e', IntWalk.wrap64_in _ ⟨by omega, by omega⟩]
  exact ⟨1 + j, by omega, by omega⟩

/-- The cells of OpDots' operation. -/
abbrev cellsX (g : Nat) (v : Value) : Array Value := #[.int .i64 1, .int .i64 1, .slice (some ⟨g + 1 + 1, 0, none⟩) 2 2, .int .i64 0, .int .i64 0, .int .i64 1, .int .i64 3, .int .i64 0, .string ⟨#[107]⟩, .int .i64 0, .slice none 0 0, v]

/-- The blocks that stay: forms, deps. -/
structure DotsAt (W : World) (g : Nat) : Prop where
  col : W.cell? ⟨g + 1, 0, none⟩ = some (.slice (some ⟨g, 0, none⟩) 1 1)
  forms : RdII W (some ⟨g + 1, 0, none⟩) [[3]]
  deps : RdI .i64 W (some ⟨g + 1 + 1, 0, none⟩) [69, 0]
  size : g + 4 ≤ W.heap.size

theorem OwnD.boxed {w : World} {g B i : Nat} {u x : Value} {ds : List (Int × Int)} (ho : OwnD w B u ds) (hg : g < B) : OwnD (w.setCell ⟨g, i, none⟩ x) B u ds := by
  refine ⟨ho.1, ?_⟩
  rcases ho.2 with h | ⟨r, cap, cur, hv, hB, hh, hc⟩
  · exact .inl h
  · exact .inr ⟨r, cap, cur, hv, hB, (Below.heap_setCell w ⟨g, i, none⟩ x r (by show r ≠ g; omega)).trans hh, hc⟩

theorem DotsAt.below {w w' : World} {g : Nat} (h : DotsAt w g) (hb : Below (g + 3) w w') : DotsAt w' g := by
  have c : ∀ (b o : Nat) (v : Value), b < g + 3 → w.cell? ⟨b, o, none⟩ = some v → w'.cell? ⟨b, o, none⟩ = some v := fun b o v hlt hc => (hb.cell (p := ⟨b, o, none⟩) hlt).trans hc
  refine ⟨c _ _ _ (by omega) h.col, fun h0 => ?_, fun h0 => ?_, Nat.le_trans h.size hb.size⟩
  · obtain ⟨b, off, e, hc⟩ := h.forms h0
    simp only [Option.some.injEq, Addr.mk.injEq, and_true] at e
    obtain ⟨rfl, rfl⟩ := e
    refine ⟨_, _, rfl, fun i hi => ?_⟩
    obtain rfl : i = 0 := by have : i < 1 := hi; omega
    have e1 := h.col
    obtain ⟨u, hu, a2, c2, rfl, h2, hr2, hn2⟩ := hc 0 hi
    rw [Nat.add_zero] at hu
    rw [e1] at hu
    simp only [Option.some.injEq, Value.slice.injEq] at hu
    obtain ⟨rfl, _, rfl⟩ := hu
    refine ⟨_, c _ _ _ (by omega) e1, _, _, rfl, h2, fun h3 => ?_, hn2⟩
    obtain ⟨b3, o3, e3, hc3⟩ := hr2 h3
    simp only [Option.some.injEq, Addr.mk.injEq, and_true] at e3
    obtain ⟨rfl, rfl⟩ := e3
    exact ⟨_, _, rfl, fun i hi => c _ _ _ (by omega) (hc3 i hi)⟩
  · obtain ⟨b, off, e, hc⟩ := h.deps h0
    simp only [Option.some.injEq, Addr.mk.injEq, and_true] at e
    obtain ⟨rfl, rfl⟩ := e
    exact ⟨_, _, rfl, fun i hi => c _ _ _ (by omega) (hc i hi)⟩

theorem in64N {n : Nat} (h : n ≤ 65) : ∀ d ∈ dsN n, In64 d.1 ∧ In64 d.2 := fun d hd => by
  unfold dsN at hd
  rw [List.mem_map] at hd
  obtain ⟨i, hi, rfl⟩ := hd
  have hi' : i < n := by simpa using hi
  exact ⟨(show In64 0 from in64 (by decide)), (show In64 ((i : Int) + 1) from in64 (by omega))⟩

end Go.Proofs.Ytfijnmleadgapaa

namespace Go.Proofs.Ytfijnmleadgapaa
open Go.RowKit Go.Lib
set_option linter.unusedVariables false

theorem setDs_same {ds : List (Int × Int)} {k i : Nat} {v : Value} (h : (cellsDs ds)[i]? = some v) : (cellsDs ds).set i v = cellsDs ds := by
  have hl : i < (cellsDs ds).length := (List.getElem?_eq_some_iff.1 h).1
  refine List.ext_getElem? fun j => ?_
  by_cases hj : j = i
  · subst hj
    rw [List.getElem?_set_self hl, h]
  · rw [List.getElem?_set_ne (Ne.symm hj)]

/-- A dot's number, written over. -/
theorem OwnD.setN {w : World} {B r n cap k : Nat} {ds : List (Int × Int)} (h : OwnD w B (.slice (some ⟨r, 0, none⟩) n cap) ds) (hn : ds.length = n) (hk : k < ds.length) (q : Int) :
    OwnD (w.setCell ⟨r, k * 2 + 1, none⟩ (.int .i64 q)) B (.slice (some ⟨r, 0, none⟩) n cap) (ds.set k (ds[k].1, q)) ∧ Below B w (w.setCell ⟨r, k * 2 + 1, none⟩ (.int .i64 q)) := by
  subst hn
  obtain ⟨h1, _⟩ := World.ownsRow.stored h (k * 2 + 1) (.int .i64 q)
  refine ⟨?_, (Below.refl B w).setCell (p := ⟨r, k * 2 + 1, none⟩) (World.ownsRow.lt h r rfl).1 _⟩
  unfold OwnD
  rw [cellsDs_set, List.length_set, setDs_same (k := k) (cellsDs_at ds k hk).1]
  exact h1

/-- A dot's peer, written over. -/
theorem OwnD.setP {w : World} {B r n cap k : Nat} {ds : List (Int × Int)} (h : OwnD w B (.slice (some ⟨r, 0, none⟩) n cap) ds) (hn : ds.length = n) (hk : k < ds.length) (p : Int) :
    OwnD (w.setCell ⟨r, k * 2, none⟩ (.int .i64 p)) B (.slice (some ⟨r, 0, none⟩) n cap) (ds.set k (p, ds[k].2)) ∧ Below B w (w.setCell ⟨r, k * 2, none⟩ (.int .i64 p)) := by
  subst hn
  obtain ⟨h1, _⟩ := World.ownsRow.stored h (k * 2) (.int .i64 p)
  refine ⟨?_, (Below.refl B w).setCell (p := ⟨r, k * 2, none⟩) (World.ownsRow.lt h r rfl).1 _⟩
  unfold OwnD
  rw [cellsDs_set, List.length_set]
  have e : ((cellsDs ds).set (k * 2) (.int .i64 p)).set (k * 2 + 1) (.int .i64 ds[k].2) = (cellsDs ds).set (k * 2) (.int .i64 p) := by
    rw [List.set_comm _ _ (by omega), setDs_same (k := k) (cellsDs_at ds k hk).2]
  rw [e]
  exact h1

/-- What the walk reads of OpDots' operation. -/
theorem cellsX_at {W : World} {g : Nat} {v : Value} (h : CellsAt W (g + 3) (cellsX g v) 32) :
    W.cell? ⟨g + 3, 0, none⟩ = some (.int .i64 1) ∧ W.cell? ⟨g + 3, 1, none⟩ = some (.int .i64 1) ∧ W.cell? ⟨g + 3, 2, none⟩ = some (.slice (some ⟨g + 1 + 1, 0, none⟩) 2 2) ∧ W.cell? ⟨g + 3, 3, none⟩ = some (.int .i64 0) ∧ W.cell? ⟨g + 3, 4, none⟩ = some (.int .i64 0) ∧ W.cell? ⟨g + 3, 5, none⟩ = some (.int .i64 1) ∧ W.cell? ⟨g + 3, 6, none⟩ = some (.int .i64 3) ∧ W.cell? ⟨g + 3, 7, none⟩ = some (.int .i64 0) ∧ W.cell? ⟨g + 3, 8, none⟩ = some (.string ⟨#[107]⟩) ∧ W.cell? ⟨g + 3, 9, none⟩ = some (.int .i64 0) ∧ W.cell? ⟨g + 3, 10, none⟩ = some (.slice none 0 0) ∧ W.cell? ⟨g + 3, 11, none⟩ = some v :=
  ⟨h.cell 0, h.cell 1, h.cell 2, h.cell 3, h.cell 4, h.cell 5, h.cell 6, h.cell 7, h.cell 8, h.cell 9, h.cell 10, h.cell 11⟩

theorem in64_set {ds : List (Int × Int)} {k : Nat} {d : Int × Int} (h : ∀ x ∈ ds, In64 x.1 ∧ In64 x.2) (hd : In64 d.1 ∧ In64 d.2) : ∀ x ∈ ds.set k d, In64 x.1 ∧ In64 x.2 := fun x hx => by
  rcases List.mem_or_eq_of_mem_set hx with h1 | h1
  · exact h x h1
  · rw [h1]; exact hd

theorem dsN_get {n i : Nat} (h : i < n) : ∀ (h' : i < (dsN n).length), (dsN n)[i] = ((0 : Int), (i : Int) + 1) := fun h' => by simp [dsN]

theorem dsN_cells {w : World} {B r n cap i : Nat} (h : OwnD w B (.slice (some ⟨r, 0, none⟩) n cap) (dsN n)) (hi : i < n) : w.cell? ⟨r, i * 2, none⟩ = some (.int .i64 0) ∧ w.cell? ⟨r, i * 2 + 1, none⟩ = some (.int .i64 ((i : Int) + 1)) := by
  have h' : w.ownsRow B 25 2 (.slice (some ⟨r, 0, none⟩) n cap) n (cellsDs (dsN n)) := by
    have := h
    unfold OwnD at this
    rwa [dsN_len] at this
  have d := cellsDs_at (dsN n) i (by rw [dsN_len]; exact hi)
  rw [dsN_get hi] at d
  exact ⟨(World.ownsRow.cellAt h' _ (by omega)).trans d.1, (World.ownsRow.cellAt h' _ (by omega)).trans d.2⟩

theorem dsN_free {w : World} {B r n cap : Nat} (h : OwnD w B (.slice (some ⟨r, 0, none⟩) n cap) (dsN n)) (i : Nat) : w.frozen? ⟨r, i, none⟩ = false := by
  have h' : w.ownsRow B 25 2 (.slice (some ⟨r, 0, none⟩) n cap) n (cellsDs (dsN n)) := by
    have := h
    unfold OwnD at this
    rwa [dsN_len] at this
  exact World.ownsRow.frozenAt h' i

theorem in64_app {n : Nat} (h : n ≤ 65) : ∀ d ∈ dsN n ++ [((0 : Int), (n : Int))], In64 d.1 ∧ In64 d.2 := fun d hd => by
  rcases List.mem_append.1 hd with h1 | h1
  · exact in64N h d h1
  · rw [List.mem_singleton.1 h1]
    exact ⟨(show In64 0 from in64 (by decide)), (show In64 (n : Int) from in64 (by omega))⟩

/-- op.Check of OpDots' operation as it lies. -/
theorem ocheckX (W : World) (g : Nat) (aw : Option Addr) (cp k : Nat) (ds : List (Int × Int)) (b : Bool) (hD : DotsAt W g) (hO : OwnD W (g + 4) (.slice aw k cp) ds) (hn : ds.length = k) (hk : k ≤ 66) (h64 : ∀ d ∈ ds, In64 d.1 ∧ In64 d.2) (hr : remF [69, 0] ds = b) :
    Calls Try.prog 17 #[.int .i64 2, .slice (some ⟨g + 1, 0, none⟩) 1 1, .agg #[.int .i64 1, .int .i64 1, .slice (some ⟨g + 1 + 1, 0, none⟩) 2 2, .int .i64 0, .int .i64 0, .int .i64 1, .int .i64 3, .int .i64 0, .string ⟨#[107]⟩, .int .i64 0, .slice none 0 0, .slice aw k cp]] W fun e w' => e = .returned (.int .i64 (if b = true then 0 else 1)) ∧ Below W.heap.size W w' := by
  subst hr
  obtain ⟨a', cap', e, hc, hR, hnil⟩ := hO.form
  simp only [Value.slice.injEq] at e
  obtain ⟨rfl, _, rfl⟩ := e
  exact ocheckD W (g + 1) g (g + 1 + 1) aw cp k ds hD.col hD.forms hD.deps hR hn (by omega) (by omega) hnil (by have := hD.size; omega) (fun b o e => by subst e; exact (World.ownsRow.lt hO b rfl).2) h64

set_option maxRecDepth 100000 in
set_option maxHeartbeats 3000000 in
theorem odots_walk (n0 h0 : Int) (w : World) :
    Calls Try.prog 6 #[.int .i64 n0, .int .i64 h0] w fun e w' => e = .returned (.bool true) ∧ Below w.heap.size w w' := by
  obtain ⟨n, ⟨n1, n65⟩, hne⟩ := mod65 n0
  obtain ⟨g, hG⟩ : ∃ g, w.heap.size = g := ⟨_, rfl⟩
  obtain ⟨B, hBB⟩ : ∃ B : World, B = (((w.alloc (.cells #[.int .i64 3] 3)).alloc (.cells #[.slice (some ⟨g, 0, none⟩) 1 1] 51)).alloc (.cells #[.int .i64 69, .int .i64 0] 3)).alloc (.cells (cellsX g (.slice none 0 0)) 32) := ⟨_, rfl⟩
  have HBB : Hid (B = (((w.alloc (.cells #[.int .i64 3] 3)).alloc (.cells #[.slice (some ⟨g, 0, none⟩) 1 1] 51)).alloc (.cells #[.int .i64 69, .int .i64 0] 3)).alloc (.cells (cellsX g (.slice none 0 0)) 32)) := hBB
  have HB0 : Hid (Below g w B) := by rw [hBB, ← hG]; exact chain (below_two _ _ _) (below_two _ _ _)
  have HD : Hid (DotsAt B g) := by
    rw [hBB]
    have r := rowsW w
    rw [hG] at r
    refine ⟨?_, (r.later (alloc_below _ _)).later (alloc_below _ _), (rdI_two _ _ (by simp [hG]) 69 0).later (alloc_below _ _), by simp [hG]⟩
    exact cell_later (alloc_below _ _) (cell_later (alloc_below _ _) (cell_new _ _ (by simp [hG]) _ _))
  have HK : Hid (CellsAt B (g + 3) (cellsX g (.slice none 0 0)) 32) := by rw [hBB]; exact CellsAt.made (by simp [hG])
  clear hBB
  have C1 := ocheckD B (g + 1) g (g + 1 + 1) none 0 0 [] HD.out.col HD.out.forms HD.out.deps (RdD.nil _ _) rfl (by omega) (by omega) (fun _ => ⟨rfl, rfl⟩) (by have := HD.out.size; omega) (fun b o e => by cases e) (fun d hd => by cases hd)
  rw [show remF [69, 0] [] = false from by decide] at C1
  go_enter Try.func6, Try.ntmps6
  go_wp2_with fail
  try rw [hne]
  clear hne
  have hBB := HBB.out
  simp only [cellsX] at hBB
  rw [← hBB]
  clear hBB HBB
  refine C1.mono ?_
  rintro e w1 ⟨rfl, hb1⟩
  have HD1 : Hid (DotsAt w1 g) := HD.out.below (hb1.mono (by have := HD.out.size; omega))
  have HK1 : Hid (CellsAt w1 (g + 3) (cellsX g (.slice none 0 0)) 32) := HK.out.later hb1
  have HB1 : Hid (Below g w w1) := HB0.out.trans (hb1.mono (by have := HD.out.size; omega))
  clear hb1 C1 HD HK HB0
  go_wp2
  go_loopw [7] (fun i wr => ∃ (k cp : Nat) (aw : Option Addr), k ≤ n ∧ i = .int .i64 k ∧ k ≤ cp ∧ Hid (DotsAt wr g) ∧ Hid (CellsAt wr (g + 3) (cellsX g (.slice aw k cp)) 32) ∧ Hid (OwnD wr (g + 4) (.slice aw k cp) (dsN k)) ∧ Hid (Below g w wr)) (fun i _ => n - (RowKit.intOf i).toNat)
  case atStart => exact ⟨0, 0, none, Nat.zero_le _, rfl, Nat.le_refl _, HD1, HK1, OwnD.nought _ _, HB1⟩
  case round =>
  clear HD1 HK1 HB1
  obtain ⟨k, cp, aw, hk, rfl, hcp, hD, hK, hO, hB⟩ := hrel
  by_cases hlt : k < n
  · have x0 : wr.cell? ⟨g + 3, 11, none⟩ = some (.slice aw k cp) := hK.out.cell 11
    have bx := box2 wr wr.heap.size rfl (.int .i64 0) (.int .i64 ((k : Int) + 1)) 25
    obtain ⟨a', cap', w', hrun, hc', ho', hsz', hb'⟩ := run_append_dot (ty := 30) (hO.out.later (alloc_below wr (.cells #[.int .i64 0, .int .i64 ((k : Int) + 1)] 25))) (dsN_len k) (by omega) (Nat.le_trans hD.out.size (by simp)) bx.1 bx.2
    have hkw : CellsAt w' (g + 3) (cellsX g (.slice aw k cp)) 32 := ((hb'.block (g + 3) (by omega)).trans ((alloc_below wr (.cells #[.int .i64 0, .int .i64 ((k : Int) + 1)] 25)).block (g + 3) (by have := hD.out.size; omega))).trans hK.out
    have y0 : w'.cell? ⟨g + 3, 11, none⟩ = some (.slice aw k cp) := hkw.cell 11
    have f0 := hkw.free 11
    have HK2 : Hid (CellsAt (w'.setCell ⟨g + 3, 11, none⟩ (.slice a' (k + 1) cap')) (g + 3) (cellsX g (.slice a' (k + 1) cap')) 32) := hkw.set 11 (.slice a' (k + 1) cap')
    have HO2 : Hid (OwnD (w'.setCell ⟨g + 3, 11, none⟩ (.slice a' (k + 1) cap')) (g + 4) (.slice a' (k + 1) cap') (dsN (k + 1))) := by rw [dsN_succ]; exact ho'.boxed (by omega)
    have hbel : Below (g + 3) wr (w'.setCell ⟨g + 3, 11, none⟩ (.slice a' (k + 1) cap')) := ((Below.mono (alloc_below wr (.cells #[.int .i64 0, .int .i64 ((k : Int) + 1)] 25)) (show g + 3 ≤ wr.heap.size by have := hD.out.size; omega)).trans (hb'.mono (show g + 3 ≤ g + 4 by omega))).setCell (p := ⟨g + 3, 11, none⟩) (Nat.le_refl _) _
    have HD2 : Hid (DotsAt (w'.setCell ⟨g + 3, 11, none⟩ (.slice a' (k + 1) cap')) g) := hD.out.below hbel
    have HB2 : Hid (Below g w (w'.setCell ⟨g + 3, 11, none⟩ (.slice a' (k + 1) cap'))) := hB.out.trans (hbel.mono (by omega))
    clear ho' hb' hkw hK hO hsz' hD hB hbel bx
    go_wp2_with (at_builtin; refine wpList_append_run rfl _ _ 30 30 rfl _ _ _ _ rfl rfl hrun ?_)
    go_roundw
    case rel => exact ⟨k + 1, cap', a', by omega, by go_num, hc', HD2, HK2, HO2, HB2⟩
    case measure => simp [RowKit.intOf]; omega
  obtain rfl : k = n := by omega
  obtain ⟨m, hm⟩ : ∃ m, k = m + 1 := ⟨k - 1, by omega⟩
  have hk1 : (k : Int) - 1 = (m : Int) := by omega
  have Hm : Hid (k = m + 1) := hm
  have hmk : m < k := by omega
  clear hm
  obtain ⟨r, cp', e'⟩ := Joins.ownsRow_form hO.out (by rw [dsN_len]; omega)
  simp only [Value.slice.injEq] at e'
  obtain ⟨rfl, q1, q2⟩ := e'
  clear q1 q2
  clear hlt hcp
  have hx : ∃ j : Nat, j < 3 ∧ (IntKind.u64.wrap h0).tmod 3 = (j : Int) := by
    obtain ⟨j, hj, e⟩ := modPlace h0 3 (by omega) (by omega)
    have h1 : 0 ≤ IntKind.u64.wrap h0 := by simp [IntKind.wrap, IntKind.signed, IntKind.bits]; omega
    refine ⟨((IntKind.u64.wrap h0).tmod 3).toNat, ?_, ?_⟩ <;> (rw [Int.tmod_eq_emod_of_nonneg h1]; omega)
  obtain ⟨j, hj, hje⟩ := hx
  by_cases h64 : k ≤ 64
  · have C2 := ocheckX wr g (some ⟨r, 0, none⟩) cp k (dsN k) true hD.out hO.out (dsN_len _) (by omega) (in64N n65) (by rw [rem_dsN n65]; exact decide_eq_true (by omega))
    obtain ⟨z0, z1, z2, z3, z4, z5, z6, z7, z8, z9, z10, z11⟩ := cellsX_at hK.out
    go_wp2_with fail
    refine C2.mono ?_
    rintro e w2 ⟨rfl, hb2⟩
    have HD2 : Hid (DotsAt w2 g) := hD.out.below (hb2.mono (by have := hD.out.size; omega))
    have HK2 : Hid (CellsAt w2 (g + 3) (cellsX g (.slice (some ⟨r, 0, none⟩) k cp)) 32) := hK.out.later hb2
    have HO2 : Hid (OwnD w2 (g + 4) (.slice (some ⟨r, 0, none⟩) k cp) (dsN k)) := hO.out.later hb2
    have HB2 : Hid (Below g w w2) := hB.out.trans (hb2.mono (by have := hD.out.size; omega))
    clear hb2 C2 z0 z1 z2 z3 z4 z5 z6 z7 z8 z9 z10 z11 hD hK hO hB
    obtain ⟨z0, z1, z2, z3, z4, z5, z6, z7, z8, z9, z10, z11⟩ := cellsX_at HK2.out
    rcases (by omega : j = 0 ∨ j = 1 ∨ j = 2) with rfl | rfl | rfl
    · have HS : Hid (OwnD (w2.setCell ⟨r, m * 2 + 1, none⟩ (.int .i64 70)) (g + 4) (.slice (some ⟨r, 0, none⟩) k cp) ((dsN k).set (k - 1) (0, 70)) ∧ Below (g + 4) w2 (w2.setCell ⟨r, m * 2 + 1, none⟩ (.int .i64 70))) := by
        have := HO2.out.setN (k := m) (dsN_len _) (by rw [dsN_len]; omega) 70
        rw [dsN_get (by omega)] at this
        rw [show k - 1 = m by have := Hm.out; omega]
        exact this
      have y0 : w2.cell? ⟨r, m * 2 + 1, none⟩ = some (.int .i64 (k : Int)) := by rw [show (k : Int) = (m : Int) + 1 by have := Hm.out; omega]; exact (dsN_cells HO2.out (by omega)).2
      have f0 : w2.frozen? ⟨r, m * 2 + 1, none⟩ = false := dsN_free HO2.out _
      have HD3 : Hid (DotsAt (w2.setCell ⟨r, m * 2 + 1, none⟩ (.int .i64 70)) g) := HD2.out.below (HS.out.2.mono (by omega))
      obtain ⟨z0, z1, z2, z3, z4, z5, z6, z7, z8, z9, z10, z11⟩ := cellsX_at (HK2.out.other (c := r) (by have := (World.ownsRow.lt HO2.out r rfl).1; omega) (m * 2 + 1) (.int .i64 70))
      have HB3 : Hid (Below g w (w2.setCell ⟨r, m * 2 + 1, none⟩ (.int .i64 70))) := HB2.out.trans (HS.out.2.mono (by omega))
      go_wp2_with fail
      refine (ocheckX _ g _ _ _ _ false HD3.out HS.out.1 (by rw [List.length_set, dsN_len]) (by omega) (in64_set (in64N (by omega)) ⟨in64 (by decide), in64 (by decide)⟩) (rem_no70 (n := k) (by omega))).mono ?_
      rintro e w7 ⟨rfl, hb7⟩
      have HB7 : Hid (Below g w w7) := HB3.out.trans (hb7.mono (by have := HD3.out.size; omega))
      clear hb7
      go_wp2_with fail
      refine (owakes_any _).mono ?_
      rintro e w8 ⟨rfl, hb8⟩
      have HB8 : Hid (Below g w w8) := HB7.out.trans (hb8.mono (by have := HB7.out.size; omega))
      clear hb8
      go_wp2
      go_ret
      exact ⟨by simp, by rw [hG]; exact HB8.out⟩
    · have bx := box2 w2 w2.heap.size rfl (.int .i64 0) (.int .i64 (k : Int)) 25
      have y0 : w2.cell? ⟨r, m * 2, none⟩ = some (.int .i64 0) := (dsN_cells HO2.out (by omega)).1
      have y1 : w2.cell? ⟨r, m * 2 + 1, none⟩ = some (.int .i64 (k : Int)) := by rw [show (k : Int) = (m : Int) + 1 by have := Hm.out; omega]; exact (dsN_cells HO2.out (by omega)).2
      have hbd : Below w2.heap.size w2 (w2.alloc (.cells #[.int .i64 0, .int .i64 (k : Int)] 25)).drew := by
        have h := alloc_below w2 (.cells #[.int .i64 0, .int .i64 (k : Int)] 25)
        exact ⟨h.os, h.tape, h.output, h.size, h.block⟩
      have hwm : IntKind.i64.wrap (m : Int) = (m : Int) := by
        rw [IntKind.wrap_i64]
        omega
      have y3 : (w2.alloc (.cells #[.int .i64 0, .int .i64 (k : Int)] 25)).cell? ⟨g + 3, 11, none⟩ = some (.slice (some ⟨r, 0, none⟩) k cp) := cell_later (alloc_below _ _) z11
      have y4 : (w2.alloc (.cells #[.int .i64 0, .int .i64 (k : Int)] 25)).cell? ⟨g + 1 + 1 + 1, 11, none⟩ = some (.slice (some ⟨r, 0, none⟩) k cp) := y3
      obtain ⟨a', cap', w', hrun, hc', ho', hsz', hb'⟩ := run_append_dot (ty := 30) (HO2.out.later hbd) (dsN_len k) (by omega) (Nat.le_trans HD2.out.size (by simp)) bx.1 bx.2
      have hkw : CellsAt w' (g + 3) (cellsX g (.slice (some ⟨r, 0, none⟩) k cp)) 32 := ((hb'.block (g + 3) (by omega)).trans (hbd.block (g + 3) (by have := HD2.out.size; omega))).trans HK2.out
      have y2 : w'.cell? ⟨g + 3, 11, none⟩ = some (.slice (some ⟨r, 0, none⟩) k cp) := hkw.cell 11
      have f0 := hkw.free 11
      have HK3 : Hid (CellsAt (w'.setCell ⟨g + 3, 11, none⟩ (.slice a' (k + 1) cap')) (g + 3) (cellsX g (.slice a' (k + 1) cap')) 32) := hkw.set 11 (.slice a' (k + 1) cap')
      have HO3 : Hid (OwnD (w'.setCell ⟨g + 3, 11, none⟩ (.slice a' (k + 1) cap')) (g + 4) (.slice a' (k + 1) cap') (dsN k ++ [((0 : Int), (k : Int))])) := ho'.boxed (by omega)
      have hbel : Below (g + 3) w2 (w'.setCell ⟨g + 3, 11, none⟩ (.slice a' (k + 1) cap')) := ((Below.mono hbd (show g + 3 ≤ w2.heap.size by have := HD2.out.size; omega)).trans (hb'.mono (show g + 3 ≤ g + 4 by omega))).setCell (p := ⟨g + 3, 11, none⟩) (Nat.le_refl _) _
      have HD3 : Hid (DotsAt (w'.setCell ⟨g + 3, 11, none⟩ (.slice a' (k + 1) cap')) g) := HD2.out.below hbel
      have HB3 : Hid (Below g w (w'.setCell ⟨g + 3, 11, none⟩ (.slice a' (k + 1) cap'))) := HB2.out.trans (hbel.mono (by omega))
      obtain ⟨z0, z1, z2, z3, z4, z5, z6, z7, z8, z9, z10, z11⟩ := cellsX_at HK3.out
      clear ho' hb' hkw hsz' hbel bx hbd HK3
      go_wp2_with fail
      go_region_law (refine step_append_run rfl _ _ 30 30 rfl _ _ _ _ rfl rfl hrun ?_)
      all_goals
        go_wp2_with fail
        refine (ocheckX _ g _ _ _ _ false HD3.out HO3.out (by rw [List.length_append, dsN_len]; rfl) (by omega) (in64_app (by omega)) (rem_twice (n := k) (by omega))).mono ?_
        rintro e w7 ⟨rfl, hb7⟩
        have HB7 : Hid (Below g w w7) := HB3.out.trans (hb7.mono (by have := HD3.out.size; omega))
        clear hb7
        go_wp2_with fail
        refine (owakes_any _).mono ?_
        rintro e w8 ⟨rfl, hb8⟩
        have HB8 : Hid (Below g w w8) := HB7.out.trans (hb8.mono (by have := HB7.out.size; omega))
        clear hb8
        go_wp2
        go_ret
        exact ⟨by simp, by rw [hG]; exact HB8.out⟩
    · have HS : Hid (OwnD (w2.setCell ⟨r, 0, none⟩ (.int .i64 2)) (g + 4) (.slice (some ⟨r, 0, none⟩) k cp) ((dsN k).set 0 (2, 1)) ∧ Below (g + 4) w2 (w2.setCell ⟨r, 0, none⟩ (.int .i64 2))) := by
        have := HO2.out.setP (k := 0) (dsN_len _) (by rw [dsN_len]; omega) 2
        rw [dsN_get (by omega)] at this
        exact this
      have y0 : w2.cell? ⟨r, 0, none⟩ = some (.int .i64 0) := (dsN_cells (i := 0) HO2.out (by omega)).1
      have f0 : w2.frozen? ⟨r, 0, none⟩ = false := dsN_free HO2.out _
      have HD3 : Hid (DotsAt (w2.setCell ⟨r, 0, none⟩ (.int .i64 2)) g) := HD2.out.below (HS.out.2.mono (by omega))
      obtain ⟨z0, z1, z2, z3, z4, z5, z6, z7, z8, z9, z10, z11⟩ := cellsX_at (HK2.out.other (c := r) (by have := (World.ownsRow.lt HO2.out r rfl).1; omega) 0 (.int .i64 2))
      have HB3 : Hid (Below g w (w2.setCell ⟨r, 0, none⟩ (.int .i64 2))) := HB2.out.trans (HS.out.2.mono (by omega))
      go_wp2_with fail
      refine (ocheckX _ g _ _ _ _ false HD3.out HS.out.1 (by rw [List.length_set, dsN_len]) (by omega) (in64_set (in64N (by omega)) ⟨in64 (by decide), in64 (by decide)⟩) (rem_two (n := k) (by omega))).mono ?_
      rintro e w7 ⟨rfl, hb7⟩
      have HB7 : Hid (Below g w w7) := HB3.out.trans (hb7.mono (by have := HD3.out.size; omega))
      clear hb7
      go_wp2_with fail
      refine (owakes_any _).mono ?_
      rintro e w8 ⟨rfl, hb8⟩
      have HB8 : Hid (Below g w w8) := HB7.out.trans (hb8.mono (by have := HB7.out.size; omega))
      clear hb8
      go_wp2
      go_ret
      exact ⟨by simp, by rw [hG]; exact HB8.out⟩
  · have C2 := ocheckX wr g (some ⟨r, 0, none⟩) cp k (dsN k) false hD.out hO.out (dsN_len _) (by omega) (in64N n65) (by rw [rem_dsN n65]; exact decide_eq_false (by omega))
    obtain ⟨z0, z1, z2, z3, z4, z5, z6, z7, z8, z9, z10, z11⟩ := cellsX_at hK.out
    go_wp2_with fail
    refine C2.mono ?_
    rintro e w2 ⟨rfl, hb2⟩
    have HD2 : Hid (DotsAt w2 g) := hD.out.below (hb2.mono (by have := hD.out.size; omega))
    have HK2 : Hid (CellsAt w2 (g + 3) (cellsX g (.slice (some ⟨r, 0, none⟩) k cp)) 32) := hK.out.later hb2
    have HO2 : Hid (OwnD w2 (g + 4) (.slice (some ⟨r, 0, none⟩) k cp) (dsN k)) := hO.out.later hb2
    have HB2 : Hid (Below g w w2) := hB.out.trans (hb2.mono (by have := hD.out.size; omega))
    clear hb2 C2 z0 z1 z2 z3 z4 z5 z6 z7 z8 z9 z10 z11 hD hK hO hB
    obtain ⟨z0, z1, z2, z3, z4, z5, z6, z7, z8, z9, z10, z11⟩ := cellsX_at HK2.out
    rcases (by omega : j = 0 ∨ j = 1 ∨ j = 2) with rfl | rfl | rfl
    · have HS : Hid (OwnD (w2.setCell ⟨r, m * 2 + 1, none⟩ (.int .i64 70)) (g + 4) (.slice (some ⟨r, 0, none⟩) k cp) ((dsN k).set (k - 1) (0, 70)) ∧ Below (g + 4) w2 (w2.setCell ⟨r, m * 2 + 1, none⟩ (.int .i64 70))) := by
        have := HO2.out.setN (k := m) (dsN_len _) (by rw [dsN_len]; omega) 70
        rw [dsN_get (by omega)] at this
        rw [show k - 1 = m by have := Hm.out; omega]
        exact this
      have y0 : w2.cell? ⟨r, m * 2 + 1, none⟩ = some (.int .i64 (k : Int)) := by rw [show (k : Int) = (m : Int) + 1 by have := Hm.out; omega]; exact (dsN_cells HO2.out (by omega)).2
      have f0 : w2.frozen? ⟨r, m * 2 + 1, none⟩ = false := dsN_free HO2.out _
      have HD3 : Hid (DotsAt (w2.setCell ⟨r, m * 2 + 1, none⟩ (.int .i64 70)) g) := HD2.out.below (HS.out.2.mono (by omega))
      obtain ⟨z0, z1, z2, z3, z4, z5, z6, z7, z8, z9, z10, z11⟩ := cellsX_at (HK2.out.other (c := r) (by have := (World.ownsRow.lt HO2.out r rfl).1; omega) (m * 2 + 1) (.int .i64 70))
      have HB3 : Hid (Below g w (w2.setCell ⟨r, m * 2 + 1, none⟩ (.int .i64 70))) := HB2.out.trans (HS.out.2.mono (by omega))
      go_wp2_with fail
      refine (ocheckX _ g _ _ _ _ false HD3.out HS.out.1 (by rw [List.length_set, dsN_len]) (by omega) (in64_set (in64N (by omega)) ⟨in64 (by decide), in64 (by decide)⟩) (rem_no70 (n := k) (by omega))).mono ?_
      rintro e w7 ⟨rfl, hb7⟩
      have HB7 : Hid (Below g w w7) := HB3.out.trans (hb7.mono (by have := HD3.out.size; omega))
      clear hb7
      go_wp2_with fail
      refine (owakes_any _).mono ?_
      rintro e w8 ⟨rfl, hb8⟩
      have HB8 : Hid (Below g w w8) := HB7.out.trans (hb8.mono (by have := HB7.out.size; omega))
      clear hb8
      go_wp2
      go_ret
      exact ⟨by simp, by rw [hG]; exact HB8.out⟩
    · have bx := box2 w2 w2.heap.size rfl (.int .i64 0) (.int .i64 (k : Int)) 25
      have y0 : w2.cell? ⟨r, m * 2, none⟩ = some (.int .i64 0) := (dsN_cells HO2.out (by omega)).1
      have y1 : w2.cell? ⟨r, m * 2 + 1, none⟩ = some (.int .i64 (k : Int)) := by rw [show (k : Int) = (m : Int) + 1 by have := Hm.out; omega]; exact (dsN_cells HO2.out (by omega)).2
      have hbd : Below w2.heap.size w2 (w2.alloc (.cells #[.int .i64 0, .int .i64 (k : Int)] 25)).drew := by
        have h := alloc_below w2 (.cells #[.int .i64 0, .int .i64 (k : Int)] 25)
        exact ⟨h.os, h.tape, h.output, h.size, h.block⟩
      have hwm : IntKind.i64.wrap (m : Int) = (m : Int) := by
        rw [IntKind.wrap_i64]
        omega
      have y3 : (w2.alloc (.cells #[.int .i64 0, .int .i64 (k : Int)] 25)).cell? ⟨g + 3, 11, none⟩ = some (.slice (some ⟨r, 0, none⟩) k cp) := cell_later (alloc_below _ _) z11
      have y4 : (w2.alloc (.cells #[.int .i64 0, .int .i64 (k : Int)] 25)).cell? ⟨g + 1 + 1 + 1, 11, none⟩ = some (.slice (some ⟨r, 0, none⟩) k cp) := y3
      obtain ⟨a', cap', w', hrun, hc', ho', hsz', hb'⟩ := run_append_dot (ty := 30) (HO2.out.later hbd) (dsN_len k) (by omega) (Nat.le_trans HD2.out.size (by simp)) bx.1 bx.2
      have hkw : CellsAt w' (g + 3) (cellsX g (.slice (some ⟨r, 0, none⟩) k cp)) 32 := ((hb'.block (g + 3) (by omega)).trans (hbd.block (g + 3) (by have := HD2.out.size; omega))).trans HK2.out
      have y2 : w'.cell? ⟨g + 3, 11, none⟩ = some (.slice (some ⟨r, 0, none⟩) k cp) := hkw.cell 11
      have f0 := hkw.free 11
      have HK3 : Hid (CellsAt (w'.setCell ⟨g + 3, 11, none⟩ (.slice a' (k + 1) cap')) (g + 3) (cellsX g (.slice a' (k + 1) cap')) 32) := hkw.set 11 (.slice a' (k + 1) cap')
      have HO3 : Hid (OwnD (w'.setCell ⟨g + 3, 11, none⟩ (.slice a' (k + 1) cap')) (g + 4) (.slice a' (k + 1) cap') (dsN k ++ [((0 : Int), (k : Int))])) := ho'.boxed (by omega)
      have hbel : Below (g + 3) w2 (w'.setCell ⟨g + 3, 11, none⟩ (.slice a' (k + 1) cap')) := ((Below.mono hbd (show g + 3 ≤ w2.heap.size by have := HD2.out.size; omega)).trans (hb'.mono (show g + 3 ≤ g + 4 by omega))).setCell (p := ⟨g + 3, 11, none⟩) (Nat.le_refl _) _
      have HD3 : Hid (DotsAt (w'.setCell ⟨g + 3, 11, none⟩ (.slice a' (k + 1) cap')) g) := HD2.out.below hbel
      have HB3 : Hid (Below g w (w'.setCell ⟨g + 3, 11, none⟩ (.slice a' (k + 1) cap'))) := HB2.out.trans (hbel.mono (by omega))
      obtain ⟨z0, z1, z2, z3, z4, z5, z6, z7, z8, z9, z10, z11⟩ := cellsX_at HK3.out
      clear ho' hb' hkw hsz' hbel bx hbd HK3
      go_wp2_with fail
      go_region_law (refine step_append_run rfl _ _ 30 30 rfl _ _ _ _ rfl rfl hrun ?_)
      all_goals
        go_wp2_with fail
        refine (ocheckX _ g _ _ _ _ false HD3.out HO3.out (by rw [List.length_append, dsN_len]; rfl) (by omega) (in64_app (by omega)) (rem_twice (n := k) (by omega))).mono ?_
        rintro e w7 ⟨rfl, hb7⟩
        have HB7 : Hid (Below g w w7) := HB3.out.trans (hb7.mono (by have := HD3.out.size; omega))
        clear hb7
        go_wp2_with fail
        refine (owakes_any _).mono ?_
        rintro e w8 ⟨rfl, hb8⟩
        have HB8 : Hid (Below g w w8) := HB7.out.trans (hb8.mono (by have := HB7.out.size; omega))
        clear hb8
        go_wp2
        go_ret
        exact ⟨by simp, by rw [hG]; exact HB8.out⟩
    · have HS : Hid (OwnD (w2.setCell ⟨r, 0, none⟩ (.int .i64 2)) (g + 4) (.slice (some ⟨r, 0, none⟩) k cp) ((dsN k).set 0 (2, 1)) ∧ Below (g + 4) w2 (w2.setCell ⟨r, 0, none⟩ (.int .i64 2))) := by
        have := HO2.out.setP (k := 0) (dsN_len _) (by rw [dsN_len]; omega) 2
        rw [dsN_get (by omega)] at this
        exact this
      have y0 : w2.cell? ⟨r, 0, none⟩ = some (.int .i64 0) := (dsN_cells (i := 0) HO2.out (by omega)).1
      have f0 : w2.frozen? ⟨r, 0, none⟩ = false := dsN_free HO2.out _
      have HD3 : Hid (DotsAt (w2.setCell ⟨r, 0, none⟩ (.int .i64 2)) g) := HD2.out.below (HS.out.2.mono (by omega))
      obtain ⟨z0, z1, z2, z3, z4, z5, z6, z7, z8, z9, z10, z11⟩ := cellsX_at (HK2.out.other (c := r) (by have := (World.ownsRow.lt HO2.out r rfl).1; omega) 0 (.int .i64 2))
      have HB3 : Hid (Below g w (w2.setCell ⟨r, 0, none⟩ (.int .i64 2))) := HB2.out.trans (HS.out.2.mono (by omega))
      go_wp2_with fail
      refine (ocheckX _ g _ _ _ _ false HD3.out HS.out.1 (by rw [List.length_set, dsN_len]) (by omega) (in64_set (in64N (by omega)) ⟨in64 (by decide), in64 (by decide)⟩) (rem_two (n := k) (by omega))).mono ?_
      rintro e w7 ⟨rfl, hb7⟩
      have HB7 : Hid (Below g w w7) := HB3.out.trans (hb7.mono (by have := HD3.out.size; omega))
      clear hb7
      go_wp2_with fail
      refine (owakes_any _).mono ?_
      rintro e w8 ⟨rfl, hb8⟩
      have HB8 : Hid (Below g w w8) := HB7.out.trans (hb8.mono (by have := HB7.out.size; omega))
      clear hb8
      go_wp2
      go_ret
      exact ⟨by simp, by rw [hG]; exact HB8.out⟩

end Go.Proofs.Ytfijnmleadgapaa
