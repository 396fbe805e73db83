/-
  What package pad's smallest calls do, of the landed code: copyOf, New, Len, Safe, Off, Life, Start.
-/
import Derived.Test.YtdeeagphipfcaabRows
import Derived.Test.YtdeeagphipfcaabQMem
import Derived.Test.YtdeeagphipfcaabLeaf
import Derived.WalkKit
import Derived.WalkSpells
import Derived.WalkLawsBesides
namespace Go.Proofs.Ytdeeagphipfcaab
open Go.RowKit Go.Lib
set_option linter.unusedVariables false

set_option maxHeartbeats 400000 in
theorem copyOf_any (a : Option Addr) (n cap : Nat) (l : List UInt8) (w : World) (hn : l.length = n) (hl : n ≤ 65536) (hr : Rd w a l) :
    Calls Try.prog 21 #[.slice a n cap] w fun e w' => e = .returned (.slice (some ⟨w.heap.size, 0, none⟩) n n) ∧ Row w' w.heap.size l ∧ Below w.heap.size w w' := by
  subst hn
  obtain ⟨i0, hi, hz0, hz1, hz2⟩ := info_parts Try.info5
  go_enter Try.func21, Try.ntmps21
  go_wp2_with (at_make; refine wpList_make_full _ rfl (.tmp 5) (.tmp 5) 30 rfl w.heap.size 5 i0 (.int .u8 0) 1 Try.underlying30 hi hz0 hz1 .i64 .i64 _ _ l.length rfl rfl (by omega) (by omega) (by rw [hz2]; omega) (by unfold maxLen; omega) (Nat.le_refl _) ?_; intro w1 hown hgr; have hrow := row_made hown; have hb : Below w.heap.size w w1 := (Below.refl _ _).grown hgr (Nat.le_refl _) (fun k hk => by cases hk); obtain ⟨w2, hcp, hrow2, hgr2⟩ := run_copy_rd (sT := 30) (ty := 3) (o := 0) (dLen := l.length) (dCap := l.length) (cap := cap) Try.underlying30 Try.size5 hrow (hr.later hb) (by omega) (by simp))
  go_ret
  refine ⟨rfl, ?_, hb.trans (Below.of_grown hgr2 (Nat.le_refl _) hrow.lt)⟩
  have e := splice_zeros l 0
  rw [Nat.add_zero, List.replicate_zero, List.append_nil] at e
  rw [e] at hrow2
  exact hrow2

/-- A pad's pointer. -/
abbrev vP (g : Nat) : Value := .pointer (some ⟨g, 0, none⟩)

theorem pad0_at {K : Nat → Prop} {w : World} (hK : ∀ b, K b → b < w.heap.size) : PadAt K (w.alloc (.cells #[.slice none 0 0, .int .i64 0, .bool false, .int .i64 0, .int .i64 0, .slice none 0 0, .int .i64 0] 49)) w.heap.size pad0 :=
  ⟨pad0_ok, fun h => absurd (hK _ h) (Nat.lt_irrefl _), .slice none 0 0, [], .slice none 0 0, PadBox.made rfl, rfl, World.ownsRow_nil _ _ _ _, fun b h => (by cases h), fun p hp => (by cases hp), KeepV.nought _ _⟩

set_option maxHeartbeats 400000 in
theorem new_any (K : Nat → Prop) (w : World) (hK : ∀ b, K b → b < w.heap.size) :
    Calls Try.prog 5 #[] w fun e w' => e = .returned (vP w.heap.size) ∧ PadAt K w' w.heap.size pad0 ∧ Below w.heap.size w w' := by
  go_enter Try.func5, Try.ntmps5
  go_wp2
  go_ret
  exact ⟨rfl, pad0_at hK, (Below.refl _ _).alloc (Nat.le_refl _) _⟩

theorem ownsRow_slice {w : World} {B e size n : Nat} {v : Value} {xs : List Value} (h : w.ownsRow B e size v n xs) : ∃ a cap, v = .slice a n cap ∧ n ≤ cap := by
  rcases h.2 with ⟨rfl, rfl⟩ | ⟨g, cap, cur, rfl, _, _, hc, _⟩
  · exact ⟨none, 0, rfl, Nat.le_refl _⟩
  · exact ⟨_, cap, rfl, hc⟩

set_option maxHeartbeats 400000 in
theorem len_any (K : Nat → Prop) (g : Nat) (s : PadS) (w : World) (h : PadAt K w g s) :
    Calls Try.prog 7 #[vP g] w fun e w' => e = .returned (.int .i64 (s.slots.length : Int)) ∧ w' = w := by
  have hr := h.ok.room
  obtain ⟨v, ps, kv, hb, hps, ho, _⟩ := h.lies
  obtain ⟨c0, c1, c2, c3, c4, c5, c6⟩ := hb.cells
  obtain ⟨a, cap, rfl, hc⟩ := ownsRow_slice ho
  have hl : Hid (ps.length = s.slots.length) := by rw [← hps]; simp [Hid]
  have hm : ps.length ≤ 4000 := by rw [hl.out]; exact hr
  rw [← hl.out]
  clear hps ho hr h hb
  go_enter Try.func7, Try.ntmps7
  go_wp2
  go_ret
  exact ⟨rfl, rfl⟩

set_option maxHeartbeats 400000 in
theorem safe_any (K : Nat → Prop) (g : Nat) (s : PadS) (w : World) (h : PadAt K w g s) :
    Calls Try.prog 10 #[vP g] w fun e w' => e = .returned (.int .i64 (s.safe : Int)) ∧ w' = w := by
  obtain ⟨v, ps, kv, hb, hps, ho, _⟩ := h.lies
  obtain ⟨c0, c1, c2, c3, c4, c5, c6⟩ := hb.cells
  clear hps ho h hb
  go_enter Try.func10, Try.ntmps10
  go_wp2
  go_ret
  exact ⟨rfl, rfl⟩

set_option maxHeartbeats 400000 in
theorem off_any (K : Nat → Prop) (g : Nat) (s : PadS) (w : World) (h : PadAt K w g s) :
    Calls Try.prog 17 #[vP g] w fun e w' => e = .returned (.bool s.off) ∧ w' = w := by
  obtain ⟨v, ps, kv, hb, hps, ho, _⟩ := h.lies
  obtain ⟨c0, c1, c2, c3, c4, c5, c6⟩ := hb.cells
  clear hps ho h hb
  go_enter Try.func17, Try.ntmps17
  go_wp2
  go_ret
  exact ⟨rfl, rfl⟩

set_option maxHeartbeats 400000 in
theorem life_any (K : Nat → Prop) (g : Nat) (s : PadS) (w : World) (h : PadAt K w g s) :
    Calls Try.prog 18 #[vP g] w fun e w' => e = .returned (.int .i64 s.life) ∧ w' = w := by
  obtain ⟨v, ps, kv, hb, hps, ho, _⟩ := h.lies
  obtain ⟨c0, c1, c2, c3, c4, c5, c6⟩ := hb.cells
  clear hps ho h hb
  go_enter Try.func18, Try.ntmps18
  go_wp2
  go_ret
  exact ⟨rfl, rfl⟩

/-- A pad whose box alone has turned. -/
theorem PadAt.boxed {K : Nat → Prop} {w w' : World} {g : Nat} {s s' : PadS} {v kv kv' : Value} {ps : List SlotP} (ok : s'.Ok) (out : ¬ K g) (hb : PadBox w g v (s.safe : Int) s.off s.life s.calls kv s.torn)
    (ho : w.ownsRow 0 52 2 v ps.length (cellsQ ps)) (h4 : ∀ b, v.ownBlock = some b → ¬ K b) (h5 : ∀ p ∈ ps, SlotV K w p.1 p.2) (hps : ps.map Prod.snd = s'.slots)
    (hb' : PadBox w' g v (s'.safe : Int) s'.off s'.life s'.calls kv' s'.torn) (hk : KeepV K w' kv' s'.keep) (hsame : ∀ b, b < w.heap.size → b ≠ g → w'.heap[b]? = w.heap[b]?) (hleaf : Leafs w w') : PadAt K w' g s' := by
  refine ⟨ok, out, v, ps, kv', hb', hps, ⟨ho.1, ?_⟩, h4, fun p hp => (h5 p hp).leafs hleaf, hk⟩
  rcases ho.2 with h7 | ⟨r, cap, cur, hv, hg, hh, hc⟩
  · exact .inl h7
  · refine .inr ⟨r, cap, cur, hv, hg, (hsame r (heap_lt hh) (fun e => ?_)).trans hh, hc⟩
    subst e
    unfold PadBox at hb
    rw [hh] at hb
    cases hb

theorem same_set {w : World} {g i : Nat} {u : Value} (b : Nat) (hb : b ≠ g) : (w.setCell ⟨g, i, none⟩ u).heap[b]? = w.heap[b]? := Below.heap_setCell w ⟨g, i, none⟩ u b hb

set_option maxHeartbeats 400000 in
theorem start_any (K : Nat → Prop) (g : Nat) (s : PadS) (w : World) (h : PadAt K w g s) :
    Calls Try.prog 15 #[vP g] w fun e w' => e = .returned (.tuple #[]) ∧ PadAt K w' g s.start ∧ Stay K w w' := by
  obtain ⟨v, ps, kv, hb, hps, ho, h4, h5, h6⟩ := h.lies
  obtain ⟨c0, c1, c2, c3, c4, c5, c6⟩ := hb.cells
  have f2 := hb.free 2
  have R : Hid (PadAt K (w.setCell ⟨g, 2, none⟩ (.bool false)) g s.start) :=
    PadAt.boxed (s := s) (s' := s.start) ⟨h.ok.safe, h.ok.room, h.ok.calls, h.ok.keep, h.ok.bytes⟩ h.out hb ho h4 h5 hps (hb.set2 false) (h6.leafs (Leafs.pad hb 2 _)) (fun b _ hb => same_set b hb) (Leafs.pad hb 2 _)
  have S : Hid (Stay K w (w.setCell ⟨g, 2, none⟩ (.bool false))) := (Stay.refl K w).setCell (p := ⟨g, 2, none⟩) h.out _
  clear hps ho h hb h4 h5 h6
  go_enter Try.func15, Try.ntmps15
  go_wp2
  go_end0
  exact ⟨rfl, R.out, S.out⟩

end Go.Proofs.Ytdeeagphipfcaab
