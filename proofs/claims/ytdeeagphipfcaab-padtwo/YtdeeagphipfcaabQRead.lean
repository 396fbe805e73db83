/-
  What a pad's Read does, of the landed code.
-/
import Derived.Test.YtdeeagphipfcaabRows
import Derived.Test.YtdeeagphipfcaabQCode
import Derived.WalkKit
import Derived.WalkSpells
namespace Go.Proofs.Ytdeeagphipfcaab
open Go.RowKit Go.Lib
set_option linter.unusedVariables false

/-- What a call that tells bytes hands back. -/
def GivesB (w w' : World) (e : Ending) (r : List UInt8 × Int) : Prop :=
  ∃ a cap, e = .returned (.tuple #[.slice a r.1.length cap, .int .i64 r.2]) ∧ ((a = none ∧ r.1 = [] ∧ cap = 0) ∨ (a = some ⟨w.heap.size, 0, none⟩ ∧ cap = r.1.length ∧ Row w' w.heap.size r.1)) ∧ Below w.heap.size w w'

theorem GivesB.of_no {w : World} {k : Int} : GivesB w w (.returned (.tuple #[.slice none 0 0, .int .i64 k])) ([], k) := ⟨none, 0, rfl, .inl ⟨rfl, rfl, rfl⟩, Below.refl _ _⟩

theorem GivesB.rd {w w' : World} {e : Ending} {r : List UInt8 × Int} (h : GivesB w w' e r) : ∃ a cap, e = .returned (.tuple #[.slice a r.1.length cap, .int .i64 r.2]) ∧ r.1.length ≤ cap ∧ Rd w' a r.1 ∧ Below w.heap.size w w' := by
  obtain ⟨a, cap, he, h1, hb⟩ := h
  refine ⟨a, cap, he, ?_, ?_, hb⟩
  · rcases h1 with ⟨_, h1, rfl⟩ | ⟨_, rfl, _⟩
    · rw [h1]; simp
    · exact Nat.le_refl _
  · rcases h1 with ⟨_, h1, _⟩ | ⟨rfl, _, h1⟩
    · rw [h1]; exact Rd.nil _ _
    · exact h1.rd

theorem slot_cells {K : Nat → Prop} {w : World} {v : Value} {ps : List SlotP} {k : Nat} (ho : w.ownsRow 0 52 2 v ps.length (cellsQ ps)) (hk : k < ps.length) :
    ∃ r cap, v = .slice (some ⟨r, 0, none⟩) ps.length cap ∧ ps.length ≤ cap ∧ w.cell? ⟨r, k * 2, none⟩ = some ps[k].1 ∧ w.cell? ⟨r, k * 2 + 1, none⟩ = some (.bool ps[k].2.isNone) := by
  have ho' := ho
  rcases ho.2 with ⟨_, h⟩ | ⟨r, cap, cur, hv, hg, hh, hc, _⟩
  · omega
  · subst hv
    have d := cellsQ_at ps k hk
    exact ⟨r, cap, rfl, hc, (World.ownsRow.cellAt ho' _ (by omega)).trans d.1, (World.ownsRow.cellAt ho' _ (by omega)).trans d.2⟩

set_option maxHeartbeats 400000 in
theorem read_any (K : Nat → Prop) (g : Nat) (i : Int) (s : PadS) (w : World) (h : PadAt K w g s) :
    Calls Try.prog 19 #[vP g, .int .i64 i] w fun e w' => GivesB w w' e (s.read i) := by
  have hr := h.ok.room
  have hby := h.ok.bytes
  obtain ⟨v, ps, kv, hb, hps, ho, h4, h5, h6⟩ := h.lies
  obtain ⟨c0, c1, c2, c3, c4, c5, c6⟩ := hb.cells
  have hl : Hid (ps.length = s.slots.length) := by rw [← hps]; simp [Hid]
  by_cases hoff : s.off = true
  · have e : s.read i = ([], 5) := by unfold PadS.read; rw [if_pos hoff]
    rw [e]
    rw [hoff] at c2
    clear hps ho h hb h4 h5 h6 hr hby hl e hoff
    go_enter Try.func19, Try.ntmps19
    go_wp2
    go_ret2
    exact GivesB.of_no
  · have hoff' : s.off = false := by simpa using hoff
    rw [hoff'] at c2
    by_cases h0 : i < 0
    · have e : s.read i = ([], 7) := by unfold PadS.read; rw [if_neg hoff, if_pos (.inl h0)]
      rw [e]
      clear hps ho h hb h4 h5 h6 hr hby hl e hoff hoff'
      go_enter Try.func19, Try.ntmps19
      go_wp2
      go_ret2
      exact GivesB.of_no
    · have h0' : 0 ≤ i := by omega
      obtain ⟨k, rfl⟩ := Int.eq_ofNat_of_zero_le h0'
      have hm : ps.length ≤ 4000 := by rw [hl.out]; exact hr
      by_cases hk : k < ps.length
      · obtain ⟨r, cap, rfl, hc, d0, d1⟩ := slot_cells (K := K) ho hk
        have hs := h5 ps[k] (List.getElem_mem hk)
        have hsl : s.slots[k]? = some ps[k].2 := by rw [← hps]; simp [List.getElem?_eq_getElem hk]
        have hne : ¬ ((k : Int) < 0 ∨ (s.slots.length : Int) ≤ (k : Int)) := by rw [← hl.out]; omega
        rcases hs with ⟨e1, e2⟩ | ⟨l, b, e1, e2, hrow, hKb⟩
        · have e : s.read (k : Int) = ([], 13) := by
            unfold PadS.read
            rw [if_neg hoff, if_neg hne, Int.toNat_natCast, hsl, e1]
            rfl
          rw [e]
          rw [e1] at d1
          clear hps ho h hb h4 h5 h6 hr hby hl e hoff hoff' hsl hne e1 e2 d0
          go_enter Try.func19, Try.ntmps19
          go_wp2
          go_ret2
          exact GivesB.of_no
        · have hll : l.length ≤ 65536 := hby l (by rw [← e1, ← hps]; exact List.mem_map.2 ⟨_, List.getElem_mem hk, rfl⟩)
          have e : s.read (k : Int) = (l, 0) := by
            unfold PadS.read
            rw [if_neg hoff, if_neg hne, Int.toNat_natCast, hsl, e1]
            rfl
          rw [e]
          rw [e1] at d1
          rw [e2] at d0
          have hrow' : Hid (Row w b l) := hrow
          clear hps ho h hb h4 h5 h6 hr hby hl e hoff hoff' hsl hne e1 e2 hrow
          go_enter Try.func19, Try.ntmps19
          go_wp2_with fail
          refine (copyOf_any _ _ _ l _ rfl hll hrow'.out.rd).mono ?_
          rintro e w1 ⟨rfl, hrow1, hb1⟩
          go_wp2
          go_ret2
          exact ⟨_, _, rfl, .inr ⟨rfl, rfl, hrow1⟩, hb1⟩
      · have e : s.read (k : Int) = ([], 7) := by unfold PadS.read; rw [if_neg hoff, if_pos (.inr (by rw [← hl.out]; omega))]
        rw [e]
        obtain ⟨a, cap, rfl, hc⟩ := ownsRow_slice ho
        clear hps ho h hb h4 h5 h6 hr hby hl e hoff hoff'
        go_enter Try.func19, Try.ntmps19
        go_wp2
        go_ret2
        exact GivesB.of_no

end Go.Proofs.Ytdeeagphipfcaab
