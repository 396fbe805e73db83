/-
  What a pad's Crash does, of the landed code.
-/
import Derived.Test.YtdeeagphipfcaabRows
import Derived.Test.YtdeeagphipfcaabQCode
import Derived.Test.YtdeeagphipfcaabQBool
import Derived.WalkKit
import Derived.WalkSpells
import Derived.Deep.QuietTactic
import Derived.BigQuiet
namespace Go.Proofs.Ytdeeagphipfcaab
open Go.RowKit Go.Lib
set_option linter.unusedVariables false

/-- Bools that can be read, in a block that K names, or in a row of bools. -/
def KeepR (K : Nat → Prop) (w : World) (a : Option Addr) (L : List Bool) : Prop :=
  0 < L.length → ∃ b off, a = some ⟨b, off, none⟩ ∧ (∀ i (hi : i < L.length), w.cell? ⟨b, off + i, none⟩ = some (.bool L[i])) ∧ (K b ∨ ∃ cs, w.heap[b]? = some (.cells cs 4 (0, 0)))

theorem KeepR.nil (K : Nat → Prop) (w : World) (a : Option Addr) : KeepR K w a [] := fun h => absurd h (by simp)

theorem RdO.keepR {K : Nat → Prop} {w : World} {a : Option Addr} {L : List Bool} (h : RdO w a L) (hK : ∀ b, b < w.heap.size → K b) : KeepR K w a L := by
  intro h0
  obtain ⟨b, off, e, hc⟩ := h h0
  refine ⟨b, off, e, hc, .inl (hK b ?_)⟩
  exact World.block_lt_of_cell? _ _ (hc 0 h0)

theorem KeepV.keepR {K : Nat → Prop} {w : World} {v : Value} {l : List Bool} (h : KeepV K w v l) : ∃ a cap, v = .slice a l.length cap ∧ l.length ≤ cap ∧ KeepR K w a l := by
  obtain ⟨a, cap, h1, h2, h3⟩ := h
  refine ⟨a, cap, h1, h2, ?_⟩
  rcases h3 with rfl | ⟨b, cs, rfl, h5, h6, h7⟩
  · exact KeepR.nil _ _ _
  · refine fun _ => ⟨b, 0, rfl, fun i hi => ?_, .inr ⟨cs, h5⟩⟩
    rw [cell_of_row w b _ _ _ _ h5, Nat.zero_add]
    have hx : (l.map Value.bool)[i]? = some (.bool l[i]) := by simp [List.getElem?_eq_getElem hi]
    rw [← h6, List.getElem?_take_of_lt hi] at hx
    simpa using hx

theorem KeepR.same {K : Nat → Prop} {w w' : World} {a : Option Addr} {L : List Bool} (h : KeepR K w a L) (hs : Stay K w w') (hl : Leafs w w') : KeepR K w' a L := by
  intro h0
  obtain ⟨b, off, e, hc, hk⟩ := h h0
  have hb : w'.heap[b]? = w.heap[b]? := by
    rcases hk with hk | ⟨cs, hk⟩
    · exact hs.block b hk
    · exact hl b _ _ hk (.inr rfl)
  refine ⟨b, off, e, fun i hi => (World.cell?_of_block (w := w) (a := ⟨b, off + i, none⟩) hb).trans (hc i hi), ?_⟩
  rcases hk with hk | ⟨cs, hk⟩
  · exact .inl hk
  · exact .inr ⟨cs, hb.trans hk⟩

theorem PadAt.drew {K : Nat → Prop} {w : World} {g : Nat} {s : PadS} (h : PadAt K w g s) : PadAt K w.drew g s := h.stay fun b _ hk => ⟨rfl, hk⟩

theorem PadAt.drewN {K : Nat → Prop} {w : World} {g : Nat} {s : PadS} (h : PadAt K w g s) (n : Nat) : PadAt K (w.drewN n) g s := h.stay fun b _ hk => ⟨rfl, hk⟩

theorem Stay.drewN {K : Nat → Prop} {a w : World} (h : Stay K a w) (n : Nat) : Stay K a (w.drewN n) := ⟨h.os, h.tape, h.output, h.size, h.block⟩

theorem KeepR.drewN {K : Nat → Prop} {w : World} {a : Option Addr} {L : List Bool} (h : KeepR K w a L) (n : Nat) : KeepR K (w.drewN n) a L := h

/-- A slot is spoilt. -/
theorem PadAt.spoil {K : Nat → Prop} {w : World} {g k : Nat} {s : PadS} (h : PadAt K w g s) (hk : k < s.slots.length) :
    ∃ r cap x y, w.cell? ⟨g, 0, none⟩ = some (.slice (some ⟨r, 0, none⟩) s.slots.length cap) ∧ s.slots.length ≤ cap ∧ w.cell? ⟨r, k * 2, none⟩ = some x ∧ w.cell? ⟨r, k * 2 + 1, none⟩ = some y ∧ w.frozen? ⟨r, k * 2, none⟩ = false ∧ w.frozen? ⟨r, k * 2 + 1, none⟩ = false ∧
      PadAt K ((w.setCell ⟨r, k * 2, none⟩ (.slice none 0 0)).setCell ⟨r, k * 2 + 1, none⟩ (.bool true)) g { s with slots := s.slots.set k none } ∧ Stay K w ((w.setCell ⟨r, k * 2, none⟩ (.slice none 0 0)).setCell ⟨r, k * 2 + 1, none⟩ (.bool true)) ∧ Leafs w ((w.setCell ⟨r, k * 2, none⟩ (.slice none 0 0)).setCell ⟨r, k * 2 + 1, none⟩ (.bool true)) := by
  obtain ⟨ok, out, v, ps, kv, h1, h2, h3, h4, h5, h6⟩ := h
  have hl : ps.length = s.slots.length := by rw [← h2]; simp
  have hk' : k < ps.length := by rw [hl]; exact hk
  have h3' := h3
  rcases h3.2 with ⟨_, h0⟩ | ⟨r, cap, cur, rfl, _, hh, hc, hm, hs, ht⟩
  · omega
  have d := cellsQ_at ps k hk'
  have x0 := (World.ownsRow.cellAt h3' (k * 2) (by omega)).trans d.1
  have x1 := (World.ownsRow.cellAt h3' (k * 2 + 1) (by omega)).trans d.2
  have hrg : r ≠ g := by
    intro e
    subst e
    unfold PadBox at h1
    rw [hh] at h1
    cases h1
  have hKr : ¬ K r := h4 r rfl
  obtain ⟨o1, g1⟩ := World.ownsRow.stored h3' (k * 2) (.slice none 0 0)
  obtain ⟨o2, g2⟩ := World.ownsRow.stored o1 (k * 2 + 1) (.bool true)
  have lf : Leafs w ((w.setCell ⟨r, k * 2, none⟩ (.slice none 0 0)).setCell ⟨r, k * 2 + 1, none⟩ (.bool true)) :=
    (Leafs.setCell hh (by decide) _ _).trans (Leafs.setCell (Go.heap_setCell_same _ _ _ _ _ _ hh) (by decide) _ _)
  have st : Stay K w ((w.setCell ⟨r, k * 2, none⟩ (.slice none 0 0)).setCell ⟨r, k * 2 + 1, none⟩ (.bool true)) := ((Stay.refl K w).setCell (p := ⟨r, k * 2, none⟩) hKr _).setCell (p := ⟨r, k * 2 + 1, none⟩) hKr _
  refine ⟨r, cap, _, _, by rw [← hl]; exact h1.cells.1, by rw [← hl]; exact hc, x0, x1, World.ownsRow.frozenAt h3' _, World.ownsRow.frozenAt h3' _, ?_, st, lf⟩
  refine ⟨⟨by simpa using ok.safe, by simpa using ok.room, ok.calls, ok.keep, fun b hb => ok.bytes b ?_⟩, out, _, ps.set k (.slice none 0 0, none), kv, ?_, ?_, ?_, h4, ?_, h6.leafs lf⟩
  · simp only at hb
    rcases List.mem_or_eq_of_mem_set hb with hb | hb
    · exact hb
    · cases hb
  · exact h1.same ((same_set g hrg.symm).trans (same_set g hrg.symm))
  · rw [← h2, List.map_set]
  · rw [List.length_set, cellsQ_set]
    exact o2
  · intro p hp
    rcases List.mem_or_eq_of_mem_set hp with hp | rfl
    · exact (h5 p hp).leafs lf
    · exact .inl ⟨rfl, rfl⟩

theorem kept_torn {keep : List Bool} {torn : Int} {k : Nat} (h : (k : Int) = torn) : kept keep torn k = false := by simp [kept, h]

theorem kept_none {keep : List Bool} {torn : Int} {k : Nat} (h : keep.length ≤ k) : kept keep torn k = false := by simp [kept, List.getElem?_eq_none h]

theorem kept_at {keep : List Bool} {torn : Int} {k : Nat} (h : k < keep.length) (ht : (k : Int) ≠ torn) : kept keep torn k = keep[k] := by simp [kept, List.getElem?_eq_getElem h, ht]

set_option maxHeartbeats 1000000 in
theorem crash_any (K : Nat → Prop) (g : Nat) (ka : Option Addr) (kn kc : Nat) (keep : List Bool) (torn : Int) (s : PadS) (w : World) (h : PadAt K w g s) (hn : keep.length = kn) (hl : kn ≤ 9223372036854775807) (hr : KeepR K w ka keep) :
    Calls Try.prog 14 #[vP g, .slice ka kn kc, .int .i64 torn] w fun e w' => e = .returned (.tuple #[]) ∧ PadAt K w' g (s.crash keep torn) ∧ Stay K w w' := by
  obtain ⟨v, ps, kv, hb, hps, ho, h4, h5, h6⟩ := h.lies
  obtain ⟨c0, c1, c2, c3, c4, c5, c6⟩ := hb.cells
  have hroom := h.ok.room
  have hsafe := h.ok.safe
  by_cases hoff : s.off = true
  · have e : s.crash keep torn = s := by unfold PadS.crash; rw [if_pos hoff]
    rw [e]
    rw [hoff] at c2
    have HP : Hid (PadAt K w g s) := h
    clear hps ho h hb h4 h5 h6 e hoff hn hr
    go_enter Try.func14, Try.ntmps14
    go_wp2
    refine bodyPost_ret (results_none rfl _ _ _) rfl ?_
    exact ⟨rfl, HP.out, Stay.refl _ _⟩
  · have hoff' : s.off = false := by simpa using hoff
    have HE : Hid (s.crash keep torn = ⟨spoilTo keep torn s.safe (s.slots.length - s.safe) s.slots, s.slots.length, true, wrap64 (s.life + 1), 0, [], 0⟩) := by unfold PadS.crash; rw [if_neg hoff]; rfl
    rw [hoff'] at c2
    have HO : Hid (s.off = false) := hoff'
    obtain ⟨a, cap, rfl, hc⟩ := ownsRow_slice ho
    have hlp : ps.length = s.slots.length := by rw [← hps]; simp
    rw [hlp] at c0 hc
    have HP : Hid (PadAt K w g s) := h
    have HR : Hid (KeepR K w ka keep) := hr
    have HN : Hid (keep.length = kn) := hn
    obtain ⟨n, hnn⟩ : ∃ n, n = s.slots.length := ⟨_, rfl⟩
    obtain ⟨sf, hsf⟩ : ∃ sf, sf = s.safe := ⟨_, rfl⟩
    rw [← hnn] at c0 hc hroom hsafe
    rw [← hsf] at c1 hsafe
    have HNN : Hid (n = s.slots.length) := hnn
    have HSF : Hid (sf = s.safe) := hsf
    clear hps ho h hb h4 h5 h6 hoff hoff' hn hr hlp hnn hsf
    go_enter Try.func14, Try.ntmps14
    go_wp2_with fail
    go_quiet (fail)
    go_wp2_with fail
    go_loopw [21] (fun i wr => ∃ k : Nat, k ≤ n - sf ∧ i = .int .i64 k ∧ Hid (PadAt K wr g { s with slots := spoilTo keep torn s.safe k s.slots }) ∧ Hid (Stay K w wr) ∧ Hid (KeepR K wr ka keep)) (fun i _ => (n - sf) - (RowKit.intOf i).toNat)
    case atStart => exact ⟨0, Nat.zero_le _, rfl, by rw [spoilTo_zero]; exact HP.out.drewN _, (Stay.refl _ _).drewN _, HR.out.drewN _⟩
    case round =>
      obtain ⟨k, hk, rfl, hP, hS, hR⟩ := hrel
      by_cases hlt : k < n - sf
      · have hlen : sf + k < (spoilTo keep torn s.safe k s.slots).length := by rw [spoilTo_length, ← HNN.out]; omega
        obtain ⟨r, cp, x, y, e0, hcp, e1, e2, f1, f2, hP', hS', hL'⟩ := hP.out.spoil hlen
        simp only [spoilTo_length, ← HNN.out] at e0 hcp
        obtain ⟨v2, ps2, kv2, hb2, _⟩ := hP.out.lies
        have e3 := hb2.cells.2.1
        simp only [← HSF.out] at e3
        have HPL : Hid (kept keep torn k = false → PadAt K ((wr.setCell ⟨r, (sf + k) * 2, none⟩ (.slice none 0 0)).setCell ⟨r, (sf + k) * 2 + 1, none⟩ (.bool true)) g { s with slots := spoilTo keep torn s.safe (k + 1) s.slots }) := fun hq => by
          rw [spoilTo_succ_lost _ _ _ _ _ hq, show s.safe + k = sf + k by rw [HSF.out]]
          exact hP'
        have HPK : Hid (kept keep torn k = true → PadAt K wr g { s with slots := spoilTo keep torn s.safe (k + 1) s.slots }) := fun hq => by
          rw [spoilTo_succ_kept _ _ _ _ _ hq]
          exact hP.out
        have HS' : Hid (Stay K w ((wr.setCell ⟨r, (sf + k) * 2, none⟩ (.slice none 0 0)).setCell ⟨r, (sf + k) * 2 + 1, none⟩ (.bool true))) := hS.out.trans hS'
        have HR' : Hid (KeepR K ((wr.setCell ⟨r, (sf + k) * 2, none⟩ (.slice none 0 0)).setCell ⟨r, (sf + k) * 2 + 1, none⟩ (.bool true)) ka keep) := hR.out.same hS' hL'
        clear hP' hS' hL' hb2
        by_cases h1 : (k : Int) = torn
        · have HQ := HPL.out (kept_torn h1)
          subst h1
          have HQ' : Hid _ := HQ
          clear HQ HPL HPK
          go_wp2_with fail
          go_region
          go_wp2
          exact ⟨⟨k + 1, by omega, by go_num, HQ'.out.drew, HS'.out.drew, HR'.out.drewN 1⟩, by simp [RowKit.intOf]; omega⟩
        · have d1 : ((k : Int) == torn) = false := by simpa using h1
          by_cases h2 : k < kn
          · have hk' : k < keep.length := by rw [HN.out]; exact h2
            obtain ⟨kb, ko, rfl, hkc, _⟩ := hR.out (by omega)
            have e4 := hkc k hk'
            have hq := kept_at (torn := torn) hk' h1
            by_cases h3 : keep[k] = true
            · have HQ := HPK.out (hq.trans h3)
              rw [h3] at e4
              have HQ' : Hid _ := HQ
              clear HQ HPL HPK hkc hq h1
              go_wp2_with fail
              exact ⟨⟨k + 1, by omega, by go_num, HQ'.out, hS.out, hR.out⟩, by simp [RowKit.intOf]; omega⟩
            · have h3' : keep[k] = false := by simpa using h3
              have HQ := HPL.out (hq.trans h3')
              rw [h3'] at e4
              clear hkc hq h1
              have HQ' : Hid _ := HQ
              clear HQ HPL HPK
              go_wp2_with fail
              go_region
              go_wp2
              exact ⟨⟨k + 1, by omega, by go_num, HQ'.out.drew, HS'.out.drew, HR'.out.drewN 1⟩, by simp [RowKit.intOf]; omega⟩
          · have HQ := HPL.out (kept_none (torn := torn) (by rw [HN.out]; omega))
            clear h1
            have HQ' : Hid _ := HQ
            clear HQ HPL HPK
            go_wp2_with fail
            go_region
            go_wp2
            exact ⟨⟨k + 1, by omega, by go_num, HQ'.out.drew, HS'.out.drew, HR'.out.drewN 1⟩, by simp [RowKit.intOf]; omega⟩
      · have hkm : k = n - sf := by omega
        obtain ⟨v2, ps2, kv2, hb2, hps2, ho2, h42, h52, h62⟩ := hP.out.lies
        simp only at hb2 hps2
        obtain ⟨e0, e1, e2, e3, e4, e5, e6⟩ := hb2.cells
        have f1 := hb2.free 1
        have f2 := hb2.free 2
        have f3 := hb2.free 3
        have f4 := hb2.free 4
        have f5 := hb2.free 5
        have f6 := hb2.free 6
        obtain ⟨a2, cap2, rfl, hc2⟩ := ownsRow_slice ho2
        have hl2 : ps2.length = n := by
          have := congrArg List.length hps2
          rw [spoilTo_length, ← HNN.out] at this
          simpa using this
        rw [hl2] at e0
        have B6 := ((((((hb2.set1 (n : Int)).set2 true).set3 (wrap64 (s.life + 1))).set4 0).set5 (.slice none 0 0)).set6 0)
        have L6 := ((((((Leafs.pad hb2 1 (.int .i64 (n : Int))).trans (Leafs.pad (hb2.set1 (n : Int)) 2 (.bool true))).trans (Leafs.pad ((hb2.set1 (n : Int)).set2 true) 3 (.int .i64 (wrap64 (s.life + 1))))).trans (Leafs.pad (((hb2.set1 (n : Int)).set2 true).set3 (wrap64 (s.life + 1))) 4 (.int .i64 0))).trans (Leafs.pad ((((hb2.set1 (n : Int)).set2 true).set3 (wrap64 (s.life + 1))).set4 0) 5 (.slice none 0 0))).trans (Leafs.pad (((((hb2.set1 (n : Int)).set2 true).set3 (wrap64 (s.life + 1))).set4 0).set5 (.slice none 0 0)) 6 (.int .i64 0)))
        have ok' : (s.crash keep torn).Ok := HP.out.ok.crash keep torn
        have hsp : spoilTo keep torn s.safe k s.slots = spoilTo keep torn s.safe (s.slots.length - s.safe) s.slots := by rw [← HNN.out, ← HSF.out, hkm]
        rw [hsp] at hps2
        have HF : Hid (PadAt K ((((((wr.setCell ⟨g, 1, none⟩ (.int .i64 (n : Int))).setCell ⟨g, 2, none⟩ (.bool true)).setCell ⟨g, 3, none⟩ (.int .i64 (wrap64 (s.life + 1)))).setCell ⟨g, 4, none⟩ (.int .i64 0)).setCell ⟨g, 5, none⟩ (.slice none 0 0)).setCell ⟨g, 6, none⟩ (.int .i64 0)) g (s.crash keep torn)) := by
          rw [HE.out] at ok' ⊢
          refine PadAt.boxed (s := { s with slots := spoilTo keep torn s.safe k s.slots }) ok' HP.out.out hb2 ho2 h42 h52 hps2 ?_ (KeepV.nought _ _) (fun b _ hb => ?_) L6
          · rw [← HNN.out]
            exact B6
          · rw [same_set b hb, same_set b hb, same_set b hb, same_set b hb, same_set b hb, same_set b hb]
        have HS : Hid (Stay K w ((((((wr.setCell ⟨g, 1, none⟩ (.int .i64 (n : Int))).setCell ⟨g, 2, none⟩ (.bool true)).setCell ⟨g, 3, none⟩ (.int .i64 (wrap64 (s.life + 1)))).setCell ⟨g, 4, none⟩ (.int .i64 0)).setCell ⟨g, 5, none⟩ (.slice none 0 0)).setCell ⟨g, 6, none⟩ (.int .i64 0))) :=
          (((((hS.out.setCell (p := ⟨g, 1, none⟩) HP.out.out _).setCell (p := ⟨g, 2, none⟩) HP.out.out _).setCell (p := ⟨g, 3, none⟩) HP.out.out _).setCell (p := ⟨g, 4, none⟩) HP.out.out _).setCell (p := ⟨g, 5, none⟩) HP.out.out _).setCell (p := ⟨g, 6, none⟩) HP.out.out _
        clear hk hkm B6 L6 ok' hsp hps2 hb2 ho2 h42 h52 h62 hl2
        go_wp2
        go_end0
        exact ⟨rfl, HF.out, HS.out⟩

end Go.Proofs.Ytdeeagphipfcaab
