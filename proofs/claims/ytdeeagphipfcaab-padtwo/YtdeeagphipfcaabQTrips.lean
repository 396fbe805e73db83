/-
  What a pad's trips, Trip, Sync and Append do, of the landed code.
-/
import Derived.Test.YtdeeagphipfcaabRows
import Derived.Test.YtdeeagphipfcaabQCrash
import Derived.Test.YtdeeagphipfcaabQDel
import Derived.WalkKit
import Derived.WalkSpells
import Derived.Deep.RegionWith
namespace Go.Proofs.Ytdeeagphipfcaab
open Go.RowKit Go.Lib
set_option linter.unusedVariables false

set_option maxHeartbeats 1000000 in
theorem trips_any (K : Nat → Prop) (g : Nat) (s : PadS) (w : World) (h : PadAt K w g s) :
    Calls Try.prog 22 #[vP g] w fun e w' => e = .returned (.bool s.trips.2) ∧ PadAt K w' g s.trips.1 ∧ Stay K w w' := by
  have hcalls := h.ok.calls
  obtain ⟨v, ps, kv, hb, hps, ho, h4, h5, h6⟩ := h.lies
  obtain ⟨c0, c1, c2, c3, c4, c5, c6⟩ := hb.cells
  have f4 := hb.free 4
  by_cases h0 : s.calls = 0
  · have e : s.trips = (s, false) := by unfold PadS.trips; rw [if_pos h0]
    rw [e]
    rw [h0] at c4
    have HP : Hid (PadAt K w g s) := h
    clear hps ho h hb h4 h5 h6 e hcalls h0
    go_enter Try.func22, Try.ntmps22
    go_wp2
    go_ret
    exact ⟨rfl, HP.out, Stay.refl _ _⟩
  · have d0 : (s.calls == 0) = false := by simpa using h0
    have ok' : PadS.Ok { s with calls := s.calls - 1 } := ⟨h.ok.safe, h.ok.room, by simp only; omega, h.ok.keep, h.ok.bytes⟩
    have R : Hid (PadAt K (w.setCell ⟨g, 4, none⟩ (.int .i64 (s.calls - 1))) g { s with calls := s.calls - 1 }) :=
      PadAt.boxed (s := s) ok' h.out hb ho h4 h5 hps (hb.set4 _) (h6.leafs (Leafs.pad hb 4 _)) (fun b _ hb => same_set b hb) (Leafs.pad hb 4 _)
    have S : Hid (Stay K w (w.setCell ⟨g, 4, none⟩ (.int .i64 (s.calls - 1)))) := (Stay.refl K w).setCell (p := ⟨g, 4, none⟩) h.out _
    by_cases h1 : 1 < s.calls
    · have e : s.trips = ({ s with calls := s.calls - 1 }, false) := by unfold PadS.trips; rw [if_neg h0, if_pos h1]
      rw [e]
      have h1' : 0 < s.calls - 1 := by omega
      clear hps ho h hb h4 h5 h6 e ok' h0
      go_enter Try.func22, Try.ntmps22
      go_wp2
      go_ret
      exact ⟨rfl, R.out, S.out⟩
    · have e : s.trips = (PadS.crash { s with calls := s.calls - 1 } s.keep s.torn, true) := by unfold PadS.trips; rw [if_neg h0, if_neg h1]
      rw [e]
      obtain ⟨ka, kc, hkv, hkc, hkr⟩ := h6.keepR
      subst hkv
      have HKR : Hid (KeepR K (w.setCell ⟨g, 4, none⟩ (.int .i64 (s.calls - 1))) ka s.keep) := hkr.same S.out (Leafs.pad hb 4 _)
      have hkl := h.ok.keep
      have h1' : s.calls = 1 := by omega
      rw [h1'] at c4 R S HKR
      rw [h1']
      rw [show (1 : Int) - 1 = 0 from rfl] at R S HKR ⊢
      clear hps ho h hb h4 h5 h6 e ok' h0 d0 h1 hkr h1' hcalls
      go_enter Try.func22, Try.ntmps22
      go_wp2_with fail
      go_region_with (first | (go_at_call 14; refine (crash_any K g ka _ kc s.keep s.torn { s with calls := 0 } _ (by exact R.out.stay (fun b _ hk => ⟨rfl, hk⟩)) rfl (by omega) (by exact HKR.out)).mono ?_; rintro e w1 ⟨rfl, hp1, hs1⟩))
      all_goals
        go_wp2
        go_ret
        exact ⟨rfl, hp1, S.out.drew.trans hs1⟩

set_option maxHeartbeats 1000000 in
theorem sync_any (K : Nat → Prop) (g : Nat) (s : PadS) (w : World) (h : PadAt K w g s) :
    Calls Try.prog 8 #[vP g] w fun e w' => e = .returned (.int .i64 s.sync.2) ∧ PadAt K w' g s.sync.1 ∧ Stay K w w' := by
  obtain ⟨v, ps, kv, hb, hps, ho, h4, h5, h6⟩ := h.lies
  obtain ⟨c0, c1, c2, c3, c4, c5, c6⟩ := hb.cells
  have HP : Hid (PadAt K w g s) := h
  clear hps ho h hb h4 h5 h6
  by_cases hoff : s.off = true
  · have e : s.sync = (s, 5) := by unfold PadS.sync; rw [if_pos hoff]
    rw [e]
    rw [hoff] at c2
    clear e hoff
    go_enter Try.func8, Try.ntmps8
    go_wp2
    go_ret
    exact ⟨rfl, HP.out, Stay.refl _ _⟩
  · have hoff' : s.off = false := by simpa using hoff
    rw [hoff'] at c2
    obtain ⟨t, ht⟩ : ∃ t, t = s.trips := ⟨_, rfl⟩
    obtain ⟨s1, b⟩ := t
    have C := trips_any K g s
    rw [← ht] at C
    simp only at C
    have HC : Hid (∀ w, PadAt K w g s → Calls Try.prog 22 #[vP g] w fun e w' => e = .returned (.bool b) ∧ PadAt K w' g s1 ∧ Stay K w w') := C
    cases b
    · have e : s.sync = ({ s1 with safe := s1.slots.length }, 0) := by
        unfold PadS.sync
        rw [if_neg hoff, ← ht, if_neg (by simp)]
      rw [e]
      clear e hoff hoff' ht C
      go_enter Try.func8, Try.ntmps8
      go_wp2_with fail
      refine (HC.out _ HP.out).mono ?_
      rintro e w1 ⟨rfl, hp1, hs1⟩
      obtain ⟨v2, ps2, kv2, hb2, hps2, ho2, h42, h52, h62⟩ := hp1.lies
      obtain ⟨e0, e1, e2, e3, e4, e5, e6⟩ := hb2.cells
      have f1 := hb2.free 1
      obtain ⟨a2, cap2, rfl, hc2⟩ := ownsRow_slice ho2
      have hl2 : ps2.length = s1.slots.length := by rw [← hps2]; simp
      have hr2 := hp1.ok.room
      have R : Hid (PadAt K (w1.setCell ⟨g, 1, none⟩ (.int .i64 (ps2.length : Int))) g { s1 with safe := s1.slots.length }) := by
        refine PadAt.boxed (s := s1) (s' := { s1 with safe := s1.slots.length }) ⟨Nat.le_refl _, hp1.ok.room, hp1.ok.calls, hp1.ok.keep, hp1.ok.bytes⟩ hp1.out hb2 ho2 h42 h52 hps2 ?_ (h62.leafs (Leafs.pad hb2 1 _)) (fun b _ hb => same_set b hb) (Leafs.pad hb2 1 _)
        have := hb2.set1 (ps2.length : Int)
        rw [hl2] at this
        rw [hl2]
        exact this
      have S : Hid (Stay K w (w1.setCell ⟨g, 1, none⟩ (.int .i64 (ps2.length : Int)))) := hs1.setCell (p := ⟨g, 1, none⟩) hp1.out _
      have hr3 : ps2.length ≤ 4000 := by rw [hl2]; exact hr2
      clear hps2 hp1 hs1 ho2 h42 h52 h62 hb2 hl2 hr2
      go_wp2
      go_ret
      exact ⟨rfl, R.out, S.out⟩
    · have e : s.sync = (s1, 5) := by
        unfold PadS.sync
        rw [if_neg hoff, ← ht, if_pos rfl]
      rw [e]
      clear e hoff hoff' ht C
      go_enter Try.func8, Try.ntmps8
      go_wp2_with fail
      refine (HC.out _ HP.out).mono ?_
      rintro e w1 ⟨rfl, hp1, hs1⟩
      go_wp2
      go_ret
      exact ⟨rfl, hp1, hs1⟩

/-- What is armed is laid. -/
theorem trip_set {K : Nat → Prop} {w w1 : World} {g : Nat} {s : PadS} {n torn : Int} {u : Value} {l : List Bool} (h0 : PadAt K w g s) (hK : ∀ b, K b → b < w.heap.size) (hk : KeepV K w1 u l) (hb1 : Below w.heap.size w w1) (h1 : 1 ≤ n) (hn64 : n ≤ 9223372036854775807) (hl : l.length ≤ 4000) :
    PadAt K (((w1.setCell ⟨g, 4, none⟩ (.int .i64 n)).setCell ⟨g, 5, none⟩ u).setCell ⟨g, 6, none⟩ (.int .i64 torn)) g { s with calls := n, keep := l, torn := torn } ∧ Stay K w (((w1.setCell ⟨g, 4, none⟩ (.int .i64 n)).setCell ⟨g, 5, none⟩ u).setCell ⟨g, 6, none⟩ (.int .i64 torn)) := by
  have h := h0.later hb1
  obtain ⟨v, ps, kv, hb, hps, ho, h4, h5, h6⟩ := h.lies
  have L3 := ((Leafs.pad hb 4 (.int .i64 n)).trans (Leafs.pad (hb.set4 n) 5 u)).trans (Leafs.pad ((hb.set4 n).set5 u) 6 (.int .i64 torn))
  refine ⟨PadAt.boxed (s := s) (s' := { s with calls := n, keep := l, torn := torn }) ⟨h.ok.safe, h.ok.room, by simp only; omega, hl, h.ok.bytes⟩ h.out hb ho h4 h5 hps (((hb.set4 n).set5 u).set6 torn) (hk.leafs L3) (fun b _ hb => by rw [same_set b hb, same_set b hb, same_set b hb]) L3, ?_⟩
  exact (((Stay.of_below hb1 hK).setCell (p := ⟨g, 4, none⟩) h.out _).setCell (p := ⟨g, 5, none⟩) h.out _).setCell (p := ⟨g, 6, none⟩) h.out _

set_option maxHeartbeats 1000000 in
theorem trip_any (K : Nat → Prop) (g : Nat) (n : Int) (ka : Option Addr) (kn kc : Nat) (keep : List Bool) (torn : Int) (s : PadS) (w : World) (hK : ∀ b, K b → b < w.heap.size) (hn64 : n ≤ 9223372036854775807) (h : PadAt K w g s) (hn : keep.length = kn) (hc : kn ≤ kc) (hl : kn ≤ 9223372036854775807) (hnil : ka = none → keep = [] ∧ kc = 0) (hr : RdO w ka keep) :
    Calls Try.prog 16 #[vP g, .int .i64 n, .slice ka kn kc, .int .i64 torn] w fun e w' => e = .returned (.tuple #[]) ∧ PadAt K w' g (s.trip n keep torn) ∧ Stay K w w' := by
  obtain ⟨v, ps, kv, hb, hps, ho, h4, h5, h6⟩ := h.lies
  obtain ⟨c0, c1, c2, c3, c4, c5, c6⟩ := hb.cells
  have f4 := hb.free 4
  have f5 := hb.free 5
  have f6 := hb.free 6
  by_cases h1 : n < 1
  · have e : s.trip n keep torn = { s with calls := 0, keep := [], torn := 0 } := by unfold PadS.trip; rw [if_pos h1]
    rw [e]
    have L3 := ((Leafs.pad hb 4 (.int .i64 0)).trans (Leafs.pad (hb.set4 0) 5 (.slice none 0 0))).trans (Leafs.pad ((hb.set4 0).set5 (.slice none 0 0)) 6 (.int .i64 0))
    have R : Hid (PadAt K (((w.setCell ⟨g, 4, none⟩ (.int .i64 0)).setCell ⟨g, 5, none⟩ (.slice none 0 0)).setCell ⟨g, 6, none⟩ (.int .i64 0)) g { s with calls := 0, keep := [], torn := 0 }) :=
      PadAt.boxed (s := s) (s' := { s with calls := 0, keep := [], torn := 0 }) ⟨h.ok.safe, h.ok.room, by simp, by simp, h.ok.bytes⟩ h.out hb ho h4 h5 hps (((hb.set4 0).set5 (.slice none 0 0)).set6 0) (KeepV.nought _ _) (fun b _ hb => by rw [same_set b hb, same_set b hb, same_set b hb]) L3
    have S : Hid (Stay K w (((w.setCell ⟨g, 4, none⟩ (.int .i64 0)).setCell ⟨g, 5, none⟩ (.slice none 0 0)).setCell ⟨g, 6, none⟩ (.int .i64 0))) := (((Stay.refl K w).setCell (p := ⟨g, 4, none⟩) h.out _).setCell (p := ⟨g, 5, none⟩) h.out _).setCell (p := ⟨g, 6, none⟩) h.out _
    clear hps ho h hb h4 h5 h6 e L3 hr hnil hK hn
    go_enter Try.func16, Try.ntmps16
    go_wp2
    refine bodyPost_ret (results_none rfl _ _ _) rfl ?_
    exact ⟨rfl, R.out, S.out⟩
  · have e : s.trip n keep torn = { s with calls := n, keep := keep.take 4000, torn := torn } := by unfold PadS.trip; rw [if_neg h1]
    rw [e]
    have h1' : 1 ≤ n := by omega
    have HP : Hid (PadAt K w g s) := h
    have HK : Hid (∀ b, K b → b < w.heap.size) := hK
    by_cases hkn : kn ≤ 4000
    · have C := clone_any K ka kn kc (keep.take 4000) w hK (by simp; omega) hkn (fun e => ⟨by rw [(hnil e).1]; rfl, (hnil e).2⟩) (hr.take 4000)
      have HC : Hid (Calls Try.prog 24 #[.slice ka kn kc] w fun e w' => ∃ v, e = .returned v ∧ KeepV K w' v (keep.take 4000) ∧ Below w.heap.size w w') := C
      clear hps ho h hb h4 h5 h6 e hr hnil hK hn C c0 c1 c2 c3 c4 c5 c6 f4 f5 f6 h1
      go_enter Try.func16, Try.ntmps16
      go_wp2_with fail
      refine HC.out.mono ?_
      rintro e w1 ⟨u, rfl, hk1, hb1⟩
      obtain ⟨R, S⟩ := trip_set (n := n) (torn := torn) HP.out HK.out hk1 hb1 h1' hn64 (by simp; omega)
      obtain ⟨v2, ps2, kv2, hb2, _⟩ := (HP.out.later hb1).lies
      obtain ⟨e0, e1, e2, e3, e4, e5, e6⟩ := hb2.cells
      have f4 := hb2.free 4
      have f5 := hb2.free 5
      have f6 := hb2.free 6
      have R' : Hid _ := R
      have S' : Hid _ := S
      clear R S hb1 hb2
      obtain ⟨ua, uc, hu, _⟩ := hk1
      generalize (keep.take 4000).length = ul at hu
      subst hu
      go_wp2
      go_end0
      exact ⟨rfl, R'.out, S'.out⟩
    · have C := clone_any K ka 4000 kc (keep.take 4000) w hK (by simp; omega) (Nat.le_refl _) (fun e => ⟨by rw [(hnil e).1]; rfl, (hnil e).2⟩) (hr.take 4000)
      have HC : Hid (Calls Try.prog 24 #[.slice ka 4000 kc] w fun e w' => ∃ v, e = .returned v ∧ KeepV K w' v (keep.take 4000) ∧ Below w.heap.size w w') := C
      clear hps ho h hb h4 h5 h6 e hr hnil hK hn C c0 c1 c2 c3 c4 c5 c6 f4 f5 f6 h1
      go_enter Try.func16, Try.ntmps16
      go_wp2_with fail
      refine HC.out.mono ?_
      rintro e w1 ⟨u, rfl, hk1, hb1⟩
      obtain ⟨R, S⟩ := trip_set (n := n) (torn := torn) HP.out HK.out hk1 hb1 h1' hn64 (by simp; omega)
      obtain ⟨v2, ps2, kv2, hb2, _⟩ := (HP.out.later hb1).lies
      obtain ⟨e0, e1, e2, e3, e4, e5, e6⟩ := hb2.cells
      have f4 := hb2.free 4
      have f5 := hb2.free 5
      have f6 := hb2.free 6
      have R' : Hid _ := R
      have S' : Hid _ := S
      clear R S hb1 hb2
      obtain ⟨ua, uc, hu, _⟩ := hk1
      generalize (keep.take 4000).length = ul at hu
      subst hu
      go_wp2
      go_end0
      exact ⟨rfl, R'.out, S'.out⟩

end Go.Proofs.Ytdeeagphipfcaab
