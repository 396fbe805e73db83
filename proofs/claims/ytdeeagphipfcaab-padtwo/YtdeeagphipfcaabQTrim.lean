/-
  What a pad's Trim and Cut do, of the landed code.
-/
import Derived.Test.YtdeeagphipfcaabRows
import Derived.Test.YtdeeagphipfcaabQTrips
import Derived.WalkKit
import Derived.WalkSpells
import Derived.Deep.RegionWith
namespace Go.Proofs.Ytdeeagphipfcaab
open Go.RowKit Go.Lib
set_option linter.unusedVariables false

/-- A pad whose slots were taken away in part: what stands is ps'. -/
theorem PadAt.fewer {K : Nat → Prop} {w w' : World} {g : Nat} {s : PadS} {v kv v' : Value} {ps ps' : List SlotP} {safe : Nat} (hK : ∀ b, K b → b < w.heap.size) (h : PadAt K w g s) (hb : PadBox w g v (s.safe : Int) s.off s.life s.calls kv s.torn)
    (ho : w.ownsRow 0 52 2 v ps.length (cellsQ ps)) (h4 : ∀ b, v.ownBlock = some b → ¬ K b) (h5 : ∀ p ∈ ps, SlotV K w p.1 p.2) (h6 : KeepV K w kv s.keep) (hps : ps.map Prod.snd = s.slots)
    (ho' : w'.ownsRow 0 52 2 v' ps'.length (cellsQ ps')) (hbl : v'.ownBlock = v.ownBlock) (hg : w.grownBy w' v.ownBlock) (hsub : ∀ p ∈ ps', p ∈ ps) (hle : ps'.length ≤ ps.length) (hsafe : safe ≤ ps'.length) :
    PadBox w' g v (s.safe : Int) s.off s.life s.calls kv s.torn ∧ PadAt K ((w'.setCell ⟨g, 0, none⟩ v').setCell ⟨g, 1, none⟩ (.int .i64 (safe : Int))) g { s with slots := ps'.map Prod.snd, safe := safe } ∧ Stay K w ((w'.setCell ⟨g, 0, none⟩ v').setCell ⟨g, 1, none⟩ (.int .i64 (safe : Int))) := by
  have hne : ∀ k, v.ownBlock = some k → k ≠ g ∧ ∃ cs t, w.heap[k]? = some (.cells cs t (0, 0)) ∧ t ≠ 5 ∧ t ≠ 4 := by
    intro k hk
    rcases ho.2 with ⟨rfl, _⟩ | ⟨r', cap', cur, rfl, _, hh, _⟩
    · cases hk
    · simp [Value.ownBlock] at hk
      subst hk
      refine ⟨fun e => ?_, cur, _, hh, by decide, by decide⟩
      subst e
      unfold PadBox at hb
      rw [hh] at hb
      cases hb
  have hWg : w'.heap[g]? = w.heap[g]? := hg.block g hb.lt (fun e => (hne g e.symm).1 rfl)
  have hb1 := hb.same hWg
  have lf := (Leafs.grown hg (fun k hk => (hne k hk).2)).trans ((Leafs.pad hb1 0 v').trans (Leafs.pad (hb1.set0 v') 1 (.int .i64 (safe : Int))))
  have hst : Stay K w w' := (Stay.refl K w).grown hg hK (fun k hk => h4 k hk)
  have hlen : ps.length = s.slots.length := by rw [← hps]; simp
  refine ⟨hb1, ?_, (hst.setCell (p := ⟨g, 0, none⟩) h.out _).setCell (p := ⟨g, 1, none⟩) h.out _⟩
  refine ⟨⟨by simpa using hsafe, by have := h.ok.room; simp; omega, h.ok.calls, h.ok.keep, fun b hb' => ?_⟩, h.out, v', ps', kv, (hb1.set0 v').set1 _, rfl, ⟨ho'.1, ?_⟩, fun b e => h4 b (hbl ▸ e), fun p hp => (h5 p (hsub p hp)).leafs lf, h6.leafs lf⟩
  · obtain ⟨p, hp, e⟩ := List.mem_map.1 hb'
    exact h.ok.bytes b (by rw [← hps, ← e]; exact List.mem_map.2 ⟨p, hsub p hp, rfl⟩)
  · rcases ho'.2 with h7 | ⟨r', cap', cur, hv', hg', hh, hc⟩
    · exact .inl h7
    · have hrg : r' ≠ g := (hne r' (by rw [← hbl, hv']; rfl)).1
      exact .inr ⟨r', cap', cur, hv', hg', ((same_set r' hrg).trans (same_set r' hrg)).trans hh, hc⟩

theorem PadS.trips_no {s : PadS} (h : s.trips.2 = false) : s.trips.1.slots = s.slots ∧ s.trips.1.safe = s.safe ∧ s.trips.1.off = s.off ∧ s.trips.1.life = s.life ∧ s.trips.1.keep = s.keep ∧ s.trips.1.torn = s.torn := by
  unfold PadS.trips at h ⊢
  split
  · exact ⟨rfl, rfl, rfl, rfl, rfl, rfl⟩
  · rename_i h0
    rw [if_neg h0] at h
    split
    · exact ⟨rfl, rfl, rfl, rfl, rfl, rfl⟩
    · rename_i h1
      rw [if_neg h1] at h
      cases h

set_option maxHeartbeats 1000000 in
theorem trim_any (K : Nat → Prop) (g : Nat) (n : Int) (s : PadS) (w : World) (hK : ∀ b, K b → b < w.heap.size) (h : PadAt K w g s) :
    Calls Try.prog 9 #[vP g, .int .i64 n] w fun e w' => e = .returned (.int .i64 (s.trim n).2) ∧ PadAt K w' g (s.trim n).1 ∧ Stay K w w' := by
  obtain ⟨v, ps, kv, hb, hps, ho, h4, h5, h6⟩ := h.lies
  obtain ⟨c0, c1, c2, c3, c4, c5, c6⟩ := hb.cells
  have HP : Hid (PadAt K w g s) := h
  have HK : Hid (∀ b, K b → b < w.heap.size) := hK
  have hroom := h.ok.room
  have hsafe := h.ok.safe
  clear hps ho h hb h4 h5 h6 hK
  by_cases hoff : s.off = true
  · have e : s.trim n = (s, 5) := by unfold PadS.trim; rw [if_pos hoff]
    rw [e]
    rw [hoff] at c2
    clear e hoff
    go_enter Try.func9, Try.ntmps9
    go_wp2
    go_ret
    exact ⟨rfl, HP.out, Stay.refl _ _⟩
  · have hoff' : s.off = false := by simpa using hoff
    rw [hoff'] at c2
    by_cases h1 : n < 0 ∨ (s.safe : Int) < n
    · have e : s.trim n = (s, 1) := by unfold PadS.trim; rw [if_neg hoff, if_pos h1]
      rw [e]
      clear e hoff hoff'
      rcases h1 with h1 | h1
      · go_enter Try.func9, Try.ntmps9
        go_wp2
        go_ret
        exact ⟨rfl, HP.out, Stay.refl _ _⟩
      · have h2 : 0 ≤ n := by omega
        go_enter Try.func9, Try.ntmps9
        go_wp2
        go_ret
        exact ⟨rfl, HP.out, Stay.refl _ _⟩
    · obtain ⟨k, rfl⟩ := Int.eq_ofNat_of_zero_le (show 0 ≤ n by omega)
      have hk : k ≤ s.safe := by omega
      have hk' : (k : Int) ≤ (s.safe : Int) := by omega
      obtain ⟨t, ht⟩ : ∃ t, t = s.trips := ⟨_, rfl⟩
      have hno := PadS.trips_no (s := s)
      rw [← ht] at hno
      obtain ⟨s1, tb⟩ := t
      simp only at hno
      have C := trips_any K g s
      rw [← ht] at C
      simp only at C
      have HC : Hid (∀ w, PadAt K w g s → Calls Try.prog 22 #[vP g] w fun e w' => e = .returned (.bool tb) ∧ PadAt K w' g s1 ∧ Stay K w w') := C
      cases tb
      · obtain ⟨n1, n2, _⟩ := hno rfl
        have e : s.trim (k : Int) = ({ s1 with slots := s1.slots.drop k, safe := s1.safe - k }, 0) := by
          unfold PadS.trim
          rw [if_neg hoff, if_neg h1, ← ht, if_neg (by simp), Int.toNat_natCast]
        rw [e]
        have hk1 : k ≤ s1.safe := by rw [n2]; exact hk
        clear e hoff hoff' C ht n1 n2 h1 hno
        go_enter Try.func9, Try.ntmps9
        go_wp2_with fail
        refine (HC.out _ HP.out).mono ?_
        rintro e w1 ⟨rfl, hp1, hs1⟩
        have hroom1 := hp1.ok.room
        have hsafe1 := hp1.ok.safe
        obtain ⟨v2, ps2, kv2, hb2, hps2, ho2, h42, h52, h62⟩ := hp1.lies
        obtain ⟨a2, cap2, rfl, hc2⟩ := ownsRow_slice ho2
        obtain ⟨e0, e1, e2, e3, e4, e5, e6⟩ := hb2.cells
        have hl2 : Hid (ps2.length = s1.slots.length) := by rw [← hps2]; simp [Hid]
        have hm2 : ps2.length ≤ 4000 := by rw [hl2.out]; exact hroom1
        have hm3 : s1.safe ≤ ps2.length := by rw [hl2.out]; exact hsafe1
        have HPS : Hid (ps2.map Prod.snd = s1.slots) := hps2
        clear hps2
        have hb2' : Hid (PadBox w1 g (.slice a2 ps2.length cap2) (s1.safe : Int) s1.off s1.life s1.calls kv2 s1.torn) := hb2
        have D := delete_any (.slice a2 ps2.length cap2) ps2.length 0 k ps2 w1 rfl (by omega) (Nat.zero_le _) (by omega) (fun p hp => (h52 p hp).one) ho2
        have HD : Hid (Calls Try.prog 23 #[.slice a2 ps2.length cap2, .int .i64 0, .int .i64 k] w1 fun e w' => ∃ v', e = .returned v' ∧ w'.ownsRow 0 52 2 v' (ps2.take 0 ++ ps2.drop k).length (cellsQ (ps2.take 0 ++ ps2.drop k)) ∧ v'.ownBlock = (Value.slice a2 ps2.length cap2).ownBlock ∧ w1.grownBy w' (Value.slice a2 ps2.length cap2).ownBlock) := D
        have HK1 : ∀ b, K b → b < w1.heap.size := fun b hb => Nat.lt_of_lt_of_le (HK.out b hb) hs1.size
        clear D hb2
        go_wp2_with fail
        refine HD.out.mono ?_
        rintro e w2 ⟨v', rfl, ho3, hbl3, hg3⟩
        have F := PadAt.fewer (safe := s1.safe - k) HK1 hp1 hb2'.out ho2 h42 h52 h62 HPS.out ho3 hbl3 hg3 (fun p hp => by simp at hp; exact List.mem_of_mem_drop hp) (by simp) (by simp; omega)
        obtain ⟨B3, P3, S3⟩ := F
        obtain ⟨d0, d1, d2, d3, d4, d5, d6⟩ := B3.cells
        have f0 := B3.free 0
        have f1 := B3.free 1
        obtain ⟨a3, cap3, hv3, hc3⟩ := ownsRow_slice ho3
        subst hv3
        have eP : (ps2.take 0 ++ ps2.drop k).map Prod.snd = s1.slots.drop k := by rw [← HPS.out]; simp
        rw [eP] at P3
        have HP3 : Hid _ := P3
        have HS3 : Hid _ := hs1.trans S3
        have es : ((s1.safe - k : Nat) : Int) = (s1.safe : Int) - (k : Int) := by omega
        rw [es] at HP3 HS3
        clear P3 S3 B3 ho3 hbl3 hg3 eP hc3 ho2 h42 h52 h62 es hp1 hs1 hc2
        generalize (ps2.take 0 ++ ps2.drop k).length = m3 at *
        go_wp2
        go_ret
        exact ⟨rfl, HP3.out, HS3.out⟩
      · have e : s.trim (k : Int) = (s1, 5) := by
          unfold PadS.trim
          rw [if_neg hoff, if_neg h1, ← ht, if_pos rfl]
        rw [e]
        clear e hoff hoff' C ht h1 hno
        go_enter Try.func9, Try.ntmps9
        go_wp2_with fail
        refine (HC.out _ HP.out).mono ?_
        rintro e w1 ⟨rfl, hp1, hs1⟩
        go_wp2
        go_ret
        exact ⟨rfl, hp1, hs1⟩

set_option maxHeartbeats 1000000 in
theorem cut_any (K : Nat → Prop) (g : Nat) (n : Int) (s : PadS) (w : World) (hK : ∀ b, K b → b < w.heap.size) (h : PadAt K w g s) :
    Calls Try.prog 13 #[vP g, .int .i64 n] w fun e w' => e = .returned (.int .i64 (s.cut n).2) ∧ PadAt K w' g (s.cut n).1 ∧ Stay K w w' := by
  obtain ⟨v, ps, kv, hb, hps, ho, h4, h5, h6⟩ := h.lies
  obtain ⟨c0, c1, c2, c3, c4, c5, c6⟩ := hb.cells
  have HP : Hid (PadAt K w g s) := h
  have HK : Hid (∀ b, K b → b < w.heap.size) := hK
  have hroom := h.ok.room
  have hsafe := h.ok.safe
  obtain ⟨va, vc, rfl, hvc⟩ := ownsRow_slice ho
  have hlen : ps.length = s.slots.length := by rw [← hps]; simp
  rw [hlen] at c0 hvc
  clear hps ho h hb h4 h5 h6 hK hlen
  by_cases hoff : s.off = true
  · have e : s.cut n = (s, 5) := by unfold PadS.cut; rw [if_pos hoff]
    rw [e]
    rw [hoff] at c2
    clear e hoff
    go_enter Try.func13, Try.ntmps13
    go_wp2
    go_ret
    exact ⟨rfl, HP.out, Stay.refl _ _⟩
  · have hoff' : s.off = false := by simpa using hoff
    rw [hoff'] at c2
    by_cases h1 : n < 0 ∨ (s.slots.length : Int) < n
    · have e : s.cut n = (s, 1) := by unfold PadS.cut; rw [if_neg hoff, if_pos h1]
      rw [e]
      clear e hoff hoff'
      rcases h1 with h1 | h1
      · go_enter Try.func13, Try.ntmps13
        go_wp2
        go_ret
        exact ⟨rfl, HP.out, Stay.refl _ _⟩
      · have h2 : 0 ≤ n := by omega
        go_enter Try.func13, Try.ntmps13
        go_wp2
        go_ret
        exact ⟨rfl, HP.out, Stay.refl _ _⟩
    · obtain ⟨k, rfl⟩ := Int.eq_ofNat_of_zero_le (show 0 ≤ n by omega)
      have hk : k ≤ s.slots.length := by omega
      have hk' : (k : Int) ≤ (s.slots.length : Int) := by omega
      obtain ⟨t, ht⟩ : ∃ t, t = s.trips := ⟨_, rfl⟩
      have hno := PadS.trips_no (s := s)
      rw [← ht] at hno
      obtain ⟨s1, tb⟩ := t
      simp only at hno
      have C := trips_any K g s
      rw [← ht] at C
      simp only at C
      have HC : Hid (∀ w, PadAt K w g s → Calls Try.prog 22 #[vP g] w fun e w' => e = .returned (.bool tb) ∧ PadAt K w' g s1 ∧ Stay K w w') := C
      cases tb
      · obtain ⟨n1, n2, _⟩ := hno rfl
        have e : s.cut (k : Int) = ({ s1 with slots := s1.slots.take k, safe := min s1.safe k }, 0) := by
          unfold PadS.cut
          rw [if_neg hoff, if_neg h1, ← ht, if_neg (by simp), Int.toNat_natCast]
        rw [e]
        have hk1 : k ≤ s1.slots.length := by rw [n1]; exact hk
        clear e hoff hoff' C ht n1 n2 h1 hno
        by_cases hsk : s1.safe ≤ k
        · have es : ((min s1.safe k : Nat) : Int) = (s1.safe : Int) := by omega
          go_enter Try.func13, Try.ntmps13
          go_wp2_with fail
          refine (HC.out _ HP.out).mono ?_
          rintro e w1 ⟨rfl, hp1, hs1⟩
          have hroom1 := hp1.ok.room
          have hsafe1 := hp1.ok.safe
          obtain ⟨v2, ps2, kv2, hb2, hps2, ho2, h42, h52, h62⟩ := hp1.lies
          obtain ⟨a2, cap2, rfl, hc2⟩ := ownsRow_slice ho2
          obtain ⟨e0, e1, e2, e3, e4, e5, e6⟩ := hb2.cells
          have hl2 : Hid (ps2.length = s1.slots.length) := by rw [← hps2]; simp [Hid]
          have hm2 : ps2.length ≤ 4000 := by rw [hl2.out]; exact hroom1
          have hm3 : s1.safe ≤ ps2.length := by rw [hl2.out]; exact hsafe1
          have hm4 : k ≤ ps2.length := by rw [hl2.out]; exact hk1
          have HPS : Hid (ps2.map Prod.snd = s1.slots) := hps2
          have D := delete_any (.slice a2 ps2.length cap2) ps2.length k ps2.length ps2 w1.drew rfl hm2 hm4 (Nat.le_refl _) (fun p hp => (h52 p hp).one) ho2
          have HD : Hid (Calls Try.prog 23 #[.slice a2 ps2.length cap2, .int .i64 k, .int .i64 ps2.length] w1.drew fun e w' => ∃ v', e = .returned v' ∧ w'.ownsRow 0 52 2 v' (ps2.take k ++ ps2.drop ps2.length).length (cellsQ (ps2.take k ++ ps2.drop ps2.length)) ∧ v'.ownBlock = (Value.slice a2 ps2.length cap2).ownBlock ∧ w1.drew.grownBy w' (Value.slice a2 ps2.length cap2).ownBlock) := D
          have HK1 : ∀ b, K b → b < w1.drew.heap.size := fun b hb => Nat.lt_of_lt_of_le (HK.out b hb) hs1.size
          have HF : Hid (∀ v' w2, w2.ownsRow 0 52 2 v' (ps2.take k ++ ps2.drop ps2.length).length (cellsQ (ps2.take k ++ ps2.drop ps2.length)) → v'.ownBlock = (Value.slice a2 ps2.length cap2).ownBlock → w1.drew.grownBy w2 (Value.slice a2 ps2.length cap2).ownBlock →
              PadBox w2 g (.slice a2 ps2.length cap2) (s1.safe : Int) s1.off s1.life s1.calls kv2 s1.torn ∧ PadAt K ((w2.setCell ⟨g, 0, none⟩ v').setCell ⟨g, 1, none⟩ (.int .i64 (s1.safe : Int))) g { s1 with slots := s1.slots.take k, safe := min s1.safe k } ∧ Stay K w ((w2.setCell ⟨g, 0, none⟩ v').setCell ⟨g, 1, none⟩ (.int .i64 (s1.safe : Int)))) := by
            intro v' w2 ho3 hbl3 hg3
            obtain ⟨B3, P3, S3⟩ := PadAt.fewer (w := w1.drew) (safe := min s1.safe k) HK1 hp1.drew hb2 ho2 h42 h52 h62 hps2 ho3 hbl3 hg3 (fun p hp => by simp at hp; exact List.mem_of_mem_take hp) (by simp; omega) (by simp; omega)
            have eP : (ps2.take k ++ ps2.drop ps2.length).map Prod.snd = s1.slots.take k := by rw [← hps2]; simp
            rw [eP, es] at P3
            rw [es] at S3
            exact ⟨B3, P3, hs1.drew.trans S3⟩
          clear D hb2 hps2 hp1 hs1 ho2 h42 h52 h62 HK1 es
          go_wp2_with fail
          go_region_with (first | (go_at_call 23; refine HD.out.mono ?_; rintro e w2 ⟨v', rfl, ho3, hbl3, hg3⟩; obtain ⟨B3, P3, S3⟩ := HF.out v' w2 ho3 hbl3 hg3; obtain ⟨d0, d1, d2, d3, d4, d5, d6⟩ := B3.cells; have f0 := B3.free 0; have f1 := B3.free 1; obtain ⟨a3, cap3, hv3, hc3⟩ := ownsRow_slice ho3; clear ho3 hbl3 hg3; generalize (ps2.take k ++ ps2.drop ps2.length).length = m3 at hv3 hc3; subst hv3))
          all_goals
            have HP3 : Hid _ := P3
            have HS3 : Hid _ := S3
            clear P3 S3 B3 hc3
            go_wp2
            go_ret
            exact ⟨rfl, HP3.out, HS3.out⟩
        · have es : ((min s1.safe k : Nat) : Int) = (k : Int) := by omega
          go_enter Try.func13, Try.ntmps13
          go_wp2_with fail
          refine (HC.out _ HP.out).mono ?_
          rintro e w1 ⟨rfl, hp1, hs1⟩
          have hroom1 := hp1.ok.room
          have hsafe1 := hp1.ok.safe
          obtain ⟨v2, ps2, kv2, hb2, hps2, ho2, h42, h52, h62⟩ := hp1.lies
          obtain ⟨a2, cap2, rfl, hc2⟩ := ownsRow_slice ho2
          obtain ⟨e0, e1, e2, e3, e4, e5, e6⟩ := hb2.cells
          have hl2 : Hid (ps2.length = s1.slots.length) := by rw [← hps2]; simp [Hid]
          have hm2 : ps2.length ≤ 4000 := by rw [hl2.out]; exact hroom1
          have hm3 : s1.safe ≤ ps2.length := by rw [hl2.out]; exact hsafe1
          have hm4 : k ≤ ps2.length := by rw [hl2.out]; exact hk1
          have HPS : Hid (ps2.map Prod.snd = s1.slots) := hps2
          have D := delete_any (.slice a2 ps2.length cap2) ps2.length k ps2.length ps2 w1.drew rfl hm2 hm4 (Nat.le_refl _) (fun p hp => (h52 p hp).one) ho2
          have HD : Hid (Calls Try.prog 23 #[.slice a2 ps2.length cap2, .int .i64 k, .int .i64 ps2.length] w1.drew fun e w' => ∃ v', e = .returned v' ∧ w'.ownsRow 0 52 2 v' (ps2.take k ++ ps2.drop ps2.length).length (cellsQ (ps2.take k ++ ps2.drop ps2.length)) ∧ v'.ownBlock = (Value.slice a2 ps2.length cap2).ownBlock ∧ w1.drew.grownBy w' (Value.slice a2 ps2.length cap2).ownBlock) := D
          have HK1 : ∀ b, K b → b < w1.drew.heap.size := fun b hb => Nat.lt_of_lt_of_le (HK.out b hb) hs1.size
          have HF : Hid (∀ v' w2, w2.ownsRow 0 52 2 v' (ps2.take k ++ ps2.drop ps2.length).length (cellsQ (ps2.take k ++ ps2.drop ps2.length)) → v'.ownBlock = (Value.slice a2 ps2.length cap2).ownBlock → w1.drew.grownBy w2 (Value.slice a2 ps2.length cap2).ownBlock →
              PadBox w2 g (.slice a2 ps2.length cap2) (s1.safe : Int) s1.off s1.life s1.calls kv2 s1.torn ∧ PadAt K ((w2.setCell ⟨g, 0, none⟩ v').setCell ⟨g, 1, none⟩ (.int .i64 (k : Int))) g { s1 with slots := s1.slots.take k, safe := min s1.safe k } ∧ Stay K w ((w2.setCell ⟨g, 0, none⟩ v').setCell ⟨g, 1, none⟩ (.int .i64 (k : Int)))) := by
            intro v' w2 ho3 hbl3 hg3
            obtain ⟨B3, P3, S3⟩ := PadAt.fewer (w := w1.drew) (safe := min s1.safe k) HK1 hp1.drew hb2 ho2 h42 h52 h62 hps2 ho3 hbl3 hg3 (fun p hp => by simp at hp; exact List.mem_of_mem_take hp) (by simp; omega) (by simp; omega)
            have eP : (ps2.take k ++ ps2.drop ps2.length).map Prod.snd = s1.slots.take k := by rw [← hps2]; simp
            rw [eP, es] at P3
            rw [es] at S3
            exact ⟨B3, P3, hs1.drew.trans S3⟩
          clear D hb2 hps2 hp1 hs1 ho2 h42 h52 h62 HK1 es
          go_wp2_with fail
          go_region_with (first | (go_at_call 23; refine HD.out.mono ?_; rintro e w2 ⟨v', rfl, ho3, hbl3, hg3⟩; obtain ⟨B3, P3, S3⟩ := HF.out v' w2 ho3 hbl3 hg3; obtain ⟨d0, d1, d2, d3, d4, d5, d6⟩ := B3.cells; have f0 := B3.free 0; have f1 := B3.free 1; obtain ⟨a3, cap3, hv3, hc3⟩ := ownsRow_slice ho3; clear ho3 hbl3 hg3; generalize (ps2.take k ++ ps2.drop ps2.length).length = m3 at hv3 hc3; subst hv3))
          all_goals
            have HP3 : Hid _ := P3
            have HS3 : Hid _ := S3
            clear P3 S3 B3 hc3
            go_wp2
            go_ret
            exact ⟨rfl, HP3.out, HS3.out⟩
      · have e : s.cut (k : Int) = (s1, 5) := by
          unfold PadS.cut
          rw [if_neg hoff, if_neg h1, ← ht, if_pos rfl]
        rw [e]
        clear e hoff hoff' C ht h1 hno
        go_enter Try.func13, Try.ntmps13
        go_wp2_with fail
        refine (HC.out _ HP.out).mono ?_
        rintro e w1 ⟨rfl, hp1, hs1⟩
        go_wp2
        go_ret
        exact ⟨rfl, hp1, hs1⟩

end Go.Proofs.Ytdeeagphipfcaab
