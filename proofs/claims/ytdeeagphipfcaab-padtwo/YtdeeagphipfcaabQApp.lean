/-
  What a pad's Append does, of the landed code.
-/
import Derived.Test.YtdeeagphipfcaabRows
import Derived.Test.YtdeeagphipfcaabQTrips
import Derived.WalkKit
import Derived.WalkSpells
import Derived.Deep.RegionLaw
import Derived.Deep.AppendLies
namespace Go.Proofs.Ytdeeagphipfcaab
open Go.RowKit Go.Lib
set_option linter.unusedVariables false

/-- append(p.slots, x), and the slot that it makes. -/
theorem pad_append {K : Nat → Prop} {w0 W : World} {g b q ty : Nat} {s : PadS} {l : List UInt8} {v : Value} (h0 : PadAt K w0 g s) (hK : ∀ b, K b → b < w0.heap.size) (hroom : s.slots.length < 4000) (hv : w0.cell? ⟨g, 0, none⟩ = some v)
    (hb : Below w0.heap.size w0 W) (hrow : Row W b l) (hbl : w0.heap.size ≤ b) (hl : l.length ≤ 65536) (hc0 : W.cell? ⟨q, 0, none⟩ = some (.slice (some ⟨b, 0, none⟩) l.length l.length)) (hc1 : W.cell? ⟨q, 1, none⟩ = some (.bool false)) :
    ∃ r cap W' u, (Builtin.append_ #[45, 45] ty #[v, .slice (some ⟨q, 0, none⟩) 1 1]).run Try.prog W = .ok (.slice (some ⟨r, 0, none⟩) (s.slots.length + 1) cap) W' ∧ W'.cell? ⟨g, 0, none⟩ = some u ∧ W'.frozen? ⟨g, 0, none⟩ = false ∧
      PadAt K (W'.setCell ⟨g, 0, none⟩ (.slice (some ⟨r, 0, none⟩) (s.slots.length + 1) cap)) g { s with slots := s.slots ++ [some l] } ∧ Stay K w0 (W'.setCell ⟨g, 0, none⟩ (.slice (some ⟨r, 0, none⟩) (s.slots.length + 1) cap)) := by
  have h := h0.later hb
  obtain ⟨ok, out, v', ps, kv, h1, h2, h3, h4, h5, h6⟩ := h
  have hvv : v = v' := by
    have e1 := cell_later hb hv
    rw [h1.cells.1] at e1
    exact (Option.some.inj e1).symm
  subst hvv
  have hlen : ps.length = s.slots.length := by rw [← h2]; simp
  obtain ⟨i0, hi, hz0, hz1, hz2⟩ := info_parts Try.infoQ
  obtain ⟨p, hp⟩ : ∃ p : SlotP, p = (.slice (some ⟨b, 0, none⟩) l.length l.length, some l) := ⟨_, rfl⟩
  have hnews : ∀ j u, (cellsQ [p])[j]? = some u → W.cell? ((⟨q, 0, none⟩ : Addr).add j) = some u := by
    intro j u hj
    rw [add_plainQ, Nat.zero_add]
    rw [hp, cellsQ_cons] at hj
    rcases j with _ | _ | j
    · simp at hj; rw [← hj]; exact hc0
    · simp at hj; rw [← hj]; exact hc1
    · simp [cellsQ] at hj
  obtain ⟨r, cap, W', hrun, ho, hgr, hlie, hlt⟩ := run_append_lies (P := Try.prog) W 45 ty 0 52 i0 (.agg #[.slice none 0 0, .bool false]) 2 32 Try.underlying45 hi hz0 hz1 hz2 rfl (by decide) v ps.length (cellsQ ps) h3 ⟨q, 0, none⟩ 1 1 (cellsQ [p]) (by rw [cellsQ_length]; rfl) hnews (cellsQ_one (fun x hx => by rw [List.mem_singleton.1 hx, hp]; rfl)) (by omega) (by unfold maxLen; omega) (by omega) (Nat.zero_le _) W.heap.size rfl
  have hne : ∀ k, v.ownBlock = some k → k ≠ g ∧ ∃ cs t, W.heap[k]? = some (.cells cs t (0, 0)) ∧ t ≠ 5 ∧ t ≠ 4 := by
    intro k hk
    rcases h3.2 with ⟨rfl, _⟩ | ⟨r', cap', cur, rfl, _, hh, _⟩
    · cases hk
    · simp [Value.ownBlock] at hk
      subst hk
      refine ⟨fun e => ?_, cur, _, hh, by decide, by decide⟩
      subst e
      unfold PadBox at h1
      rw [hh] at h1
      cases h1
  have hWg : W'.heap[g]? = W.heap[g]? := hgr.block g h1.lt (fun e => (hne g e.symm).1 rfl)
  have lf : Leafs W W' := Leafs.grown hgr (fun k hk => (hne k hk).2)
  have hb1 := h1.same hWg
  have hKs : ∀ b, K b → b < W.heap.size := fun b hb' => Nat.lt_of_lt_of_le (hK b hb') hb.size
  have hrK : ¬ K r := by
    rcases hlie with e | e
    · exact h4 r e
    · subst e
      exact fun hk => absurd (hKs _ hk) (Nat.lt_irrefl _)
  have hrg : r ≠ g := by
    rcases hlie with e | e
    · exact (hne r e).1
    · subst e
      exact fun e => absurd h1.lt (by omega)
  have lf2 := lf.trans (Leafs.pad hb1 0 (.slice (some ⟨r, 0, none⟩) (ps.length + 1) cap))
  rw [← hlen]
  refine ⟨r, cap, W', v, hrun, hb1.cells.1, hb1.free 0, ?_, ?_⟩
  · refine ⟨ok.more hl hroom, out, _, ps ++ [p], kv, hb1.set0 _, by rw [List.map_append, h2, hp]; rfl, ?_, ?_, ?_, h6.leafs lf2⟩
    · rw [List.length_append, cellsQ_append]
      refine ⟨ho.1, ?_⟩
      rcases ho.2 with ⟨h7, _⟩ | ⟨r', cap', cur, hv', hg, hh, hc⟩
      · cases h7
      · cases hv'
        exact .inr ⟨r, cap, cur, rfl, hg, (same_set r hrg).trans hh, hc⟩
    · intro k hk
      simp [Value.ownBlock] at hk
      subst hk
      exact hrK
    · intro x hx
      rcases List.mem_append.1 hx with hx | hx
      · exact (h5 x hx).leafs lf2
      · rw [List.mem_singleton.1 hx, hp]
        refine .inr ⟨l, b, rfl, rfl, (lf2 b _ _ hrow (.inl rfl)).trans hrow, fun hk => ?_⟩
        have := hK b hk
        omega
  · exact ((Stay.of_below hb hK).grown hgr hK (fun k hk => h4 k hk)).setCell (p := ⟨g, 0, none⟩) out _

/-- The same, as one step of a region that draws its order. -/
theorem step_append_slot {ops : Array Oper} {o : Oper} {a : Act} {W : World} {Kc : Act → World → Prop} {Q : Exit → Act → World → Prop} {E : Prop}
    (hgd : o.guard = none) (sx xx : Operand) (hop : o.op = Op.call { callee := Callee.builtin Builtin.append, args := #[sx, xx], argTypes := #[45, 45] })
    {K : Nat → Prop} {w0 : World} {g b q : Nat} {s : PadS} {l : List UInt8} {v : Value} (hs : a.eval sx = v) (hx : a.eval xx = .slice (some ⟨q, 0, none⟩) 1 1)
    (h0 : PadAt K w0 g s) (hK : ∀ b, K b → b < w0.heap.size) (hroom : s.slots.length < 4000) (hv : w0.cell? ⟨g, 0, none⟩ = some v)
    (hb : Below w0.heap.size w0 W) (hrow : Row W b l) (hbl : w0.heap.size ≤ b) (hl : l.length ≤ 65536) (hc0 : W.cell? ⟨q, 0, none⟩ = some (.slice (some ⟨b, 0, none⟩) l.length l.length)) (hc1 : W.cell? ⟨q, 1, none⟩ = some (.bool false))
    (h : ∀ r cap W' u, W'.cell? ⟨g, 0, none⟩ = some u → W'.frozen? ⟨g, 0, none⟩ = false → PadAt K (W'.setCell ⟨g, 0, none⟩ (.slice (some ⟨r, 0, none⟩) (s.slots.length + 1) cap)) g { s with slots := s.slots ++ [some l] } → Stay K w0 (W'.setCell ⟨g, 0, none⟩ (.slice (some ⟨r, 0, none⟩) (s.slots.length + 1) cap)) → Kc (a.put o.dst (.slice (some ⟨r, 0, none⟩) (s.slots.length + 1) cap)) W') :
    if Region.wanted o (yielded ops a.tmps) = true then Oper.wp Try.prog o a W Kc Q else E := by
  obtain ⟨r, cap, W', u, hrun, h1, h2, h3, h4⟩ := pad_append (ty := o.type) h0 hK hroom hv hb hrow hbl hl hc0 hc1
  have hw : Region.wanted o (yielded ops a.tmps) = true := by simp [Region.wanted, hgd]
  rw [if_pos hw]
  unfold Oper.wp
  simp [execOp, hop, resolve, invoke, builtin, hs, hx, hrun, Result.andThen]
  exact h r cap W' u h1 h2 h3 h4

/-- A call, as one step of a region that draws its order. -/
theorem step_call {P : Program} {ops : Array Oper} {o : Oper} {a : Act} {w : World} {Kc : Act → World → Prop} {Q : Exit → Act → World → Prop} {E : Prop} {f : Nat} {args : Array Value} {R : Ending → World → Prop}
    (hgd : o.guard = none) (hrun : (execOp a.eval o).run P w = .ok (.enter f args) w) (hc : Calls P f args w R) (h : ∀ e w', R e w' → ∃ v, e = .returned v ∧ Kc (a.put o.dst v) w') :
    if Region.wanted o (yielded ops a.tmps) = true then Oper.wp P o a w Kc Q else E := by
  have hw : Region.wanted o (yielded ops a.tmps) = true := by simp [Region.wanted, hgd]
  rw [if_pos hw]
  unfold Oper.wp
  rw [hrun]
  refine hc.mono fun e w' hr => ?_
  obtain ⟨v, rfl, hk⟩ := h e w' hr
  exact hk

theorem below_undrew {w w1 : World} (h : Below w.drew.heap.size w.drew w1) (o : Obj) : Below w.heap.size w (w1.alloc o) :=
  have h' : Below w.heap.size w w1 := ⟨h.os, h.tape, h.output, h.size, h.block⟩
  h'.alloc h'.size o

theorem boxQ {w : World} {q : Nat} {x y : Value} (hq : w.heap.size = q) : (w.alloc (.cells #[x, y] 52)).cell? ⟨q, 0, none⟩ = some x ∧ (w.alloc (.cells #[x, y] 52)).cell? ⟨q, 1, none⟩ = some y := by
  subst hq
  have h : (w.alloc (.cells #[x, y] 52)).heap[w.heap.size]? = some (.cells #[x, y] 52 (0, 0)) := by
    show (w.heap.push _)[w.heap.size]? = _
    simp
  refine ⟨?_, ?_⟩ <;> (rw [cell_of_row _ _ _ _ _ _ h]; rfl)

set_option maxHeartbeats 1000000 in
set_option maxRecDepth 100000 in
theorem append_any (K : Nat → Prop) (g : Nat) (a : Option Addr) (n cap : Nat) (l : List UInt8) (s : PadS) (w : World) (hK : ∀ b, K b → b < w.heap.size) (h : PadAt K w g s) (hn : l.length = n) (hl : n ≤ 9223372036854775807) (hr : Rd w a l) :
    Calls Try.prog 6 #[vP g, .slice a n cap] w fun e w' => e = .returned (.int .i64 (s.append l).2) ∧ PadAt K w' g (s.append l).1 ∧ Stay K w w' := by
  obtain ⟨v, ps, kv, hb, hps, ho, h4, h5, h6⟩ := h.lies
  obtain ⟨c0, c1, c2, c3, c4, c5, c6⟩ := hb.cells
  have HP : Hid (PadAt K w g s) := h
  have HK : Hid (∀ b, K b → b < w.heap.size) := hK
  have hroom := h.ok.room
  obtain ⟨va, vc, rfl, hvc⟩ := ownsRow_slice ho
  have hlen : ps.length = s.slots.length := by rw [← hps]; simp
  rw [hlen] at c0 hvc
  clear hps ho h hb h4 h5 h6 hK hlen
  by_cases hoff : s.off = true
  · have e : s.append l = (s, 5) := by unfold PadS.append; rw [if_pos hoff]
    rw [e]
    rw [hoff] at c2
    clear e hoff hn hr
    go_enter Try.func6, Try.ntmps6
    go_wp2
    go_ret
    exact ⟨rfl, HP.out, Stay.refl _ _⟩
  · have hoff' : s.off = false := by simpa using hoff
    rw [hoff'] at c2
    by_cases h1 : 65536 < n
    · have e : s.append l = (s, 2) := by unfold PadS.append; rw [if_neg hoff, if_pos (by rw [hn]; exact h1)]
      rw [e]
      clear e hoff hn hr hoff'
      go_enter Try.func6, Try.ntmps6
      go_wp2
      go_ret
      exact ⟨rfl, HP.out, Stay.refl _ _⟩
    · by_cases h2 : 4000 ≤ s.slots.length
      · have e : s.append l = (s, 6) := by unfold PadS.append; rw [if_neg hoff, if_neg (by rw [hn]; exact h1), if_pos h2]
        rw [e]
        clear e hoff hn hr hoff'
        go_enter Try.func6, Try.ntmps6
        go_wp2
        go_ret
        exact ⟨rfl, HP.out, Stay.refl _ _⟩
      · obtain ⟨t, ht⟩ : ∃ t, t = PadS.trips { s with slots := s.slots ++ [some l] } := ⟨_, rfl⟩
        obtain ⟨s1, tb⟩ := t
        have C := trips_any K g { s with slots := s.slots ++ [some l] }
        rw [← ht] at C
        simp only at C
        have HC : Hid (∀ w, PadAt K w g { s with slots := s.slots ++ [some l] } → Calls Try.prog 22 #[vP g] w fun e w' => e = .returned (.bool tb) ∧ PadAt K w' g s1 ∧ Stay K w w') := C
        have e : s.append l = (s1, if tb = true then 5 else 0) := by unfold PadS.append; rw [if_neg hoff, if_neg (by rw [hn]; exact h1), if_neg h2, ← ht]
        rw [e]
        have HN : Hid (l.length = n) := hn
        have HR : Hid (Rd w a l) := hr
        have h2' : s.slots.length < 4000 := by omega
        clear e hoff hn hr hoff' C ht
        go_enter Try.func6, Try.ntmps6
        go_wp2_with fail
        go_region_law (first
          | (refine step_append_slot (K := K) (w0 := w) (g := g) (b := w.heap.size) (q := w1.heap.size) (s := s) (l := l) rfl (.tmp 22) (.tmp 26) rfl rfl rfl HP.out HK.out h2' c0 ?hb ?hrow (Nat.le_refl _) ?hl ?hc0 ?hc1 ?_; (case hb => exact below_undrew hb1 _); (case hrow => exact hrow1.below ((Below.refl _ _).alloc (Nat.le_refl _) _) hrow1.lt); (case hl => rw [HN.out]; omega); (case hc0 => rw [HN.out]; exact (boxQ rfl).1); (case hc1 => exact (boxQ rfl).2); intro r cp W' u hu hf hP hS)
          | (refine step_call (f := 21) (args := #[.slice a n cap]) rfl (by first | (go_simp; done) | (go_simp; with_reducible rfl)) (copyOf_any _ _ _ l _ HN.out (by omega) (by exact HR.out)) ?_; rintro e w1 ⟨rfl, hrow1, hb1⟩; have x1 : w1.cell? ⟨g, 0, none⟩ = some (.slice va s.slots.length vc) := cell_later hb1 c0; have x2 : ∀ o, (w1.alloc o).cell? ⟨g, 0, none⟩ = some (.slice va s.slots.length vc) := fun o => Go.Lib.cell?_alloc_some o x1; refine ⟨_, rfl, ?_⟩))
        all_goals
          have HPx : Hid _ := hP
          have HSx : Hid _ := hS
          clear hP hS hu hf hrow1 hb1 x1 x2
          go_wp2_with fail
          refine (HC.out _ HPx.out).mono ?_
          rintro e w2 ⟨rfl, hp2, hs2⟩
          cases tb
          · go_wp2
            go_ret
            exact ⟨rfl, hp2, HSx.out.trans hs2⟩
          · go_wp2
            go_ret
            exact ⟨rfl, hp2, HSx.out.trans hs2⟩

end Go.Proofs.Ytdeeagphipfcaab
