/-
  What slices.Delete does at a pad's slots.
-/
import Derived.Test.YtdeeagphipfcaabRows
import Derived.Test.YtdeeagphipfcaabQMem
import Derived.WalkKit
import Derived.WalkSpells
import Derived.Deep.RegionLaw
import Derived.Lib.SliceRun
namespace Go.Proofs.Ytdeeagphipfcaab
open Go.RowKit Go.Lib
set_option linter.unusedVariables false

theorem setCells_size (b : Nat) : ∀ (vs : List Value) (o : Nat) (w : World), (w.setCells b o vs).heap.size = w.heap.size
  | [], _, _ => rfl
  | v :: r, o, w => by rw [World.setCells, setCells_size b r]; simp [World.setCell]

theorem setCells_grown (w : World) (b : Nat) : ∀ (vs : List Value) (o : Nat), w.grownBy (w.setCells b o vs) (some b)
  | [], _ => World.grownBy.refl _ _
  | v :: r, o => by
    have h := setCells_grown (w.setCell ⟨b, o, none⟩ v) b r (o + 1)
    exact ⟨h.os, h.tape, h.output, by rw [setCells_size]; exact Nat.le_refl _, fun k hk hne => (h.block k (by simpa [World.setCell] using hk) hne).trans (Below.heap_setCell w ⟨b, o, none⟩ v k (fun e => hne (by rw [e])))⟩

theorem World.isSome_setCells' (b : Nat) : ∀ (vs : List Value) (o : Nat) (w : World) (x : Addr), (w.cell? x).isSome = true → ((w.setCells b o vs).cell? x).isSome = true
  | [], _, _, _, h => h
  | v :: r, o, w, x, h => by
    refine World.isSome_setCells' b r (o + 1) _ x ?_
    by_cases e : (⟨b, o, none⟩ : Addr) = x
    · subst e
      obtain ⟨u, hu⟩ := Option.isSome_iff_exists.1 h
      rw [World.cell?_setCell_same _ _ _ hu]
      rfl
    · rw [World.cell?_setCell_other _ _ _ _ e]
      exact h

/-- Values laid over a block's cells. -/
def over : Array Value → Nat → List Value → Array Value
  | c, _, [] => c
  | c, o, v :: r => over (c.setIfInBounds o v) (o + 1) r

theorem setCells_block (b t : Nat) : ∀ (vs : List Value) (o : Nat) (w : World) (cur : Array Value), w.heap[b]? = some (.cells cur t (0, 0)) → (w.setCells b o vs).heap[b]? = some (.cells (over cur o vs) t (0, 0))
  | [], _, _, _, h => h
  | v :: r, o, w, cur, h => setCells_block b t r (o + 1) _ _ (Go.heap_setCell_same _ _ _ _ _ _ h)

theorem over_size : ∀ (vs : List Value) (o : Nat) (c : Array Value), (over c o vs).size = c.size
  | [], _, _ => rfl
  | v :: r, o, c => by rw [over, over_size r]; simp

theorem over_take : ∀ (vs : List Value) (o : Nat) (c : Array Value) (k : Nat), k ≤ o → (over c o vs).toList.take k = c.toList.take k
  | [], _, _, _, _ => rfl
  | v :: r, o, c, k, h => by
    rw [over, over_take r (o + 1) _ k (by omega), Array.toList_setIfInBounds, List.take_set_of_le (by omega)]

theorem over_upto : ∀ (vs : List Value) (o : Nat) (c : Array Value), o + vs.length ≤ c.size → (over c o vs).toList.take (o + vs.length) = c.toList.take o ++ vs
  | [], o, c, _ => by simp [over]
  | v :: r, o, c, h => by
    simp only [List.length_cons] at h
    have ih := over_upto r (o + 1) (c.setIfInBounds o v) (by simp; omega)
    rw [over, List.length_cons, show o + (r.length + 1) = o + 1 + r.length by omega, ih, Array.toList_setIfInBounds]
    have hl : o < c.toList.length := by simp; omega
    rw [List.take_succ_eq_append_getElem (by simp; omega), List.take_set_of_le (Nat.le_refl _)]
    simp

theorem ownsRow_slice' {w : World} {B e size n : Nat} {v : Value} {xs : List Value} (h : w.ownsRow B e size v n xs) : ∃ a cap, v = .slice a n cap ∧ n ≤ cap ∧ cap ≤ 9223372036854775807 := by
  rcases h.2 with ⟨rfl, rfl⟩ | ⟨g, cap, cur, rfl, _, _, hc, hm, _⟩
  · exact ⟨none, 0, rfl, Nat.le_refl _, by omega⟩
  · exact ⟨_, cap, rfl, hc, by unfold maxLen at hm; omega⟩

theorem zeroQ (n : Nat) : (Builtin.zeroCells (Value.agg #[.slice none 0 0, .bool false]).cells n).toList = cellsQ (List.replicate n (.slice none 0 0, some [])) := by
  induction n with
  | zero => simp [Builtin.zeroCells, cellsQ]
  | succ n ih =>
    rw [List.replicate_succ', cellsQ_append, ← ih]
    simp only [Builtin.zeroCells, Value.cells]
    have e : (n + 1) * 2 = n * 2 + 1 + 1 := by omega
    rw [show (#[Value.slice none 0 0, Value.bool false] : Array Value).size = 2 from rfl, e]
    simp only [Array.toList_map, Array.toList_range, List.range_succ, List.map_append, List.append_assoc]
    congr 1
    have m0 : n * 2 % 2 = 0 := by omega
    have m1 : (n * 2 + 1) % 2 = 1 := by omega
    simp [cellsQ, cellQ, m0, m1]

theorem cellsQ_one {ps : List SlotP} (h : ∀ p ∈ ps, p.1.oneCell' = true) : ∀ u ∈ cellsQ ps, u.oneCell' = true := by
  intro u hu
  simp [cellsQ, cellQ] at hu
  obtain ⟨v, s, h1, h2⟩ := hu
  rcases h2 with rfl | rfl
  · exact h _ h1
  · rfl

/-- clear(s), s slots. -/
theorem run_clear_slots (w : World) (ty b o n c : Nat) (hn : 0 < n) (hc : ∀ j, j < n * 2 → (w.cell? ⟨b, o + j, none⟩).isSome = true) (hf : ∀ j, w.frozen? ⟨b, o + j, none⟩ = false) :
    (Builtin.clear_ #[45] ty #[.slice (some ⟨b, o, none⟩) n c]).run Try.prog w = .ok (.tuple #[]) (w.setCells b o (cellsQ (List.replicate n (.slice none 0 0, some [])))) := by
  have hv : ∀ w, (zeroValue 52).run Try.prog w = .ok (.agg #[.slice none 0 0, .bool false]) w := fun w => by kernel_rfl
  have hst := run_storeCells_cells (P := Try.prog) b o (cellsQ (List.replicate n (.slice none 0 0, some []))) 0 w (by rw [cellsQ_length, List.length_replicate]; simpa using hc) (fun j _ => by simpa using hf j) (cellsQ_one (fun p hp => by rw [List.eq_of_mem_replicate hp]; rfl))
  simp only [Nat.add_zero] at hst
  obtain ⟨m, rfl⟩ : ∃ m, n = m + 1 := ⟨n - 1, by omega⟩
  simp [Builtin.clear_, run_underlying Try.underlying45, hv, zeroQ, hst]

/-- What is left of slots, where those from i to j go. -/
theorem delete_row {w : World} {r cap n i j : Nat} {cur : Array Value} {ps : List SlotP} (hn : ps.length = n) (hh : w.heap[r]? = some (.cells cur 52 (0, 0))) (hc : n ≤ cap) (hm : cap ≤ maxLen) (hs : cur.size = cap * 2) (ht : cur.toList.take (n * 2) = cellsQ ps) (hij : i < j) (hj : j ≤ n) (z : List Value) :
    ((w.setCells r (i * 2) (cellsQ (ps.drop j))).setCells r ((i + (n - j)) * 2) z).ownsRow 0 52 2 (.slice (some ⟨r, 0, none⟩) (i + (n - j)) cap) (ps.take i ++ ps.drop j).length (cellsQ (ps.take i ++ ps.drop j)) := by
  have e1 : (ps.take i ++ ps.drop j).length = i + (n - j) := by simp; omega
  have b1 := setCells_block r _ (cellsQ (ps.drop j)) (i * 2) w cur hh
  have b2 := setCells_block r _ z ((i + (n - j)) * 2) _ _ b1
  have l1 : (cellsQ (ps.drop j)).length = (n - j) * 2 := by rw [cellsQ_length]; simp; omega
  rw [e1]
  refine ⟨by rw [cellsQ_length, e1], .inr ⟨r, cap, _, rfl, Nat.zero_le _, b2, by omega, hm, by rw [over_size, over_size, hs], ?_⟩⟩
  rw [over_take _ _ _ _ (Nat.le_refl _)]
  have e2 := over_upto (cellsQ (ps.drop j)) (i * 2) cur (by rw [l1, hs]; omega)
  rw [l1, show i * 2 + (n - j) * 2 = (i + (n - j)) * 2 by omega] at e2
  rw [e2, cellsQ_append, cellsQ_take, ← ht, List.take_take, Nat.min_eq_left (by omega)]

set_option maxHeartbeats 1000000 in
theorem delete_any (v : Value) (n i j : Nat) (ps : List SlotP) (w : World) (hn : ps.length = n) (h4 : n ≤ 4000) (hij : i ≤ j) (hj : j ≤ n) (h1 : ∀ p ∈ ps, p.1.oneCell' = true) (ho : w.ownsRow 0 52 2 v n (cellsQ ps)) :
    Calls Try.prog 23 #[v, .int .i64 i, .int .i64 j] w fun e w' => ∃ v', e = .returned v' ∧ w'.ownsRow 0 52 2 v' (ps.take i ++ ps.drop j).length (cellsQ (ps.take i ++ ps.drop j)) ∧ v'.ownBlock = v.ownBlock ∧ w.grownBy w' v.ownBlock := by
  obtain ⟨L, hL⟩ : ∃ L, L = ps.take i ++ ps.drop j := ⟨_, rfl⟩
  rw [← hL]
  by_cases heq : i = j
  · subst heq
    have R : Hid (w.ownsRow 0 52 2 v L.length (cellsQ L)) := by
      rw [hL, List.take_append_drop, hn]
      exact ho
    obtain ⟨a, cap, rfl, hc, hm⟩ := ownsRow_slice' ho
    clear ho h1 hn hij hL
    go_enter Try.func23, Try.ntmps23
    go_wp2
    all_goals (go_ret; first | exact ⟨_, rfl, R.out, rfl, World.grownBy.refl _ _⟩ | (rename_i h; subst h; exact ⟨_, rfl, R.out, rfl, World.grownBy.refl _ _⟩))
  · have hlt : i < j := by omega
    rcases ho.2 with ⟨_, h0⟩ | ⟨r, cap, cur, rfl, _, hh, hc, hm, hs, ht⟩
    · omega
    obtain ⟨i0, hi0, hz0, hz1, hz2⟩ := info_parts Try.infoQ
    have hm' : cap ≤ 9223372036854775807 := by unfold maxLen at hm; omega
    obtain ⟨news, hnews⟩ : ∃ news, news = cellsQ (ps.drop j) := ⟨_, rfl⟩
    obtain ⟨zs, hzs⟩ : ∃ zs, zs = cellsQ (List.replicate (j - i) (.slice none 0 0, some [])) := ⟨_, rfl⟩
    have R := delete_row (w := w.drew) hn hh hc hm hs ht hlt hj zs
    rw [← hL, ← hnews] at R
    have s1 : Hid (news.length = (n - j) * 2) := by rw [hnews, cellsQ_length]; simp [Hid]; omega
    have s2 : Hid (∀ u ∈ news, u.oneCell' = true) := by rw [hnews]; exact cellsQ_one fun p hp => h1 p (List.mem_of_mem_drop hp)
    have cells : ∀ k, k < n * 2 → w.cell? ⟨r, k, none⟩ = (cellsQ ps)[k]? := fun k hk => World.ownsRow.cellAt ho k hk
    have some_ : ∀ k, k < n * 2 → (w.cell? ⟨r, k, none⟩).isSome = true := fun k hk => by
      rw [cells k hk, List.getElem?_eq_getElem (by rw [cellsQ_length, hn]; exact hk)]
      rfl
    have free : ∀ k, w.frozen? ⟨r, k, none⟩ = false := fun k => World.ownsRow.frozenAt ho k
    obtain ⟨A, hA, hsrc⟩ : ∃ A : Addr, (if cap = j then some (⟨r, 0, none⟩ : Addr) else some ⟨r, j * 2, none⟩) = some A ∧ Hid (∀ t u, news[t]? = some u → w.drew.cell? (A.add t) = some u) := by
      by_cases h : cap = j
      · refine ⟨⟨r, 0, none⟩, by simp [h], fun t u hu => ?_⟩
        have h0 : news.length = 0 := by rw [s1.out]; omega
        rw [List.length_eq_zero_iff.1 h0] at hu
        simp at hu
      · refine ⟨⟨r, j * 2, none⟩, by simp [h], fun t u hu => ?_⟩
        have ht' : t < (n - j) * 2 := by
          have := (List.getElem?_eq_some_iff.1 hu).1
          rwa [s1.out] at this
        rw [hnews, cellsQ_drop, List.getElem?_drop] at hu
        rw [Addr.add_lit]
        exact (cells (j * 2 + t) (by omega)).trans hu
    have s3 : Hid (∀ t, t < news.length → (w.drew.cell? ⟨r, 0 + i * 2 + t, none⟩).isSome = true ∧ w.drew.frozen? ⟨r, 0 + i * 2 + t, none⟩ = false) := by
      intro t ht'
      rw [s1.out] at ht'
      exact ⟨some_ (0 + i * 2 + t) (by omega), free _⟩
    obtain ⟨W1, hW1⟩ : ∃ W1, W1 = w.drew.setCells r (0 + i * 2) news := ⟨_, rfl⟩
    have hcl : ∀ ty, (Builtin.clear_ #[45] ty #[.slice (some ⟨r, (i + (n - j)) * 2, none⟩) (n - (i + (n - j))) (cap - (i + (n - j)))]).run Try.prog W1 = .ok (.tuple #[]) (W1.setCells r ((i + (n - j)) * 2) zs) := by
      intro ty
      have := run_clear_slots W1 ty r ((i + (n - j)) * 2) (n - (i + (n - j))) (cap - (i + (n - j))) (by omega) (fun t ht' => by
        rw [hW1]
        exact World.isSome_setCells' r _ _ _ _ (some_ _ (by omega))) (fun t => by
        rw [hW1, World.frozen?_setCells]
        exact free _)
      rw [show n - (i + (n - j)) = j - i by omega, ← hzs] at this
      rw [show n - (i + (n - j)) = j - i by omega]
      exact this
    have hW : Hid (W1 = w.drew.setCells r (0 + i * 2) news) := hW1
    have R' : Hid ((W1.setCells r ((i + (n - j)) * 2) zs).ownsRow 0 52 2 (.slice (some ⟨r, 0, none⟩) (i + (n - j)) cap) L.length (cellsQ L)) := by
      rw [hW1, Nat.zero_add]
      exact R
    have G : Hid (w.grownBy (W1.setCells r ((i + (n - j)) * 2) zs) (some r)) := by
      have g1 := setCells_grown w.drew r news (0 + i * 2)
      rw [← hW1] at g1
      have g2 := setCells_grown W1 r zs ((i + (n - j)) * 2)
      exact ⟨g2.os.trans g1.os, g2.tape.trans g1.tape, g2.output.trans g1.output, Nat.le_trans g1.size g2.size, fun k hk hne => (g2.block k (Nat.lt_of_lt_of_le hk g1.size) hne).trans (g1.block k hk hne)⟩
    have hic : i ≤ cap := by omega
    have hjc : j ≤ cap := by omega
    clear hW1 R cells some_ free hnews hzs hh hs ht ho h1 hn hL hm heq
    go_enter Try.func23, Try.ntmps23
    go_wp2_with fail
    go_region_law (refine step_append_room rfl (.tmp 22) (.tmp 25) 45 rfl 52 i0 2 Try.underlying45 hi0 hz1 r 0 i cap (by simp [Act.eval, Act.put]) A (n - j) (cap - j) news (by simp [Act.eval, Act.put]) s1.out hsrc.out s2.out (by omega) s3.out ?_; rw [← hW.out])
    go_wp2
    go_ret
    exact ⟨_, rfl, R'.out, rfl, G.out⟩

end Go.Proofs.Ytdeeagphipfcaab
