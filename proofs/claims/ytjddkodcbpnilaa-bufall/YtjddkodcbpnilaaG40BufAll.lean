/-
  Texts of the proof of BufAll, one behind the other.
-/
import Derived.Test.YtjddkodcbpnilaaRows
import Derived.Test.YtjddkodcbpnilaaG36BufAll
import Derived.Test.YtjddkodcbpnilaaG39BufAll
import Derived.Deep.RegionLaw
import Derived.Lib.SliceRun
import Derived.Laws.OwnMore
namespace Go.Proofs.Ytjddkodcbpnilaa
open Go.RowKit Go.Lib
set_option linter.unusedVariables false

/-- Each is twelve cells. -/
def Dozen (C : List (List Value)) : Prop := ∀ c ∈ C, c.length = 12 ∧ ∀ u ∈ c, u.oneCell' = true

theorem Dozen.nil : Dozen [] := fun c hc => by cases hc

theorem Dozen.tail {c : List Value} {C : List (List Value)} (h : Dozen (c :: C)) : Dozen C := fun x hx => h x (List.mem_cons_of_mem _ hx)

theorem Dozen.at_ {C : List (List Value)} (h : Dozen C) {i : Nat} (hi : i < C.length) : C[i].length = 12 := (h _ (List.getElem_mem hi)).1

theorem Dozen.append {C D : List (List Value)} (h : Dozen C) (k : Dozen D) : Dozen (C ++ D) := fun x hx => by
  rcases List.mem_append.1 hx with hx | hx
  · exact h x hx
  · exact k x hx

theorem Dozen.sub {C D : List (List Value)} (h : Dozen C) (k : ∀ c ∈ D, c ∈ C) : Dozen D := fun x hx => h x (k x hx)

theorem Dozen.set {C : List (List Value)} {c : List Value} (h : Dozen C) (hc : c.length = 12 ∧ ∀ u ∈ c, u.oneCell' = true) (k : Nat) : Dozen (C.set k c) := fun x hx => by
  rcases List.mem_or_eq_of_mem_set hx with hx | rfl
  · exact h x hx
  · exact hc

theorem flat_length : ∀ {C : List (List Value)}, Dozen C → C.flatten.length = C.length * 12
  | [], _ => rfl
  | c :: C, h => by
    rw [List.flatten_cons, List.length_append, flat_length h.tail, (h c (by simp)).1, List.length_cons]
    omega

theorem flat_one {C : List (List Value)} (h : Dozen C) : ∀ u ∈ C.flatten, u.oneCell' = true := fun u hu => by
  obtain ⟨c, hc, hu⟩ := List.mem_flatten.1 hu
  exact (h c hc).2 u hu

theorem flat_at : ∀ {C : List (List Value)} (h : Dozen C) (i : Nat) (hi : i < C.length) (j : Nat) (hj : j < 12), C.flatten[i * 12 + j]? = C[i][j]?
  | c :: C, h, 0, _, j, hj => by
    rw [List.flatten_cons, Nat.zero_mul, Nat.zero_add, List.getElem?_append_left (by rw [(h c (by simp)).1]; exact hj)]
    rfl
  | c :: C, h, i + 1, hi, j, hj => by
    have := flat_at h.tail i (by simpa using hi) j hj
    rw [List.flatten_cons, List.getElem?_append_right (by rw [(h c (by simp)).1]; omega), (h c (by simp)).1, show (i + 1) * 12 + j - 12 = i * 12 + j by omega, this]
    rfl

theorem flat_take : ∀ {C : List (List Value)} (h : Dozen C) (i : Nat), C.flatten.take (i * 12) = (C.take i).flatten
  | [], _, _ => by simp
  | c :: C, h, 0 => by simp
  | c :: C, h, i + 1 => by
    have hc := (h c (by simp)).1
    rw [List.take_succ_cons, List.flatten_cons, List.flatten_cons, List.take_append, List.take_of_length_le (by omega), hc, show (i + 1) * 12 - 12 = i * 12 by omega, flat_take h.tail i]

theorem flat_drop : ∀ {C : List (List Value)} (h : Dozen C) (i : Nat), C.flatten.drop (i * 12) = (C.drop i).flatten
  | [], _, _ => by simp
  | c :: C, h, 0 => by simp
  | c :: C, h, i + 1 => by
    have hc := (h c (by simp)).1
    rw [List.drop_succ_cons, List.flatten_cons, List.drop_append, List.drop_of_length_le (by omega), List.nil_append, hc, show (i + 1) * 12 - 12 = i * 12 by omega, flat_drop h.tail i]

theorem over_beyond : ∀ (vs : List Value) (o : Nat) (c : Array Value) (i : Nat), o + vs.length ≤ i → (over c o vs).toList[i]? = c.toList[i]?
  | [], _, _, _, _ => rfl
  | v :: r, o, c, i, h => by
    simp only [List.length_cons] at h
    rw [over, over_beyond r (o + 1) _ i (by omega), Array.toList_setIfInBounds, List.getElem?_set_ne (by omega)]

/-- A slice's beginning, and the cells that are read from there on. -/
def RdC (w : World) (a : Option Addr) (C : List (List Value)) : Prop :=
  0 < C.length → ∃ b off, a = some ⟨b, off, none⟩ ∧ ∀ i (hi : i < C.length) j v, C[i][j]? = some v → w.cell? ⟨b, off + i * 12 + j, none⟩ = some v

theorem RdC.nil (w : World) (a : Option Addr) : RdC w a [] := fun h => absurd h (by simp)

theorem RdC.later {w w' : World} {a : Option Addr} {C : List (List Value)} (h : RdC w a C) (hb : Below w.heap.size w w') : RdC w' a C := fun h0 => by
  obtain ⟨b, off, e, hc⟩ := h h0
  exact ⟨b, off, e, fun i hi j v hj => cell_later hb (hc i hi j v hj)⟩

theorem RdC.src {w : World} {a : Option Addr} {C : List (List Value)} (h : RdC w a C) (hd : Dozen C) (h0 : 0 < C.length) : ∃ ad, a = some ad ∧ ∀ j u, C.flatten[j]? = some u → w.cell? (ad.add j) = some u := by
  obtain ⟨b, off, e, hc⟩ := h h0
  refine ⟨_, e, fun j u hj => ?_⟩
  have hl : j < C.length * 12 := by
    have := (List.getElem?_eq_some_iff.1 hj).1
    rwa [flat_length hd] at this
  have hi : j / 12 < C.length := by omega
  have := hc (j / 12) hi (j % 12) u (by rw [← flat_at hd (j / 12) hi (j % 12) (by omega), show j / 12 * 12 + j % 12 = j by omega]; exact hj)
  rw [add_plain3, show off + j = off + j / 12 * 12 + j % 12 by omega]
  exact this

/-- A row of operations of the call's own. -/
def OwnC (w : World) (B : Nat) (v : Value) (C : List (List Value)) : Prop := Dozen C ∧ w.ownsRow B 32 12 v C.length C.flatten

theorem OwnC.nought (w : World) (B : Nat) : OwnC w B (.slice none 0 0) [] := ⟨Dozen.nil, World.ownsRow_nil _ _ _ _⟩

theorem OwnC.form {w : World} {B : Nat} {v : Value} {C : List (List Value)} (h : OwnC w B v C) : ∃ a cap, v = .slice a C.length cap ∧ C.length ≤ cap ∧ cap ≤ 9223372036854775807 ∧ RdC w a C ∧ (a = none → C = [] ∧ cap = 0) := by
  obtain ⟨hd, h⟩ := h
  rcases h.2 with ⟨rfl, h0⟩ | ⟨g, cap, cur, hv, _, hh, hc, hm, hs, ht⟩
  · obtain rfl := List.eq_nil_of_length_eq_zero h0
    exact ⟨none, 0, rfl, Nat.le_refl _, by omega, RdC.nil _ _, fun _ => ⟨rfl, rfl⟩⟩
  · refine ⟨_, cap, hv, hc, by unfold maxLen at hm; omega, fun h0 => ⟨g, 0, rfl, fun i hi j v hj => ?_⟩, fun h => by cases h⟩
    have hj12 : j < 12 := by
      have := (List.getElem?_eq_some_iff.1 hj).1
      rwa [hd.at_ hi] at this
    subst hv
    rw [Nat.zero_add, World.ownsRow.cellAt h (i * 12 + j) (by omega), flat_at hd i hi j hj12]
    exact hj

theorem OwnC.same {w w' : World} {B : Nat} {v : Value} {C : List (List Value)} (h : OwnC w B v C) (hb : ∀ b, v.ownBlock = some b → w'.heap[b]? = w.heap[b]?) : OwnC w' B v C := by
  refine ⟨h.1, h.2.1, ?_⟩
  rcases h.2.2 with h0 | ⟨g, cap, cur, hv, hg, hh, hc⟩
  · exact .inl h0
  · exact .inr ⟨g, cap, cur, hv, hg, (hb g (by rw [hv]; rfl)).trans hh, hc⟩

theorem OwnC.later {w w' : World} {B : Nat} {v : Value} {C : List (List Value)} (h : OwnC w B v C) (hb : Below w.heap.size w w') : OwnC w' B v C := h.same fun b e => hb.block b (World.ownsRow.lt h.2 b e).2

theorem OwnC.base {w : World} {B B' : Nat} {v : Value} {C : List (List Value)} (h : OwnC w B v C) (hb : B' ≤ B) : OwnC w B' v C := by
  refine ⟨h.1, h.2.1, ?_⟩
  rcases h.2.2 with h0 | ⟨g, cap, cur, hv, hg, rest⟩
  · exact .inl h0
  · exact .inr ⟨g, cap, cur, hv, Nat.le_trans hb hg, rest⟩

/-- Twelve cells laid over those of one operation. -/
theorem OwnC.put {w : World} {B g n cap : Nat} {C : List (List Value)} {c : List Value} (h : OwnC w B (.slice (some ⟨g, 0, none⟩) n cap) C) (hc : c.length = 12 ∧ ∀ u ∈ c, u.oneCell' = true) (k : Nat) (hk : k < C.length) :
    OwnC (w.setCells g (k * 12) c) B (.slice (some ⟨g, 0, none⟩) n cap) (C.set k c) := by
  obtain ⟨hd, h⟩ := h
  rcases h.2 with ⟨h0, _⟩ | ⟨g', cap', cur, hv, hg, hh, hcc, hm, hs, ht⟩
  · cases h0
  cases hv
  refine ⟨hd.set hc k, by rw [flat_length (hd.set hc k)], .inr ⟨g, cap, _, by rw [List.length_set], hg, setCells_block g _ c (k * 12) w cur hh, by rw [List.length_set]; exact hcc, hm, by rw [over_size, hs], ?_⟩⟩
  apply List.ext_getElem?
  intro i
  have hC : ∀ i, i < C.length * 12 → cur.toList[i]? = C.flatten[i]? := fun i hi => by
    rw [← ht, List.getElem?_take, if_pos hi]
  rw [List.length_set, List.getElem?_take]
  by_cases hi : i < C.length * 12
  · rw [if_pos hi]
    have hlen : k * 12 + c.length ≤ cur.size := by rw [hc.1, hs]; omega
    have hset : (C.set k c).flatten[i]? = if i / 12 = k then c[i % 12]? else C.flatten[i]? := by
      have e : i = i / 12 * 12 + i % 12 := by omega
      have h1 := flat_at (hd.set hc k) (i / 12) (by rw [List.length_set]; omega) (i % 12) (by omega)
      have h2 := flat_at hd (i / 12) (by omega) (i % 12) (by omega)
      rw [← e] at h1 h2
      rw [h1, h2]
      by_cases hik : i / 12 = k
      · rw [if_pos hik]
        subst hik
        simp
      · rw [if_neg hik, List.getElem_set_ne (by omega)]
    rw [hset]
    by_cases hik : i / 12 = k
    · rw [if_pos hik]
      have h1 := over_upto c (k * 12) cur hlen
      have h2 : ((over cur (k * 12) c).toList.take (k * 12 + c.length))[i]? = (over cur (k * 12) c).toList[i]? := by rw [List.getElem?_take, if_pos (by rw [hc.1]; omega)]
      have hl : (cur.toList.take (k * 12)).length = k * 12 := by rw [List.length_take]; simp; omega
      rw [← h2, h1, List.getElem?_append_right (by rw [hl]; omega), hl]
      congr 1
      omega
    · rw [if_neg hik]
      by_cases hlt : i < k * 12
      · have h2 : ((over cur (k * 12) c).toList.take (k * 12))[i]? = (over cur (k * 12) c).toList[i]? := by rw [List.getElem?_take, if_pos hlt]
        rw [← h2, over_take _ _ _ _ (Nat.le_refl _), List.getElem?_take, if_pos hlt]
        exact hC i hi
      · rw [over_beyond c (k * 12) cur i (by rw [hc.1]; omega)]
        exact hC i hi
  · rw [if_neg hi]
    symm
    rw [List.getElem?_eq_none]
    rw [flat_length (hd.set hc k), List.length_set]
    omega

theorem Try.infoOp : (Try.prog.info? 32).map (fun i => (i.zero, i.size, i.bytes)) = some (some (.agg #[.int .i64 0, .int .i64 0, .slice none 0 0, .int .i64 0, .int .i64 0, .int .i64 0, .int .i64 0, .int .i64 0, .string ⟨#[]⟩, .int .i64 0, .slice none 0 0, .slice none 0 0]), 12, 152) := by kernel_rfl

/-- No operation. -/
abbrev noC : List Value := [.int .i64 0, .int .i64 0, .slice none 0 0, .int .i64 0, .int .i64 0, .int .i64 0, .int .i64 0, .int .i64 0, .string ⟨#[]⟩, .int .i64 0, .slice none 0 0, .slice none 0 0]

theorem noC_one : noC.length = 12 ∧ ∀ u ∈ noC, u.oneCell' = true := ⟨rfl, fun u hu => by simp [noC] at hu; rcases hu with rfl | rfl | rfl | rfl | rfl | rfl <;> rfl⟩

theorem Dozen.rep (n : Nat) : Dozen (List.replicate n noC) := fun c hc => by
  rw [List.eq_of_mem_replicate hc]
  exact noC_one

theorem zeroC (n : Nat) : (Builtin.zeroCells (Value.agg noC.toArray).cells n).toList = (List.replicate n noC).flatten := by
  apply List.ext_getElem?
  intro i
  have hl : (Builtin.zeroCells (Value.agg noC.toArray).cells n).toList.length = n * 12 := by simp [Builtin.zeroCells, Value.cells]
  by_cases hi : i < n * 12
  · have h1 := flat_at (Dozen.rep n) (i / 12) (by simp; omega) (i % 12) (by omega)
    rw [show i / 12 * 12 + i % 12 = i by omega] at h1
    rw [h1, List.getElem?_eq_getElem (by rw [hl]; exact hi)]
    simp only [Builtin.zeroCells, Value.cells, List.getElem_replicate]
    have : i % 12 < 12 := by omega
    simp [noC]
    rw [List.getElem?_eq_getElem (by simpa using this)]
    rfl
  · rw [List.getElem?_eq_none (by rw [hl]; omega), List.getElem?_eq_none (by rw [flat_length (Dozen.rep n)]; simp; omega)]

theorem madeC (n : Nat) : (madeCells (Value.agg noC.toArray).cells (n * 12)).toList = (List.replicate n noC).flatten := by
  apply List.ext_getElem?
  intro i
  have hl : (madeCells (Value.agg noC.toArray).cells (n * 12)).toList.length = n * 12 := by simp [madeCells]
  by_cases hi : i < n * 12
  · have h1 := flat_at (Dozen.rep n) (i / 12) (by simp; omega) (i % 12) (by omega)
    rw [show i / 12 * 12 + i % 12 = i by omega] at h1
    rw [h1, List.getElem?_eq_getElem (by rw [hl]; exact hi)]
    simp only [madeCells, Value.cells, List.getElem_replicate]
    have : i % 12 < 12 := by omega
    simp [noC]
    rw [List.getElem?_eq_getElem (by simpa using this)]
    rfl
  · rw [List.getElem?_eq_none (by rw [hl]; omega), List.getElem?_eq_none (by rw [flat_length (Dozen.rep n)]; simp; omega)]

/-- A new row. -/
theorem run_make_ops (w : World) (n : Nat) (h : n ≤ 65536) :
    ∃ w', (Instr.makeSlice 22 (.int .i64 (n : Int)) (.int .i64 (n : Int))).run Try.prog w = .ok (.slice (some ⟨w.heap.size, 0, none⟩) n n) w' ∧ OwnC w' w.heap.size (.slice (some ⟨w.heap.size, 0, none⟩) n n) (List.replicate n noC) ∧ Below w.heap.size w w' := by
  obtain ⟨i0, hi, hz0, hz1, hz2⟩ := info_parts Try.infoOp
  obtain ⟨w', hrun, ho, hg⟩ := run_make_full (P := Try.prog) w w.heap.size 22 32 i0 _ 12 Try.underlying22 hi hz0 hz1 .i64 .i64 n (by rw [hz2]; omega) (by unfold maxLen; omega) (Nat.le_refl _)
  refine ⟨w', hrun, ⟨Dozen.rep n, ?_⟩, (Below.refl _ _).grown hg (Nat.le_refl _) (fun k hk => by cases hk)⟩
  rw [List.length_replicate, ← madeC]
  exact ho

/-- append(l, more...). -/
theorem run_append_ops {w : World} {B ty n m cap : Nat} {v : Value} {a : Option Addr} {C N : List (List Value)}
    (hown : OwnC w B v C) (hn : C.length = n) (hm : N.length = m) (hd : Dozen N) (hr : RdC w a N) (hnil : a = none → N = [] ∧ cap = 0) (h1 : n ≤ 65536) (h2 : m ≤ 65536) (hB : B ≤ w.heap.size) :
    ∃ v' w', (Builtin.append_ #[22, 22] ty #[v, .slice a m cap]).run Try.prog w = .ok v' w' ∧ OwnC w' B v' (C ++ N) ∧ w.grownBy w' v.ownBlock ∧ (v'.ownBlock = v.ownBlock ∨ v'.ownBlock = some w.heap.size) := by
  obtain ⟨hdC, ho⟩ := hown
  obtain ⟨i0, hi, hz0, hz1, hz2⟩ := info_parts Try.infoOp
  subst hn
  subst hm
  rcases Nat.eq_zero_or_pos N.length with h0 | h0
  · obtain rfl := List.eq_nil_of_length_eq_zero h0
    cases a with
    | none =>
      obtain ⟨_, rfl⟩ := hnil rfl
      exact ⟨v, w, run_append_owned_none (P := Try.prog) (w := w) B 22 ty 32 i0 12 Try.underlying22 hi v C.length C.flatten ho, by rw [List.append_nil]; exact ⟨hdC, ho⟩, World.grownBy.refl _ _, .inl rfl⟩
    | some ad =>
      obtain ⟨v', w', hrun, ho', hg, _, hlie⟩ := run_append_own_at (P := Try.prog) w B 22 ty 32 i0 _ 12 152 Try.underlying22 hi hz0 hz1 hz2 rfl (by decide) v C.length C.flatten ho ad 0 cap [] rfl (fun j u hj => by simp at hj) (fun u hu => by cases hu) (by unfold maxLen; omega) (by omega) hB
      exact ⟨v', w', hrun, by rw [List.append_nil]; exact ⟨hdC, by simpa using ho'⟩, hg, hlie⟩
  · obtain ⟨ad, rfl, hsrc⟩ := hr.src hd h0
    obtain ⟨v', w', hrun, ho', hg, _, hlie⟩ := run_append_own_at (P := Try.prog) w B 22 ty 32 i0 _ 12 152 Try.underlying22 hi hz0 hz1 hz2 rfl (by decide) v C.length C.flatten ho ad N.length cap N.flatten (flat_length hd) hsrc (flat_one hd) (by unfold maxLen; omega) (by omega) hB
    exact ⟨v', w', hrun, ⟨hdC.append hd, by rw [List.length_append, List.flatten_append]; exact ho'⟩, hg, hlie⟩

/-- clear(s). -/
theorem run_clear_ops (w : World) (ty b o n c : Nat) (hn : 0 < n) (hc : ∀ j, j < n * 12 → (w.cell? ⟨b, o + j, none⟩).isSome = true) (hf : ∀ j, w.frozen? ⟨b, o + j, none⟩ = false) :
    (Builtin.clear_ #[22] ty #[.slice (some ⟨b, o, none⟩) n c]).run Try.prog w = .ok (.tuple #[]) (w.setCells b o (List.replicate n noC).flatten) := by
  have hv : ∀ w, (zeroValue 32).run Try.prog w = .ok (.agg noC.toArray) w := fun w => by kernel_rfl
  have hst := run_storeCells_cells (P := Try.prog) b o (List.replicate n noC).flatten 0 w (by rw [flat_length (Dozen.rep n), List.length_replicate]; simpa using hc) (fun j _ => by simpa using hf j) (flat_one (Dozen.rep n))
  simp only [Nat.add_zero] at hst
  obtain ⟨m, rfl⟩ : ∃ m, n = m + 1 := ⟨n - 1, by omega⟩
  have hz := zeroC (m + 1)
  simp [Builtin.clear_, run_underlying Try.underlying22, hv, hz, hst]

/-- What is left of a row, where those from i to j go. -/
theorem delete_ops {w : World} {r cap n i j B : Nat} {cur : Array Value} {C : List (List Value)} (hd : Dozen C) (hB : B ≤ r) (hn : C.length = n) (hh : w.heap[r]? = some (.cells cur 32 (0, 0))) (hc : n ≤ cap) (hm : cap ≤ maxLen) (hs : cur.size = cap * 12) (ht : cur.toList.take (n * 12) = C.flatten) (hij : i < j) (hj : j ≤ n) (z : List Value) :
    OwnC ((w.setCells r (i * 12) (C.drop j).flatten).setCells r ((i + (n - j)) * 12) z) B (.slice (some ⟨r, 0, none⟩) (i + (n - j)) cap) (C.take i ++ C.drop j) := by
  have hdt : Dozen (C.take i) := hd.sub fun c hc => List.mem_of_mem_take hc
  have hdd : Dozen (C.drop j) := hd.sub fun c hc => List.mem_of_mem_drop hc
  have e1 : (C.take i ++ C.drop j).length = i + (n - j) := by simp; omega
  have b1 := setCells_block r _ (C.drop j).flatten (i * 12) w cur hh
  have b2 := setCells_block r _ z ((i + (n - j)) * 12) _ _ b1
  have l1 : (C.drop j).flatten.length = (n - j) * 12 := by rw [flat_length hdd]; simp; omega
  refine ⟨hdt.append hdd, by rw [flat_length (hdt.append hdd)], .inr ⟨r, cap, _, by rw [e1], hB, b2, by rw [e1]; omega, hm, by rw [over_size, over_size, hs], ?_⟩⟩
  rw [e1, over_take _ _ _ _ (Nat.le_refl _)]
  have e2 := over_upto (C.drop j).flatten (i * 12) cur (by rw [l1, hs]; omega)
  rw [l1, show i * 12 + (n - j) * 12 = (i + (n - j)) * 12 by omega] at e2
  rw [e2, List.flatten_append, ← flat_take hd, ← ht, List.take_take, Nat.min_eq_left (by omega)]

end Go.Proofs.Ytjddkodcbpnilaa
