/-
  Texts of the proof of SetExact, one behind the other.
-/
import Derived.Test.YtajlkaedkifaoaaRows
import Derived.Test.YtajlkaedkifaoaaG29SetExact
import Derived.Test.YtajlkaedkifaoaaG18SetExact
import Derived.Deep.RegionLaw
import Derived.Lib.SliceRun
import Derived.Laws.OwnMore
namespace Go.Proofs.Ytajlkaedkifaoaa
open Go.RowKit Go.Lib
set_option linter.unusedVariables false

/-- Each is k cells. -/
def Wide (k : Nat) (C : List (List Value)) : Prop := ∀ c ∈ C, c.length = k ∧ ∀ u ∈ c, u.oneCell' = true

theorem Wide.nil {k : Nat} : Wide k [] := fun c hc => by cases hc

theorem Wide.tail {k : Nat} {c : List Value} {C : List (List Value)} (h : Wide k (c :: C)) : Wide k C := fun x hx => h x (List.mem_cons_of_mem _ hx)

theorem Wide.at_ {k : Nat} {C : List (List Value)} (h : Wide k C) {i : Nat} (hi : i < C.length) : C[i].length = k := (h _ (List.getElem_mem hi)).1

theorem Wide.append {k : Nat} {C D : List (List Value)} (h : Wide k C) (h' : Wide k D) : Wide k (C ++ D) := fun x hx => by
  rcases List.mem_append.1 hx with hx | hx
  · exact h x hx
  · exact h' x hx

theorem Wide.sub {k : Nat} {C D : List (List Value)} (h : Wide k C) (h' : ∀ c ∈ D, c ∈ C) : Wide k D := fun x hx => h x (h' x hx)

theorem Wide.one {k : Nat} {c : List Value} (hc : c.length = k ∧ ∀ u ∈ c, u.oneCell' = true) : Wide k [c] := fun x hx => by
  rw [List.mem_singleton.1 hx]
  exact hc

theorem Wide.set {k : Nat} {C : List (List Value)} {c : List Value} (h : Wide k C) (hc : c.length = k ∧ ∀ u ∈ c, u.oneCell' = true) (i : Nat) : Wide k (C.set i c) := fun x hx => by
  rcases List.mem_or_eq_of_mem_set hx with hx | rfl
  · exact h x hx
  · exact hc

theorem Wide.rep {k : Nat} {z : List Value} (hz : z.length = k ∧ ∀ u ∈ z, u.oneCell' = true) (n : Nat) : Wide k (List.replicate n z) := fun c hc => by
  rw [List.eq_of_mem_replicate hc]
  exact hz

theorem flatK_length {k : Nat} : ∀ {C : List (List Value)}, Wide k C → C.flatten.length = C.length * k
  | [], _ => by simp
  | c :: C, h => by
    rw [List.flatten_cons, List.length_append, flatK_length h.tail, (h c (by simp)).1, List.length_cons, Nat.add_mul]
    omega

theorem flatK_one {k : Nat} {C : List (List Value)} (h : Wide k C) : ∀ u ∈ C.flatten, u.oneCell' = true := fun u hu => by
  obtain ⟨c, hc, hu⟩ := List.mem_flatten.1 hu
  exact (h c hc).2 u hu

theorem flatK_at {k : Nat} : ∀ {C : List (List Value)} (h : Wide k C) (i : Nat) (hi : i < C.length) (j : Nat) (hj : j < k), C.flatten[i * k + j]? = C[i][j]?
  | c :: C, h, 0, _, j, hj => by
    rw [List.flatten_cons, Nat.zero_mul, Nat.zero_add, List.getElem?_append_left (by rw [(h c (by simp)).1]; exact hj)]
    rfl
  | c :: C, h, i + 1, hi, j, hj => by
    have := flatK_at h.tail i (by simpa using hi) j hj
    rw [List.flatten_cons, List.getElem?_append_right (by rw [(h c (by simp)).1, Nat.add_mul]; omega), (h c (by simp)).1, show (i + 1) * k + j - k = i * k + j by rw [Nat.add_mul]; omega, this]
    rfl

theorem flatK_take {k : Nat} : ∀ {C : List (List Value)} (h : Wide k C) (i : Nat), C.flatten.take (i * k) = (C.take i).flatten
  | [], _, _ => by simp
  | c :: C, h, 0 => by simp
  | c :: C, h, i + 1 => by
    have hc := (h c (by simp)).1
    rw [List.take_succ_cons, List.flatten_cons, List.flatten_cons, List.take_append, List.take_of_length_le (by rw [hc, Nat.add_mul]; omega), hc, show (i + 1) * k - k = i * k by rw [Nat.add_mul]; omega, flatK_take h.tail i]

theorem flatK_drop {k : Nat} : ∀ {C : List (List Value)} (h : Wide k C) (i : Nat), C.flatten.drop (i * k) = (C.drop i).flatten
  | [], _, _ => by simp
  | c :: C, h, 0 => by simp
  | c :: C, h, i + 1 => by
    have hc := (h c (by simp)).1
    rw [List.drop_succ_cons, List.flatten_cons, List.drop_append, List.drop_of_length_le (by rw [hc, Nat.add_mul]; omega), List.nil_append, hc, show (i + 1) * k - k = i * k by rw [Nat.add_mul]; omega, flatK_drop h.tail i]

theorem div_lt_len {i k n : Nat} (h : i < n * k) : i / k < n := Nat.div_lt_of_lt_mul (by rw [Nat.mul_comm]; exact h)

theorem overK_beyond : ∀ (vs : List Value) (o : Nat) (c : Array Value) (i : Nat), o + vs.length ≤ i → (over c o vs).toList[i]? = c.toList[i]?
  | [], _, _, _, _ => rfl
  | v :: r, o, c, i, h => by
    simp only [List.length_cons] at h
    rw [over, overK_beyond r (o + 1) _ i (by omega), Array.toList_setIfInBounds, List.getElem?_set_ne (by omega)]

/-- A slice's beginning, and the cells that are read from there on. -/
def RdK (k : Nat) (w : World) (a : Option Addr) (C : List (List Value)) : Prop :=
  0 < C.length → ∃ b off, a = some ⟨b, off, none⟩ ∧ ∀ i (hi : i < C.length) j v, C[i][j]? = some v → w.cell? ⟨b, off + i * k + j, none⟩ = some v

theorem RdK.nil (k : Nat) (w : World) (a : Option Addr) : RdK k w a [] := fun h => absurd h (by simp)

theorem RdK.later {k : Nat} {w w' : World} {a : Option Addr} {C : List (List Value)} (h : RdK k w a C) (hb : Below w.heap.size w w') : RdK k w' a C := fun h0 => by
  obtain ⟨b, off, e, hc⟩ := h h0
  exact ⟨b, off, e, fun i hi j v hj => cell_later hb (hc i hi j v hj)⟩

theorem RdK.src {k : Nat} {w : World} {a : Option Addr} {C : List (List Value)} (h : RdK k w a C) (hd : Wide k C) (hk : 0 < k) (h0 : 0 < C.length) : ∃ ad, a = some ad ∧ ∀ j u, C.flatten[j]? = some u → w.cell? (ad.add j) = some u := by
  obtain ⟨b, off, e, hc⟩ := h h0
  refine ⟨_, e, fun j u hj => ?_⟩
  have hl : j < C.length * k := by
    have := (List.getElem?_eq_some_iff.1 hj).1
    rwa [flatK_length hd] at this
  have hi := div_lt_len hl
  have hm := Nat.mod_lt j hk
  have hdm : j / k * k + j % k = j := by rw [Nat.mul_comm]; exact Nat.div_add_mod j k
  have := hc (j / k) hi (j % k) u (by rw [← flatK_at hd (j / k) hi (j % k) hm, hdm]; exact hj)
  rw [add_plain3, show off + j = off + j / k * k + j % k by omega]
  exact this

/-- A slice's beginning may lie further on. -/
theorem RdK.drop {k : Nat} {w : World} {b off : Nat} {C : List (List Value)} (h : RdK k w (some ⟨b, off, none⟩) C) (i : Nat) : RdK k w (some ⟨b, off + i * k, none⟩) (C.drop i) := fun h0 => by
  rw [List.length_drop] at h0
  obtain ⟨b', off', e, hc⟩ := h (by omega)
  cases e
  refine ⟨b, _, rfl, fun i' hi' j v hj => ?_⟩
  rw [List.length_drop] at hi'
  have := hc (i + i') (by omega) j v (by rw [List.getElem_drop] at hj; exact hj)
  rw [show off + i * k + i' * k + j = off + (i + i') * k + j by rw [Nat.add_mul]; omega]
  exact this

theorem RdK.take {k : Nat} {w : World} {a : Option Addr} {C : List (List Value)} (h : RdK k w a C) (i : Nat) : RdK k w a (C.take i) := fun h0 => by
  rw [List.length_take] at h0
  obtain ⟨b, off, e, hc⟩ := h (by omega)
  refine ⟨b, off, e, fun i' hi' j v hj => ?_⟩
  rw [List.length_take] at hi'
  exact hc i' (by omega) j v (by rw [List.getElem_take] at hj; exact hj)

/-- A row of the call's own. -/
def OwnK (k : Nat) (e : TypeId) (w : World) (B : Nat) (v : Value) (C : List (List Value)) : Prop := Wide k C ∧ w.ownsRow B e k v C.length C.flatten

theorem OwnK.nought (k : Nat) (e : TypeId) (w : World) (B : Nat) : OwnK k e w B (.slice none 0 0) [] := ⟨Wide.nil, World.ownsRow_nil _ _ _ _⟩

theorem OwnK.form {k : Nat} {e : TypeId} {w : World} {B : Nat} {v : Value} {C : List (List Value)} (h : OwnK k e w B v C) : ∃ a cap, v = .slice a C.length cap ∧ C.length ≤ cap ∧ cap ≤ 9223372036854775807 ∧ RdK k w a C ∧ (a = none → C = [] ∧ cap = 0) ∧ ∀ b o, a = some ⟨b, o, none⟩ → B ≤ b := by
  obtain ⟨hd, h⟩ := h
  rcases h.2 with ⟨rfl, h0⟩ | ⟨g, cap, cur, hv, hg, hh, hc, hm, hs, ht⟩
  · obtain rfl := List.eq_nil_of_length_eq_zero h0
    exact ⟨none, 0, rfl, Nat.le_refl _, by omega, RdK.nil _ _ _, fun _ => ⟨rfl, rfl⟩, fun b o h => by cases h⟩
  · refine ⟨_, cap, hv, hc, by unfold maxLen at hm; omega, fun h0 => ⟨g, 0, rfl, fun i hi j v hj => ?_⟩, (fun h => by cases h), fun b o h => by cases h; exact hg⟩
    have hjk : j < k := by
      have := (List.getElem?_eq_some_iff.1 hj).1
      rwa [hd.at_ hi] at this
    subst hv
    have hlt : i * k + j < C.length * k := by
      have := Nat.mul_le_mul_right k (show i + 1 ≤ C.length from hi)
      rw [Nat.add_mul] at this
      omega
    rw [Nat.zero_add, World.ownsRow.cellAt h (i * k + j) hlt, flatK_at hd i hi j hjk]
    exact hj

theorem OwnK.same {k : Nat} {e : TypeId} {w w' : World} {B : Nat} {v : Value} {C : List (List Value)} (h : OwnK k e w B v C) (hb : ∀ b, v.ownBlock = some b → w'.heap[b]? = w.heap[b]?) : OwnK k e w' B v C := by
  refine ⟨h.1, h.2.1, ?_⟩
  rcases h.2.2 with h0 | ⟨g, cap, cur, hv, hg, hh, hc⟩
  · exact .inl h0
  · exact .inr ⟨g, cap, cur, hv, hg, (hb g (by rw [hv]; rfl)).trans hh, hc⟩

theorem OwnK.later {k : Nat} {e : TypeId} {w w' : World} {B : Nat} {v : Value} {C : List (List Value)} (h : OwnK k e w B v C) (hb : Below w.heap.size w w') : OwnK k e w' B v C := h.same fun b e => hb.block b (World.ownsRow.lt h.2 b e).2

theorem OwnK.base {k : Nat} {e : TypeId} {w : World} {B B' : Nat} {v : Value} {C : List (List Value)} (h : OwnK k e w B v C) (hb : B' ≤ B) : OwnK k e w B' v C := by
  refine ⟨h.1, h.2.1, ?_⟩
  rcases h.2.2 with h0 | ⟨g, cap, cur, hv, hg, rest⟩
  · exact .inl h0
  · exact .inr ⟨g, cap, cur, hv, Nat.le_trans hb hg, rest⟩

/-- k cells laid over those of one. -/
theorem OwnK.put {k : Nat} {e : TypeId} {w : World} {B g n cap : Nat} {C : List (List Value)} {c : List Value} (hk0 : 0 < k) (h : OwnK k e w B (.slice (some ⟨g, 0, none⟩) n cap) C) (hc : c.length = k ∧ ∀ u ∈ c, u.oneCell' = true) (m : Nat) (hk : m < C.length) :
    OwnK k e (w.setCells g (m * k) c) B (.slice (some ⟨g, 0, none⟩) n cap) (C.set m c) := by
  obtain ⟨hd, h⟩ := h
  rcases h.2 with ⟨h0, _⟩ | ⟨g', cap', cur, hv, hg, hh, hcc, hm, hs, ht⟩
  · cases h0
  cases hv
  have hmk : m * k + k ≤ C.length * k := by
    have := Nat.mul_le_mul_right k (show m + 1 ≤ C.length from hk)
    rwa [Nat.add_mul, Nat.one_mul] at this
  have hCk : C.length * k ≤ cap * k := Nat.mul_le_mul_right k hcc
  refine ⟨hd.set hc m, by rw [flatK_length (hd.set hc m)], .inr ⟨g, cap, _, by rw [List.length_set], hg, setCells_block g _ c (m * k) w cur hh, by rw [List.length_set]; exact hcc, hm, by rw [over_size, hs], ?_⟩⟩
  apply List.ext_getElem?
  intro i
  have hC : ∀ i, i < C.length * k → cur.toList[i]? = C.flatten[i]? := fun i hi => by
    rw [← ht, List.getElem?_take, if_pos hi]
  rw [List.length_set, List.getElem?_take]
  by_cases hi : i < C.length * k
  · rw [if_pos hi]
    have hlen : m * k + c.length ≤ cur.size := by rw [hc.1, hs]; omega
    have hdm : i / k * k + i % k = i := by rw [Nat.mul_comm]; exact Nat.div_add_mod i k
    have hml := Nat.mod_lt i hk0
    have hil := div_lt_len hi
    have hset : (C.set m c).flatten[i]? = if i / k = m then c[i % k]? else C.flatten[i]? := by
      have h1 := flatK_at (hd.set hc m) (i / k) (by rw [List.length_set]; exact hil) (i % k) hml
      have h2 := flatK_at hd (i / k) hil (i % k) hml
      rw [hdm] at h1 h2
      rw [h1, h2]
      by_cases hik : i / k = m
      · rw [if_pos hik]
        subst hik
        simp
      · rw [if_neg hik, List.getElem_set_ne (by omega)]
    rw [hset]
    by_cases hik : i / k = m
    · rw [if_pos hik]
      rw [hik] at hdm
      have h1 := over_upto c (m * k) cur hlen
      have h2 : ((over cur (m * k) c).toList.take (m * k + c.length))[i]? = (over cur (m * k) c).toList[i]? := by rw [List.getElem?_take, if_pos (by rw [hc.1]; omega)]
      have hl : (cur.toList.take (m * k)).length = m * k := by rw [List.length_take]; simp; omega
      rw [← h2, h1, List.getElem?_append_right (by rw [hl]; omega), hl]
      congr 1
      omega
    · rw [if_neg hik]
      by_cases hlt : i < m * k
      · have h2 : ((over cur (m * k) c).toList.take (m * k))[i]? = (over cur (m * k) c).toList[i]? := by rw [List.getElem?_take, if_pos hlt]
        rw [← h2, over_take _ _ _ _ (Nat.le_refl _), List.getElem?_take, if_pos hlt]
        exact hC i hi
      · have hge : m * k + k ≤ i := by
          rcases Nat.lt_or_ge i (m * k + k) with h | h
          · exfalso
            apply hik
            have e1 : i / k = m := by
              apply Nat.div_eq_of_lt_le
              · omega
              · rw [Nat.add_mul]; omega
            exact e1
          · exact h
        rw [overK_beyond c (m * k) cur i (by rw [hc.1]; exact hge)]
        exact hC i hi
  · rw [if_neg hi]
    symm
    rw [List.getElem?_eq_none]
    rw [flatK_length (hd.set hc m), List.length_set]
    omega

/-- The slots of a row of the call's own: there, and not frozen. -/
theorem OwnK.slots {k : Nat} {e : TypeId} {w : World} {B g n cap : Nat} {C : List (List Value)} (h : OwnK k e w B (.slice (some ⟨g, 0, none⟩) n cap) C) {m : Nat} (hm : m < C.length) (j : Nat) (hj : j < k) : (∃ u, w.cell? ⟨g, m * k + j, none⟩ = some u) ∧ w.frozen? ⟨g, m * k + j, none⟩ = false := by
  obtain ⟨hd, h⟩ := h
  have hlt : m * k + j < C.length * k := by
    have := Nat.mul_le_mul_right k (show m + 1 ≤ C.length from hm)
    rw [Nat.add_mul] at this
    omega
  rcases h.2 with ⟨h0, _⟩ | ⟨g', cap', cur, hv, hg, hh, hcc, hmx, hs, ht⟩
  · cases h0
  cases hv
  have hCk : C.length * k ≤ cap * k := Nat.mul_le_mul_right k hcc
  constructor
  · refine ⟨cur[m * k + j]'(by rw [hs]; omega), ?_⟩
    simp [World.cell?, hh]
  · simp [World.frozen?, hh]

/-- What a row of structs asks of the program: the slice's type, the element's, of k cells, those of nothing. -/
structure KT (s e k : Nat) (z : List Value) : Prop where
  und : Try.prog.underlying s = some (.slice e)
  info : ∃ i nb, Try.prog.info? e = some i ∧ i.zero = some (.agg z.toArray) ∧ i.size = k ∧ i.bytes = nb ∧ nb ≤ 1024
  len : z.length = k
  one : ∀ u ∈ z, u.oneCell' = true
  pos : 0 < k

theorem madeK {k : Nat} {z : List Value} (hk : 0 < k) (hz : z.length = k ∧ ∀ u ∈ z, u.oneCell' = true) (n : Nat) : (madeCells (Value.agg z.toArray).cells (n * k)).toList = (List.replicate n z).flatten := by
  apply List.ext_getElem?
  intro i
  have hl : (madeCells (Value.agg z.toArray).cells (n * k)).toList.length = n * k := by simp [madeCells]
  by_cases hi : i < n * k
  · have hdm : i / k * k + i % k = i := by rw [Nat.mul_comm]; exact Nat.div_add_mod i k
    have hml := Nat.mod_lt i hk
    have h1 := flatK_at (Wide.rep hz n) (i / k) (by simp; exact div_lt_len hi) (i % k) hml
    rw [hdm] at h1
    rw [h1, List.getElem?_eq_getElem (by rw [hl]; exact hi)]
    simp only [madeCells, Value.cells, List.getElem_replicate]
    simp [hz.1]
    rw [List.getElem?_eq_getElem (by rw [hz.1]; exact hml)]
    rfl
  · rw [List.getElem?_eq_none (by rw [hl]; omega), List.getElem?_eq_none (by rw [flatK_length (Wide.rep hz n)]; simp; omega)]

/-- A new row. -/
theorem run_make_k {s e k : Nat} {z : List Value} (T : KT s e k z) (w : World) (n : Nat) (h : n ≤ 4194304) :
    ∃ w', (Instr.makeSlice s (.int .i64 (n : Int)) (.int .i64 (n : Int))).run Try.prog w = .ok (.slice (some ⟨w.heap.size, 0, none⟩) n n) w' ∧ OwnK k e w' w.heap.size (.slice (some ⟨w.heap.size, 0, none⟩) n n) (List.replicate n z) ∧ Below w.heap.size w w' := by
  obtain ⟨i0, nb, hi, hz0, hz1, hz2, hnb⟩ := T.info
  have hb : nb * n ≤ 1024 * 4194304 := Nat.mul_le_mul hnb h
  obtain ⟨w', hrun, ho, hg⟩ := run_make_full (P := Try.prog) w w.heap.size s e i0 _ k T.und hi hz0 hz1 .i64 .i64 n (by rw [hz2]; omega) (by unfold maxLen; omega) (Nat.le_refl _)
  refine ⟨w', hrun, ⟨Wide.rep ⟨T.len, T.one⟩ n, ?_⟩, (Below.refl _ _).grown hg (Nat.le_refl _) (fun k hk => by cases hk)⟩
  rw [List.length_replicate, ← madeK T.pos ⟨T.len, T.one⟩]
  exact ho

/-- append(l, more...). -/
theorem run_append_k {s e k : Nat} {z : List Value} (T : KT s e k z) {w : World} {B ty n m cap : Nat} {v : Value} {a : Option Addr} {C N : List (List Value)}
    (hown : OwnK k e w B v C) (hn : C.length = n) (hm : N.length = m) (hd : Wide k N) (hr : RdK k w a N) (hnil : a = none → N = [] ∧ cap = 0) (h1 : n ≤ 4194304) (h2 : m ≤ 4194304) (hB : B ≤ w.heap.size) :
    ∃ v' w', (Builtin.append_ #[s, s] ty #[v, .slice a m cap]).run Try.prog w = .ok v' w' ∧ OwnK k e w' B v' (C ++ N) ∧ w.grownBy w' v.ownBlock ∧ (v'.ownBlock = v.ownBlock ∨ v'.ownBlock = some w.heap.size) := by
  obtain ⟨hdC, ho⟩ := hown
  obtain ⟨i0, nb, hi, hz0, hz1, hz2, hnb⟩ := T.info
  have hzs : (Value.agg z.toArray).cells.size = k := by simp [Value.cells, T.len]
  subst hn
  subst hm
  rcases Nat.eq_zero_or_pos N.length with h0 | h0
  · obtain rfl := List.eq_nil_of_length_eq_zero h0
    cases a with
    | none =>
      obtain ⟨_, rfl⟩ := hnil rfl
      exact ⟨v, w, run_append_owned_none (P := Try.prog) (w := w) B s ty e i0 k T.und hi v C.length C.flatten ho, by rw [List.append_nil]; exact ⟨hdC, ho⟩, World.grownBy.refl _ _, .inl rfl⟩
    | some ad =>
      have hb : (C.length + 0) * nb ≤ 4194304 * 1024 := Nat.mul_le_mul (by omega) hnb
      obtain ⟨v', w', hrun, ho', hg, _, hlie⟩ := run_append_own_at (P := Try.prog) w B s ty e i0 _ k nb T.und hi hz0 hz1 hz2 hzs T.pos v C.length C.flatten ho ad 0 cap [] (by simp) (fun j u hj => by simp at hj) (fun u hu => by cases hu) (by unfold maxLen; omega) (by omega) hB
      exact ⟨v', w', hrun, by rw [List.append_nil]; exact ⟨hdC, by simpa using ho'⟩, hg, hlie⟩
  · obtain ⟨ad, rfl, hsrc⟩ := hr.src hd T.pos h0
    have hb : (C.length + N.length) * nb ≤ 8388608 * 1024 := Nat.mul_le_mul (by omega) hnb
    obtain ⟨v', w', hrun, ho', hg, _, hlie⟩ := run_append_own_at (P := Try.prog) w B s ty e i0 _ k nb T.und hi hz0 hz1 hz2 hzs T.pos v C.length C.flatten ho ad N.length cap N.flatten (flatK_length hd) hsrc (flatK_one hd) (by unfold maxLen; omega) (by omega) hB
    exact ⟨v', w', hrun, ⟨hdC.append hd, by rw [List.length_append, List.flatten_append]; exact ho'⟩, hg, hlie⟩

/-- What is left of a row, where those from i to j go. -/
theorem delete_k {k : Nat} {e : TypeId} {w : World} {r cap n i j B : Nat} {cur : Array Value} {C : List (List Value)} (hd : Wide k C) (hB : B ≤ r) (hn : C.length = n) (hh : w.heap[r]? = some (.cells cur e (0, 0))) (hc : n ≤ cap) (hm : cap ≤ maxLen) (hs : cur.size = cap * k) (ht : cur.toList.take (n * k) = C.flatten) (hij : i < j) (hj : j ≤ n) (z : List Value) :
    OwnK k e ((w.setCells r (i * k) (C.drop j).flatten).setCells r ((i + (n - j)) * k) z) B (.slice (some ⟨r, 0, none⟩) (i + (n - j)) cap) (C.take i ++ C.drop j) := by
  have hdt : Wide k (C.take i) := hd.sub fun c hc => List.mem_of_mem_take hc
  have hdd : Wide k (C.drop j) := hd.sub fun c hc => List.mem_of_mem_drop hc
  have e1 : (C.take i ++ C.drop j).length = i + (n - j) := by simp; omega
  have b1 := setCells_block r _ (C.drop j).flatten (i * k) w cur hh
  have b2 := setCells_block r _ z ((i + (n - j)) * k) _ _ b1
  have l1 : (C.drop j).flatten.length = (n - j) * k := by rw [flatK_length hdd, List.length_drop, hn]
  have hle : (i + (n - j)) * k ≤ cap * k := Nat.mul_le_mul_right k (by omega)
  refine ⟨hdt.append hdd, by rw [flatK_length (hdt.append hdd)], .inr ⟨r, cap, _, by rw [e1], hB, b2, by rw [e1]; omega, hm, by rw [over_size, over_size, hs], ?_⟩⟩
  rw [e1, over_take _ _ _ _ (Nat.le_refl _)]
  have e2 := over_upto (C.drop j).flatten (i * k) cur (by rw [l1, hs, ← Nat.add_mul]; exact hle)
  rw [l1, ← Nat.add_mul] at e2
  rw [e2, List.flatten_append, ← flatK_take hd, ← ht, List.take_take, Nat.min_eq_left (Nat.mul_le_mul_right k (by omega))]

end Go.Proofs.Ytajlkaedkifaoaa
