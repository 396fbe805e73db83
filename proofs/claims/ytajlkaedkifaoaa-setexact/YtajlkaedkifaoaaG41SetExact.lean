/-
  Texts of the proof of SetExact, one behind the other.
-/
import Derived.Test.YtajlkaedkifaoaaRows
import Derived.Test.YtajlkaedkifaoaaG39SetExact
import Derived.Test.YtajlkaedkifaoaaG40SetExact
import Derived.Test.YtajlkaedkifaoaaG18SetExact
namespace Go.Proofs.Ytajlkaedkifaoaa
open Go.RowKit Go.Lib
set_option linter.unusedVariables false

theorem heap_ltZ {w : World} {g : Nat} {o : Obj} (h : w.heap[g]? = some o) : g < w.heap.size := (Array.getElem?_eq_some_iff.1 h).1

theorem own_otherZ {w w' : World} {B1 B2 : Nat} {e1 e2 : TypeId} {s1 s2 n1 n2 : Nat} {v1 v2 : Value} {u1 u2 : List Value} (h1 : w.ownsRow B1 e1 s1 v1 n1 u1) (h2 : w.ownsRow B2 e2 s2 v2 n2 u2) (hne : e1 ≠ e2) (hg : w.grownBy w' v2.ownBlock) : w'.ownsRow B1 e1 s1 v1 n1 u1 := by
  obtain ⟨k, h1 | ⟨g, cap, cur, hv, hb, hh, hc⟩⟩ := h1
  · exact ⟨k, .inl h1⟩
  · refine ⟨k, .inr ⟨g, cap, cur, hv, hb, ?_, hc⟩⟩
    refine (hg.block g (heap_ltZ hh) fun e => ?_).trans hh
    obtain ⟨_, ⟨rfl, -⟩ | ⟨g2, cap2, cur2, rfl, -, hh2, -⟩⟩ := h2
    · cases e
    · simp only [Value.ownBlock, Option.some.injEq] at e
      subst e
      rw [hh] at hh2
      simp only [Option.some.injEq, Obj.cells.injEq] at hh2
      exact hne hh2.2.1

theorem own_baseZ {w : World} {B C t k n : Nat} {v : Value} {xs : List Value} (h : w.ownsRow B t k v n xs) (hb : C ≤ B) : w.ownsRow C t k v n xs := by
  obtain ⟨h1, h2 | ⟨g, cap, cur, hv, hg, hh, hc⟩⟩ := h
  · exact ⟨h1, .inl h2⟩
  · exact ⟨h1, .inr ⟨g, cap, cur, hv, Nat.le_trans hb hg, hh, hc⟩⟩

/-- An Item whose row is the call's own. -/
def OwnedRow (w : World) (B : Nat) (z : List Value × PI) : Prop := ∃ ra rc, z.1 = [.slice ra z.2.row.length rc, .int .i64 z.2.wt] ∧ OwnV w B (.slice ra z.2.row.length rc) z.2.row

def SetO (w : World) (B : Nat) (v : Value) (Z : List (List Value × PI)) : Prop := RowZ w B v Z ∧ ∀ z ∈ Z, OwnedRow w B z

theorem SetO.nought (w : World) (B : Nat) : SetO w B (.slice none 0 0) [] := ⟨RowZ.nought _ _, fun z hz => by cases hz⟩

theorem OwnedRow.later {w w' : World} {B : Nat} {z : List Value × PI} (h : OwnedRow w B z) (hb : Below w.heap.size w w') : OwnedRow w' B z := by
  obtain ⟨ra, rc, e, ho⟩ := h
  exact ⟨ra, rc, e, ho.later hb⟩

theorem SetO.later {w w' : World} {B : Nat} {v : Value} {Z : List (List Value × PI)} (h : SetO w B v Z) (hb : Below w.heap.size w w') : SetO w' B v Z := ⟨h.1.later hb, fun z hz => (h.2 z hz).later hb⟩

theorem SetO.base {w : World} {B B' : Nat} {v : Value} {Z : List (List Value × PI)} (h : SetO w B v Z) (hB : B' ≤ B) : SetO w B' v Z := ⟨h.1.base hB, fun z hz => by
  obtain ⟨ra, rc, e, ho⟩ := h.2 z hz
  exact ⟨ra, rc, e, own_baseZ ho hB⟩⟩

theorem value_item : (65 : Nat) ≠ 40 := by decide

/-- Such a set with one Item more, its row the call's own, too. -/
theorem setO_one {w : World} {B C k : Nat} {v : Value} {Z : List (List Value × PI)} {row : List PV} {V : Int} {a2 : Option Addr} {c2 : Nat} (ty : Nat) (h : SetO w B v Z) (hn : Z.length = k) (h4 : k ≤ 65536) (ho : OwnV w C (.slice a2 row.length c2) row) (hC : B ≤ C) (hown : ∀ b, v.ownBlock = some b → b < C) (h65 : row.length ≤ 65536) (hV : In64 V) (hc2 : row.length ≤ c2) (hnil : a2 = none → row = [] ∧ c2 = 0) (hB : B ≤ w.heap.size) :
    ∃ a' c' w', (Builtin.append_ #[22, 22] ty #[v, .slice (some ⟨w.heap.size, 0, none⟩) 1 1]).run Try.prog (w.alloc (.cells #[.slice a2 row.length c2, .int .i64 V] 40)) = .ok (.slice a' (k + 1) c') w' ∧ SetO w' B (.slice a' (k + 1) c') (Z ++ [([.slice a2 row.length c2, .int .i64 V], ⟨row, V⟩)]) ∧ Below B w w' := by
  have hb := alloc_below w (.cells #[.slice a2 row.length c2, .int .i64 V] 40)
  obtain ⟨n0, n1⟩ := two_cells_new w (.slice a2 row.length c2) (.int .i64 V) 40
  have hO := h.later hb
  have ho1 := ho.later hb
  generalize (w.alloc (.cells #[.slice a2 row.length c2, .int .i64 V] 40)) = w1 at *
  have hlx : LiesZ (fun b => b < B ∨ v.ownBlock = some b) w1 [.slice a2 row.length c2, .int .i64 V] ⟨row, V⟩ := by
    obtain ⟨a3, c3, e3, -, r3, -⟩ := ho1.form
    cases e3
    refine ⟨a2, c2, rfl, r3, h65, hc2, hnil, hV, fun _ b o s ea hE => ?_⟩
    subst ea
    have hge := (World.ownsRow.lt ho b rfl).1
    rcases hE with hE | hE
    · omega
    · have := hown b hE
      omega
  obtain ⟨v5, w5, hrun, ho5, hg5, hl5⟩ := run_append_k ktItem (ty := ty) (cap := 1) (a := some ⟨w.heap.size, 0, none⟩) hO.1.1 (n := k) (by rw [List.length_map]; exact hn) (m := 1) (N := [[.slice a2 row.length c2, .int .i64 V]]) rfl (Wide.one hlx.wide) (fun _ => ⟨w.heap.size, 0, rfl, fun i hi j v hj => by
    have hi0 : i = 0 := by simpa using hi
    subst hi0
    simp only [List.getElem_cons_zero] at hj
    rw [Nat.zero_mul, Nat.add_zero, Nat.zero_add]
    match j, hj with
    | 0, hj => cases hj; exact n0
    | 1, hj => cases hj; exact n1⟩) (fun h => by cases h) (by omega) (by omega) (Nat.le_trans hB hb.size)
  have hrow := hO.1.grow (Y := [([.slice a2 row.length c2, .int .i64 V], ⟨row, V⟩)]) (fun z hz => by
    rw [List.mem_singleton.1 hz]
    exact hlx) (by simpa using ho5) hg5 hl5
  obtain ⟨a5, c5, e5, -⟩ := hrow.form
  rw [List.length_append, List.length_singleton, hn] at e5
  subst e5
  have keep : ∀ {z : List Value × PI}, OwnedRow w1 B z → OwnedRow w5 B z := fun {z} hz => by
    obtain ⟨ra, rc, e, hz⟩ := hz
    exact ⟨ra, rc, e, own_otherZ hz hO.1.1.2 value_item hg5⟩
  refine ⟨a5, c5, w5, hrun, ⟨hrow, fun z hz => ?_⟩, ((Below.refl B w).trans (hb.mono hB)).grown hg5 (Nat.le_trans hB hb.size) (fun j hj => (World.ownsRow.lt hO.1.1.2 j hj).1)⟩
  rcases List.mem_append.1 hz with hz | hz
  · exact keep (hO.2 z hz)
  · rw [List.mem_singleton.1 hz]
    exact keep ⟨a2, c2, rfl, own_baseZ ho1 hC⟩

theorem own_setZ {w : World} {B1 B2 b i : Nat} {e1 e2 : TypeId} {s1 s2 n1 n2 : Nat} {v1 v2 u : Value} {u1 u2 : List Value} (h1 : w.ownsRow B1 e1 s1 v1 n1 u1) (h2 : w.ownsRow B2 e2 s2 v2 n2 u2) (hb : v2.ownBlock = some b) (hne : e1 ≠ e2) : (w.setCell ⟨b, i, none⟩ u).ownsRow B1 e1 s1 v1 n1 u1 := by
  obtain ⟨k, h1 | ⟨g, cap, cur, hv, hg, hh, hx⟩⟩ := h1
  · exact ⟨k, .inl h1⟩
  · refine ⟨k, .inr ⟨g, cap, cur, hv, hg, (Below.heap_setCell w ⟨b, i, none⟩ u g fun e => ?_).trans hh, hx⟩⟩
    subst e
    obtain ⟨_, ⟨rfl, -⟩ | ⟨g2, cap2, cur2, rfl, -, hh2, -⟩⟩ := h2
    · cases hb
    · simp only [Value.ownBlock, Option.some.injEq] at hb
      subst hb
      rw [hh] at hh2
      simp only [Option.some.injEq, Obj.cells.injEq] at hh2
      exact hne hh2.2.1

/-- What a call hands back that makes a set of its own. -/
def GivesW (w w' : World) (e : Ending) (r : List PI × Int) : Prop :=
  ∃ v Z, e = .returned (.tuple #[v, .int .i64 r.2]) ∧ Z.map (·.2) = r.1 ∧ SetO w' w.heap.size v Z ∧ Below w.heap.size w w'

theorem GivesW.no {w w' : World} {e : Ending} {k : Int} (h : e = .returned (.tuple #[.slice none 0 0, .int .i64 k])) (hb : Below w.heap.size w w') : GivesW w w' e ([], k) :=
  ⟨_, [], h, rfl, SetO.nought _ _, hb⟩

theorem GivesW.base {w w1 w' : World} {e : Ending} {r : List PI × Int} (h : GivesW w1 w' e r) (hb : Below w.heap.size w w1) : GivesW w w' e r := by
  obtain ⟨v, Z, e1, e2, hr, hb2⟩ := h
  exact ⟨v, Z, e1, e2, hr.base hb.size, chain hb hb2⟩

end Go.Proofs.Ytajlkaedkifaoaa

namespace Go.Proofs.Ytajlkaedkifaoaa
open Go.RowKit Go.Lib
set_option linter.unusedVariables false

/-- No block but g is touched, and none ahead of it. -/
def TouchZ (g : Nat) (w w' : World) : Prop := Below g w w' ∧ ∀ b, b ≠ g → w'.heap[b]? = w.heap[b]?

theorem TouchZ.refl (g : Nat) (w : World) : TouchZ g w w := ⟨Below.refl _ _, fun _ _ => rfl⟩

theorem TouchZ.set {g i : Nat} {w w' : World} {u : Value} (h : TouchZ g w w') : TouchZ g w (w'.setCell ⟨g, i, none⟩ u) := ⟨h.1.setCell (p := ⟨g, i, none⟩) (Nat.le_refl _) u, fun b hb => (Below.heap_setCell w' ⟨g, i, none⟩ u b hb).trans (h.2 b hb)⟩

theorem spoilRow_touch (g n cap m : Nat) (w : World) (hn : n * 3 ≤ m) (h64 : n ≤ 65536) (hg : VRow w g m) :
    Calls Try.prog 43 #[.slice (some ⟨g, 0, none⟩) n cap] w fun e w' => e = .returned (.tuple #[]) ∧ VRow w' g m ∧ TouchZ g w w' := by
  go_enter Try.func43, Try.ntmps43
  go_wp2
  go_loopw [2] (fun i wr => ∃ k : Nat, k ≤ n ∧ i = .int .i64 k ∧ VRow wr g m ∧ Hid (TouchZ g w wr)) (fun i _ => n - (RowKit.intOf i).toNat)
  case atStart => exact ⟨0, Nat.zero_le _, rfl, hg, TouchZ.refl _ _⟩
  case round =>
    obtain ⟨k, hk, rfl, hV, hB⟩ := hrel
    by_cases hlt : k < n
    · obtain ⟨u0, c0, f0⟩ := hV.cell (i := k * 3) (by omega)
      obtain ⟨u1, c1, f1⟩ := hV.cell (i := k * 3 + 1) (by omega)
      obtain ⟨u2, c2, f2⟩ := hV.cell (i := k * 3 + 2) (by omega)
      go_wp2
      go_roundw
      case rel => exact ⟨k + 1, by omega, by go_num, ((hV.set).set).set, ((hB.out.set).set).set⟩
      case measure => simp [RowKit.intOf]; omega
    · go_wp2
      go_end0
      exact ⟨rfl, hV, hB.out⟩

/-- A row that may be written over. -/
def FreeRow (w : World) (B E : Nat) (r : Option Addr × Nat) : Prop := r.2 ≤ 65536 ∧ (r.2 = 0 ∨ ∃ g m, r.1 = some ⟨g, 0, none⟩ ∧ VRow w g m ∧ r.2 * 3 ≤ m ∧ B ≤ g ∧ g < E)

/-- A set that may be written over: where its Items lie, and its rows. -/
structure SpoilAt (w : World) (B E g n : Nat) (L : List (Option Addr × Nat × Nat)) : Prop where
  len : L.length = n
  low : B ≤ g
  high : g < E
  items : ∃ cs : Array Value, w.heap[g]? = some (.cells cs 40 (0, 0)) ∧ n * 2 ≤ cs.size ∧ ∀ j (hj : j < L.length), cs[j * 2]? = some (.slice L[j].1 L[j].2.1 L[j].2.2)
  rows : ∀ r ∈ L, FreeRow w B E (r.1, r.2.1)

theorem FreeRow.of_own {w : World} {B rn rc : Nat} {ra : Option Addr} {row : List PV} (hn : row.length = rn) (h65 : rn ≤ 65536) (ho : OwnV w B (.slice ra rn rc) row) : FreeRow w B w.heap.size (ra, rn) := by
  refine ⟨h65, ?_⟩
  obtain ⟨h1, ⟨-, h2⟩ | ⟨g, cap, cur, hv, hg, hh, hc, hm, hs, hx⟩⟩ := ho
  · left
    rw [← hn]
    exact h2
  · right
    simp only [Value.slice.injEq] at hv
    obtain ⟨rfl, e2, rfl⟩ := hv
    exact ⟨g, cur.size, rfl, ⟨cur, rfl, hh⟩, by rw [hs, e2]; exact Nat.mul_le_mul_right _ hc, hg, heap_ltZ hh⟩

theorem SpoilAt.of_set {w : World} {B g n cap : Nat} {Z : List (List Value × PI)} (h : SetO w B (.slice (some ⟨g, 0, none⟩) n cap) Z) : ∃ L, SpoilAt w B w.heap.size g n L := by
  have hz := h.2
  have hl := h.1.2
  obtain ⟨hx, ⟨e0, -⟩ | ⟨g2, cap2, cur, e0, hg, hh, hc, hm, hs, ht⟩⟩ := h.1.1.2
  · cases e0
  · simp only [Value.slice.injEq, Option.some.injEq, Addr.mk.injEq] at e0
    obtain ⟨⟨rfl, -⟩, rfl, rfl⟩ := e0
    have hch : ∃ f : Nat → Option Addr × Nat × Nat, ∀ j (hj : j < Z.length), Z[j].1 = [.slice (f j).1 (f j).2.1 (f j).2.2, .int .i64 Z[j].2.wt] ∧ FreeRow w B w.heap.size ((f j).1, (f j).2.1) := by
      have each : ∀ j (hj : j < Z.length), ∃ q : Option Addr × Nat × Nat, Z[j].1 = [.slice q.1 q.2.1 q.2.2, .int .i64 Z[j].2.wt] ∧ FreeRow w B w.heap.size (q.1, q.2.1) := fun j hj => by
        obtain ⟨ra, rc, e, ho⟩ := hz _ (List.getElem_mem hj)
        obtain ⟨-, -, -, -, l1, -⟩ := hl _ (List.getElem_mem hj)
        exact ⟨(ra, Z[j].2.row.length, rc), e, FreeRow.of_own rfl l1 ho⟩
      exact ⟨fun j => if h : j < Z.length then (each j h).choose else (none, 0, 0), fun j hj => by simp only [dif_pos hj]; exact (each j hj).choose_spec⟩
    obtain ⟨f, hf⟩ := hch
    have hzl : (Z.map (·.1)).length = Z.length := List.length_map _
    refine ⟨(List.range Z.length).map f, by rw [List.length_map, List.length_range, ← hzl], hg, heap_ltZ hh, ⟨cur, hh, by rw [hs]; exact Nat.mul_le_mul_right _ hc, fun j hj => ?_⟩, fun r hr => ?_⟩
    · have hj' : j < Z.length := by simpa using hj
      have hjm : j < (Z.map (·.1)).length := by rw [hzl]; exact hj'
      obtain ⟨e, -⟩ := hf j hj'
      have h1 := flatK_at (LiesZ.wides hl) j hjm 0 (by omega)
      rw [Nat.add_zero, List.getElem_map, e, ← ht, List.getElem?_take_of_lt (by rw [hzl]; omega)] at h1
      rw [← Array.getElem?_toList, h1]
      simp
    · obtain ⟨j, hj, rfl⟩ := List.mem_map.1 hr
      exact (hf j (List.mem_range.1 hj)).2

theorem VRow.ne_item {w : World} {g g2 m : Nat} {cs : Array Value} (h : VRow w g m) (h2 : w.heap[g2]? = some (.cells cs 40 (0, 0))) : g ≠ g2 := by
  obtain ⟨c, -, hc⟩ := h
  rintro rfl
  rw [h2] at hc
  simp only [Option.some.injEq, Obj.cells.injEq] at hc
  exact value_item hc.2.1.symm

theorem VRow.touch {w w' : World} {g g2 m m2 : Nat} (h : VRow w g m) (h2 : VRow w g2 m2) (h' : VRow w' g2 m2) (ht : TouchZ g2 w w') : VRow w' g m := by
  by_cases e : g = g2
  · subst e
    obtain ⟨c, rfl, hc⟩ := h
    obtain ⟨c2, rfl, hc2⟩ := h2
    rw [hc] at hc2
    simp only [Option.some.injEq, Obj.cells.injEq] at hc2
    obtain ⟨rfl, -⟩ := hc2
    exact h'
  · obtain ⟨c, rfl, hc⟩ := h
    exact ⟨c, rfl, (ht.2 g e).trans hc⟩

theorem SpoilAt.touch {w w' : World} {B E g n g2 m2 : Nat} {L : List (Option Addr × Nat × Nat)} (h : SpoilAt w B E g n L) (h2 : VRow w g2 m2) (h' : VRow w' g2 m2) (ht : TouchZ g2 w w') : SpoilAt w' B E g n L := by
  obtain ⟨cs, hc, h3, h4⟩ := h.items
  refine ⟨h.len, h.low, h.high, ⟨cs, (ht.2 g (h2.ne_item hc).symm).trans hc, h3, h4⟩, fun r hr => ?_⟩
  obtain ⟨k1, k2⟩ := h.rows r hr
  refine ⟨k1, k2.imp id ?_⟩
  rintro ⟨g3, m3, e, hv, hm, hB, hE⟩
  exact ⟨g3, m3, e, hv.touch h2 h' ht, hm, hB, hE⟩

theorem SpoilAt.put {w : World} {B E g n k : Nat} {L : List (Option Addr × Nat × Nat)} (h : SpoilAt w B E g n L) (u : Value) : SpoilAt (w.setCell ⟨g, k * 2 + 1, none⟩ u) B E g n L := by
  obtain ⟨cs, hc, h3, h4⟩ := h.items
  refine ⟨h.len, h.low, h.high, ⟨cs.setIfInBounds (k * 2 + 1) u, Go.heap_setCell_same _ _ _ _ _ _ hc, by rw [Array.size_setIfInBounds]; exact h3, fun j hj => ?_⟩, fun r hr => ?_⟩
  · rw [Array.getElem?_setIfInBounds_ne (by omega)]
    exact h4 j hj
  · obtain ⟨k1, k2⟩ := h.rows r hr
    refine ⟨k1, k2.imp id ?_⟩
    rintro ⟨g3, m3, e, hv, hm, hB, hE⟩
    obtain ⟨c, rfl, hcc⟩ := hv
    exact ⟨g3, c.size, e, ⟨c, rfl, (Below.heap_setCell w ⟨g, k * 2 + 1, none⟩ u g3 (VRow.ne_item ⟨c, rfl, hcc⟩ hc)).trans hcc⟩, hm, hB, hE⟩

theorem SpoilAt.at_ {w : World} {B E g n k : Nat} {L : List (Option Addr × Nat × Nat)} (h : SpoilAt w B E g n L) (hk : k < L.length) : w.cell? ⟨g, k * 2, none⟩ = some (.slice L[k].1 L[k].2.1 L[k].2.2) ∧ (∃ u, w.cell? ⟨g, k * 2 + 1, none⟩ = some u) ∧ w.frozen? ⟨g, k * 2 + 1, none⟩ = false := by
  obtain ⟨cs, hc, h3, h4⟩ := h.items
  have hcell := fun i => cell_of_row w g i _ _ _ hc
  have hn := h.len
  refine ⟨by rw [hcell, h4 k hk], ⟨cs[k * 2 + 1]'(by omega), by rw [hcell, Array.getElem?_eq_getElem (by omega)]⟩, by simp [World.frozen?, hc]⟩

set_option maxHeartbeats 1000000 in
theorem spoilSet_at (B E g n cap : Nat) (L : List (Option Addr × Nat × Nat)) (w : World) (h4 : n ≤ 65536) (h : SpoilAt w B E g n L) :
    Calls Try.prog 18 #[.slice (some ⟨g, 0, none⟩) n cap] w fun e w' => e = .returned (.tuple #[]) ∧ Below B w w' ∧ ∀ b, E ≤ b → w'.heap[b]? = w.heap[b]? := by
  have HS : Hid (SpoilAt w B E g n L) := h
  clear h
  go_enter Try.func18, Try.ntmps18
  go_wp2
  go_loopw [2] (fun i wr => ∃ k : Nat, k ≤ n ∧ i = .int .i64 k ∧ Hid (SpoilAt wr B E g n L) ∧ Hid (Below B w wr) ∧ Hid (∀ b, E ≤ b → wr.heap[b]? = w.heap[b]?)) (fun i _ => n - (RowKit.intOf i).toNat)
  case atStart => exact ⟨0, Nat.zero_le _, rfl, HS, Below.refl _ _, fun _ _ => rfl⟩
  case round =>
    clear HS
    obtain ⟨k, hk, rfl, hS, hB, hX⟩ := hrel
    rename World => wr
    by_cases hlt : k < n
    · have hkl : k < L.length := by rw [hS.out.len]; exact hlt
      obtain ⟨x0, -, -⟩ := hS.out.at_ hkl
      have hfr := hS.out.rows _ (List.getElem_mem hkl)
      have HK : Hid (k < L.length) := hkl
      generalize L[k] = r at *
      obtain ⟨ra, rn, rc⟩ := r
      simp only at x0 hfr
      have k0 : (0 : Int) ≤ (k : Int) := by omega
      have k1 : (k : Int) < (n : Int) := by omega
      obtain ⟨h65, h0 | ⟨g3, m3, e3, hv, hm, hBg, hEg⟩⟩ := hfr
      · simp only at h0
        subst h0
        clear hkl h65
        go_wp2_with fail
        refine (spoilRow_none ra rc wr).mono ?_
        rintro e wz ⟨rfl, hw⟩
        subst hw
        obtain ⟨-, ⟨u1, c1⟩, f1⟩ := hS.out.at_ HK.out
        have HP : Hid (SpoilAt (wz.setCell ⟨g, k * 2 + 1, none⟩ (.int .i64 (-7777))) B E g n L) := hS.out.put _
        have HB2 : Hid (Below B w (wz.setCell ⟨g, k * 2 + 1, none⟩ (.int .i64 (-7777)))) := hB.out.setCell (p := ⟨g, k * 2 + 1, none⟩) hS.out.low _
        have HX2 : Hid (∀ b, E ≤ b → (wz.setCell ⟨g, k * 2 + 1, none⟩ (.int .i64 (-7777))).heap[b]? = w.heap[b]?) := fun b hb => (Below.heap_setCell wz ⟨g, k * 2 + 1, none⟩ _ b (fun e => by have := hS.out.high; subst e; omega)).trans (hX.out b hb)
        clear hS hB hX
        go_wp2
        go_roundw
        case rel => exact ⟨k + 1, by omega, by go_num, HP, HB2, HX2⟩
        case measure => simp [RowKit.intOf]; omega
      · simp only at e3 hm h65
        subst e3
        have C := spoilRow_touch g3 rn rc m3 wr hm h65 hv
        have HV : Hid (VRow wr g3 m3) := hv
        clear hkl h65 hm hv
        go_wp2_with fail
        refine C.mono ?_
        rintro e wz ⟨rfl, hv2, ht⟩
        have HS2 : Hid (SpoilAt wz B E g n L) := hS.out.touch HV.out hv2 ht
        obtain ⟨-, ⟨u1, c1⟩, f1⟩ := HS2.out.at_ HK.out
        have HP : Hid (SpoilAt (wz.setCell ⟨g, k * 2 + 1, none⟩ (.int .i64 (-7777))) B E g n L) := HS2.out.put _
        have HB2 : Hid (Below B w (wz.setCell ⟨g, k * 2 + 1, none⟩ (.int .i64 (-7777)))) := (hB.out.trans (ht.1.mono hBg)).setCell (p := ⟨g, k * 2 + 1, none⟩) hS.out.low _
        have HX2 : Hid (∀ b, E ≤ b → (wz.setCell ⟨g, k * 2 + 1, none⟩ (.int .i64 (-7777))).heap[b]? = w.heap[b]?) := fun b hb => (Below.heap_setCell wz ⟨g, k * 2 + 1, none⟩ _ b (fun e => by have := hS.out.high; subst e; omega)).trans ((ht.2 b (by omega)).trans (hX.out b hb))
        clear C hS hB HS2 hv2 ht HV hX
        go_wp2
        go_roundw
        case rel => exact ⟨k + 1, by omega, by go_num, HP, HB2, HX2⟩
        case measure => simp [RowKit.intOf]; omega
    · go_wp2
      go_end0
      exact ⟨rfl, hB.out, hX.out⟩

set_option maxHeartbeats 400000 in
theorem spoilSet_none (a : Option Addr) (cap : Nat) (w : World) :
    Calls Try.prog 18 #[.slice a 0 cap] w fun e w' => e = .returned (.tuple #[]) ∧ w' = w := by
  go_enter Try.func18, Try.ntmps18
  go_wp2
  go_loop [2] (fun i => i = .int .i64 0) (fun i => 0)
  case atStart => rfl
  case round =>
    subst hrel
    go_wp2
    go_end0
    exact ⟨rfl, rfl⟩

/-- What may be written over: blocks from B to E alone. -/
def SpoilOK (w : World) (B E : Nat) (a : Option Addr) (n : Nat) : Prop := n = 0 ∨ ∃ g L, a = some ⟨g, 0, none⟩ ∧ SpoilAt w B E g n L

theorem SpoilOK.of_set {w : World} {B n cap : Nat} {a : Option Addr} {Z : List (List Value × PI)} (h : SetO w B (.slice a n cap) Z) : SpoilOK w B w.heap.size a n := by
  rcases Nat.eq_zero_or_pos n with h0 | h0
  · exact .inl h0
  · right
    have hf : ∃ g, a = some ⟨g, 0, none⟩ := by
      obtain ⟨-, ⟨e0, -⟩ | ⟨g2, cap2, cur, e0, -⟩⟩ := h.1.1.2
      · cases e0
        omega
      · cases e0
        exact ⟨g2, rfl⟩
    obtain ⟨g, rfl⟩ := hf
    obtain ⟨L, hL⟩ := SpoilAt.of_set h
    exact ⟨g, L, rfl, hL⟩

theorem SpoilAt.kept {w w' : World} {B E g n : Nat} {L : List (Option Addr × Nat × Nat)} (h : SpoilAt w B E g n L) (hk : ∀ b, B ≤ b → b < E → w'.heap[b]? = w.heap[b]?) : SpoilAt w' B E g n L := by
  obtain ⟨cs, hc, h3, h4⟩ := h.items
  refine ⟨h.len, h.low, h.high, ⟨cs, (hk g h.low h.high).trans hc, h3, h4⟩, fun r hr => ?_⟩
  obtain ⟨k1, k2⟩ := h.rows r hr
  refine ⟨k1, k2.imp id ?_⟩
  rintro ⟨g3, m3, e, ⟨c, hc2, hcc⟩, hm, hB, hE⟩
  exact ⟨g3, m3, e, ⟨c, hc2, (hk g3 hB hE).trans hcc⟩, hm, hB, hE⟩

theorem SpoilOK.kept {w w' : World} {B E n : Nat} {a : Option Addr} (h : SpoilOK w B E a n) (hk : ∀ b, B ≤ b → b < E → w'.heap[b]? = w.heap[b]?) : SpoilOK w' B E a n := by
  rcases h with h | ⟨g, L, e, h⟩
  · exact .inl h
  · exact .inr ⟨g, L, e, h.kept hk⟩

theorem SpoilOK.later {w w' : World} {B E n : Nat} {a : Option Addr} (h : SpoilOK w B E a n) (hE : E ≤ w.heap.size) (hb : Below w.heap.size w w') : SpoilOK w' B E a n := h.kept fun b _ hbE => hb.block b (by omega)

/-- A set of the call's own written over. -/
theorem spoil_c {a : Option Addr} {n B E : Nat} (cap : Nat) {w : World} (h4 : n ≤ 65536) (h : SpoilOK w B E a n) :
    Calls Try.prog 18 #[.slice a n cap] w fun e w' => e = .returned (.tuple #[]) ∧ Below B w w' ∧ ∀ b, E ≤ b → w'.heap[b]? = w.heap[b]? := by
  rcases h with h0 | ⟨g, L, rfl, hL⟩
  · subst h0
    refine (spoilSet_none a cap w).mono ?_
    rintro e w' ⟨rfl, rfl⟩
    exact ⟨rfl, Below.refl _ _, fun _ _ => rfl⟩
  · exact spoilSet_at B E g n cap L w h4 hL

end Go.Proofs.Ytajlkaedkifaoaa

namespace Go.Proofs.Ytajlkaedkifaoaa
open Go.RowKit Go.Lib
set_option linter.unusedVariables false

set_option maxRecDepth 100000 in
set_option maxHeartbeats 16000000 in
theorem zgatheredO_any (a : Option Addr) (n cap : Nat) (X : List PI) (w : World) (hn : X.length = n) (h4 : n ≤ 32768) (hr : RdZ w a X) :
    Calls Try.prog 33 #[.slice a n cap] w fun e w' => GivesW w w' e (ansZ (gatherZ X)) := by
  have HN : Hid (X.length = n) := hn
  have HR : Hid (RdZ w a X) := hr
  have HG0 : Hid (gatherZ X = (gatherZ (X.drop 0)).map fun r => (([] : List (List Value × PI)).map (·.2)) ++ r) := by
    show _ = _
    simp
  clear hn hr
  go_enter Try.func33, Try.ntmps33
  go_wp2
  go_loopw [4, 5] (fun v i wr => ∃ (k : Nat) (Z : List (List Value × PI)) (ao : Option Addr) (co : Nat), k ≤ n ∧ i = .int .i64 k ∧ v = .slice ao Z.length co ∧ Hid (gatherZ X = (gatherZ (X.drop k)).map fun r => Z.map (·.2) ++ r) ∧ Hid (SetO wr w.heap.size (.slice ao Z.length co) Z) ∧ Hid (Below w.heap.size w wr) ∧ Z.length ≤ k) (fun _ i _ => n - (RowKit.intOf i).toNat)
  case atStart => exact ⟨0, [], none, 0, Nat.zero_le _, rfl, rfl, HG0.out, SetO.nought _ _, Below.refl _ _, Nat.le_refl _⟩
  case round =>
    clear HG0
    obtain ⟨k, Z, ao, co, hk, rfl, rfl, hG, hRo, hB, hZk⟩ := hrel
    rename World => ww
    by_cases hlt : k < n
    · have hkl : k < X.length := by rw [HN.out]; exact hlt
      obtain ⟨b, off, ra, rc, rfl, x0, x1, hz⟩ := (HR.out.later hB.out).at_ hkl
      obtain ⟨wb, hwb⟩ : ∃ x, x = ww.alloc (.cells #[.slice ra (X[k]'hkl).row.length rc, .int .i64 (X[k]'hkl).wt] 40) := ⟨_, rfl⟩
      obtain ⟨B60, B61⟩ := two_cells_new ww (.slice ra (X[k]'hkl).row.length rc) (.int .i64 (X[k]'hkl).wt) 40
      rw [← hwb] at B60 B61
      have hb1 : Below ww.heap.size ww wb := by rw [hwb]; exact alloc_below _ _
      have HB60 : Hid (wb.cell? ⟨ww.heap.size, 0, none⟩ = some (.slice ra (X[k]'hkl).row.length rc) ∧ wb.cell? ⟨ww.heap.size, 1, none⟩ = some (.int .i64 (X[k]'hkl).wt)) := ⟨B60, B61⟩
      have HLZ : Hid (LiesZ (fun _ => False) wb [.slice ra (X[k]'hkl).row.length rc, .int .i64 (X[k]'hkl).wt] (X[k]'hkl)) := hz.later hb1
      have HB0 : Hid (Below w.heap.size w wb) := chain hB.out hb1
      have HRB : Hid (SetO wb w.heap.size (.slice ao Z.length co) Z) := hRo.out.later hb1
      have HR1 : Hid (RdZ wb (some ⟨b, off, none⟩) X) := (HR.out.later hB.out).later hb1
      have hsz : wb.heap.size = ww.heap.size + 1 := by rw [hwb]; simp
      have HT1 : Hid (TwoAt ((ww.alloc (.cells #[.slice ra (X[k]'hkl).row.length rc, .int .i64 (X[k]'hkl).wt] 40)).alloc (.cells #[.int .i64 0, .int .i64 0] 71)) (ww.heap.size + 1) 0 0) := by
        show TwoAt _ _ _ _
        rw [← hsz, ← hwb]
        exact TwoAt.made _ _ _
      have HBT : Hid (Below wb.heap.size wb ((ww.alloc (.cells #[.slice ra (X[k]'hkl).row.length rc, .int .i64 (X[k]'hkl).wt] 40)).alloc (.cells #[.int .i64 0, .int .i64 0] 71))) := by rw [← hwb]; exact alloc_below _ _
      have HS0 : Hid (0 * 268435456 + 0 = sumTo X k k) := by show _ = _; rw [sumTo_self]; rfl
      have HSZ : Hid (wb.heap.size = ww.heap.size + 1) := hsz
      clear hz hb1 B60 B61 hwb hsz hRo
      go_wp2
      go_loopw [5] (fun i wq => ∃ (j : Nat) (h l : Int), k ≤ j ∧ j ≤ n ∧ i = .int .i64 j ∧ Hid (∀ i (hi : i < X.length), k ≤ i → i < j → cmpZ X[i] (X[k]'hkl) = 0) ∧ Hid (h * 268435456 + l = sumTo X k j) ∧ Hid (-(((j - k : Nat) : Int) * 34359738368) ≤ h ∧ h ≤ ((j - k : Nat) : Int) * 34359738368) ∧ Hid (0 ≤ l ∧ l ≤ ((j - k : Nat) : Int) * 268435455) ∧ Hid (TwoAt wq (ww.heap.size + 1) h l) ∧ Hid (Below wb.heap.size wb wq)) (fun i _ => n - (RowKit.intOf i).toNat)
      case atStart =>
        refine ⟨k, 0, 0, Nat.le_refl _, hk, rfl, (fun i hi h1 h2 => by omega), HS0.out, ?_, ?_, ?_, HBT.out⟩
        · show _ ∧ _
          simp
        · show _ ∧ _
          simp
        · exact HT1.out
      case round =>
        clear HT1 HBT HS0
        obtain ⟨j, h, l, hkj, hj, rfl, hall, hsum, hhb, hlb, hT7, hB7⟩ := hrel
        by_cases hjn : j < n
        · have hjl : j < X.length := by rw [HN.out]; exact hjn
          obtain ⟨b', off', sa, sc, eb, y0, y1, hz2⟩ := (HR1.out.later hB7.out).at_ hjl
          cases eb
          have HLJ : Hid (LiesZ (fun _ => False) wr [.slice sa X[j].row.length sc, .int .i64 X[j].wt] X[j]) := hz2
          have HX6 : Hid (_ ∧ _) := ⟨cell_later hB7.out HB60.out.1, cell_later hB7.out HB60.out.2⟩
          have CC : ∀ V, Below wr.heap.size wr V → Calls Try.prog 36 #[.agg #[.slice sa X[j].row.length sc, .int .i64 X[j].wt], .agg #[.slice ra (X[k]'hkl).row.length rc, .int .i64 (X[k]'hkl).wt]] V fun e w' => e = .returned (.int .i64 (cmpZ X[j] (X[k]'hkl))) ∧ Lay V w' := fun V hb => zCompare_any _ _ X[j] (X[k]'hkl) V (HLJ.out.later hb) ((HLZ.out.later hB7.out).later hb)
          have HWT : Hid (In64 X[j].wt) := by obtain ⟨_, _, _, _, _, _, _, h64, _⟩ := hz2; exact h64
          have HSU : Hid (sumTo X k (j + 1) = sumTo X k j + X[j].wt) := sumTo_succ hkj hjl
          have HAL : Hid (cmpZ X[j] (X[k]'hkl) = 0 → ∀ i (hi : i < X.length), k ≤ i → i < j + 1 → cmpZ X[i] (X[k]'hkl) = 0) := fun h0 i hi h1 h2 => by
            by_cases h3 : i = j
            · subst h3; exact h0
            · exact hall.out i hi h1 (by omega)
          have HRN : Hid (cmpZ X[j] (X[k]'hkl) ≠ 0 → gatherZ (X.drop k) = if isW (sumTo X k j) = true then (gatherZ (X.drop j)).map fun r => if sumTo X k j = 0 then r else ⟨(X[k]'hkl).row, sumTo X k j⟩ :: r else none) := fun h0 => gather_run (by
            rcases Nat.lt_or_ge k j with h1 | h1
            · exact h1
            · obtain rfl : k = j := by omega
              exact absurd (cmpZ_self _) h0) (by omega) hall.out (fun _ => h0)
          clear hz2
          obtain ⟨q, hq⟩ : ∃ q, X[j].wt = q := ⟨_, rfl⟩
          obtain ⟨sn, hsn⟩ : ∃ sn, X[j].row.length = sn := ⟨_, rfl⟩
          obtain ⟨c, hc⟩ : ∃ c, cmpZ X[j] (X[k]'hkl) = c := ⟨_, rfl⟩
          rw [hq] at y1 CC HWT HSU
          rw [hsn] at y0 CC
          rw [hc] at CC HAL HRN
          have jj0 : (0 : Int) ≤ (j : Int) := by omega
          have jj1 : (j : Int) < (n : Int) := by omega
          have jd : decide ((j : Int) < (n : Int)) = true := decide_eq_true jj1
          have HS6 : wr.drew.cell? ⟨b, off + j * 2, none⟩ = some (.slice sa sn sc) ∧ wr.drew.cell? ⟨b, off + j * 2 + 1, none⟩ = some (.int .i64 q) ∧ wr.drew.cell? ⟨ww.heap.size, 0, none⟩ = some (.slice ra (X[k]'hkl).row.length rc) ∧ wr.drew.cell? ⟨ww.heap.size, 1, none⟩ = some (.int .i64 (X[k]'hkl).wt) ∧ Hid (Below wr.heap.size wr wr.drew) := ⟨y0, y1, HX6.out.1, HX6.out.2, (Below.refl _ _).drew⟩
          by_cases hc0 : c = 0
          · have c1 : (c == 0) = true := by simpa using hc0
            have HAL2 : Hid _ := HAL.out hc0
            subst hc0
            clear HAL HRN hall HLJ hq hsn hc
            go_upto_region 6 with fail
            refine wp_region_held_drew (S := (fun w' => w'.cell? ⟨b, off + j * 2, none⟩ = some (.slice sa sn sc) ∧ w'.cell? ⟨b, off + j * 2 + 1, none⟩ = some (.int .i64 q) ∧ w'.cell? ⟨ww.heap.size, 0, none⟩ = some (.slice ra (X[k]'hkl).row.length rc) ∧ w'.cell? ⟨ww.heap.size, 1, none⟩ = some (.int .i64 (X[k]'hkl).wt) ∧ Hid (Below wr.heap.size wr w'))) (by kernel_rfl) HS6 (fun hHeld => ?_)
            refine heldTake (v := ?_) 0 18 rfl rfl (by kernel_rfl) (by kernel_rfl) (by kernel_rfl) (fun _ _ _ h => h) (by rfl) (fun w hSw => ?_) (by assumption) ?_
            rotate_left
            · (try dsimp only at hSw); first | (go_simp; done) | (go_simp; with_reducible rfl)
            simp only [List.setIfInBounds_toArray, List.set_cons_zero, List.set_cons_succ]
            refine heldTake (v := ?_) 1 19 rfl rfl (by kernel_rfl) (by kernel_rfl) (by kernel_rfl) (fun _ _ _ h => h) (by rfl) (fun w hSw => ?_) (by assumption) ?_
            rotate_left
            · (try dsimp only at hSw); first | (go_simp; done) | (go_simp; with_reducible rfl)
            simp only [List.setIfInBounds_toArray, List.set_cons_zero, List.set_cons_succ]
            refine heldTake (v := ?_) 2 20 rfl rfl (by kernel_rfl) (by kernel_rfl) (by kernel_rfl) (fun _ _ _ h => h) (by rfl) (fun w hSw => ?_) (by assumption) ?_
            rotate_left
            · (try dsimp only at hSw); first | (go_simp; done) | (go_simp; with_reducible rfl)
            simp only [List.setIfInBounds_toArray, List.set_cons_zero, List.set_cons_succ]
            refine heldTake (v := ?_) 3 21 rfl rfl (by kernel_rfl) (by kernel_rfl) (by kernel_rfl) (fun _ _ _ h => h) (by rfl) (fun w hSw => ?_) (by assumption) ?_
            rotate_left
            · (try dsimp only at hSw); first | (go_simp; done) | (go_simp; with_reducible rfl)
            simp only [List.setIfInBounds_toArray, List.set_cons_zero, List.set_cons_succ]
            refine heldTake (v := ?_) 4 22 rfl rfl (by kernel_rfl) (by kernel_rfl) (by kernel_rfl) (fun _ _ _ h => h) (by rfl) (fun w hSw => ?_) (by assumption) ?_
            rotate_left
            · (try dsimp only at hSw); first | (go_simp; done) | (go_simp; with_reducible rfl)
            simp only [List.setIfInBounds_toArray, List.set_cons_zero, List.set_cons_succ]
            refine heldTake (v := ?_) 5 23 rfl rfl (by kernel_rfl) (by kernel_rfl) (by kernel_rfl) (fun _ _ _ h => h) (by rfl) (fun w hSw => ?_) (by assumption) ?_
            rotate_left
            · (try dsimp only at hSw); first | (go_simp; done) | (go_simp; with_reducible rfl)
            simp only [List.setIfInBounds_toArray, List.set_cons_zero, List.set_cons_succ]
            refine heldTake (v := ?_) 6 24 rfl rfl (by kernel_rfl) (by kernel_rfl) (by kernel_rfl) (fun _ _ _ h => h) (by rfl) (fun w hSw => ?_) (by assumption) ?_
            rotate_left
            · (try dsimp only at hSw); first | (go_simp; done) | (go_simp; with_reducible rfl)
            simp only [List.setIfInBounds_toArray, List.set_cons_zero, List.set_cons_succ]
            refine heldTake (v := ?_) 7 25 rfl rfl (by kernel_rfl) (by kernel_rfl) (by kernel_rfl) (fun _ _ _ h => h) (by rfl) (fun w hSw => ?_) (by assumption) ?_
            rotate_left
            · (try dsimp only at hSw); first | (go_simp; done) | (go_simp; with_reducible rfl)
            simp only [List.setIfInBounds_toArray, List.set_cons_zero, List.set_cons_succ]
            refine heldTake (v := ?_) 8 26 rfl rfl (by kernel_rfl) (by kernel_rfl) (by kernel_rfl) (fun _ _ _ h => h) (by rfl) (fun w hSw => ?_) (by assumption) ?_
            rotate_left
            · (try dsimp only at hSw); first | (go_simp; done) | (go_simp; with_reducible rfl)
            simp only [List.setIfInBounds_toArray, List.set_cons_zero, List.set_cons_succ]
            refine heldTake (v := ?_) 9 27 rfl rfl (by kernel_rfl) (by kernel_rfl) (by kernel_rfl) (fun _ _ _ h => h) (by rfl) (fun w hSw => ?_) (by assumption) ?_
            rotate_left
            · (try dsimp only at hSw); first | (go_simp; done) | (go_simp; with_reducible rfl)
            simp only [List.setIfInBounds_toArray, List.set_cons_zero, List.set_cons_succ]
            refine heldOne 10 rfl (by kernel_rfl) (by rfl) (fun K2 hK => ?_)
            go_simp
            refine (CC _ hHeld.2.2.2.2.out).mono ?_
            rintro e wz ⟨rfl, hb⟩
            simp only []
            refine hK.out _ _ ?_ (fun hHeld => ?_)
            · exact keep4Z hb.below (by assumption)
            clear hK K2
            try simp only [List.setIfInBounds_toArray, List.set_cons_zero, List.set_cons_succ]
            refine heldTake (v := ?_) 11 29 rfl rfl (by kernel_rfl) (by kernel_rfl) (by kernel_rfl) (fun _ _ _ h => h) (by rfl) (fun w hSw => ?_) (by assumption) ?_
            rotate_left
            · (try dsimp only at hSw); first | (go_simp; done) | (go_simp; with_reducible rfl)
            simp only [List.setIfInBounds_toArray, List.set_cons_zero, List.set_cons_succ]
            refine heldTake (v := ?_) 12 30 rfl rfl (by kernel_rfl) (by kernel_rfl) (by kernel_rfl) (fun _ _ _ h => h) (by rfl) (fun w hSw => ?_) (by assumption) ?_
            rotate_left
            · (try dsimp only at hSw); first | (go_simp; done) | (go_simp; with_reducible rfl)
            simp only [List.setIfInBounds_toArray, List.set_cons_zero, List.set_cons_succ]
            refine wpAnyH_done (by kernel_rfl) ?_ _
            have HBZ : Hid (Below wr.heap.size wr wz) := hHeld.2.2.2.2
            have HT7 : Hid (TwoAt wz (ww.heap.size + 1) h l) := hT7.out.later HBZ.out
            have HB7 : Hid (Below wb.heap.size wb wz) := chain hB7.out HBZ.out
            have Y1 := hHeld.2.1
            clear hHeld HS6 CC y0 y1 hT7 hB7 HBZ
            obtain ⟨k0, k1, f0, f1⟩ := HT7.out.cells
            have HH1 := hhb.out
            have HL1 := hlb.out
            have CW := fun V => sumWith_any h l q V (by omega) (by omega) HWT.out
            clear HH1 HL1
            have HS8 : wz.drew.cell? ⟨ww.heap.size + 1, 0, none⟩ = some (.int .i64 h) ∧ wz.drew.cell? ⟨ww.heap.size + 1, 1, none⟩ = some (.int .i64 l) ∧ wz.drew.cell? ⟨b, off + j * 2 + 1, none⟩ = some (.int .i64 q) ∧ Hid (Below wz.heap.size wz wz.drew) := ⟨k0, k1, Y1, (Below.refl _ _).drew⟩
            clear k0 k1 f0 f1
            go_upto_region 8 with fail
            refine region_S (S := (fun w' => w'.cell? ⟨ww.heap.size + 1, 0, none⟩ = some (.int .i64 h) ∧ w'.cell? ⟨ww.heap.size + 1, 1, none⟩ = some (.int .i64 l) ∧ w'.cell? ⟨b, off + j * 2 + 1, none⟩ = some (.int .i64 q) ∧ Hid (Below wz.heap.size wz w'))) 7 (by kernel_rfl) HS8 (fun hHeld => ?_)
            refine sTake (v := ?_) 0 33 rfl rfl (by kernel_rfl) (by kernel_rfl) (by kernel_rfl) (by kernel_rfl) (by kernel_rfl) (fun _ _ _ h => h) (by rfl) (fun w hSw => ?_) (by assumption) ?_
            rotate_left
            · (try dsimp only at hSw); first | (go_simp; done) | (go_simp; with_reducible rfl)
            simp only [List.setIfInBounds_toArray, List.set_cons_zero, List.set_cons_succ]
            refine sPure (v := ?_) 1 34 rfl rfl (by kernel_rfl) (by kernel_rfl) (by kernel_rfl) (by decide) (fun _ _ _ h => h) (by rfl) (fun w => ?_) (.inr (by assumption)) ?_
            rotate_left
            · first | (go_simp; done) | (go_simp; with_reducible rfl)
            simp only [List.setIfInBounds_toArray, List.set_cons_zero, List.set_cons_succ]
            refine sPure (v := ?_) 2 35 rfl rfl (by kernel_rfl) (by kernel_rfl) (by kernel_rfl) (by decide) (fun _ _ _ h => h) (by rfl) (fun w => ?_) (.inr (by assumption)) ?_
            rotate_left
            · first | (go_simp; done) | (go_simp; with_reducible rfl)
            simp only [List.setIfInBounds_toArray, List.set_cons_zero, List.set_cons_succ]
            refine sPure (v := ?_) 3 36 rfl rfl (by kernel_rfl) (by kernel_rfl) (by kernel_rfl) (by decide) (fun _ _ _ h => h) (by rfl) (fun w => ?_) (.inr (by assumption)) ?_
            rotate_left
            · first | (go_simp; done) | (go_simp; with_reducible rfl)
            simp only [List.setIfInBounds_toArray, List.set_cons_zero, List.set_cons_succ]
            refine sPure (v := ?_) 4 37 rfl rfl (by kernel_rfl) (by kernel_rfl) (by kernel_rfl) (by decide) (fun _ _ _ h => h) (by rfl) (fun w => ?_) (.inr (by assumption)) ?_
            rotate_left
            · first | (go_simp; done) | (go_simp; with_reducible rfl)
            simp only [List.setIfInBounds_toArray, List.set_cons_zero, List.set_cons_succ]
            refine sTake (v := ?_) 5 38 rfl rfl (by kernel_rfl) (by kernel_rfl) (by kernel_rfl) (by kernel_rfl) (by kernel_rfl) (fun _ _ _ h => h) (by rfl) (fun w hSw => ?_) (by assumption) ?_
            rotate_left
            · (try dsimp only at hSw); first | (go_simp; done) | (go_simp; with_reducible rfl)
            simp only [List.setIfInBounds_toArray, List.set_cons_zero, List.set_cons_succ]
            refine sOne 6 rfl (by kernel_rfl) (by rfl) (fun K2 hK => ?_)
            go_simp
            refine (CW _).mono ?_
            rintro e wy ⟨rfl, hb⟩
            simp only []
            have HB8 : Hid (Below wz.heap.size wz wy) := chain (lay_drew wz).below hb
            have HT8 : Hid (TwoAt wy (ww.heap.size + 1) h l) := HT7.out.later HB8.out
            refine hK.out _ _ ?_ (fun hHeld => ?_)
            · exact .inr (keep3W hb (by assumption))
            clear hK K2
            replace hHeld := hHeld.resolve_left (by decide)
            try simp only [List.setIfInBounds_toArray, List.set_cons_zero, List.set_cons_succ]
            refine sOne 7 rfl (by kernel_rfl) (by rfl) (fun K2 hK => ?_)
            obtain ⟨k0, k1, f0, f1⟩ := HT8.out.cells
            go_simp
            clear k0 k1 f0 f1
            refine hK.out _ _ ?_ (fun hHeld => ?_)
            · exact .inl (by rfl)
            clear hK K2 hHeld
            try simp only [List.setIfInBounds_toArray, List.set_cons_zero, List.set_cons_succ]
            refine sDone (by kernel_rfl) ?_ _
            have HTF : Hid (TwoAt ((wy.setCell ⟨ww.heap.size + 1, 0, none⟩ (.int .i64 (h + q / 268435456))).setCell ⟨ww.heap.size + 1, 1, none⟩ (.int .i64 (l + q % 268435456))) (ww.heap.size + 1) (h + q / 268435456) (l + q % 268435456)) := HT8.out.set _ _
            have HBF : Hid (Below wb.heap.size wb ((wy.setCell ⟨ww.heap.size + 1, 0, none⟩ (.int .i64 (h + q / 268435456))).setCell ⟨ww.heap.size + 1, 1, none⟩ (.int .i64 (l + q % 268435456)))) := two_set_below (chain HB7.out HB8.out) (by rw [HSZ.out]; exact Nat.le_refl _)
            have HVF : Hid ((h + q / 268435456) * 268435456 + (l + q % 268435456) = sumTo X k (j + 1)) := by
              have e1 := hsum.out
              have e2 := HSU.out
              show _ = _
              omega
            have hq64 := HWT.out
            unfold In64 at hq64
            have HJK : ((j + 1 - k : Nat) : Int) = ((j - k : Nat) : Int) + 1 := by omega
            have HHF : Hid (-(((j + 1 - k : Nat) : Int) * 34359738368) ≤ h + q / 268435456 ∧ h + q / 268435456 ≤ ((j + 1 - k : Nat) : Int) * 34359738368) := by
              have e1 := hhb.out
              show _ ∧ _
              rw [HJK]
              omega
            have HLF : Hid (0 ≤ l + q % 268435456 ∧ l + q % 268435456 ≤ ((j + 1 - k : Nat) : Int) * 268435455) := by
              have e1 := hlb.out
              show _ ∧ _
              rw [HJK]
              omega
            clear hHeld HT8 HB8 HT7 HB7 hsum HSU hq64 HJK hhb hlb HWT CW HS8
            go_wp2
            go_roundw
            case rel => exact ⟨j + 1, _, _, by omega, by omega, by go_num, HAL2.out, HVF.out, HHF.out, HLF.out, HTF.out, HBF.out⟩
            case measure => simp [RowKit.intOf]; omega
          · have c1 : (c == 0) = false := by simpa using hc0
            have c2 : (c = 0) = False := eq_false hc0
            have HRUN : Hid _ := HRN.out hc0
            have HKN : Hid (¬ j ≤ k) := fun h1 => by
              obtain rfl : k = j := by omega
              exact hc0 (by rw [← hc]; exact cmpZ_self _)
            clear HAL HRN hall HLJ HSU hq hsn hc hc0 HWT
            go_upto_region 6 with fail
            refine wp_region_held_drew (S := (fun w' => w'.cell? ⟨b, off + j * 2, none⟩ = some (.slice sa sn sc) ∧ w'.cell? ⟨b, off + j * 2 + 1, none⟩ = some (.int .i64 q) ∧ w'.cell? ⟨ww.heap.size, 0, none⟩ = some (.slice ra (X[k]'hkl).row.length rc) ∧ w'.cell? ⟨ww.heap.size, 1, none⟩ = some (.int .i64 (X[k]'hkl).wt) ∧ Hid (Below wr.heap.size wr w'))) (by kernel_rfl) HS6 (fun hHeld => ?_)
            refine heldTake (v := ?_) 0 18 rfl rfl (by kernel_rfl) (by kernel_rfl) (by kernel_rfl) (fun _ _ _ h => h) (by rfl) (fun w hSw => ?_) (by assumption) ?_
            rotate_left
            · (try dsimp only at hSw); first | (go_simp; done) | (go_simp; with_reducible rfl)
            simp only [List.setIfInBounds_toArray, List.set_cons_zero, List.set_cons_succ]
            refine heldTake (v := ?_) 1 19 rfl rfl (by kernel_rfl) (by kernel_rfl) (by kernel_rfl) (fun _ _ _ h => h) (by rfl) (fun w hSw => ?_) (by assumption) ?_
            rotate_left
            · (try dsimp only at hSw); first | (go_simp; done) | (go_simp; with_reducible rfl)
            simp only [List.setIfInBounds_toArray, List.set_cons_zero, List.set_cons_succ]
            refine heldTake (v := ?_) 2 20 rfl rfl (by kernel_rfl) (by kernel_rfl) (by kernel_rfl) (fun _ _ _ h => h) (by rfl) (fun w hSw => ?_) (by assumption) ?_
            rotate_left
            · (try dsimp only at hSw); first | (go_simp; done) | (go_simp; with_reducible rfl)
            simp only [List.setIfInBounds_toArray, List.set_cons_zero, List.set_cons_succ]
            refine heldTake (v := ?_) 3 21 rfl rfl (by kernel_rfl) (by kernel_rfl) (by kernel_rfl) (fun _ _ _ h => h) (by rfl) (fun w hSw => ?_) (by assumption) ?_
            rotate_left
            · (try dsimp only at hSw); first | (go_simp; done) | (go_simp; with_reducible rfl)
            simp only [List.setIfInBounds_toArray, List.set_cons_zero, List.set_cons_succ]
            refine heldTake (v := ?_) 4 22 rfl rfl (by kernel_rfl) (by kernel_rfl) (by kernel_rfl) (fun _ _ _ h => h) (by rfl) (fun w hSw => ?_) (by assumption) ?_
            rotate_left
            · (try dsimp only at hSw); first | (go_simp; done) | (go_simp; with_reducible rfl)
            simp only [List.setIfInBounds_toArray, List.set_cons_zero, List.set_cons_succ]
            refine heldTake (v := ?_) 5 23 rfl rfl (by kernel_rfl) (by kernel_rfl) (by kernel_rfl) (fun _ _ _ h => h) (by rfl) (fun w hSw => ?_) (by assumption) ?_
            rotate_left
            · (try dsimp only at hSw); first | (go_simp; done) | (go_simp; with_reducible rfl)
            simp only [List.setIfInBounds_toArray, List.set_cons_zero, List.set_cons_succ]
            refine heldTake (v := ?_) 6 24 rfl rfl (by kernel_rfl) (by kernel_rfl) (by kernel_rfl) (fun _ _ _ h => h) (by rfl) (fun w hSw => ?_) (by assumption) ?_
            rotate_left
            · (try dsimp only at hSw); first | (go_simp; done) | (go_simp; with_reducible rfl)
            simp only [List.setIfInBounds_toArray, List.set_cons_zero, List.set_cons_succ]
            refine heldTake (v := ?_) 7 25 rfl rfl (by kernel_rfl) (by kernel_rfl) (by kernel_rfl) (fun _ _ _ h => h) (by rfl) (fun w hSw => ?_) (by assumption) ?_
            rotate_left
            · (try dsimp only at hSw); first | (go_simp; done) | (go_simp; with_reducible rfl)
            simp only [List.setIfInBounds_toArray, List.set_cons_zero, List.set_cons_succ]
            refine heldTake (v := ?_) 8 26 rfl rfl (by kernel_rfl) (by kernel_rfl) (by kernel_rfl) (fun _ _ _ h => h) (by rfl) (fun w hSw => ?_) (by assumption) ?_
            rotate_left
            · (try dsimp only at hSw); first | (go_simp; done) | (go_simp; with_reducible rfl)
            simp only [List.setIfInBounds_toArray, List.set_cons_zero, List.set_cons_succ]
            refine heldTake (v := ?_) 9 27 rfl rfl (by kernel_rfl) (by kernel_rfl) (by kernel_rfl) (fun _ _ _ h => h) (by rfl) (fun w hSw => ?_) (by assumption) ?_
            rotate_left
            · (try dsimp only at hSw); first | (go_simp; done) | (go_simp; with_reducible rfl)
            simp only [List.setIfInBounds_toArray, List.set_cons_zero, List.set_cons_succ]
            refine heldOne 10 rfl (by kernel_rfl) (by rfl) (fun K2 hK => ?_)
            go_simp
            refine (CC _ hHeld.2.2.2.2.out).mono ?_
            rintro e wz ⟨rfl, hb⟩
            simp only []
            refine hK.out _ _ ?_ (fun hHeld => ?_)
            · exact keep4Z hb.below (by assumption)
            clear hK K2
            try simp only [List.setIfInBounds_toArray, List.set_cons_zero, List.set_cons_succ]
            refine heldTake (v := ?_) 11 29 rfl rfl (by kernel_rfl) (by kernel_rfl) (by kernel_rfl) (fun _ _ _ h => h) (by rfl) (fun w hSw => ?_) (by assumption) ?_
            rotate_left
            · (try dsimp only at hSw); first | (go_simp; done) | (go_simp; with_reducible rfl)
            simp only [List.setIfInBounds_toArray, List.set_cons_zero, List.set_cons_succ]
            refine heldTake (v := ?_) 12 30 rfl rfl (by kernel_rfl) (by kernel_rfl) (by kernel_rfl) (fun _ _ _ h => h) (by rfl) (fun w hSw => ?_) (by assumption) ?_
            rotate_left
            · (try dsimp only at hSw); first | (go_simp; done) | (go_simp; with_reducible rfl)
            simp only [List.setIfInBounds_toArray, List.set_cons_zero, List.set_cons_succ]
            refine wpAnyH_done (by kernel_rfl) ?_ _
            have HBZ : Hid (Below wr.heap.size wr wz) := hHeld.2.2.2.2
            have HT7 : Hid (TwoAt wz (ww.heap.size + 1) h l) := hT7.out.later HBZ.out
            have HB7 : Hid (Below wb.heap.size wb wz) := chain hB7.out HBZ.out
            have HV : Hid (h * 268435456 + l = sumTo X k j) := hsum.out
            have HBD : Hid ((-1125899906842624 ≤ h ∧ h ≤ 1125899906842624) ∧ (0 ≤ l ∧ l ≤ 1152921504606846976)) := by
              have e1 := hhb.out
              have e2 := hlb.out
              show _ ∧ _
              omega
            have HKJ : k < j := by
              rcases Nat.lt_or_ge k j with h1 | h1
              · exact h1
              · exact absurd h1 (HKN.out)
            clear hHeld HS6 CC y0 y1 hT7 hB7 HBZ hsum hhb hlb hkj HKN
            obtain ⟨k0, k1, f0, f1⟩ := HT7.out.cells
            have CS := sumWeight_any h l wz HBD.out.1 HBD.out.2
            rw [HV.out] at CS
            obtain ⟨V, hV⟩ : ∃ V, sumTo X k j = V := ⟨_, rfl⟩
            have HRUN2 : Hid (gatherZ (X.drop k) = if isW V = true then (gatherZ (X.drop j)).map fun r => if V = 0 then r else ⟨(X[k]'hkl).row, V⟩ :: r else none) := by rw [← hV]; exact HRUN.out
            rw [hV] at CS
            clear hV HRUN HV
            cases hq : isW V with
            | false =>
              have HNO : Hid (ansZ (gatherZ X) = ([], 11)) := by
                show _ = _
                rw [hG.out, HRUN2.out, hq]
                rfl
              rw [hq] at CS
              clear HRUN2 hq hG
              go_wp2_with fail
              refine CS.mono ?_
              rintro e w9 ⟨rfl, hb9⟩
              have HB9 : Hid (Below w.heap.size w w9) := chain HB0.out (chain HB7.out hb9)
              clear CS hb9
              go_wp2
              go_ret2
              rw [HNO.out]
              exact GivesW.no rfl HB9.out
            | true =>
              have hwt : wtZ V = V := by unfold wtZ; rw [hq]; rfl
              rw [hq, hwt] at CS
              have HRUN3 : Hid (gatherZ (X.drop k) = (gatherZ (X.drop j)).map fun r => if V = 0 then r else ⟨(X[k]'hkl).row, V⟩ :: r) := by
                show _ = _
                rw [HRUN2.out, hq, if_pos rfl]
              have HVB := isW_iff.1 hq
              clear HRUN2 hq hwt
              go_wp2_with fail
              refine CS.mono ?_
              rintro e w9 ⟨rfl, hb9⟩
              have HB9 : Hid (Below wb.heap.size wb w9) := chain HB7.out hb9
              clear CS hb9
              by_cases hv0 : V = 0
              · have HG2 : Hid (gatherZ X = (gatherZ (X.drop j)).map fun r => Z.map (·.2) ++ r) := by
                  show _ = _
                  rw [hG.out, HRUN3.out, Option.map_map]
                  congr 1
                  funext r
                  simp [hv0]
                have HR9 : Hid (SetO w9 w.heap.size (.slice ao Z.length co) Z) := HRB.out.later HB9.out
                have HB9' : Hid (Below w.heap.size w w9) := chain HB0.out HB9.out
                have v1 : (V == 0) = true := by simpa using hv0
                have v2 : (V != 0) = false := by simpa using hv0
                clear hG HRUN3 HRB HB9 HVB hv0
                go_wp2
                go_roundw
                case rel => exact ⟨j, Z, ao, co, by omega, rfl, rfl, HG2.out, HR9.out, HB9'.out, by omega⟩
                case measure => simp [RowKit.intOf]; omega
              · have v1 : (V == 0) = false := by simpa using hv0
                have v2 : (V != 0) = true := by simpa using hv0
                have HL0 := (HLZ.out.later HB9.out)
                obtain ⟨ra', rc', e0, hrd, hl65, hlc, hnil, h64, -⟩ := HL0
                cases e0
                have z0 := cell_later HB9.out HB60.out.1
                have CV := vclone_any ra (X[k]'hkl).row.length rc (X[k]'hkl).row w9 rfl hl65 hnil hrd
                have HR9 : Hid (SetO w9 w.heap.size (.slice ao Z.length co) Z) := HRB.out.later HB9.out
                have HG2 : Hid (gatherZ X = (gatherZ (X.drop j)).map fun r => (Z.map (·.2) ++ [⟨(X[k]'hkl).row, V⟩]) ++ r) := by
                  show _ = _
                  rw [hG.out, HRUN3.out, Option.map_map]
                  congr 1
                  funext r
                  simp [hv0]
                have HLR : Hid ((X[k]'hkl).row.length ≤ 65536) := hl65
                clear hG HRUN3 HRB HLZ hrd hlc hnil h64 hl65 HB60
                generalize (X[k]'hkl).row = vs at *
                generalize hvl : vs.length = vn at *
                have HVL : Hid (vs.length = vn) := hvl
                clear hvl
                go_wp2_with fail
                refine CV.mono ?_
                rintro e w10 ⟨a2, c2, rfl, hc2, ho2, hn2, hb2⟩
                obtain ⟨w11, hw11⟩ : ∃ x, x = w10.alloc (.cells #[.slice a2 vn c2, .int .i64 V] 40) := ⟨_, rfl⟩
                have hb11 : Below w10.heap.size w10 w11 := by rw [hw11]; exact alloc_below _ _
                have hlx : LiesZ (fun b => b < w.heap.size ∨ (Value.slice ao Z.length co).ownBlock = some b) w11 [.slice a2 vn c2, .int .i64 V] ⟨vs, V⟩ := by
                  obtain ⟨a3, c3, e3, -, r3, -⟩ := ho2.form
                  rw [HVL.out] at e3
                  cases e3
                  refine ⟨a2, c2, by rw [HVL.out], r3.later hb11, by rw [HVL.out]; exact HLR.out, by rw [HVL.out]; exact hc2, hn2, by show In64 V; unfold In64; omega, fun _ b o s ea hE => ?_⟩
                  subst ea
                  have hge := (World.ownsRow.lt ho2 b rfl).1
                  rcases hE with hE | hE
                  · have := Nat.le_trans HB0.out.size HB9.out.size
                    omega
                  · have := (World.ownsRow.lt HR9.out.1.1.2 b hE).2
                    omega
                have hR11 : SetO w11 w.heap.size (.slice ao Z.length co) Z := (HR9.out.later hb2).later hb11
                have hnew := two_cells_new w10 (.slice a2 vn c2) (.int .i64 V) 40
                rw [← hw11] at hnew
                obtain ⟨v5, w5, hrun, ho5, hg5, hl5⟩ := run_append_k ktItem (ty := 22) (cap := 1) (a := some ⟨w10.heap.size, 0, none⟩) hR11.1.1 (n := Z.length) (by rw [List.length_map]) (m := 1) (N := [[.slice a2 vn c2, .int .i64 V]]) rfl (Wide.one hlx.wide) (fun _ => ⟨w10.heap.size, 0, rfl, fun i hi j v hj => by
                  have hi0 : i = 0 := by simpa using hi
                  subst hi0
                  simp only [List.getElem_cons_zero] at hj
                  rw [Nat.zero_mul, Nat.add_zero, Nat.zero_add]
                  match j, hj with
                  | 0, hj => cases hj; exact hnew.1
                  | 1, hj => cases hj; exact hnew.2⟩) (fun h => by cases h) (by omega) (by omega) (Nat.le_trans (Nat.le_trans HB0.out.size HB9.out.size) (Nat.le_trans hb2.size hb11.size))
                have hrow0 := hR11.1.grow (Y := [([.slice a2 vn c2, .int .i64 V], ⟨vs, V⟩)]) (fun z hz => by
                  simp only [List.mem_singleton] at hz
                  subst hz
                  exact hlx) (by simpa using ho5) hg5 hl5
                obtain ⟨a5, c5, e5, -⟩ := hrow0.form
                rw [List.length_append, List.length_singleton] at e5
                subst e5
                have hrow : SetO w5 w.heap.size (.slice a5 (Z.length + 1) c5) (Z ++ [([.slice a2 vn c2, .int .i64 V], ⟨vs, V⟩)]) := ⟨hrow0, fun z hz => by
                  rcases List.mem_append.1 hz with hz | hz
                  · obtain ⟨ra9, rc9, e9, h9⟩ := hR11.2 z hz
                    exact ⟨ra9, rc9, e9, own_otherZ h9 hR11.1.1.2 value_item hg5⟩
                  · rw [List.mem_singleton.1 hz]
                    have hvl := HVL.out
                    subst hvl
                    exact ⟨a2, c2, rfl, own_otherZ (own_baseZ (ho2.later hb11) (Nat.le_trans HB0.out.size HB9.out.size)) hR11.1.1.2 value_item hg5⟩⟩
                have HR5 : Hid (SetO w5 w.heap.size (.slice a5 (Z ++ [(([.slice a2 vn c2, .int .i64 V] : List Value), (⟨vs, V⟩ : PI))]).length c5) (Z ++ [([.slice a2 vn c2, .int .i64 V], ⟨vs, V⟩)])) := by
                  show SetO _ _ _ _
                  rw [List.length_append, List.length_singleton]
                  exact hrow
                have HG5 : Hid (gatherZ X = (gatherZ (X.drop j)).map fun r => (Z ++ [(([.slice a2 vn c2, .int .i64 V] : List Value), (⟨vs, V⟩ : PI))]).map (·.2) ++ r) := by
                  show _ = _
                  rw [HG2.out]
                  simp
                have HB5 : Hid (Below w.heap.size w w5) := (chain HB0.out (chain HB9.out (chain hb2 hb11))).grown hg5 (Nat.le_trans (Nat.le_trans HB0.out.size HB9.out.size) (Nat.le_trans hb2.size hb11.size)) (fun j hj => (World.ownsRow.lt hR11.1.1.2 j hj).1)
                have HZ5 : Hid ((Z ++ [(([.slice a2 vn c2, .int .i64 V] : List Value), (⟨vs, V⟩ : PI))]).length = Z.length + 1) := by show _ = _; simp
                clear hlx hR11 hnew ho5 hg5 hl5 hrow HG2 HR9 HB9 ho2 hn2 hb2 hb11 HVB hv0
                subst hw11
                go_wp2_with (at_builtin; refine wpList_append_run rfl _ _ 22 22 rfl _ _ _ _ rfl rfl hrun ?_)
                go_roundw
                case rel => exact ⟨j, _, a5, c5, by omega, rfl, by rw [HZ5.out], HG5.out, HR5.out, HB5.out, by rw [HZ5.out]; omega⟩
                case measure => simp [RowKit.intOf]; omega
        · obtain rfl : j = n := by omega
          have HRUN : Hid (gatherZ (X.drop k) = if isW (sumTo X k j) = true then (gatherZ (X.drop j)).map fun r => if sumTo X k j = 0 then r else ⟨(X[k]'hkl).row, sumTo X k j⟩ :: r else none) := gather_run hlt (by rw [HN.out]; exact Nat.le_refl _) hall.out (fun h => absurd h (by rw [HN.out]; omega))
          have jd : decide ((j : Int) < (j : Int)) = false := by simp
          have HS6 : Hid (Below wr.heap.size wr wr.drew) := (Below.refl _ _).drew
          clear hall hjn
          go_upto_region 6 with fail
          refine wp_region_held_drew (S := (fun w' => Hid (Below wr.heap.size wr w'))) (by kernel_rfl) HS6 (fun hHeld => ?_)
          refine heldTake (v := ?_) 0 18 rfl rfl (by kernel_rfl) (by kernel_rfl) (by kernel_rfl) (fun _ _ _ h => h) (by rfl) (fun w hSw => ?_) (by assumption) ?_
          rotate_left
          · (try dsimp only at hSw); first | (go_simp; done) | (go_simp; with_reducible rfl)
          simp only [List.setIfInBounds_toArray, List.set_cons_zero, List.set_cons_succ]
          refine heldTake (v := ?_) 1 19 rfl rfl (by kernel_rfl) (by kernel_rfl) (by kernel_rfl) (fun _ _ _ h => h) (by rfl) (fun w hSw => ?_) (by assumption) ?_
          rotate_left
          · (try dsimp only at hSw); first | (go_simp; done) | (go_simp; with_reducible rfl)
          simp only [List.setIfInBounds_toArray, List.set_cons_zero, List.set_cons_succ]
          refine heldTake (v := ?_) 2 20 rfl rfl (by kernel_rfl) (by kernel_rfl) (by kernel_rfl) (fun _ _ _ h => h) (by rfl) (fun w hSw => ?_) (by assumption) ?_
          rotate_left
          · (try dsimp only at hSw); first | (go_simp; done) | (go_simp; with_reducible rfl)
          simp only [List.setIfInBounds_toArray, List.set_cons_zero, List.set_cons_succ]
          refine heldTake (v := ?_) 3 21 rfl rfl (by kernel_rfl) (by kernel_rfl) (by kernel_rfl) (fun _ _ _ h => h) (by rfl) (fun w hSw => ?_) (by assumption) ?_
          rotate_left
          · (try dsimp only at hSw); first | (go_simp; done) | (go_simp; with_reducible rfl)
          simp only [List.setIfInBounds_toArray, List.set_cons_zero, List.set_cons_succ]
          refine heldTake (v := ?_) 4 22 rfl rfl (by kernel_rfl) (by kernel_rfl) (by kernel_rfl) (fun _ _ _ h => h) (by rfl) (fun w hSw => ?_) (by assumption) ?_
          rotate_left
          · (try dsimp only at hSw); first | (go_simp; done) | (go_simp; with_reducible rfl)
          simp only [List.setIfInBounds_toArray, List.set_cons_zero, List.set_cons_succ]
          refine heldSkip 5 23 rfl rfl (by kernel_rfl) (by kernel_rfl) (by kernel_rfl) (fun _ _ _ h => h) (by rfl) (by assumption) ?_
          simp only [List.setIfInBounds_toArray, List.set_cons_zero, List.set_cons_succ]
          refine heldSkip 6 24 rfl rfl (by kernel_rfl) (by kernel_rfl) (by kernel_rfl) (fun _ _ _ h => h) (by rfl) (by assumption) ?_
          simp only [List.setIfInBounds_toArray, List.set_cons_zero, List.set_cons_succ]
          refine heldSkip 7 25 rfl rfl (by kernel_rfl) (by kernel_rfl) (by kernel_rfl) (fun _ _ _ h => h) (by rfl) (by assumption) ?_
          simp only [List.setIfInBounds_toArray, List.set_cons_zero, List.set_cons_succ]
          refine heldSkip 8 26 rfl rfl (by kernel_rfl) (by kernel_rfl) (by kernel_rfl) (fun _ _ _ h => h) (by rfl) (by assumption) ?_
          simp only [List.setIfInBounds_toArray, List.set_cons_zero, List.set_cons_succ]
          refine heldSkip 9 27 rfl rfl (by kernel_rfl) (by kernel_rfl) (by kernel_rfl) (fun _ _ _ h => h) (by rfl) (by assumption) ?_
          simp only [List.setIfInBounds_toArray, List.set_cons_zero, List.set_cons_succ]
          refine heldSkip 10 28 rfl rfl (by kernel_rfl) (by kernel_rfl) (by kernel_rfl) (fun _ _ _ h => h) (by rfl) (by assumption) ?_
          simp only [List.setIfInBounds_toArray, List.set_cons_zero, List.set_cons_succ]
          refine heldSkip 11 29 rfl rfl (by kernel_rfl) (by kernel_rfl) (by kernel_rfl) (fun _ _ _ h => h) (by rfl) (by assumption) ?_
          simp only [List.setIfInBounds_toArray, List.set_cons_zero, List.set_cons_succ]
          refine heldTake (v := ?_) 12 30 rfl rfl (by kernel_rfl) (by kernel_rfl) (by kernel_rfl) (fun _ _ _ h => h) (by rfl) (fun w hSw => ?_) (by assumption) ?_
          rotate_left
          · (try dsimp only at hSw); first | (go_simp; done) | (go_simp; with_reducible rfl)
          simp only [List.setIfInBounds_toArray, List.set_cons_zero, List.set_cons_succ]
          refine wpAnyH_done (by kernel_rfl) ?_ _
          clear hHeld HS6
          obtain ⟨wz, hwz⟩ : ∃ x, x = wr.drew := ⟨_, rfl⟩
          have HT7 : Hid (TwoAt wz (ww.heap.size + 1) h l) := by rw [hwz]; exact hT7.out
          have HB7 : Hid (Below wb.heap.size wb wz) := by rw [hwz]; exact hB7.out.drew
          rw [← hwz]
          have HV : Hid (h * 268435456 + l = sumTo X k j) := hsum.out
          have HBD : Hid ((-1125899906842624 ≤ h ∧ h ≤ 1125899906842624) ∧ (0 ≤ l ∧ l ≤ 1152921504606846976)) := by
            have e1 := hhb.out
            have e2 := hlb.out
            show _ ∧ _
            omega
          have HKJ : k < j := by omega
          clear hwz hT7 hB7 hsum hhb hlb hkj
          obtain ⟨k0, k1, f0, f1⟩ := HT7.out.cells
          have CS := sumWeight_any h l wz HBD.out.1 HBD.out.2
          rw [HV.out] at CS
          obtain ⟨V, hV⟩ : ∃ V, sumTo X k j = V := ⟨_, rfl⟩
          have HRUN2 : Hid (gatherZ (X.drop k) = if isW V = true then (gatherZ (X.drop j)).map fun r => if V = 0 then r else ⟨(X[k]'hkl).row, V⟩ :: r else none) := by rw [← hV]; exact HRUN.out
          rw [hV] at CS
          clear hV HRUN HV
          cases hq : isW V with
          | false =>
            have HNO : Hid (ansZ (gatherZ X) = ([], 11)) := by
              show _ = _
              rw [hG.out, HRUN2.out, hq]
              rfl
            rw [hq] at CS
            clear HRUN2 hq hG
            go_wp2_with fail
            refine CS.mono ?_
            rintro e w9 ⟨rfl, hb9⟩
            have HB9 : Hid (Below w.heap.size w w9) := chain HB0.out (chain HB7.out hb9)
            clear CS hb9
            go_wp2
            go_ret2
            rw [HNO.out]
            exact GivesW.no rfl HB9.out
          | true =>
            have hwt : wtZ V = V := by unfold wtZ; rw [hq]; rfl
            rw [hq, hwt] at CS
            have HRUN3 : Hid (gatherZ (X.drop k) = (gatherZ (X.drop j)).map fun r => if V = 0 then r else ⟨(X[k]'hkl).row, V⟩ :: r) := by
              show _ = _
              rw [HRUN2.out, hq, if_pos rfl]
            have HVB := isW_iff.1 hq
            clear HRUN2 hq hwt
            go_wp2_with fail
            refine CS.mono ?_
            rintro e w9 ⟨rfl, hb9⟩
            have HB9 : Hid (Below wb.heap.size wb w9) := chain HB7.out hb9
            clear CS hb9
            by_cases hv0 : V = 0
            · have HG2 : Hid (gatherZ X = (gatherZ (X.drop j)).map fun r => Z.map (·.2) ++ r) := by
                show _ = _
                rw [hG.out, HRUN3.out, Option.map_map]
                congr 1
                funext r
                simp [hv0]
              have HR9 : Hid (SetO w9 w.heap.size (.slice ao Z.length co) Z) := HRB.out.later HB9.out
              have HB9' : Hid (Below w.heap.size w w9) := chain HB0.out HB9.out
              have v1 : (V == 0) = true := by simpa using hv0
              have v2 : (V != 0) = false := by simpa using hv0
              clear hG HRUN3 HRB HB9 HVB hv0
              go_wp2
              go_roundw
              case rel => exact ⟨j, Z, ao, co, by omega, rfl, rfl, HG2.out, HR9.out, HB9'.out, by omega⟩
              case measure => simp [RowKit.intOf]; omega
            · have v1 : (V == 0) = false := by simpa using hv0
              have v2 : (V != 0) = true := by simpa using hv0
              have HL0 := (HLZ.out.later HB9.out)
              obtain ⟨ra', rc', e0, hrd, hl65, hlc, hnil, h64, -⟩ := HL0
              cases e0
              have z0 := cell_later HB9.out HB60.out.1
              have CV := vclone_any ra (X[k]'hkl).row.length rc (X[k]'hkl).row w9 rfl hl65 hnil hrd
              have HR9 : Hid (SetO w9 w.heap.size (.slice ao Z.length co) Z) := HRB.out.later HB9.out
              have HG2 : Hid (gatherZ X = (gatherZ (X.drop j)).map fun r => (Z.map (·.2) ++ [⟨(X[k]'hkl).row, V⟩]) ++ r) := by
                show _ = _
                rw [hG.out, HRUN3.out, Option.map_map]
                congr 1
                funext r
                simp [hv0]
              have HLR : Hid ((X[k]'hkl).row.length ≤ 65536) := hl65
              clear hG HRUN3 HRB HLZ hrd hlc hnil h64 hl65 HB60
              generalize (X[k]'hkl).row = vs at *
              generalize hvl : vs.length = vn at *
              have HVL : Hid (vs.length = vn) := hvl
              clear hvl
              go_wp2_with fail
              refine CV.mono ?_
              rintro e w10 ⟨a2, c2, rfl, hc2, ho2, hn2, hb2⟩
              obtain ⟨w11, hw11⟩ : ∃ x, x = w10.alloc (.cells #[.slice a2 vn c2, .int .i64 V] 40) := ⟨_, rfl⟩
              have hb11 : Below w10.heap.size w10 w11 := by rw [hw11]; exact alloc_below _ _
              have hlx : LiesZ (fun b => b < w.heap.size ∨ (Value.slice ao Z.length co).ownBlock = some b) w11 [.slice a2 vn c2, .int .i64 V] ⟨vs, V⟩ := by
                obtain ⟨a3, c3, e3, -, r3, -⟩ := ho2.form
                rw [HVL.out] at e3
                cases e3
                refine ⟨a2, c2, by rw [HVL.out], r3.later hb11, by rw [HVL.out]; exact HLR.out, by rw [HVL.out]; exact hc2, hn2, by show In64 V; unfold In64; omega, fun _ b o s ea hE => ?_⟩
                subst ea
                have hge := (World.ownsRow.lt ho2 b rfl).1
                rcases hE with hE | hE
                · have := Nat.le_trans HB0.out.size HB9.out.size
                  omega
                · have := (World.ownsRow.lt HR9.out.1.1.2 b hE).2
                  omega
              have hR11 : SetO w11 w.heap.size (.slice ao Z.length co) Z := (HR9.out.later hb2).later hb11
              have hnew := two_cells_new w10 (.slice a2 vn c2) (.int .i64 V) 40
              rw [← hw11] at hnew
              obtain ⟨v5, w5, hrun, ho5, hg5, hl5⟩ := run_append_k ktItem (ty := 22) (cap := 1) (a := some ⟨w10.heap.size, 0, none⟩) hR11.1.1 (n := Z.length) (by rw [List.length_map]) (m := 1) (N := [[.slice a2 vn c2, .int .i64 V]]) rfl (Wide.one hlx.wide) (fun _ => ⟨w10.heap.size, 0, rfl, fun i hi j v hj => by
                have hi0 : i = 0 := by simpa using hi
                subst hi0
                simp only [List.getElem_cons_zero] at hj
                rw [Nat.zero_mul, Nat.add_zero, Nat.zero_add]
                match j, hj with
                | 0, hj => cases hj; exact hnew.1
                | 1, hj => cases hj; exact hnew.2⟩) (fun h => by cases h) (by omega) (by omega) (Nat.le_trans (Nat.le_trans HB0.out.size HB9.out.size) (Nat.le_trans hb2.size hb11.size))
              have hrow0 := hR11.1.grow (Y := [([.slice a2 vn c2, .int .i64 V], ⟨vs, V⟩)]) (fun z hz => by
                simp only [List.mem_singleton] at hz
                subst hz
                exact hlx) (by simpa using ho5) hg5 hl5
              obtain ⟨a5, c5, e5, -⟩ := hrow0.form
              rw [List.length_append, List.length_singleton] at e5
              subst e5
              have hrow : SetO w5 w.heap.size (.slice a5 (Z.length + 1) c5) (Z ++ [([.slice a2 vn c2, .int .i64 V], ⟨vs, V⟩)]) := ⟨hrow0, fun z hz => by
                rcases List.mem_append.1 hz with hz | hz
                · obtain ⟨ra9, rc9, e9, h9⟩ := hR11.2 z hz
                  exact ⟨ra9, rc9, e9, own_otherZ h9 hR11.1.1.2 value_item hg5⟩
                · rw [List.mem_singleton.1 hz]
                  have hvl := HVL.out
                  subst hvl
                  exact ⟨a2, c2, rfl, own_otherZ (own_baseZ (ho2.later hb11) (Nat.le_trans HB0.out.size HB9.out.size)) hR11.1.1.2 value_item hg5⟩⟩
              have HR5 : Hid (SetO w5 w.heap.size (.slice a5 (Z ++ [(([.slice a2 vn c2, .int .i64 V] : List Value), (⟨vs, V⟩ : PI))]).length c5) (Z ++ [([.slice a2 vn c2, .int .i64 V], ⟨vs, V⟩)])) := by
                show SetO _ _ _ _
                rw [List.length_append, List.length_singleton]
                exact hrow
              have HG5 : Hid (gatherZ X = (gatherZ (X.drop j)).map fun r => (Z ++ [(([.slice a2 vn c2, .int .i64 V] : List Value), (⟨vs, V⟩ : PI))]).map (·.2) ++ r) := by
                show _ = _
                rw [HG2.out]
                simp
              have HB5 : Hid (Below w.heap.size w w5) := (chain HB0.out (chain HB9.out (chain hb2 hb11))).grown hg5 (Nat.le_trans (Nat.le_trans HB0.out.size HB9.out.size) (Nat.le_trans hb2.size hb11.size)) (fun j hj => (World.ownsRow.lt hR11.1.1.2 j hj).1)
              have HZ5 : Hid ((Z ++ [(([.slice a2 vn c2, .int .i64 V] : List Value), (⟨vs, V⟩ : PI))]).length = Z.length + 1) := by show _ = _; simp
              clear hlx hR11 hnew ho5 hg5 hl5 hrow HG2 HR9 HB9 ho2 hn2 hb2 hb11 HVB hv0
              subst hw11
              go_wp2_with (at_builtin; refine wpList_append_run rfl _ _ 22 22 rfl _ _ _ _ rfl rfl hrun ?_)
              go_roundw
              case rel => exact ⟨j, _, a5, c5, by omega, rfl, by rw [HZ5.out], HG5.out, HR5.out, HB5.out, by rw [HZ5.out]; omega⟩
              case measure => simp [RowKit.intOf]; omega
    · obtain rfl : k = n := by omega
      have h := hG.out
      rw [gather_nil (by rw [HN.out]; exact Nat.le_refl _), Option.map_some, List.append_nil] at h
      have HA : Hid (ansZ (gatherZ X) = (Z.map (·.2), 0)) := by
        show _ = _
        rw [h]
        rfl
      clear h hG
      go_wp2
      go_ret2
      rw [HA.out]
      exact ⟨_, Z, rfl, rfl, hRo.out, hB.out⟩

end Go.Proofs.Ytajlkaedkifaoaa
