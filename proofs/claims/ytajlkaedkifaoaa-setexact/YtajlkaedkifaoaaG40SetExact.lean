/-
  Texts of the proof of SetExact, one behind the other.
-/
import Derived.Test.YtajlkaedkifaoaaRows
import Derived.Test.YtajlkaedkifaoaaG31SetExact
import Derived.Deep.AppendLies
namespace Go.Proofs.Ytajlkaedkifaoaa
open Go.RowKit Go.Lib
set_option linter.unusedVariables false

theorem cellK_put {w : World} {b o q : Nat} {x v : Value} (h : w.cell? ⟨b, q, none⟩ = some v) (hne : o ≠ q) : (w.setCell ⟨b, o, none⟩ x).cell? ⟨b, q, none⟩ = some v := by
  rw [World.cell?_setCell_other _ _ _ _ (fun e => hne (by cases e; rfl))]
  exact h

/-- Behind two cells written. -/
theorem RdK.put2 {w : World} {b off i : Nat} {C : List (List Value)} (h : RdK 2 w (some ⟨b, off, none⟩) C) (hw : Wide 2 C) (hi : i < C.length) (x y : Value) : RdK 2 ((w.setCell ⟨b, off + i * 2, none⟩ x).setCell ⟨b, off + i * 2 + 1, none⟩ y) (some ⟨b, off, none⟩) (C.set i [x, y]) := fun h0 => by
  obtain ⟨b', off', e, hc⟩ := h (by omega)
  cases e
  refine ⟨b, off, rfl, fun i' hi' j v hj => ?_⟩
  have hi2 : i' < C.length := by rw [List.length_set] at hi'; exact hi'
  have old : ∀ m (hm : m < C.length) q, q < 2 → ∃ u, w.cell? ⟨b, off + m * 2 + q, none⟩ = some u ∧ C[m][q]? = some u := fun m hm q hq => by
    have hl : C[m].length = 2 := hw.at_ hm
    exact ⟨_, hc m hm q _ (List.getElem?_eq_getElem (by omega)), List.getElem?_eq_getElem (by omega)⟩
  by_cases hii : i' = i
  · subst hii
    rw [List.getElem_set_self] at hj
    obtain ⟨u0, k0, -⟩ := old i' hi 0 (by omega)
    obtain ⟨u1, k1, -⟩ := old i' hi 1 (by omega)
    rw [Nat.add_zero] at k0
    match j, hj with
    | 0, hj =>
      cases hj
      rw [Nat.add_zero]
      exact cellK_put (World.cell?_setCell_same _ _ _ k0) (by omega)
    | 1, hj =>
      cases hj
      exact World.cell?_setCell_same _ _ _ (cellK_put k1 (by omega))
  · rw [List.getElem_set_ne (by omega)] at hj
    have hjl : j < 2 := by
      have hl : C[i'].length = 2 := hw.at_ hi2
      have := (List.getElem?_eq_some_iff.1 hj).1
      omega
    have k := hc i' hi2 j v hj
    exact cellK_put (cellK_put k (by omega)) (by omega)

/-- Behind the second cell written. -/
theorem RdK.put1 {w : World} {b off i : Nat} {C : List (List Value)} {x : Value} (h : RdK 2 w (some ⟨b, off, none⟩) C) (hw : Wide 2 C) (hi : i < C.length) (hx : C[i][0]? = some x) (y : Value) : RdK 2 (w.setCell ⟨b, off + i * 2 + 1, none⟩ y) (some ⟨b, off, none⟩) (C.set i [x, y]) := fun h0 => by
  obtain ⟨b', off', e, hc⟩ := h (by omega)
  cases e
  refine ⟨b, off, rfl, fun i' hi' j v hj => ?_⟩
  have hi2 : i' < C.length := by rw [List.length_set] at hi'; exact hi'
  by_cases hii : i' = i
  · subst hii
    rw [List.getElem_set_self] at hj
    have hl : C[i'].length = 2 := hw.at_ hi
    match j, hj with
    | 0, hj =>
      cases hj
      exact cellK_put (hc i' hi 0 x hx) (by omega)
    | 1, hj =>
      cases hj
      exact World.cell?_setCell_same _ _ _ (hc i' hi 1 _ (List.getElem?_eq_getElem (by omega)))
  · rw [List.getElem_set_ne (by omega)] at hj
    have hjl : j < 2 := by
      have hl : C[i'].length = 2 := hw.at_ hi2
      have := (List.getElem?_eq_some_iff.1 hj).1
      omega
    exact cellK_put (hc i' hi2 j v hj) (by omega)

/-- Items in one block, their rows in others. -/
structure ReadZ (w : World) (b off : Nat) (Z : List (List Value × PI)) : Prop where
  rd : RdK 2 w (some ⟨b, off, none⟩) (Z.map (·.1))
  lies : ∀ z ∈ Z, LiesZ (fun k => k = b) w z.1 z.2

theorem ReadZ.later {w w' : World} {b off : Nat} {Z : List (List Value × PI)} (h : ReadZ w b off Z) (hb : Below w.heap.size w w') : ReadZ w' b off Z := ⟨h.rd.later hb, fun z hz => (h.lies z hz).later hb⟩

theorem ReadZ.rdZ {w : World} {b off : Nat} {Z : List (List Value × PI)} (h : ReadZ w b off Z) : RdZ w (some ⟨b, off, none⟩) (Z.map (·.2)) := ⟨Z, rfl, h.rd, fun z hz => (h.lies z hz).less fun _ k => k.elim⟩

theorem RowZ.readZ {w : World} {B b off n cap : Nat} {Z : List (List Value × PI)} (h : RowZ w B (.slice (some ⟨b, off, none⟩) n cap) Z) : ReadZ w b off Z := by
  obtain ⟨a, c, e, -, -, hr, -, -⟩ := h.1.form
  cases e
  exact ⟨hr, fun z hz => (h.2 z hz).less fun k hk => .inr (by rw [hk]; rfl)⟩

theorem sz_put (w : World) (b o : Nat) (x : Value) : Sz (fun k => k = b) w (w.setCell ⟨b, o, none⟩ x) := Stay.setCell (Stay.refl _ _) (p := ⟨b, o, none⟩) (fun h => h.2 rfl) x

theorem sz_put2 (w : World) (b o o' : Nat) (x y : Value) : Sz (fun k => k = b) w ((w.setCell ⟨b, o, none⟩ x).setCell ⟨b, o', none⟩ y) := Stay.setCell (sz_put w b o x) (p := ⟨b, o', none⟩) (fun h => h.2 rfl) y

theorem ReadZ.put2 {w : World} {b off i : Nat} {Z : List (List Value × PI)} {x y : Value} {u : PI} (h : ReadZ w b off Z) (hi : i < Z.length) (hz : LiesZ (fun k => k = b) w [x, y] u) : ReadZ ((w.setCell ⟨b, off + i * 2, none⟩ x).setCell ⟨b, off + i * 2 + 1, none⟩ y) b off (Z.set i ([x, y], u)) := by
  refine ⟨?_, fun z hz' => ?_⟩
  · rw [List.map_set]
    exact h.rd.put2 (LiesZ.wides h.lies) (by rw [List.length_map]; exact hi) x y
  · rcases List.mem_or_eq_of_mem_set hz' with hz' | rfl
    · exact (h.lies z hz').sz (sz_put2 _ _ _ _ _ _)
    · exact hz.sz (sz_put2 _ _ _ _ _ _)

theorem ReadZ.put1 {w : World} {b off i : Nat} {Z : List (List Value × PI)} {ra : Option Addr} {rc : Nat} {p : Int} (h : ReadZ w b off Z) (hi : i < Z.length) (he : Z[i].1 = [.slice ra Z[i].2.row.length rc, .int .i64 Z[i].2.wt]) (hp : In64 p) : ReadZ (w.setCell ⟨b, off + i * 2 + 1, none⟩ (.int .i64 p)) b off (Z.set i ([.slice ra Z[i].2.row.length rc, .int .i64 p], ⟨Z[i].2.row, p⟩)) := by
  have hz : LiesZ (fun k => k = b) w [.slice ra Z[i].2.row.length rc, .int .i64 p] ⟨Z[i].2.row, p⟩ := by
    obtain ⟨a, cap, e, h1, h2, h3, h4, h5, h6⟩ := h.lies _ (List.getElem_mem hi)
    rw [he] at e
    cases e
    exact ⟨ra, rc, rfl, h1, h2, h3, h4, hp, h6⟩
  refine ⟨?_, fun z hz' => ?_⟩
  · rw [List.map_set]
    exact h.rd.put1 (LiesZ.wides h.lies) (by rw [List.length_map]; exact hi) (by rw [List.getElem_map, he]; rfl) _
  · rcases List.mem_or_eq_of_mem_set hz' with hz' | rfl
    · exact (h.lies z hz').sz (sz_put _ _ _ _)
    · exact hz.sz (sz_put _ _ _ _)

/-- Such a row begins its block, and none of its cells is frozen. -/
theorem RowZ.free {w : World} {B b off n cap : Nat} {Z : List (List Value × PI)} (h : RowZ w B (.slice (some ⟨b, off, none⟩) n cap) Z) (hn : 0 < Z.length) : off = 0 ∧ ∀ i j, i < Z.length → j < 2 → w.frozen? ⟨b, i * 2 + j, none⟩ = false := by
  have h2 := h.1.2
  obtain ⟨g, c, e, -, -⟩ := World.ownsRow.form h2 (by rw [List.length_map]; exact hn)
  cases e
  exact ⟨rfl, fun i j hi hj => (OwnK.slots h.1 (m := i) (by rw [List.length_map]; exact hi) j hj).2⟩

end Go.Proofs.Ytajlkaedkifaoaa
