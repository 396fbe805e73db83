/-
  What the document's own Row, CompareRows, RowFits do.
-/
import Derived.Test.YtmolklaammfbmaaRows
import Derived.Test.YtmolklaammfbmaaRKeep
namespace Go.Proofs.Ytmolklaammfbmaa
open Go.RowKit Go.Lib
set_option linter.unusedVariables false

/-- Row's answer: 0, 2 (too many), 1. -/
def errR (vs : List PV) : Int := if vs.all okV = true then 0 else 1

theorem errR_ok {vs : List PV} (h : vs.all okV = true) : errR vs = 0 := by simp only [errR, h, if_true]
theorem errR_no {vs : List PV} (h : vs.all okV = false) : errR vs = 1 := by simp only [errR, h]; rfl

def chkR (vs : List PV) : Int := if 12 < vs.length then 2 else errR vs

theorem all_take_succ {f : PV → Bool} {vs : List PV} {k : Nat} (hk : k < vs.length) (h : (vs.take k).all f = true) : (vs.take (k + 1)).all f = f vs[k] := by
  rw [List.take_succ_eq_append_getElem hk, List.all_append, h]
  simp

theorem all_false_at {f : PV → Bool} {vs : List PV} {k : Nat} (hk : k < vs.length) (h : f vs[k] = false) : vs.all f = false := by
  rw [List.all_eq_false]
  exact ⟨_, List.getElem_mem hk, by simp [h]⟩

/-- How two rows are ordered. -/
def cmpR : List PV → List PV → Int
  | [], [] => 0
  | [], _ :: _ => -1
  | _ :: _, [] => 1
  | v :: l, u :: m => if cmpV v u ≠ 0 then cmpV v u else cmpR l m

theorem cmpR_step {l r : List PV} {k : Nat} (hl : k < l.length) (hr : k < r.length) : cmpR (l.drop k) (r.drop k) = if cmpV l[k] r[k] ≠ 0 then cmpV l[k] r[k] else cmpR (l.drop (k + 1)) (r.drop (k + 1)) := by
  rw [List.drop_eq_getElem_cons hl, List.drop_eq_getElem_cons hr, cmpR]

theorem cmpR_end {l r : List PV} {k : Nat} (hl : k ≤ l.length) (hr : k ≤ r.length) (h : ¬ (k < l.length ∧ k < r.length)) : cmpR (l.drop k) (r.drop k) = if l.length = r.length then 0 else sgnB (decide (l.length < r.length)) := by
  by_cases h1 : k = l.length
  · rw [List.drop_of_length_le (l := l) (by omega)]
    by_cases h2 : k = r.length
    · rw [List.drop_of_length_le (by omega), if_pos (by omega)]
      rfl
    · rw [if_neg (by omega), List.drop_eq_getElem_cons (l := r) (by omega), show decide (l.length < r.length) = true from by simp; omega]
      rfl
  · have h2 : k = r.length := by omega
    rw [List.drop_of_length_le (l := r) (by omega), if_neg (by omega), List.drop_eq_getElem_cons (l := l) (by omega), show decide (l.length < r.length) = false from by simp; omega]
    rfl

/-- A value of a row and a number stay. -/
theorem keepFit {W w w' : World} {b c o p : Nat} {k0 i0 k1 : Int} {s0 : ByteArray}
    (hb : Below w.heap.size w w')
    (h : w.cell? ⟨b, o, none⟩ = some (.int .i64 k0) ∧ w.cell? ⟨b, o + 1, none⟩ = some (.int .i64 i0) ∧ w.cell? ⟨b, o + 2, none⟩ = some (.string s0) ∧ w.cell? ⟨c, p, none⟩ = some (.int .i64 k1) ∧ Hid (Below W.heap.size W w)) :
    w'.cell? ⟨b, o, none⟩ = some (.int .i64 k0) ∧ w'.cell? ⟨b, o + 1, none⟩ = some (.int .i64 i0) ∧ w'.cell? ⟨b, o + 2, none⟩ = some (.string s0) ∧ w'.cell? ⟨c, p, none⟩ = some (.int .i64 k1) ∧ Hid (Below W.heap.size W w') := by
  obtain ⟨h0, h1, h2, h3, h9⟩ := h
  exact ⟨cell_later hb h0, cell_later hb h1, cell_later hb h2, cell_later hb h3, chain h9.out hb⟩

/-- Do the values fit the types, one by one? -/
def fitsR : List PV → List Int → Bool
  | [], [] => true
  | v :: l, t :: ts => fitsV v t && fitsR l ts
  | _, _ => false

theorem fitsR_step {l : List PV} {ts : List Int} {k : Nat} (hl : k < l.length) (ht : k < ts.length) : fitsR (l.drop k) (ts.drop k) = (fitsV l[k] ts[k] && fitsR (l.drop (k + 1)) (ts.drop (k + 1))) := by
  rw [List.drop_eq_getElem_cons hl, List.drop_eq_getElem_cons ht, fitsR]

theorem fitsR_len : ∀ {l : List PV} {ts : List Int}, fitsR l ts = true → l.length = ts.length
  | [], [], _ => rfl
  | [], _ :: _, h => by simp [fitsR] at h
  | _ :: _, [], h => by simp [fitsR] at h
  | v :: l, t :: ts, h => by
    simp only [fitsR, Bool.and_eq_true] at h
    simp [fitsR_len h.2]

end Go.Proofs.Ytmolklaammfbmaa
