/-
  What PredNulls' walk wants: rows of nulls, and what Holds answers of them; boxes.
-/
import Derived.Test.YtmolklaammfbmaaRows
import Derived.Test.YtmolklaammfbmaaPBentM
import Derived.Test.YtmolklaammfbmaaRMake
namespace Go.Proofs.Ytmolklaammfbmaa
open Go.RowKit Go.Lib
set_option linter.unusedVariables false

def nullV : PV := ⟨1, 0, ⟨#[]⟩⟩

theorem null_less {v : PV} (hok : okV v = true) : decide (cmpV nullV v < 0) = !(v.k == 1) := by
  obtain ⟨k, i, s⟩ := v
  by_cases h1 : k = 1
  · subst h1
    simp [okV] at hok
    obtain ⟨rfl, hs⟩ := hok
    have : (⟨1, 0, s⟩ : PV) = nullV := PV.eq_of rfl rfl (by
      have h1 : s.toList.isEmpty = true := by rw [empty_size]; exact decide_eq_true (by simp [hs])
      have h2 : (⟨#[]⟩ : ByteArray).toList.isEmpty = true := by rw [empty_size]; rfl
      show s.toList = (⟨#[]⟩ : ByteArray).toList
      rw [List.isEmpty_iff.1 h1, List.isEmpty_iff.1 h2])
    rw [this, cmpV_self]
    rfl
  · have hk : 1 < k := by
      by_cases h2 : k = 2
      · omega
      by_cases h3 : k = 3
      · omega
      by_cases h4 : k = 4
      · omega
      rw [okV_none ⟨h1, h2, h3, h4⟩] at hok
      cases hok
    have : cmpV nullV ⟨k, i, s⟩ = -1 := (cmpV_neg _ _).2 (.inl hk)
    rw [this]
    simp [h1]

theorem null_eq {v : PV} (hok : okV v = true) : (cmpV v nullV == 0) = (v.k == 1) := by
  have h := null_less hok
  rw [cmpV_flip nullV v]
  have hr := cmpV_range nullV v
  cases hk : (v.k == 1) with
  | false => 
    rw [hk] at h
    simp at h ⊢
    omega
  | true =>
    rw [hk] at h
    simp at h hk ⊢
    obtain ⟨k, i, s⟩ := v
    simp only at hk
    subst hk
    simp [okV] at hok
    obtain ⟨rfl, hs⟩ := hok
    have : (⟨1, 0, s⟩ : PV) = nullV := PV.eq_of rfl rfl (by
      have h1 : s.toList.isEmpty = true := by rw [empty_size]; exact decide_eq_true (by simp [hs])
      have h2 : (⟨#[]⟩ : ByteArray).toList.isEmpty = true := by rw [empty_size]; rfl
      show s.toList = (⟨#[]⟩ : ByteArray).toList
      rw [List.isEmpty_iff.1 h1, List.isEmpty_iff.1 h2])
    rw [this, cmpV_self]

theorem null_more {v : PV} (hok : okV v = true) : decide (cmpV v nullV < 0) = false := by
  have h := null_less hok
  have h2 := null_eq hok
  rw [cmpV_flip nullV v] at h2 ⊢
  cases hk : (v.k == 1) with
  | false => rw [hk] at h; simp at h ⊢; omega
  | true => rw [hk] at h2; simp at h2 ⊢; omega

theorem nulls_get {n i : Nat} (hi : i < (List.replicate n nullV).length) : (List.replicate n nullV)[i] = nullV := List.getElem_replicate _

section
variable {n i : Nat} (hi : i < n)
include hi

theorem nulls_1 (o : Int) : holdsP ⟨1, i, o, nullV⟩ (List.replicate n nullV) = true := by
  have hl : i < (List.replicate n nullV).length := by simpa using hi
  rw [holds_1 hl nullV o, nulls_get hl, cmpV_self]
  rfl

theorem nulls_2 (o : Int) : holdsP ⟨2, i, o, nullV⟩ (List.replicate n nullV) = false := by
  have hl : i < (List.replicate n nullV).length := by simpa using hi
  rw [holds_2 hl nullV o, nulls_get hl, cmpV_self]
  rfl

theorem nulls_v (o : Int) {v : PV} (hok : okV v = true) : holdsP ⟨2, i, o, v⟩ (List.replicate n nullV) = !(v.k == 1) := by
  have hl : i < (List.replicate n nullV).length := by simpa using hi
  rw [holds_2 hl v o, nulls_get hl, null_less hok]

theorem one_1 (o : Int) {v : PV} (hok : okV v = true) : holdsP ⟨1, i, o, nullV⟩ ((List.replicate n nullV).set i v) = (v.k == 1) := by
  have hl : i < ((List.replicate n nullV).set i v).length := by simpa using hi
  rw [holds_1 hl nullV o, List.getElem_set_self, null_eq hok]

theorem one_2 (o : Int) {v : PV} (hok : okV v = true) : holdsP ⟨2, i, o, nullV⟩ ((List.replicate n nullV).set i v) = false := by
  have hl : i < ((List.replicate n nullV).set i v).length := by simpa using hi
  rw [holds_2 hl nullV o, List.getElem_set_self, null_more hok]

theorem one_5 (o : Int) {v u : PV} : holdsP ⟨5, i, o, u⟩ ((List.replicate n nullV).set i v) = (v.k == 1) := by
  have hl : i < ((List.replicate n nullV).set i v).length := by simpa using hi
  rw [holds_5 hl u o, List.getElem_set_self]

end

theorem null_fits {ts : List Int} {i : Nat} (hi : i < ts.length) (k o : Int) (hk : askV k = true) (h : 2 ≤ ts[i] ∧ ts[i] ≤ 4) : chkP ⟨k, i, o, nullV⟩ ts = 0 := by
  have hkk : k = 1 ∨ k = 2 := by simpa [askV] using hk
  have hno : askO k = false := by simp [askO]; omega
  rw [chkP_val (by simp [kindB]; omega) (by simp [hasB, placeB_nat hi, hno]) hk hno rfl]
  rw [if_pos]
  simp only [atI_nat ts i hi]
  show (decide (2 ≤ ts[i] ∧ ts[i] ≤ 4) && okV nullV && (decide (nullV.k = ts[i]) || decide (nullV.k = 1))) = true
  rw [decide_eq_true h]
  simp [nullV, okV]
  rfl

theorem set_nulls {n k : Nat} (hk : k < n) : (List.replicate k nullV ++ List.replicate (n - k) noV).set k nullV = List.replicate (k + 1) nullV ++ List.replicate (n - (k + 1)) noV := by
  have e : n - k = (n - (k + 1)) + 1 := by omega
  rw [e, List.replicate_succ, List.set_append_right _ _ (by simp)]
  simp [List.replicate_succ']

theorem OwnV.rd0 {w : World} {B g n cap : Nat} {vs : List PV} (h : OwnV w B (.slice (some ⟨g, 0, none⟩) n cap) vs) : RdV w (some ⟨g, 0, none⟩) vs := by
  obtain ⟨a5, cap5, e5, _, hr5, _⟩ := h.form
  simp only [Value.slice.injEq] at e5
  obtain ⟨rfl, _, _⟩ := e5
  exact hr5

theorem BoxPd.cells {w : World} {g : Nat} {a b c d e f : Value} (h : BoxPd w g #[a, b, c, d, e, f]) :
    w.cell? ⟨g, 0, none⟩ = some a ∧ w.cell? ⟨g, 1, none⟩ = some b ∧ w.cell? ⟨g, 2, none⟩ = some c ∧ w.cell? ⟨g, 3, none⟩ = some d ∧ w.cell? ⟨g, 4, none⟩ = some e ∧ w.cell? ⟨g, 5, none⟩ = some f := by
  have hc := fun i => cell_of_row w g i _ _ _ h
  exact ⟨hc 0, hc 1, hc 2, hc 3, hc 4, hc 5⟩

theorem BoxPd.up {w : World} {g : Nat} {cs : Array Value} {o : Obj} (h : BoxPd w g cs) : BoxPd (w.alloc o) g cs := h.later (alloc_below _ _)

theorem BoxPd.drew {w : World} {g : Nat} {cs : Array Value} (h : BoxPd w g cs) : BoxPd w.drew g cs := h.later (Below.refl _ _).drew

theorem BoxPd.at_ {w : World} {cs : Array Value} {g : Nat} (hg : w.heap.size = g) : BoxPd (w.alloc (.cells cs 25)) g cs := by
  subst hg
  exact BoxPd.made

theorem BoxPd.lt {w : World} {g : Nat} {cs : Array Value} (h : BoxPd w g cs) : g < w.heap.size := heap_ltP h

/-- A value's box. -/
def BoxVl (w : World) (g : Nat) (k i : Int) (s : ByteArray) : Prop := w.heap[g]? = some (.cells #[.int .i64 k, .int .i64 i, .string s] 23 (0, 0))

theorem BoxVl.at_ {w : World} {k i : Int} {s : ByteArray} {g : Nat} (hg : w.heap.size = g) : BoxVl (w.alloc (.cells #[.int .i64 k, .int .i64 i, .string s] 23)) g k i s := by
  subst hg
  show (w.heap.push _)[w.heap.size]? = _
  simp

theorem BoxVl.cells {w : World} {g : Nat} {k i : Int} {s : ByteArray} (h : BoxVl w g k i s) :
    w.cell? ⟨g, 0, none⟩ = some (.int .i64 k) ∧ w.cell? ⟨g, 1, none⟩ = some (.int .i64 i) ∧ w.cell? ⟨g, 2, none⟩ = some (.string s) := by
  have hc := fun j => cell_of_row w g j _ _ _ h
  exact ⟨hc 0, hc 1, hc 2⟩

theorem BoxVl.lt {w : World} {g : Nat} {k i : Int} {s : ByteArray} (h : BoxVl w g k i s) : g < w.heap.size := heap_ltP h

theorem BoxVl.below {B : Nat} {w w' : World} {g : Nat} {k i : Int} {s : ByteArray} (h : BoxVl w g k i s) (hs : Below B w w') (hg : g < B) : BoxVl w' g k i s := (hs.block g hg).trans h

theorem BoxVl.later {w w' : World} {g : Nat} {k i : Int} {s : ByteArray} (h : BoxVl w g k i s) (hs : Below w.heap.size w w') : BoxVl w' g k i s := h.below hs h.lt

theorem other3P {w : World} {g c o1 o2 o3 : Nat} {a b d : Value} {cs : Option Obj} (h : w.heap[g]? = cs) (hc : g ≠ c) : (((w.setCell ⟨c, o1, none⟩ a).setCell ⟨c, o2, none⟩ b).setCell ⟨c, o3, none⟩ d).heap[g]? = cs := by
  have s := fun (V : World) (i : Nat) (u : Value) => Below.heap_setCell V ⟨c, i, none⟩ u g hc
  rw [s, s, s]
  exact h

end Go.Proofs.Ytmolklaammfbmaa
