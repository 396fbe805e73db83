/-
  Texts of the proof of SetExact, one behind the other.
-/
import Derived.Test.YtajlkaedkifaoaaRows
import Derived.Test.YtajlkaedkifaoaaG30SetExact
import Derived.Shelf.SlSortCmp.KitK
namespace Go.Proofs.Ytajlkaedkifaoaa
open Go.RowKit Go.Lib
set_option linter.unusedVariables false

theorem flat_of {α : Type} [Inhabited α] (enc : α → List Value) (k : Nat) (hk0 : 0 < k) (hk : ∀ x, (enc x).length = k) (h1 : ∀ x, ∀ v ∈ enc x, v.oneCell' = true) (d : Array α) : (Go.Sort.flatK enc k d).toList = (d.toList.map enc).flatten := by
  have hw : Wide k (d.toList.map enc) := fun c hc => by
    obtain ⟨x, -, rfl⟩ := List.mem_map.1 hc
    exact ⟨hk x, h1 x⟩
  apply List.ext_getElem?
  intro t
  by_cases ht : t < d.size * k
  · have hdm : t / k * k + t % k = t := by rw [Nat.mul_comm]; exact Nat.div_add_mod t k
    have hml := Nat.mod_lt t hk0
    have hil := div_lt_len ht
    have e1 := flatK_at hw (t / k) (by simpa using hil) (t % k) hml
    rw [hdm] at e1
    rw [e1]
    have hs : t < (Go.Sort.flatK enc k d).size := by rw [Go.Sort.size_flatK]; exact ht
    have e2 := Go.Sort.get_flatK enc k d t ht
    rw [getElem!_pos _ t hs, getElem!_pos d (t / k) hil, getElem!_pos _ (t % k) (by rw [hk]; exact hml)] at e2
    rw [List.getElem?_eq_getElem (by simpa using hs), Array.getElem_toList, e2]
    simp only [List.getElem_map, Array.getElem_toList]
    rw [List.getElem?_eq_getElem (by rw [hk]; exact hml)]
  · rw [List.getElem?_eq_none (by simp; omega), List.getElem?_eq_none (by rw [flatK_length hw]; simp; omega)]

theorem OwnK.holds {α : Type} [Inhabited α] {enc : α → List Value} {k : Nat} {e : TypeId} {w : World} {B blk n cap : Nat} {d : Array α} (hk0 : 0 < k) (hk : ∀ x, (enc x).length = k) (h1 : ∀ x, ∀ v ∈ enc x, v.oneCell' = true) (h : OwnK k e w B (.slice (some ⟨blk, 0, none⟩) n cap) (d.toList.map enc)) : Go.Sort.HoldsK enc k w blk 0 d := by
  intro t ht
  rw [Go.Sort.size_flatK] at ht
  have hs : t < (Go.Sort.flatK enc k d).size := by rw [Go.Sort.size_flatK]; exact ht
  obtain ⟨hd, ho⟩ := h
  have hlen : (d.toList.map enc).length = d.size := by simp
  rcases ho.2 with ⟨h0, _⟩ | ⟨g', cap', cur, hv, hg, hh, hcc, hmx, hsz, htk⟩
  · cases h0
  cases hv
  rw [hlen] at hcc htk
  have hCk : d.size * k ≤ cap * k := Nat.mul_le_mul_right k hcc
  have e1 : cur.toList[t]? = (Go.Sort.flatK enc k d).toList[t]? := by
    rw [flat_of enc k hk0 hk h1 d, ← htk, List.getElem?_take, if_pos ht]
  rw [List.getElem?_eq_getElem (l := (Go.Sort.flatK enc k d).toList) (by simpa using hs)] at e1
  rw [Nat.zero_add, getElem!_pos _ t hs]
  constructor
  · simp only [World.cell?, hh]
    rw [← Array.getElem?_toList, e1]
    rfl
  · simp [World.frozen?, hh]

theorem OwnK.sorted {α : Type} [Inhabited α] {enc : α → List Value} {k : Nat} {e : TypeId} {w : World} {B blk n cap m : Nat} {d d' : Array α} {os : Array Obj} (hk0 : 0 < k) (hk : ∀ x, (enc x).length = k) (h1 : ∀ x, ∀ v ∈ enc x, v.oneCell' = true) (h : OwnK k e w B (.slice (some ⟨blk, 0, none⟩) n cap) (d.toList.map enc)) (hs : d'.size = d.size) :
    OwnK k e (Go.Proofs.sortWorldK enc k w blk 0 m d' os) B (.slice (some ⟨blk, 0, none⟩) n cap) (d'.toList.map enc) ∧ w.grownBy (Go.Proofs.sortWorldK enc k w blk 0 m d' os) (some blk) := by
  have hw : Wide k (d'.toList.map enc) := fun c hc => by
    obtain ⟨x, -, rfl⟩ := List.mem_map.1 hc
    exact ⟨hk x, h1 x⟩
  obtain ⟨hd, ho⟩ := h
  have hlen : (d.toList.map enc).length = d.size := by simp
  have hlen' : (d'.toList.map enc).length = d.size := by simp [hs]
  have hhs : (Go.Proofs.sortWorldK enc k w blk 0 m d' os).heap = (w.heap.modify blk (Go.Sort.onCells (Go.Sort.putCells id 0 (Go.Sort.flatK enc k d')))) ++ os := rfl
  rcases ho.2 with ⟨h0, _⟩ | ⟨g', cap', cur, hv, hg, hh, hcc, hmx, hsz, htk⟩
  · cases h0
  cases hv
  rw [hlen] at hcc htk
  have hb : blk < w.heap.size := (Array.getElem?_eq_some_iff.1 hh).1
  refine ⟨⟨hw, by rw [flatK_length hw], .inr ⟨blk, cap, Go.Sort.putCells id 0 (Go.Sort.flatK enc k d') cur, by rw [hlen', hlen], hg, ?_, by rw [hlen']; exact hcc, hmx, by simp [Go.Sort.putCells, hsz], ?_⟩⟩, ⟨rfl, rfl, rfl, ?_, fun i hi hne => ?_⟩⟩
  · rw [hhs, Array.getElem?_append, if_pos (by simpa using hb), Array.getElem?_modify, if_pos rfl, hh]
    rfl
  · rw [hlen']
    apply List.ext_getElem?
    intro t
    rw [List.getElem?_take]
    have hCk : d.size * k ≤ cap * k := Nat.mul_le_mul_right k hcc
    by_cases ht : t < d.size * k
    · rw [if_pos ht, ← flat_of enc k hk0 hk h1 d', Array.getElem?_toList, Array.getElem?_toList]
      have hF : (Go.Sort.flatK enc k d').size = d.size * k := by rw [Go.Sort.size_flatK, hs]
      simp only [Go.Sort.putCells, Array.getElem?_mapIdx]
      rw [Array.getElem?_eq_getElem (by rw [hsz]; omega), Array.getElem?_eq_getElem (by rw [hF]; exact ht), Option.map_some, if_pos ⟨Nat.zero_le _, by rw [hF]; omega⟩, Nat.sub_zero, getElem!_pos _ t (by rw [hF]; exact ht)]
      rfl
    · rw [if_neg ht, List.getElem?_eq_none (by rw [flatK_length hw, hlen']; omega)]
  · rw [hhs]
    simp
  · rw [hhs, Array.getElem?_append, if_pos (by simpa using hi), Array.getElem?_modify, if_neg (fun e => hne (by rw [e]))]

end Go.Proofs.Ytajlkaedkifaoaa
