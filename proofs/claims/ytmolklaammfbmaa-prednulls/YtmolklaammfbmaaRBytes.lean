/-
  What the document's own RowBytes writes of a right row.
-/
import Derived.Test.YtmolklaammfbmaaRows
import Derived.Test.YtmolklaammfbmaaRRef
import Derived.Test.YtmolklaammfbmaaVBytes
namespace Go.Proofs.Ytmolklaammfbmaa
open Go.RowKit Go.Lib
set_option linter.unusedVariables false

/-- Values' bytes, one behind the other. -/
def bytesVs (vs : List PV) : List UInt8 := vs.flatMap bytesV

/-- A right row's bytes. -/
def bytesR (vs : List PV) : List UInt8 := UInt8.ofNat vs.length :: bytesVs vs

theorem bytesV_small {v : PV} (h : okV v = true) : (bytesV v).length ≤ 26 := by
  obtain ⟨k, i, s⟩ := v
  unfold bytesV
  simp only
  by_cases k2 : k = 2
  · simp [k2]
  by_cases k3 : k = 3
  · simp [k3, intBytes_length]
  by_cases k4 : k = 4
  · subst k4
    simp [okV] at h
    simp [textBytes_length]
    omega
  · simp [k2, k3, k4]

theorem bytesVs_small : ∀ {vs : List PV}, vs.all okV = true → (bytesVs vs).length ≤ 26 * vs.length
  | [], _ => by simp [bytesVs]
  | v :: vs, h => by
    simp only [List.all_cons, Bool.and_eq_true] at h
    have h1 := bytesV_small h.1
    have h2 := bytesVs_small h.2
    simp only [bytesVs, List.flatMap_cons, List.length_append, List.length_cons] at h2 ⊢
    omega

theorem bytesVs_take {vs : List PV} {k : Nat} (h : k < vs.length) : bytesVs (vs.take (k + 1)) = bytesVs (vs.take k) ++ bytesV vs[k] := by
  unfold bytesVs
  rw [List.take_succ_eq_append_getElem h, List.flatMap_append]
  simp

theorem all_take {vs : List PV} (h : vs.all okV = true) (k : Nat) : (vs.take k).all okV = true := by
  rw [List.all_eq_true] at h ⊢
  exact fun x hx => h x (List.mem_of_mem_take hx)

end Go.Proofs.Ytmolklaammfbmaa
