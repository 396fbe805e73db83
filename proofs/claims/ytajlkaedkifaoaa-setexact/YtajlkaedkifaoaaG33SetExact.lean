/-
  Texts of the proof of SetExact, one behind the other.
-/
import Derived.Test.YtajlkaedkifaoaaRows
import Derived.Test.YtajlkaedkifaoaaG20SetExact
import Derived.Test.YtajlkaedkifaoaaG32SetExact
import Derived.Test.YtajlkaedkifaoaaG17SetExact
namespace Go.Proofs.Ytajlkaedkifaoaa
open Go.RowKit Go.Lib
set_option linter.unusedVariables false

theorem fitsR_zip : ∀ (l : List PV) (ts : List Int), fitsR l ts = (decide (l.length = ts.length) && (l.zip ts).all fun p => fitsV p.1 p.2)
  | [], [] => by simp [fitsR]
  | [], t :: ts => by simp [fitsR]
  | v :: l, [] => by simp [fitsR]
  | v :: l, t :: ts => by
    rw [fitsR, fitsR_zip l ts]
    simp only [List.length_cons, List.zip_cons_cons, List.all_cons, Nat.add_right_cancel_iff]
    cases fitsV v t <;> cases decide (l.length = ts.length) <;> simp

/-- Do the first k fit? -/
def fitsK (b : Bool) (l : List PV) (ts : List Int) (k : Nat) : Bool := b && ((l.zip ts).take k).all fun p => fitsV p.1 p.2

theorem fitsK_step {b : Bool} {l : List PV} {ts : List Int} {k : Nat} (hl : k < l.length) (ht : k < ts.length) : fitsK b l ts (k + 1) = (fitsK b l ts k && fitsV l[k] ts[k]) := by
  unfold fitsK
  have hz : k < (l.zip ts).length := by simp; omega
  rw [List.take_succ_eq_append_getElem hz, List.all_append]
  simp [Bool.and_assoc]

theorem fitsK_end {l : List PV} {ts : List Int} {k : Nat} (h : ¬ (k < l.length ∧ k < ts.length)) : fitsK (decide (l.length = ts.length)) l ts k = fitsR l ts := by
  unfold fitsK
  rw [fitsR_zip, List.take_of_length_le (by simp; omega)]

theorem RdI.take {k : IntKind} {w : World} {a : Option Addr} {N : List Int} (h : RdI k w a N) (j : Nat) : RdI k w a (N.take j) := by
  intro h0
  obtain ⟨b, off, e, hc⟩ := h (by simp at h0; omega)
  refine ⟨b, off, e, fun i hi => ?_⟩
  have := hc i (by simp at hi; omega)
  simpa using this

theorem modLen (k : Int) (m : Nat) (h1 : 1 ≤ m) (h40 : m ≤ 1000) : ∃ j : Nat, j < m ∧ wrap64 ((IntKind.u64.wrap k).tmod (m : Int)) = (j : Int) := by
  have h0 : 0 ≤ IntKind.u64.wrap k := by rw [IntKind.wrap_u64]; omega
  have h2 : (IntKind.u64.wrap k).tmod (m : Int) = IntKind.u64.wrap k % (m : Int) := Int.tmod_eq_emod_of_nonneg h0
  have h3 := Int.emod_nonneg (IntKind.u64.wrap k) (show (m : Int) ≠ 0 by omega)
  have h4 := Int.emod_lt_of_pos (IntKind.u64.wrap k) (show (0 : Int) < (m : Int) by omega)
  refine ⟨(IntKind.u64.wrap k % (m : Int)).toNat, by omega, ?_⟩
  rw [h2, IntWalk.wrap64_in _ ⟨by omega, by omega⟩]
  omega

end Go.Proofs.Ytajlkaedkifaoaa
