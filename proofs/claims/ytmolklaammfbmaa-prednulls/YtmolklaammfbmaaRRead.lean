/-
  What bytes are read as, as a row; and that the document's own ReadRow reads so.
-/
import Derived.Test.YtmolklaammfbmaaRows
import Derived.Test.YtmolklaammfbmaaRPick
import Derived.Test.YtmolklaammfbmaaRBytes
import Derived.Test.YtmolklaammfbmaaVBack
import Derived.Test.YtmolklaammfbmaaVRefRead
namespace Go.Proofs.Ytmolklaammfbmaa
open Go.RowKit Go.Lib
set_option linter.unusedVariables false

/-- So many values, one behind the other, and the place behind them. -/
def readVs : Nat → List UInt8 → Int → Option (List PV × Int)
  | 0, _, p => some ([], p)
  | n + 1, l, p => if (readV l p).2.2 = 0 then (readVs n l (readV l p).2.1).map fun r => ((readV l p).1 :: r.1, r.2) else none

/-- Read. -/
def readR (l : List UInt8) (p : Int) : List PV × Int × Int :=
  if p < 0 ∨ (l.length : Int) < p then ([], 0, 1)
  else if p = (l.length : Int) then ([], 0, 3)
  else if 12 < (l[p.toNat]?.getD 0).toNat then ([], 0, 3)
  else match readVs (l[p.toNat]?.getD 0).toNat l (p + 1) with
    | none => ([], 0, 3)
    | some r => (r.1, r.2, 0)

/-- What Read hands back. -/
def TellsR (w w' : World) (e : Ending) (r : List PV × Int × Int) : Prop :=
  ∃ a n cap, e = .returned (.tuple #[.slice a n cap, .int .i64 r.2.1, .int .i64 r.2.2]) ∧ r.1.length = n ∧ n ≤ 65536 ∧ n ≤ cap ∧ OwnV w' w.heap.size (.slice a n cap) r.1 ∧ RdV w' a r.1 ∧ (a = none → r.1 = [] ∧ cap = 0) ∧ Below w.heap.size w w'

theorem TellsR.of_no {w w' : World} {e : Ending} {k : Int} (h : e = .returned (.tuple #[.slice none 0 0, .int .i64 0, .int .i64 k])) (hb : Below w.heap.size w w') : TellsR w w' e ([], 0, k) :=
  ⟨none, 0, 0, h, rfl, by omega, Nat.le_refl _, OwnV.nought _ _, RdV.nil _ _, fun _ => ⟨rfl, rfl⟩, hb⟩

theorem readVs_step {n k : Nat} {l : List UInt8} {p q : Int} {done : List PV} {r : PV × Int × Int} (hk : k < n) (hr : readV l q = r) (he : r.2.2 = 0) (h : readVs n l p = (readVs (n - k) l q).map fun x => (done ++ x.1, x.2)) :
    readVs n l p = (readVs (n - (k + 1)) l r.2.1).map fun x => ((done ++ [r.1]) ++ x.1, x.2) := by
  rw [h, show n - k = (n - (k + 1)) + 1 from by omega, readVs, hr, if_pos he, Option.map_map]
  congr 1
  funext x
  simp

theorem readVs_fail {n k : Nat} {l : List UInt8} {p q : Int} {done : List PV} {r : PV × Int × Int} (hk : k < n) (hr : readV l q = r) (he : r.2.2 ≠ 0) (h : readVs n l p = (readVs (n - k) l q).map fun x => (done ++ x.1, x.2)) : readVs n l p = none := by
  rw [h, show n - k = (n - (k + 1)) + 1 from by omega, readVs, hr, if_neg he]
  rfl

end Go.Proofs.Ytmolklaammfbmaa
