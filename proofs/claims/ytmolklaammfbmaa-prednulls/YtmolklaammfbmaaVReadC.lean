/-
  What bytes are read as: plain functions.
-/
import Derived.Test.YtmolklaammfbmaaVals
import Derived.Test.YtmolklaammfbmaaVBytes
import Derived.Test.YtmolklaammfbmaaSpec
namespace Go.Proofs.Ytmolklaammfbmaa
open Go.RowKit Go.Lib

/-- No value. -/
def noV : PV := ⟨0, 0, ⟨#[]⟩⟩

/-- What stands at a place within the bytes, ahead of the question whether it is right: a value, the place behind it, the error's number. -/
def rawV (l : List UInt8) (p : Nat) : PV × Int × Int :=
  let k := (l[p]?.getD 0).toNat
  if k = 1 then (⟨1, 0, ⟨#[]⟩⟩, (p : Int) + 1, 0)
  else if k = 2 then (⟨2, (rGet l ((p : Int) + 1) 1).1, ⟨#[]⟩⟩, (rGet l ((p : Int) + 1) 1).2.1, (rGet l ((p : Int) + 1) 1).2.2)
  else if k = 3 then (⟨3, (rGetInt l ((p : Int) + 1)).1, ⟨#[]⟩⟩, (rGetInt l ((p : Int) + 1)).2.1, (rGetInt l ((p : Int) + 1)).2.2)
  else if k = 4 then (⟨4, 0, ⟨(rGetText l ((p : Int) + 1)).1.toArray⟩⟩, (rGetText l ((p : Int) + 1)).2.1, (rGetText l ((p : Int) + 1)).2.2)
  else (⟨k, 0, ⟨#[]⟩⟩, (p : Int) + 1, 3)

/-- What is read, if it is right. -/
def sealV (r : PV × Int × Int) : PV × Int × Int := if r.2.2 ≠ 0 ∨ okV r.1 = false then (noV, 0, 3) else (r.1, r.2.1, 0)

theorem sealV_err {v : PV} {n e : Int} (h : e ≠ 0) : sealV (v, n, e) = (noV, 0, 3) := by simp [sealV, h]
theorem sealV_no {v : PV} {n e : Int} (h : okV v = false) : sealV (v, n, e) = (noV, 0, 3) := by simp [sealV, h]
theorem sealV_ok {v : PV} {n : Int} (h : okV v = true) : sealV (v, n, 0) = (v, n, 0) := by simp [sealV, h]

/-- Read. -/
def readV (l : List UInt8) (p : Int) : PV × Int × Int :=
  if p < 0 ∨ (l.length : Int) < p then (noV, 0, 1)
  else if p = (l.length : Int) then (noV, 0, 3)
  else sealV (rawV l p.toNat)

/-- What Read hands back. -/
def TellsV (e : Ending) (r : PV × Int × Int) : Prop :=
  e = .returned (.tuple #[.agg #[.int .i64 r.1.k, .int .i64 r.1.i, .string r.1.s], .int .i64 r.2.1, .int .i64 r.2.2])

end Go.Proofs.Ytmolklaammfbmaa
