/-
  Texts of the proof of SetExact, one behind the other.
-/
import Derived.Test.YtajlkaedkifaoaaRows
import Derived.Test.YtajlkaedkifaoaaG2SetExact
import Derived.Test.YtajlkaedkifaoaaG4SetExact
import Derived.WalkKit
import Derived.WalkSpells
import Derived.WalkLawsBesides
import Derived.Deep.QuietTactic
import Derived.BigQuiet
namespace Go.Proofs.Ytajlkaedkifaoaa
open Go.RowKit Go.Lib

/-- A number within MaxValue, as within makes it. -/
def wi (n : Int) : Int := n.tmod 1152921504606846977

theorem wi_lo (n : Int) : -1152921504606846976 ≤ wi n := by
  unfold wi
  have := Int.lt_tmod_of_pos n (show (0 : Int) < 1152921504606846977 by decide)
  omega

theorem wi_hi (n : Int) : wi n ≤ 1152921504606846976 := by
  unfold wi
  have := Int.tmod_lt_of_pos n (show (0 : Int) < 1152921504606846977 by decide)
  omega

theorem take_eq_succ {l m : List UInt8} {k : Nat} (h : l.take k = m.take k) (hl : k < l.length) (hm : k < m.length) (hx : l[k].toNat = m[k].toNat) : l.take (k + 1) = m.take (k + 1) := by
  rw [List.take_succ_eq_append_getElem hl, List.take_succ_eq_append_getElem hm, h, UInt8.toNat_inj.1 hx]

theorem ne_of_at {l m : List UInt8} {k : Nat} (hl : k < l.length) (hm : k < m.length) (hx : l[k].toNat ≠ m[k].toNat) : l ≠ m := by
  intro e
  subst e
  exact hx rfl

end Go.Proofs.Ytajlkaedkifaoaa
