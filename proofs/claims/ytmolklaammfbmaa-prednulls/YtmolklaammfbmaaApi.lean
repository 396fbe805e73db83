/-
  wire's calls, each by one contract that its callers use; and what 'wakes' answers.
-/
import Derived.Test.YtmolklaammfbmaaRows
import Derived.Test.YtmolklaammfbmaaPuts
import Derived.Test.YtmolklaammfbmaaGets
import Derived.WalkKit
import Derived.WalkSpells
import Derived.WalkLawsBesides
namespace Go.Proofs.Ytmolklaammfbmaa
open Go.RowKit Go.Lib

/-- What PutInt writes of n. -/
def intBytes (n : Int) : List UInt8 := (if n < 0 then 1 else 0) :: be n.natAbs 8
/-- What PutText writes of a text. -/
def textBytes (t : List UInt8) : List UInt8 := UInt8.ofNat t.length :: t

theorem intBytes_length (n : Int) : (intBytes n).length = 9 := by simp [intBytes, be_length]
theorem textBytes_length (t : List UInt8) : (textBytes t).length = 1 + t.length := by simp [textBytes]; omega

theorem pow8 : 256 ^ 8 = 18446744073709551616 := by decide

theorem ofNat_small {n : Nat} (h : n ≤ 24) : (UInt8.ofNat n).toNat = n := by simp [UInt8.toNat_ofNat']; omega

end Go.Proofs.Ytmolklaammfbmaa
