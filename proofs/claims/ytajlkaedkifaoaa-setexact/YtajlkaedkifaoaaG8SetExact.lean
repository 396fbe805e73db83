/-
  Texts of the proof of SetExact, one behind the other.
-/
import Derived.Test.YtajlkaedkifaoaaRows
import Derived.Test.YtajlkaedkifaoaaG7SetExact
import Derived.WalkKit
import Derived.WalkSpells
import Derived.WalkLawsBesides
import Derived.Deep.QuietTactic
import Derived.BigQuiet
import Derived.Test.YtajlkaedkifaoaaG4SetExact
namespace Go.Proofs.Ytajlkaedkifaoaa
open Go.RowKit Go.Lib

theorem Rd.some_of {w : World} {a : Option Addr} {l : List UInt8} (h : Rd w a l) (h0 : 0 < l.length) : ∃ b off, a = some ⟨b, off, none⟩ := by
  obtain ⟨b, off, e, _⟩ := h h0
  exact ⟨b, off, e⟩

theorem Rd.part {w : World} {b off p : Nat} {l t r : List UInt8} (h : Rd w (some ⟨b, off, none⟩) l) (hd : l.drop p = t ++ r) : Rd w (some ⟨b, off + p, none⟩) t := by
  have := h.cut p t.length
  rw [hd, List.take_append_of_le_length (Nat.le_refl _), List.take_length] at this
  exact this

theorem Rd.at_ {w : World} {b off p : Nat} {l r : List UInt8} {x : UInt8} (h : Rd w (some ⟨b, off, none⟩) l) (hd : l.drop p = x :: r) : w.cell? ⟨b, off + p, none⟩ = some (.int .u8 (x.toNat : Int)) := by
  have h1 := h.part (t := [x]) (r := r) (by simpa using hd)
  obtain ⟨b', off', e, hc⟩ := h1 (by simp)
  cases e
  simpa using hc 0 (by simp)

theorem length_of_drop {l t : List UInt8} {p : Nat} (hd : l.drop p = t) (h0 : 0 < t.length) : l.length = p + t.length := by
  have := congrArg List.length hd
  simp at this
  omega

theorem num_lt8 {t : List UInt8} (h : t.length ≤ 8) : num t < 18446744073709551616 := by
  have h1 := num_lt t
  have h2 : 256 ^ t.length ≤ 256 ^ 8 := Nat.pow_le_pow_right (by omega) h
  omega

theorem num_lt7 {t : List UInt8} (h : t.length ≤ 7) : num t < 72057594037927936 := by
  have h1 := num_lt t
  have h2 : 256 ^ t.length ≤ 256 ^ 7 := Nat.pow_le_pow_right (by omega) h
  omega

theorem strOf_bytes (t : List UInt8) : strOfNums (t.map fun x => (x.toNat : Int)) = ⟨t.toArray⟩ := by
  simp [strOfNums, Function.comp_def]

/-- string(b): the bytes that are read there. -/
theorem run_convert_rd {P : Program} {w : World} {src dst b off n cap : Nat} {t : List UInt8} (hs : P.underlying src = some (.slice 5)) (he : P.underlying 5 = some (.int .u8)) (hd : P.underlying dst = some .string)
    (hn : t.length = n) (hr : Rd w (some ⟨b, off, none⟩) t) : (convert src dst (.slice (some ⟨b, off, none⟩) n cap)).run P w = .ok (.string ⟨t.toArray⟩) w := by
  subst hn
  rw [← strOf_bytes]
  refine run_convert_bytes_arg w src 5 hs he b off t.length cap (t.map fun x => (x.toNat : Int)) (by simp) (fun i hi => ?_) dst hd
  obtain ⟨b', off', e, hc⟩ := hr (by omega)
  cases e
  rw [hc i hi]
  simp [List.getElem?_eq_getElem hi]

theorem drawn_below (w : World) (k : Nat) : Below w.heap.size w (w.drewN k) := below_drewN (Below.refl _ _) k

end Go.Proofs.Ytajlkaedkifaoaa

namespace Go.Proofs.Ytajlkaedkifaoaa
open Go.RowKit Go.Lib

/-- What PutInt writes of n. -/
def intBytes (n : Int) : List UInt8 := (if n < 0 then 1 else 0) :: be n.natAbs 8
/-- What PutText writes of a text. -/
def textBytes (t : List UInt8) : List UInt8 := UInt8.ofNat t.length :: t

theorem intBytes_length (n : Int) : (intBytes n).length = 9 := by simp [intBytes, be_length]
theorem textBytes_length (t : List UInt8) : (textBytes t).length = 1 + t.length := by simp [textBytes]; omega

theorem pow8 : 256 ^ 8 = 18446744073709551616 := by decide

theorem ofNat_small {n : Nat} (h : n ≤ 24) : (UInt8.ofNat n).toNat = n := by simp [UInt8.toNat_ofNat']; omega

end Go.Proofs.Ytajlkaedkifaoaa

namespace Go.Proofs.Ytajlkaedkifaoaa
open Go.RowKit Go.Lib

/-- Get: the number, the place behind it, the error's number. -/
def rGet (l : List UInt8) (p size : Int) : Int × Int × Int :=
  if size < 1 ∨ 7 < size ∨ p < 0 ∨ (l.length : Int) < p then (0, 0, 1)
  else if (l.length : Int) - p < size then (0, 0, 3)
  else ((num ((l.drop p.toNat).take size.toNat) : Nat), p + size, 0)

/-- What nine bytes are, as GetInt reads them: a sign's byte, and a size. -/
def rSign (x q : Nat) : Option Int := if 1 < x ∨ 1152921504606846976 < q ∨ (x = 1 ∧ q = 0) then none else some (if x = 1 then -(q : Int) else q)

def rGetInt (l : List UInt8) (p : Int) : Int × Int × Int :=
  if p < 0 ∨ (l.length : Int) < p then (0, 0, 1)
  else if (l.length : Int) - p < 9 then (0, 0, 3)
  else match rSign (l[p.toNat]?.getD 0).toNat (num ((l.drop (p.toNat + 1)).take 8)) with
    | none => (0, 0, 3)
    | some v => (v, p + 9, 0)

def rGetText (l : List UInt8) (p : Int) : List UInt8 × Int × Int :=
  if p < 0 ∨ (l.length : Int) < p then ([], 0, 1)
  else if p = (l.length : Int) then ([], 0, 3)
  else if 24 < (l[p.toNat]?.getD 0).toNat ∨ l.length - (p.toNat + 1) < (l[p.toNat]?.getD 0).toNat then ([], 0, 3)
  else ((l.drop (p.toNat + 1)).take (l[p.toNat]?.getD 0).toNat, p + 1 + ((l[p.toNat]?.getD 0).toNat : Int), 0)

theorem drop_at {l : List UInt8} {p : Nat} (h : p < l.length) : l.drop p = (l[p]?.getD 0) :: l.drop (p + 1) := by
  rw [List.drop_eq_getElem_cons h]
  simp [List.getElem?_eq_getElem h]

end Go.Proofs.Ytajlkaedkifaoaa
