/-
  Texts of the proof of SetExact, one behind the other.
-/
import Derived.Test.YtajlkaedkifaoaaRows
import Derived.Test.YtajlkaedkifaoaaG18SetExact
import Derived.Test.YtajlkaedkifaoaaG19SetExact
import Derived.Test.YtajlkaedkifaoaaG15SetExact
import Derived.Test.YtajlkaedkifaoaaG11SetExact
import Derived.Test.YtajlkaedkifaoaaG12SetExact
import Derived.Test.YtajlkaedkifaoaaG5SetExact
import Derived.Test.YtajlkaedkifaoaaG3SetExact
import Derived.Handy
namespace Go.Proofs.Ytajlkaedkifaoaa
open Go.RowKit Go.Lib
set_option linter.unusedVariables false

/-- So many values, one behind the other, and the place behind them. -/
def readVs : Nat → List UInt8 → Int → Option (List PV × Int)
  | 0, _, p => some ([], p)
  | n + 1, l, p => if (readV l p).2.2 = 0 then (readVs n l (readV l p).2.1).map fun r => ((readV l p).1 :: r.1, r.2) else none

/-- Read. -/
def readR (l : List UInt8) (p : Int) : List PV × Int × Int :=
  if p < 0 ∨ (l.length : Int) < p then ([], 0, 1)
  else if p = (l.length : Int) then ([], 0, 3)
  else if 12 < (l[p.toNat]?.getD 0).toNat then ([], 0, 3)
  else match readVs (l[p.toNat]?.getD 0).toNat l (p + 1) with
    | none => ([], 0, 3)
    | some r => (r.1, r.2, 0)

/-- What Read hands back. -/
def TellsR (w w' : World) (e : Ending) (r : List PV × Int × Int) : Prop :=
  ∃ a n cap, e = .returned (.tuple #[.slice a n cap, .int .i64 r.2.1, .int .i64 r.2.2]) ∧ r.1.length = n ∧ n ≤ 65536 ∧ n ≤ cap ∧ OwnV w' w.heap.size (.slice a n cap) r.1 ∧ RdV w' a r.1 ∧ (a = none → r.1 = [] ∧ cap = 0) ∧ Below w.heap.size w w'

theorem TellsR.of_no {w w' : World} {e : Ending} {k : Int} (h : e = .returned (.tuple #[.slice none 0 0, .int .i64 0, .int .i64 k])) (hb : Below w.heap.size w w') : TellsR w w' e ([], 0, k) :=
  ⟨none, 0, 0, h, rfl, by omega, Nat.le_refl _, OwnV.nought _ _, RdV.nil _ _, fun _ => ⟨rfl, rfl⟩, hb⟩

theorem readVs_step {n k : Nat} {l : List UInt8} {p q : Int} {done : List PV} {r : PV × Int × Int} (hk : k < n) (hr : readV l q = r) (he : r.2.2 = 0) (h : readVs n l p = (readVs (n - k) l q).map fun x => (done ++ x.1, x.2)) :
    readVs n l p = (readVs (n - (k + 1)) l r.2.1).map fun x => ((done ++ [r.1]) ++ x.1, x.2) := by
  rw [h, show n - k = (n - (k + 1)) + 1 from by omega, readVs, hr, if_pos he, Option.map_map]
  congr 1
  funext x
  simp

theorem readVs_fail {n k : Nat} {l : List UInt8} {p q : Int} {done : List PV} {r : PV × Int × Int} (hk : k < n) (hr : readV l q = r) (he : r.2.2 ≠ 0) (h : readVs n l p = (readVs (n - k) l q).map fun x => (done ++ x.1, x.2)) : readVs n l p = none := by
  rw [h, show n - k = (n - (k + 1)) + 1 from by omega, readVs, hr, if_neg he]
  rfl

end Go.Proofs.Ytajlkaedkifaoaa

namespace Go.Proofs.Ytajlkaedkifaoaa
open Go.RowKit Go.Lib
set_option linter.unusedVariables false

/-- Bytes' answer. -/
def putR (vs : List PV) : List UInt8 × Int := if chkR vs = 0 then (bytesR vs, 0) else ([], chkR vs)

def RowCheck : Prop := ∀ (a : Option Addr) (n cap : Nat) (vs : List PV) (w : World), vs.length = n → n ≤ 65536 → RdV w a vs → Calls Try.prog 49 #[.slice a n cap] w fun e w' => e = .returned (.int .i64 (chkR vs)) ∧ Below w.heap.size w w'

def RowCompare : Prop := ∀ (a b : Option Addr) (n m cap dap : Nat) (l r : List PV) (w : World), l.length = n → r.length = m → n ≤ 65536 → m ≤ 65536 → RdV w a l → RdV w b r → Calls Try.prog 42 #[.slice a n cap, .slice b m dap] w fun e w' => e = .returned (.int .i64 (cmpR l r)) ∧ Below w.heap.size w w'

theorem chkR_ok {vs : List PV} : chkR vs = 0 ↔ vs.length ≤ 12 ∧ vs.all okV = true := by
  unfold chkR errR
  by_cases h : 12 < vs.length
  · rw [if_pos h]; omega
  · rw [if_neg h]
    cases hv : vs.all okV <;> simp <;> omega

theorem putR_ok {vs : List PV} (h : chkR vs = 0) : putR vs = (bytesR vs, 0) := by unfold putR; rw [if_pos h]
theorem putR_no {vs : List PV} (h : chkR vs ≠ 0) : putR vs = ([], chkR vs) := by unfold putR; rw [if_neg h]

theorem readVs_bytes : ∀ {vs : List PV} {l r : List UInt8} {p : Nat}, vs.all okV = true → l.drop p = bytesVs vs ++ r → readVs vs.length l (p : Int) = some (vs, (p : Int) + (bytesVs vs).length)
  | [], l, r, p, _, _ => by simp [readVs, bytesVs]
  | v :: vs, l, r, p, h, hd => by
    simp only [List.all_cons, Bool.and_eq_true] at h
    have hd' : l.drop p = bytesV v ++ (bytesVs vs ++ r) := by rw [hd]; simp [bytesVs]
    have h1 := readV_bytes h.1 hd'
    have hd2 : l.drop (p + (bytesV v).length) = bytesVs vs ++ r := by rw [← List.drop_drop, hd', List.drop_left]
    have h2 := readVs_bytes h.2 hd2
    rw [List.length_cons, readVs, h1, if_pos rfl]
    simp only
    rw [show (p : Int) + ((bytesV v).length : Int) = ((p + (bytesV v).length : Nat) : Int) from by omega, h2]
    simp [bytesVs]
    omega

/-- What is written is read. -/
theorem readR_bytes {vs : List PV} {l r : List UInt8} {p : Nat} (hok : chkR vs = 0) (h : l.drop p = bytesR vs ++ r) : readR l (p : Int) = (vs, (p : Int) + (bytesR vs).length, 0) := by
  obtain ⟨h12, hall⟩ := chkR_ok.1 hok
  unfold bytesR at h
  rw [List.cons_append] at h
  obtain ⟨hp, hx, hr⟩ := at_of_drop h
  unfold readR
  rw [if_neg (by omega), if_neg (by omega), show ((p : Int).toNat) = p from by omega, hx, ofNat_small (by omega), if_neg (by omega), show (p : Int) + 1 = ((p + 1 : Nat) : Int) from by omega, readVs_bytes hall hr]
  simp [bytesR]
  omega

theorem readVs_inv : ∀ {n : Nat} {l : List UInt8} {p : Nat} {vs : List PV} {q : Int}, readVs n l (p : Int) = some (vs, q) → vs.length = n ∧ vs.all okV = true ∧ (∃ r, l.drop p = bytesVs vs ++ r) ∧ q = (p : Int) + (bytesVs vs).length
  | 0, l, p, vs, q, h => by
    simp [readVs] at h
    obtain ⟨rfl, rfl⟩ := h
    simp [bytesVs]
  | n + 1, l, p, vs, q, h => by
    rw [readVs] at h
    split at h
    · rename_i he
      generalize hr : readV l (p : Int) = r at *
      obtain ⟨v, q1, e⟩ := r
      simp only at he h
      subst he
      obtain ⟨p', hp', hok, ⟨rest, hd⟩, hq1⟩ := readV_inv hr
      obtain rfl : p = p' := by omega
      rw [Option.map_eq_some_iff] at h
      obtain ⟨⟨us, q2⟩, h2, he2⟩ := h
      simp only [Prod.mk.injEq] at he2
      obtain ⟨rfl, rfl⟩ := he2
      rw [hq1, show (p : Int) + ((bytesV v).length : Int) = ((p + (bytesV v).length : Nat) : Int) from by omega] at h2
      obtain ⟨hl, ha, ⟨r2, hd2⟩, hq2⟩ := readVs_inv h2
      refine ⟨by simp [hl], by simp [hok, ha], ⟨r2, ?_⟩, ?_⟩
      · rw [← List.drop_drop, hd, List.drop_left] at hd2
        rw [hd, hd2]
        simp [bytesVs]
      · rw [hq2]
        simp [bytesVs]
        omega
    · cases h

/-- What is read is written as it stood. -/
theorem readR_inv {l : List UInt8} {p : Int} {vs : List PV} {n : Int} (h : readR l p = (vs, n, 0)) : ∃ q : Nat, p = q ∧ chkR vs = 0 ∧ (∃ r, l.drop q = bytesR vs ++ r) ∧ n = (q : Int) + (bytesR vs).length := by
  unfold readR at h
  split at h
  · simp at h
  · split at h
    · simp at h
    · obtain ⟨q, rfl⟩ : ∃ q : Nat, p = q := ⟨p.toNat, by omega⟩
      rw [show ((q : Int).toNat) = q from by omega] at h
      split at h
      · simp at h
      · rename_i h12
        split at h
        · simp at h
        · rename_i r hr
          obtain ⟨us, m⟩ := r
          simp only [Prod.mk.injEq, and_true] at h
          obtain ⟨rfl, rfl⟩ := h
          rw [show (q : Int) + 1 = ((q + 1 : Nat) : Int) from by omega] at hr
          obtain ⟨hl, ha, ⟨rest, hd⟩, hm⟩ := readVs_inv hr
          have hp : q < l.length := by omega
          refine ⟨q, rfl, chkR_ok.2 ⟨by omega, ha⟩, ⟨rest, ?_⟩, ?_⟩
          · rw [drop_at hp, hd]
            unfold bytesR
            rw [hl, List.cons_append]
            congr 1
            simp
          · rw [hm]
            simp [bytesR]
            omega

end Go.Proofs.Ytajlkaedkifaoaa

namespace Go.Proofs.Ytajlkaedkifaoaa
open Go.RowKit Go.Lib
set_option linter.unusedVariables false

/-- The row of one null. -/
def oneN : List PV := [⟨1, 0, ⟨#[]⟩⟩]

theorem chkN : chkR oneN = 0 := rfl
theorem bytesN : (bytesR oneN).length = 2 := rfl
theorem readN : readR (bytesR oneN) 0 = (oneN, 2, 0) := by
  have := readR_bytes (vs := oneN) (l := bytesR oneN) (r := []) (p := 0) chkN (by simp)
  rw [bytesN] at this
  exact this

end Go.Proofs.Ytajlkaedkifaoaa
