/-
  Texts of the proof of SetExact, one behind the other.
-/
import Derived.Test.YtajlkaedkifaoaaG2SetExact
import Derived.ProofKit
import Derived.OpenShut
namespace Go.Proofs.Ytajlkaedkifaoaa
open Go.ChangeShapes Go.WideShapes Go.ChangeAt Go.RowKit

/-- A slice of integers that came in: it is nil, or it leads to a row of cap cells. -/
def IsInts (k : IntKind) (w : World) (a : Option Addr) (len cap : Nat) (zs : List Int) : Prop :=
  (a = none ∧ len = 0 ∧ cap = 0 ∧ zs = []) ∨
  ∃ x, a = some x ∧ len ≤ cap ∧ cap ≤ maxLen ∧ zs.length = cap ∧ (∀ i, i < zs.length → w.cell? (x.add i) = some (.int k (zs.getD i 0))) ∧ ∀ n ∈ zs, (Lit.int k n).wf = true

theorem ints_of {P : Program} {H : Type} {enc : TypeId × Value → H} {w : World} {k : IntKind} {t e : TypeId} {a : Option Addr} {len cap : Nat} {d : DataW H} {p : List MemPlace}
    (ht : P.underlying t = some (.slice e)) (he : P.underlying e = some (.int k)) (hc : P.cellsOf e = 1) (h : DataW.Trod enc P w 0 (fun _ => true) true t (Value.slice a len cap) d p) : ∃ zs, IsInts k w a len cap zs := by
  obtain ⟨fuel, hf⟩ := h
  rcases open_ints ht he hc hf with ⟨hcs, _⟩ | ⟨x, l, c, zs, hcs, _, hl, hm, hz, _, hcell, hwz⟩
  · simp [Value.cells] at hcs
    obtain ⟨rfl, rfl, rfl⟩ := hcs
    exact ⟨[], .inl ⟨rfl, rfl, rfl, rfl⟩⟩
  · simp [Value.cells] at hcs
    obtain ⟨rfl, rfl, rfl⟩ := hcs
    exact ⟨zs, .inr ⟨_, rfl, hl, hm, by simpa using hz, hcell, hwz⟩⟩

theorem IsInts.small {k : IntKind} {w : World} {a : Option Addr} {len cap : Nat} {zs : List Int} (h : IsInts k w a len cap zs) : len ≤ 9223372036854775807 := by
  rcases h with ⟨_, rfl, _, _⟩ | ⟨x, _, h1, h2, _⟩
  · omega
  · unfold maxLen at h2
    omega

/-- Bytes that came in, as a walk reads them. -/
theorem IsInts.bytes {w : World} {a : Option Addr} {len cap : Nat} {zs : List Int} (h : IsInts .u8 w a len cap zs) :
    ∃ l : List UInt8, l.length = len ∧ len ≤ cap ∧ Rd w a l ∧ (a = none → l = [] ∧ cap = 0) := by
  rcases h with ⟨rfl, rfl, rfl, rfl⟩ | ⟨x, rfl, h1, _, h3, h4, h5⟩
  · exact ⟨[], rfl, Nat.le_refl _, Rd.nil _ _, fun _ => ⟨rfl, rfl⟩⟩
  · refine ⟨(zs.take len).map fun n => UInt8.ofNat n.toNat, by simp; omega, h1, fun h0 => ?_, fun h => by cases h⟩
    have hp : 0 < zs.length := by simp at h0; omega
    obtain ⟨b, off, rfl, hc⟩ := ints_at h4 hp
    refine ⟨b, off, rfl, fun i hi => ?_⟩
    have hi' : i < zs.length := by simp at hi; omega
    rw [hc i hi']
    have hm : zs[i] ∈ zs := List.getElem_mem hi'
    obtain ⟨b1, b2⟩ := bounds_u8 (h5 _ hm)
    have e : (UInt8.ofNat (zs[i]).toNat).toNat = (zs[i]).toNat := by simp [UInt8.toNat_ofNat']; omega
    simp only [List.getElem_map, List.getElem_take, List.getD_eq_getElem?_getD, List.getElem?_eq_getElem hi', Option.getD_some]
    rw [e]
    congr 2
    omega

/-- A slice's beginning, and the numbers that are read from there on. -/
def RdI (k : IntKind) (w : World) (a : Option Addr) (N : List Int) : Prop :=
  0 < N.length → ∃ b off, a = some ⟨b, off, none⟩ ∧ ∀ i (hi : i < N.length), w.cell? ⟨b, off + i, none⟩ = some (.int k N[i])

/-- .. and the texts. -/
def RdS (w : World) (a : Option Addr) (T : List ByteArray) : Prop :=
  0 < T.length → ∃ b off, a = some ⟨b, off, none⟩ ∧ ∀ i (hi : i < T.length), w.cell? ⟨b, off + i, none⟩ = some (.string T[i])

theorem RdI.later {k : IntKind} {w w' : World} {a : Option Addr} {N : List Int} (h : RdI k w a N) (hb : Below w.heap.size w w') : RdI k w' a N := by
  intro h0
  obtain ⟨b, off, e, hc⟩ := h h0
  exact ⟨b, off, e, fun i hi => cell_later hb (hc i hi)⟩

theorem RdS.later {w w' : World} {a : Option Addr} {T : List ByteArray} (h : RdS w a T) (hb : Below w.heap.size w w') : RdS w' a T := by
  intro h0
  obtain ⟨b, off, e, hc⟩ := h h0
  exact ⟨b, off, e, fun i hi => cell_later hb (hc i hi)⟩

theorem IsInts.ints {k : IntKind} {w : World} {a : Option Addr} {len cap : Nat} {zs : List Int} (h : IsInts k w a len cap zs) :
    ∃ N : List Int, N.length = len ∧ len ≤ cap ∧ RdI k w a N ∧ (a = none → N = [] ∧ cap = 0) ∧ ∀ n ∈ N, (Lit.int k n).wf = true := by
  rcases h with ⟨rfl, rfl, rfl, rfl⟩ | ⟨x, rfl, h1, _, h3, h4, h5⟩
  · exact ⟨[], rfl, Nat.le_refl _, fun h => absurd h (by simp), fun _ => ⟨rfl, rfl⟩, fun n hn => by cases hn⟩
  · refine ⟨zs.take len, by simp; omega, h1, fun h0 => ?_, (fun h => by cases h), fun n hn => h5 n (List.mem_of_mem_take hn)⟩
    have hp : 0 < zs.length := by simp at h0; omega
    obtain ⟨b, off, rfl, hc⟩ := ints_at h4 hp
    refine ⟨b, off, rfl, fun i hi => ?_⟩
    have hi' : i < zs.length := by simp at hi; omega
    rw [hc i hi']
    simp [List.getElem?_eq_getElem hi']

/-- A slice of texts that came in. -/
def IsStrs (w : World) (a : Option Addr) (len cap : Nat) (ss : List ByteArray) : Prop :=
  (a = none ∧ len = 0 ∧ cap = 0 ∧ ss = []) ∨
  ∃ x, a = some x ∧ len ≤ cap ∧ cap ≤ maxLen ∧ ss.length = cap ∧ (∀ i, i < ss.length → w.cell? (x.add i) = some (.string (ss.getD i ByteArray.empty))) ∧ ∀ s ∈ ss, s.size ≤ maxLen

theorem strs_of {P : Program} {H : Type} {enc : TypeId × Value → H} {w : World} {t e : TypeId} {a : Option Addr} {len cap : Nat} {d : DataW H} {p : List MemPlace}
    (ht : P.underlying t = some (.slice e)) (he : P.underlying e = some .string) (hc : P.cellsOf e = 1) (h : DataW.Trod enc P w 0 (fun _ => true) true t (Value.slice a len cap) d p) : ∃ ss, IsStrs w a len cap ss := by
  obtain ⟨fuel, hf⟩ := h
  rcases open_strings ht he hc hf with ⟨hcs, _⟩ | ⟨x, l, c, ss, hcs, _, hl, hm, hz, _, hcell, hws⟩
  · simp [Value.cells] at hcs
    obtain ⟨rfl, rfl, rfl⟩ := hcs
    exact ⟨[], .inl ⟨rfl, rfl, rfl, rfl⟩⟩
  · simp [Value.cells] at hcs
    obtain ⟨rfl, rfl, rfl⟩ := hcs
    exact ⟨ss, .inr ⟨_, rfl, hl, hm, by simpa using hz, hcell, hws⟩⟩

theorem IsStrs.small {w : World} {a : Option Addr} {len cap : Nat} {ss : List ByteArray} (h : IsStrs w a len cap ss) : len ≤ 9223372036854775807 := by
  rcases h with ⟨_, rfl, _, _⟩ | ⟨x, _, h1, h2, _⟩
  · omega
  · unfold maxLen at h2
    omega

theorem IsStrs.texts {w : World} {a : Option Addr} {len cap : Nat} {ss : List ByteArray} (h : IsStrs w a len cap ss) :
    ∃ T : List ByteArray, T.length = len ∧ len ≤ cap ∧ RdS w a T ∧ ∀ s ∈ T, s.size ≤ 9223372036854775807 := by
  rcases h with ⟨rfl, rfl, rfl, rfl⟩ | ⟨x, rfl, h1, _, h3, h4, h5⟩
  · exact ⟨[], rfl, Nat.le_refl _, fun h => absurd h (by simp), fun n hn => by cases hn⟩
  · refine ⟨ss.take len, by simp; omega, h1, fun h0 => ?_, fun n hn => by have := h5 n (List.mem_of_mem_take hn); unfold maxLen at this; exact this⟩
    have hp : 0 < ss.length := by simp at h0; omega
    have h00 := h4 0 hp
    have hx : x.spot = none := by
      cases hs : x.spot with
      | none => rfl
      | some q => exfalso; unfold World.cell? at h00; simp [Addr.add, hs] at h00; split at h00 <;> simp_all
    obtain ⟨b, off, sp⟩ := x
    simp only at hx
    subst hx
    refine ⟨b, off, rfl, fun i hi => ?_⟩
    have hi' : i < ss.length := by simp at hi; omega
    have hq := h4 i hi'
    have hplain : (⟨b, off, none⟩ : Addr).add i = ⟨b, off + i, none⟩ := by unfold Addr.add; split <;> simp_all
    rw [hplain] at hq
    rw [hq]
    simp [List.getElem?_eq_getElem hi']

end Go.Proofs.Ytajlkaedkifaoaa
