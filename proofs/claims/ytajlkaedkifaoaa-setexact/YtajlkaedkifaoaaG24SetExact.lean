/-
  Texts of the proof of SetExact, one behind the other.
-/
import Derived.Test.YtajlkaedkifaoaaRows
import Derived.Test.YtajlkaedkifaoaaG22SetExact
import Derived.Test.YtajlkaedkifaoaaG23SetExact
import Derived.Test.YtajlkaedkifaoaaG21SetExact
namespace Go.Proofs.Ytajlkaedkifaoaa
open Go.RowKit Go.Lib
set_option linter.unusedVariables false

/-- A value's box and a number stay. -/
theorem keepBox {W w w' : World} {b c p : Nat} {k0 i0 k1 : Int} {s0 : ByteArray}
    (hb : Below w.heap.size w w')
    (h : w.cell? ⟨b, 0, none⟩ = some (.int .i64 k0) ∧ w.cell? ⟨b, 1, none⟩ = some (.int .i64 i0) ∧ w.cell? ⟨b, 2, none⟩ = some (.string s0) ∧ w.cell? ⟨c, p, none⟩ = some (.int .i64 k1) ∧ Hid (Below W.heap.size W w)) :
    w'.cell? ⟨b, 0, none⟩ = some (.int .i64 k0) ∧ w'.cell? ⟨b, 1, none⟩ = some (.int .i64 i0) ∧ w'.cell? ⟨b, 2, none⟩ = some (.string s0) ∧ w'.cell? ⟨c, p, none⟩ = some (.int .i64 k1) ∧ Hid (Below W.heap.size W w') := by
  obtain ⟨h0, h1, h2, h3, h9⟩ := h
  exact ⟨cell_later hb h0, cell_later hb h1, cell_later hb h2, cell_later hb h3, chain h9.out hb⟩

theorem set_mid {p q : List PV} {k m : Nat} {v : PV} (hp : p.length = k) (hk : k < m) : (p ++ List.replicate (m - k) noV).set k v = (p ++ [v]) ++ List.replicate (m - (k + 1)) noV := by
  subst hp
  rw [List.set_append_right _ _ (Nat.le_refl _), Nat.sub_self, show m - p.length = (m - (p.length + 1)) + 1 from by omega, List.replicate_succ, List.set_cons_zero]
  simp

theorem Row.own {w : World} {g B n : Nat} {l : List UInt8} (h : Row w g l) (hB : B ≤ g) (hn : l.length = n) (hm : n ≤ 1048576) : Own w B (.slice (some ⟨g, 0, none⟩) n n) l := by
  subst hn
  refine ⟨by simp [byteCells_length], .inr ⟨g, l.length, (byteCells l).toArray, rfl, hB, h, Nat.le_refl _, by unfold maxLen; omega, by simp [byteCells_length], ?_⟩⟩
  rw [List.take_of_length_le (by simp [byteCells_length])]

theorem rowCheck_of {c : Int} (a : Option Addr) (n cap : Nat) (vs : List PV) (w : World) (hn : vs.length = n) (h : n ≤ 65536) (hr : RdV w a vs) (hc : chkR vs = c) :
    Calls Try.prog 49 #[.slice a n cap] w fun e w' => e = .returned (.int .i64 c) ∧ Below w.heap.size w w' := by
  subst hc
  exact rowCheck a n cap vs w hn h hr

/-- Within the bytes what can't be read is told by one number. -/
theorem readV_bad {l : List UInt8} {q : Int} (h0 : 0 ≤ q) (h1 : q ≤ l.length) (h : (readV l q).2.2 ≠ 0) : readV l q = (noV, 0, 3) := by
  unfold readV at h ⊢
  rw [if_neg (by omega)] at h ⊢
  by_cases h2 : q = (l.length : Int)
  · rw [if_pos h2]
  · rw [if_neg h2] at h ⊢
    unfold sealV at h ⊢
    by_cases h3 : (rawV l q.toNat).2.2 ≠ 0 ∨ okV (rawV l q.toNat).1 = false
    · rw [if_pos h3]
    · rw [if_neg h3] at h
      exact absurd rfl h

/-- .. and what is read leaves the place within them. -/
theorem readV_next {l : List UInt8} {q n : Int} {v : PV} (h : readV l q = (v, n, 0)) : 0 ≤ n ∧ n ≤ l.length := by
  obtain ⟨p, rfl, _, ⟨r, hd⟩, rfl⟩ := readV_inv h
  have := congrArg List.length hd
  simp only [List.length_drop, List.length_append] at this
  have hp : p ≤ l.length ∨ l.length < p := by omega
  have hb : 0 < (bytesV v).length := by simp [bytesV]
  omega

end Go.Proofs.Ytajlkaedkifaoaa
