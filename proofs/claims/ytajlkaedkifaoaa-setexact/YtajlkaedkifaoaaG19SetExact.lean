/-
  Texts of the proof of SetExact, one behind the other.
-/
import Derived.Test.YtajlkaedkifaoaaG11SetExact
import Derived.Test.YtajlkaedkifaoaaG13SetExact
namespace Go.Proofs.Ytajlkaedkifaoaa
open Go.RowKit Go.Lib

theorem at_of_drop {l t : List UInt8} {p : Nat} {x : UInt8} (h : l.drop p = x :: t) : p < l.length ∧ l[p]?.getD 0 = x ∧ l.drop (p + 1) = t := by
  have hp : p < l.length := by
    rcases Nat.lt_or_ge p l.length with h1 | h1
    · exact h1
    · rw [List.drop_of_length_le h1] at h; cases h
  rw [List.drop_eq_getElem_cons hp] at h
  simp only [List.cons.injEq] at h
  exact ⟨hp, by simp [List.getElem?_eq_getElem hp, h.1], h.2⟩

theorem len_of_drop {l t : List UInt8} {p : Nat} (h : l.drop p = t) : l.length - p = t.length := by rw [← h, List.length_drop]

theorem rGet_of {l r : List UInt8} {p : Nat} {x : UInt8} (h : l.drop p = x :: r) : rGet l (p : Int) 1 = ((x.toNat : Int), (p : Int) + 1, 0) := by
  obtain ⟨hp, hx, hr⟩ := at_of_drop h
  unfold rGet
  rw [if_neg (by omega), if_neg (by omega)]
  simp [h, num]

theorem rGetInt_of {l r : List UInt8} {p : Nat} {n : Int} (h : l.drop p = intBytes n ++ r) (h1 : -1152921504606846976 ≤ n) (h2 : n ≤ 1152921504606846976) : rGetInt l (p : Int) = (n, (p : Int) + 9, 0) := by
  have h' := h
  unfold intBytes at h'
  rw [List.cons_append] at h'
  obtain ⟨hp, hx, hr⟩ := at_of_drop h'
  have hl := len_of_drop h
  rw [List.length_append, intBytes_length] at hl
  unfold rGetInt
  rw [if_neg (by omega), if_neg (by omega)]
  have e1 : ((p : Int).toNat) = p := by omega
  have e2 : (l.drop (p + 1)).take 8 = be n.natAbs 8 := by rw [hr, List.take_append_of_le_length (by rw [be_length]; omega), List.take_of_length_le (by rw [be_length]; omega)]
  rw [e1, hx, e2, num_be_of_lt (by rw [pow8]; omega)]
  by_cases hn : n < 0
  · have : rSign (1 : UInt8).toNat n.natAbs = some n := by
      unfold rSign
      rw [if_neg (by rw [show (1 : UInt8).toNat = 1 from rfl]; omega), if_pos (by decide)]
      congr 1
      omega
    rw [if_pos hn, this]
  · have : rSign (0 : UInt8).toNat n.natAbs = some n := by
      unfold rSign
      rw [if_neg (by rw [show (0 : UInt8).toNat = 0 from rfl]; omega), if_neg (by decide)]
      congr 1
      omega
    rw [if_neg hn, this]

theorem rGetText_of {l r t : List UInt8} {p : Nat} (h : l.drop p = textBytes t ++ r) (ht : t.length ≤ 24) : rGetText l (p : Int) = (t, (p : Int) + 1 + t.length, 0) := by
  have h' := h
  unfold textBytes at h'
  rw [List.cons_append] at h'
  obtain ⟨hp, hx, hr⟩ := at_of_drop h'
  have hl := len_of_drop hr
  rw [List.length_append] at hl
  unfold rGetText
  have e1 : ((p : Int).toNat) = p := by omega
  rw [if_neg (by omega), if_neg (by omega), e1, hx, ofNat_small ht, if_neg (by omega), hr]
  simp

/-- What is written is read. -/
theorem readV_bytes {l r : List UInt8} {p : Nat} {v : PV} (hok : okV v = true) (h : l.drop p = bytesV v ++ r) : readV l (p : Int) = (v, (p : Int) + (bytesV v).length, 0) := by
  obtain ⟨k, i, s⟩ := v
  unfold bytesV at h
  rw [List.cons_append] at h
  obtain ⟨hp, hx, hr⟩ := at_of_drop h
  have e1 : ((p : Int).toNat) = p := by omega
  have hread : readV l (p : Int) = sealV (rawV l p) := by unfold readV; rw [if_neg (by omega), if_neg (by omega), e1]
  rw [hread]
  have e2 : ((p + 1 : Nat) : Int) = (p : Int) + 1 := by omega
  simp only at h hx hr
  by_cases k1 : k = 1
  · subst k1
    simp [okV] at hok
    obtain ⟨rfl, hs⟩ := hok
    obtain rfl : s = ⟨#[]⟩ := hs
    unfold rawV
    rw [hx]
    rw [if_pos (by decide), sealV_ok rfl]
    simp [bytesV]
  by_cases k2 : k = 2
  · subst k2
    simp [okV] at hok
    obtain ⟨h1, h2, hs⟩ := hok
    obtain rfl : s = ⟨#[]⟩ := hs
    obtain ⟨n, rfl⟩ : ∃ n : Nat, i = n := ⟨i.toNat, by omega⟩
    simp at hr
    have hg := rGet_of hr
    rw [e2] at hg
    have hn : (UInt8.ofNat n).toNat = n := ofNat_small (by omega)
    rw [hn] at hg
    unfold rawV
    rw [hx, if_neg (by decide), if_pos (by decide), hg, sealV_ok (by simp [okV]; exact ⟨by omega, rfl⟩)]
    simp [bytesV]
    omega
  by_cases k3 : k = 3
  · subst k3
    simp [okV] at hok
    obtain ⟨h1, h2, hs⟩ := hok
    obtain rfl : s = ⟨#[]⟩ := hs
    simp at hr
    have hg := rGetInt_of hr h1 h2
    rw [e2] at hg
    unfold rawV
    rw [hx, if_neg (by decide), if_neg (by decide), if_pos (by decide), hg, sealV_ok (by simp [okV]; exact ⟨h1, h2, rfl⟩)]
    simp [bytesV, intBytes_length]
    omega
  by_cases k4 : k = 4
  · subst k4
    simp [okV] at hok
    obtain ⟨rfl, hs⟩ := hok
    simp only at hr
    rw [if_neg (by decide), if_neg (by decide), if_pos trivial] at hr
    have hg := rGetText_of hr (by rw [← size_eq]; exact hs)
    rw [e2] at hg
    have es : (⟨s.data.toList.toArray⟩ : ByteArray) = s := by cases s; simp
    unfold rawV
    rw [hx, if_neg (by decide), if_neg (by decide), if_neg (by decide), if_pos (by decide), hg]
    simp only
    rw [es, sealV_ok (by simp [okV]; omega)]
    simp [bytesV, textBytes_length]
    omega
  · rw [okV_none ⟨k1, k2, k3, k4⟩] at hok; cases hok

theorem rGet_inv {l : List UInt8} {p : Nat} {n q : Int} (h : rGet l (p : Int) 1 = (n, q, 0)) : ∃ x r, l.drop p = x :: r ∧ n = (x.toNat : Int) ∧ q = (p : Int) + 1 := by
  unfold rGet at h
  split at h
  · simp at h
  · split at h
    · simp at h
    · have hp : p < l.length := by omega
      have hd := drop_at hp
      rw [show ((p : Int).toNat) = p from by omega, hd] at h
      simp [num] at h
      exact ⟨_, _, hd, h.1.symm, h.2.symm⟩

theorem rGetInt_inv {l : List UInt8} {p : Nat} {n q : Int} (h : rGetInt l (p : Int) = (n, q, 0)) : (∃ r, l.drop p = intBytes n ++ r) ∧ -1152921504606846976 ≤ n ∧ n ≤ 1152921504606846976 ∧ q = (p : Int) + 9 := by
  unfold rGetInt at h
  split at h
  · simp at h
  · split at h
    · simp at h
    · have hp : p < l.length := by omega
      have hd := drop_at hp
      rw [show ((p : Int).toNat) = p from by omega] at h
      have ht : ((l.drop (p + 1)).take 8).length = 8 := by simp; omega
      have hb := be_num ((l.drop (p + 1)).take 8)
      rw [ht] at hb
      have hs : l.drop (p + 1) = (l.drop (p + 1)).take 8 ++ (l.drop (p + 1)).drop 8 := (List.take_append_drop _ _).symm
      generalize (l.drop (p + 1)).take 8 = t at *
      generalize (l.drop (p + 1)).drop 8 = r at *
      generalize l[p]?.getD 0 = x at *
      unfold rSign at h
      split at h
      · split at * <;> simp_all
      · rename_i v hv
        split at hv
        · cases hv
        · rename_i hno
          simp only [Option.some.injEq] at hv
          simp only [Prod.mk.injEq, and_true] at h
          obtain ⟨rfl, rfl⟩ := h
          have hx : x.toNat = 0 ∨ x.toNat = 1 := by omega
          rw [hd, hs]
          rcases hx with hx | hx
          · have ex : x = 0 := UInt8.toNat_inj.1 (by rw [hx]; rfl)
            rw [if_neg (by omega)] at hv
            subst hv
            refine ⟨⟨r, ?_⟩, by omega, by omega, rfl⟩
            unfold intBytes
            rw [if_neg (by omega), Int.natAbs_natCast, hb, ex]
            rfl
          · have ex : x = 1 := UInt8.toNat_inj.1 (by rw [hx]; rfl)
            rw [if_pos hx] at hv
            subst hv
            refine ⟨⟨r, ?_⟩, by omega, by omega, rfl⟩
            unfold intBytes
            rw [if_pos (by omega), Int.natAbs_neg, Int.natAbs_natCast, hb, ex]
            rfl

theorem rGetText_inv {l t : List UInt8} {p : Nat} {q : Int} (h : rGetText l (p : Int) = (t, q, 0)) : (∃ r, l.drop p = textBytes t ++ r) ∧ t.length ≤ 24 ∧ q = (p : Int) + 1 + t.length := by
  unfold rGetText at h
  split at h
  · simp at h
  · split at h
    · simp at h
    · have hp : p < l.length := by omega
      have hd := drop_at hp
      rw [show ((p : Int).toNat) = p from by omega] at h
      split at h
      · simp at h
      · rename_i hno
        have hs : l.drop (p + 1) = (l.drop (p + 1)).take (l[p]?.getD 0).toNat ++ (l.drop (p + 1)).drop (l[p]?.getD 0).toNat := (List.take_append_drop _ _).symm
        have ht : ((l.drop (p + 1)).take (l[p]?.getD 0).toNat).length = (l[p]?.getD 0).toNat := by simp; omega
        simp only [Prod.mk.injEq, and_true] at h
        obtain ⟨rfl, rfl⟩ := h
        refine ⟨⟨(l.drop (p + 1)).drop (l[p]?.getD 0).toNat, ?_⟩, by omega, by rw [ht]⟩
        unfold textBytes
        rw [ht, List.cons_append, ← hs, hd]
        simp

/-- What is read is written as it stood. -/
theorem readV_inv {l : List UInt8} {p : Int} {v : PV} {n : Int} (h : readV l p = (v, n, 0)) : ∃ q : Nat, p = q ∧ okV v = true ∧ (∃ r, l.drop q = bytesV v ++ r) ∧ n = (q : Int) + (bytesV v).length := by
  unfold readV at h
  split at h
  · simp at h
  · split at h
    · simp at h
    · obtain ⟨q, rfl⟩ : ∃ q : Nat, p = q := ⟨p.toNat, by omega⟩
      refine ⟨q, rfl, ?_⟩
      rw [show ((q : Int).toNat) = q from by omega] at h
      unfold sealV at h
      split at h
      · simp at h
      · rename_i hno
        have he : (rawV l q).2.2 = 0 := by omega
        have hok : okV (rawV l q).1 = true := by cases hx : okV (rawV l q).1 <;> simp_all
        simp only [Prod.mk.injEq, and_true] at h
        obtain ⟨rfl, rfl⟩ := h
        refine ⟨hok, ?_⟩
        have hp : q < l.length := by omega
        have hd := drop_at hp
        have e2 : ((q + 1 : Nat) : Int) = (q : Int) + 1 := by omega
        unfold rawV at he hok ⊢
        generalize l[q]?.getD 0 = x at *
        simp only at he hok ⊢
        by_cases k1 : x.toNat = 1
        · have ex : x = 1 := UInt8.toNat_inj.1 (by rw [k1]; rfl)
          rw [if_pos k1] at he hok ⊢
          rw [hd, ex]
          exact ⟨⟨l.drop (q + 1), by simp [bytesV]⟩, by simp [bytesV]⟩
        rw [if_neg k1] at he hok ⊢
        by_cases k2 : x.toNat = 2
        · have ex : x = 2 := UInt8.toNat_inj.1 (by rw [k2]; rfl)
          rw [if_pos k2] at he hok ⊢
          simp only at he hok ⊢
          generalize hg : rGet l ((q : Int) + 1) 1 = g at *
          obtain ⟨g1, g2, g3⟩ := g
          simp only at he hok ⊢
          subst he
          rw [← e2] at hg
          obtain ⟨y, r, h1, rfl, rfl⟩ := rGet_inv hg
          rw [hd, h1, ex]
          exact ⟨⟨r, by simp [bytesV]⟩, by simp [bytesV]; omega⟩
        rw [if_neg k2] at he hok ⊢
        by_cases k3 : x.toNat = 3
        · have ex : x = 3 := UInt8.toNat_inj.1 (by rw [k3]; rfl)
          rw [if_pos k3] at he hok ⊢
          simp only at he hok ⊢
          generalize hg : rGetInt l ((q : Int) + 1) = g at *
          obtain ⟨g1, g2, g3⟩ := g
          simp only at he hok ⊢
          subst he
          rw [← e2] at hg
          obtain ⟨⟨r, h1⟩, _, _, rfl⟩ := rGetInt_inv hg
          rw [hd, h1, ex]
          exact ⟨⟨r, by simp [bytesV]⟩, by simp [bytesV, intBytes_length]; omega⟩
        rw [if_neg k3] at he hok ⊢
        by_cases k4 : x.toNat = 4
        · have ex : x = 4 := UInt8.toNat_inj.1 (by rw [k4]; rfl)
          rw [if_pos k4] at he hok ⊢
          simp only at he hok ⊢
          generalize hg : rGetText l ((q : Int) + 1) = g at *
          obtain ⟨g1, g2, g3⟩ := g
          simp only at he hok ⊢
          subst he
          rw [← e2] at hg
          obtain ⟨⟨r, h1⟩, _, rfl⟩ := rGetText_inv hg
          rw [hd, h1, ex]
          exact ⟨⟨r, by simp [bytesV]⟩, by simp [bytesV, textBytes_length]; omega⟩
        rw [if_neg k4] at he
        simp at he

end Go.Proofs.Ytajlkaedkifaoaa
