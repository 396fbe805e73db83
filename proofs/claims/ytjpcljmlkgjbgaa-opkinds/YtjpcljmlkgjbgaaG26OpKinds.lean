/-
  Texts of the proof of OpKinds, one behind the other.
-/
import Derived.Test.YtjpcljmlkgjbgaaRows
import Derived.Test.YtjpcljmlkgjbgaaG16OpKinds
import Derived.Test.YtjpcljmlkgjbgaaG20OpKinds
import Derived.Test.YtjpcljmlkgjbgaaG25OpKinds
namespace Go.Proofs.Ytjpcljmlkgjbgaa
open Go.RowKit Go.Lib
set_option linter.unusedVariables false

/-- Is it a type? -/
def typeF (t : Int) : Bool := decide (2 ≤ t ∧ t ≤ 4)

def widthF (v : List Int) : Bool := decide (1 ≤ v.length ∧ v.length ≤ 4)

/-- op.Forms' answer. -/
def formsF (L : List (List Int)) : Int := if L.length < 1 ∨ 3 < L.length then 2 else if L.all widthF = true then (if L.all (fun v => v.all typeF) = true then 0 else 10) else 2

/-- op.Key's. -/
def keyF (s : ByteArray) : Bool := decide (1 ≤ s.size ∧ s.size ≤ 12)

theorem opKey_any (s : ByteArray) (w : World) (h : s.size ≤ 9223372036854775807) :
    Calls Try.prog 39 #[.string s] w fun e w' => e = .returned (.bool (keyF s)) ∧ w' = w := by
  unfold keyF
  obtain ⟨n, hn⟩ : ∃ n, s.size = n := ⟨_, rfl⟩
  rw [hn] at h ⊢
  by_cases h1 : 1 ≤ n
  · by_cases h2 : n ≤ 12
    · rw [decide_eq_true ⟨h1, h2⟩]
      go_enter Try.func39, Try.ntmps39
      go_wp2
      go_ret
      exact ⟨by simp; omega, rfl⟩
    · rw [decide_eq_false (by omega)]
      go_enter Try.func39, Try.ntmps39
      go_wp2
      go_ret
      exact ⟨by simp; omega, rfl⟩
  · rw [decide_eq_false (by omega)]
    have h0 : ¬ (1 : Int) ≤ (n : Int) := by omega
    go_enter Try.func39, Try.ntmps39
    go_wp2
    go_ret
    exact ⟨by first | (simp; done) | (simp; omega), rfl⟩

set_option maxHeartbeats 1000000 in
theorem opType_any (t : Int) (w : World) :
    Calls Try.prog 81 #[.int .i64 t] w fun e w' => e = .returned (.bool (typeF t)) ∧ Below w.heap.size w w' := by
  have C := valueFits 1 0 ⟨#[]⟩ t w
  rw [show fitsV ⟨1, 0, ⟨#[]⟩⟩ t = typeF t from by simp [fitsV, typeF, okV, ByteArray.size]] at C
  go_enter Try.func81, Try.ntmps81
  go_wp2_with fail
  refine C.mono ?_
  rintro e w1 ⟨rfl, hb⟩
  go_wp2
  go_ret
  exact ⟨rfl, hb⟩

set_option maxHeartbeats 400000 in
theorem opForms_len (a : Option Addr) (n cap : Nat) (w : World) (h : n < 1 ∨ 3 < n) (hb : n ≤ 65536) :
    Calls Try.prog 49 #[.slice a n cap] w fun e w' => e = .returned (.int .i64 2) ∧ Below w.heap.size w w' := by
  rcases h with h | h
  · obtain rfl : n = 0 := by omega
    go_enter Try.func49, Try.ntmps49
    go_wp2
    go_ret
    exact ⟨rfl, Below.refl _ _⟩
  · go_enter Try.func49, Try.ntmps49
    go_wp2
    go_ret
    exact ⟨rfl, Below.refl _ _⟩

theorem allP_take {α : Type} {P : α → Bool} {L : List α} {k : Nat} (hk : k < L.length) (h : (L.take k).all P = true) : (L.take (k + 1)).all P = P L[k] := by
  rw [List.take_succ_eq_append_getElem hk, List.all_append, h]
  simp

theorem allP_no {α : Type} {P : α → Bool} {L : List α} {k : Nat} (hk : k < L.length) (h : P L[k] = false) : L.all P = false := by
  rw [List.all_eq_false]
  exact ⟨_, List.getElem_mem hk, by simpa using h⟩

set_option maxRecDepth 100000 in
set_option maxHeartbeats 4000000 in
theorem opForms_few (b off n cap : Nat) (L : List (List Int)) (w : World) (hn : L.length = n) (h1 : 1 ≤ n) (h3 : n ≤ 3) (hv : ∀ v ∈ L, v.length ≤ 65536) (hr : RdII w (some ⟨b, off, none⟩) L) :
    Calls Try.prog 49 #[.slice (some ⟨b, off, none⟩) n cap] w fun e w' => e = .returned (.int .i64 (formsF L)) ∧ Below w.heap.size w w' := by
  have HN : Hid (L.length = n) := hn
  have HR : Hid (RdII w (some ⟨b, off, none⟩) L) := hr
  have H0 : Hid (0 < L.length) := by show _ < _; omega
  have HD : Hid (formsF L = if L.all widthF = true then (if L.all (fun v => v.all typeF) = true then 0 else 10) else 2) := by
    show _ = _
    unfold formsF
    rw [if_neg (by omega)]
  clear hn hr
  go_enter Try.func49, Try.ntmps49
  go_wp2
  go_loopw [19] (fun i wr => ∃ k : Nat, k ≤ n ∧ i = .int .i64 k ∧ Hid ((L.take k).all widthF = true) ∧ Hid (Below w.heap.size w wr)) (fun i _ => n - (RowKit.intOf i).toNat)
  case atStart => exact ⟨0, Nat.zero_le _, rfl, rfl, Below.refl _ _⟩
  case round =>
  obtain ⟨k, hk, rfl, hT, hB⟩ := hrel
  by_cases hlt : k < n
  · have hkl : k < L.length := by rw [HN.out]; exact hlt
    obtain ⟨b', off', e', hc⟩ := (HR.out.later hB.out) H0.out
    simp only [Option.some.injEq, Addr.mk.injEq, and_true] at e'
    obtain ⟨rfl, rfl⟩ := e'
    obtain ⟨u, x0, a2, cap2, rfl, hc2, hr2, hn2⟩ := hc k hkl
    have hvl := hv _ (List.getElem_mem hkl)
    have HS : Hid ((L.take (k + 1)).all widthF = widthF L[k]) := allP_take hkl hT.out
    have HX : Hid (widthF L[k] = false → L.all widthF = false) := fun h => allP_no hkl h
    unfold widthF at HS HX
    have HB1 : Hid (Below w.heap.size w (wr.alloc (.cells #[.slice a2 L[k].length cap2] 51))) := chain hB.out (alloc_below _ _)
    clear hc hr2 hn2 hT hB
    generalize L[k].length = m at *
    clear hkl
    by_cases hm1 : m < 1
    · have HE : Hid (formsF L = 2) := by rw [HD.out, show L.all widthF = false from HX.out (by simp; omega)]; rfl
      obtain rfl : m = 0 := by omega
      clear HS HX
      go_wp2
      go_ret
      exact ⟨by rw [HE.out]; rfl, HB1.out⟩
    · by_cases hm4 : 4 < m
      · have HE : Hid (formsF L = 2) := by rw [HD.out, show L.all widthF = false from HX.out (by simp; omega)]; rfl
        clear HS HX
        go_wp2
        go_ret
        exact ⟨by rw [HE.out]; rfl, HB1.out⟩
      · have HT' : Hid ((L.take (k + 1)).all widthF = true) := by show _ = _; unfold widthF; rw [HS.out]; simp; omega
        clear HS HX
        go_wp2
        go_roundw
        case rel => exact ⟨k + 1, by omega, by go_num, HT', HB1⟩
        case measure => simp [RowKit.intOf]; omega
  have HV : Hid (L.all widthF = true) := by
    have h := hT.out
    rw [List.take_of_length_le (by rw [HN.out]; omega)] at h
    exact h
  have HE : Hid (formsF L = if L.all (fun v => v.all typeF) = true then 0 else 10) := by rw [HD.out, HV.out]; rfl
  obtain rfl : n = k := by omega
  clear hT hlt hk HD
  go_wp2
  go_loopw [36] (fun i wx => ∃ k : Nat, k ≤ n ∧ i = .int .i64 k ∧ Hid ((L.take k).all (fun v => v.all typeF) = true) ∧ Hid (Below w.heap.size w wx)) (fun i _ => n - (RowKit.intOf i).toNat)
  case atStart => exact ⟨0, Nat.zero_le _, rfl, rfl, hB⟩
  case round =>
  rename World => wy
  clear hB
  obtain ⟨k, hk, rfl, hT, hB⟩ := hrel
  by_cases hlt : k < n
  · have hkl : k < L.length := by rw [HN.out]; exact hlt
    obtain ⟨b', off', e', hc⟩ := (HR.out.later hB.out) H0.out
    simp only [Option.some.injEq, Addr.mk.injEq, and_true] at e'
    obtain ⟨rfl, rfl⟩ := e'
    obtain ⟨u, x0, a2, cap2, rfl, hc2, hr2, hn2⟩ := hc k hkl
    have hvl := hv _ (List.getElem_mem hkl)
    have HS : Hid ((L.take (k + 1)).all (fun v => v.all typeF) = L[k].all typeF) := allP_take (P := fun v : List Int => v.all typeF) hkl hT.out
    have HX : Hid (L[k].all typeF = false → L.all (fun v => v.all typeF) = false) := fun h => allP_no (P := fun v : List Int => v.all typeF) hkl h
    clear hc hn2 hT
    generalize L[k] = N at *
    clear hkl
    obtain ⟨m, hm⟩ : ∃ m, N.length = m := ⟨_, rfl⟩
    rw [hm] at x0 hc2 hvl
    have HM : Hid (N.length = m) := hm
    have HR2 : Hid (RdI .i64 (wy.alloc (.cells #[.slice a2 m cap2] 51)) a2 N) := hr2.later (alloc_below _ _)
    have HB1 : Hid (Below w.heap.size w (wy.alloc (.cells #[.slice a2 m cap2] 51))) := chain hB.out (alloc_below _ _)
    clear hm hr2 hB
    go_wp2
    generalize wy.alloc (.cells #[.slice a2 m cap2] 51) = wb at *
    go_loopw [43] (fun i wx => ∃ q : Nat, q ≤ m ∧ i = .int .i64 q ∧ Hid ((N.take q).all typeF = true) ∧ Hid (Below wb.heap.size wb wx)) (fun i _ => m - (RowKit.intOf i).toNat)
    case atStart => exact ⟨0, Nat.zero_le _, rfl, rfl, Below.refl _ _⟩
    case round =>
    rename World => wz
    obtain ⟨q, hq, rfl, hQ, hB2⟩ := hrel
    by_cases hlq : q < m
    · have hql : q < N.length := by rw [HM.out]; exact hlq
      obtain ⟨b3, o3, rfl, hc3⟩ := (HR2.out.later hB2.out) (by omega)
      have y0 := hc3 q hql
      have HS3 : Hid ((N.take (q + 1)).all typeF = typeF N[q]) := allP_take hql hQ.out
      have HX3 : Hid (typeF N[q] = false → N.all typeF = false) := fun h => allP_no hql h
      clear hc3
      generalize N[q] = t at *
      clear hql
      have C := opType_any t wz
      generalize typeF t = c at *
      cases c with
      | true =>
        go_wp2_with fail
        refine C.mono ?_
        rintro e w5 ⟨rfl, hb5⟩
        have HB5 : Hid (Below wb.heap.size wb w5) := chain hB2.out hb5
        clear hb5 C
        go_wp2
        go_roundw
        case rel => exact ⟨q + 1, by omega, by go_num, HS3, HB5⟩
        case measure => simp [RowKit.intOf]; omega
      | false =>
        have HE' : Hid (formsF L = 10) := by rw [HE.out, HX.out (HX3.out rfl)]; rfl
        go_wp2_with fail
        refine C.mono ?_
        rintro e w5 ⟨rfl, hb5⟩
        have HB5 : Hid (Below w.heap.size w w5) := chain HB1.out (chain hB2.out hb5)
        clear hb5 C
        go_wp2
        go_ret
        exact ⟨by rw [HE'.out]; rfl, HB5.out⟩
    have HQ : Hid (N.all typeF = true) := by
      have h := hQ.out
      rw [List.take_of_length_le (by rw [HM.out]; omega)] at h
      exact h
    have HT' : Hid ((L.take (k + 1)).all (fun v => v.all typeF) = true) := by rw [HS.out]; exact HQ
    have HB3 : Hid (Below w.heap.size w wz) := chain HB1.out hB2.out
    go_wp2
    go_roundw
    case rel => exact ⟨k + 1, by omega, by go_num, HT', HB3⟩
    case measure => simp [RowKit.intOf]; omega
  have HC : Hid (formsF L = 0) := by
    have h := hT.out
    rw [List.take_of_length_le (by rw [HN.out]; omega)] at h
    rw [HE.out, h]
    rfl
  go_wp2
  go_ret
  exact ⟨by rw [HC.out]; rfl, hB.out⟩

theorem opForms_any (a : Option Addr) (n cap : Nat) (L : List (List Int)) (w : World) (hn : L.length = n) (hl : n ≤ 65536) (hv : ∀ v ∈ L, v.length ≤ 65536) (hr : RdII w a L) :
    Calls Try.prog 49 #[.slice a n cap] w fun e w' => e = .returned (.int .i64 (formsF L)) ∧ Below w.heap.size w w' := by
  by_cases h : n < 1 ∨ 3 < n
  · have e : formsF L = 2 := by unfold formsF; rw [if_pos (by omega)]
    rw [e]
    exact opForms_len a n cap w h hl
  · obtain ⟨b, off, rfl, _⟩ := hr (by omega)
    exact opForms_few b off n cap L w hn (by omega) (by omega) hv hr

end Go.Proofs.Ytjpcljmlkgjbgaa
