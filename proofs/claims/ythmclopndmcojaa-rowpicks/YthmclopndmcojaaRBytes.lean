/-
  What the document's own RowBytes writes of a right row.
-/
import Derived.Test.YthmclopndmcojaaRows
import Derived.Test.YthmclopndmcojaaRRef
import Derived.Test.YthmclopndmcojaaVBytes
namespace Go.Proofs.Ythmclopndmcojaa
open Go.RowKit Go.Lib
set_option linter.unusedVariables false

/-- Values' bytes, one behind the other. -/
def bytesVs (vs : List PV) : List UInt8 := vs.flatMap bytesV

/-- A right row's bytes. -/
def bytesR (vs : List PV) : List UInt8 := UInt8.ofNat vs.length :: bytesVs vs

theorem bytesV_small {v : PV} (h : okV v = true) : (bytesV v).length ≤ 26 := by
  obtain ⟨k, i, s⟩ := v
  unfold bytesV
  simp only
  by_cases k2 : k = 2
  · simp [k2]
  by_cases k3 : k = 3
  · simp [k3, intBytes_length]
  by_cases k4 : k = 4
  · subst k4
    simp [okV] at h
    simp [textBytes_length]
    omega
  · simp [k2, k3, k4]

theorem bytesVs_small : ∀ {vs : List PV}, vs.all okV = true → (bytesVs vs).length ≤ 26 * vs.length
  | [], _ => by simp [bytesVs]
  | v :: vs, h => by
    simp only [List.all_cons, Bool.and_eq_true] at h
    have h1 := bytesV_small h.1
    have h2 := bytesVs_small h.2
    simp only [bytesVs, List.flatMap_cons, List.length_append, List.length_cons] at h2 ⊢
    omega

theorem bytesVs_take {vs : List PV} {k : Nat} (h : k < vs.length) : bytesVs (vs.take (k + 1)) = bytesVs (vs.take k) ++ bytesV vs[k] := by
  unfold bytesVs
  rw [List.take_succ_eq_append_getElem h, List.flatMap_append]
  simp

theorem all_take {vs : List PV} (h : vs.all okV = true) (k : Nat) : (vs.take k).all okV = true := by
  rw [List.all_eq_true] at h ⊢
  exact fun x hx => h x (List.mem_of_mem_take hx)

set_option maxHeartbeats 1000000 in
theorem rRowBytes_any (a : Option Addr) (n cap : Nat) (vs : List PV) (w : World) (hn : vs.length = n) (h12 : n ≤ 12) (hok : vs.all okV = true) (hr : RdV w a vs) :
    Calls Try.prog 27 #[.slice a n cap] w fun e w' => NewB w w' e (bytesR vs) := by
  have HN : Hid (vs.length = n) := hn
  have HK : Hid (vs.all okV = true) := hok
  have hx : ((n : Nat) : Int) = ((UInt8.ofNat vs.length).toNat : Int) := by rw [hn, ofNat_small (by omega)]
  have HO : Hid (Own (w.alloc (.cells #[.int .u8 (n : Int)] 5)) w.heap.size (.slice (some ⟨w.heap.size, 0, none⟩) 1 1) [UInt8.ofNat vs.length]) := own_one w w.heap.size (Nat.le_refl _) _ _ hx
  clear hn hok hx
  go_enter Try.func27, Try.ntmps27
  go_wp2
  go_loopw [3, 4] (fun o i wr => ∃ (k m cp : Nat) (aw : Option Addr), k ≤ n ∧ i = .int .i64 k ∧ o = .slice aw m cp ∧ m ≤ cp ∧ m ≤ 1 + 26 * k ∧ Hid ((UInt8.ofNat vs.length :: bytesVs (vs.take k)).length = m) ∧ Hid (Own wr w.heap.size (.slice aw m cp) (UInt8.ofNat vs.length :: bytesVs (vs.take k))) ∧ Hid (Below w.heap.size w wr)) (fun _ i _ => n - (RowKit.intOf i).toNat)
  case atStart => exact ⟨0, 1, 1, _, Nat.zero_le _, rfl, rfl, Nat.le_refl _, by omega, rfl, HO, alloc_below _ _⟩
  case round =>
    obtain ⟨k, m, cp, aw, hk, rfl, rfl, hcp, hm, hL, hO, hB⟩ := hrel
    by_cases hlt : k < n
    · have hkl : k < vs.length := by rw [HN.out]; exact hlt
      obtain ⟨b, off, rfl, hc⟩ := hr (by omega)
      obtain ⟨x0, x1, x2⟩ := hc k hkl
      replace x0 := cell_later hB.out x0
      replace x1 := cell_later hB.out x1
      replace x2 := cell_later hB.out x2
      have HT : Hid (bytesVs (vs.take (k + 1)) = bytesVs (vs.take k) ++ bytesV vs[k]) := bytesVs_take hkl
      have hokx : okV vs[k] = true := by have h := HK.out; rw [List.all_eq_true] at h; exact h _ (List.getElem_mem hkl)
      clear hc hr
      generalize vs[k] = x at *
      clear hkl
      obtain ⟨k0, i0, s0⟩ := x
      simp only at x0 x1 x2
      have hsm := bytesV_small hokx
      go_wp2_with fail
      refine (rVB_any k0 i0 s0 _ hokx).mono ?_
      rintro e w2 ⟨a2, n2, cap2, rfl, hn2, hc2, ho2, hr2, hnl2, hb2⟩
      obtain ⟨a', cap', w', hrun, hc', ho', hr', hn', _, hb'⟩ := run_append_form (t := 29) (ty := 29) (cap := cap2) Try.underlying29 Try.info5 (hO.out.later hb2) (n := m) hL.out hn2 hr2 hnl2 (by omega) (by omega) (Nat.le_trans hB.out.size hb2.size)
      rw [List.cons_append, ← HT.out] at ho' hr' hn'
      have HO' : Hid _ := ho'
      have HB' : Hid (Below w.heap.size w w') := (hB.out.trans (hb2.mono hB.out.size)).trans hb'
      have HL' : Hid ((UInt8.ofNat vs.length :: bytesVs (vs.take (k + 1))).length = m + n2) := by
        have h1 := hL.out
        show _ = _
        rw [HT.out, ← hn2, ← h1]
        simp
        omega
      have hn26 : n2 ≤ 26 := by omega
      clear hO hL hB ho2 hr2 hnl2 hb2 ho' hr' hn' hb' hn2 hsm
      go_wp2_with (at_builtin; refine wpList_append_run rfl (.tmp 15) (.tmp 20) 29 29 rfl _ _ _ _ rfl rfl hrun ?_)
      go_roundw
      case rel => exact ⟨k + 1, m + n2, cap', a', by omega, by go_num, rfl, hc', by omega, HL', HO', HB'⟩
      case measure => simp [RowKit.intOf]; omega
    · obtain rfl : k = n := by omega
      have hT2 : vs.take k = vs := List.take_of_length_le (by rw [HN.out]; omega)
      rw [hT2] at hL hO
      go_wp2
      go_ret
      obtain ⟨a5, cap5, e5, h1, h2, h3⟩ := hO.out.form
      simp only [Value.slice.injEq] at e5
      obtain ⟨rfl, e6, rfl⟩ := e5
      exact ⟨_, _, _, rfl, hL.out, hcp, hO.out, h2, h3, hB.out⟩

end Go.Proofs.Ythmclopndmcojaa
