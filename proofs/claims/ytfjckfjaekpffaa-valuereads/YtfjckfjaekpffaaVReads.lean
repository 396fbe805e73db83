/-
  ValueReads' walk: what the law answers, whatever its bytes and its place.
-/
import Derived.Test.YtfjckfjaekpffaaRows
import Derived.Test.YtfjckfjaekpffaaVLaws
import Derived.Test.YtfjckfjaekpffaaVExact
import Derived.Test.YtfjckfjaekpffaaFrame
namespace Go.Proofs.Ytfjckfjaekpffaa
open Go.RowKit Go.Lib
set_option linter.unusedVariables false

set_option maxHeartbeats 1000000 in
theorem vreads_some (V : ValueApi) (a : Option Addr) (len cap : Nat) (p : Int) (l : List UInt8) (w : World) (hlen : l.length = len) (hcap : len ≤ cap) (hr : Rd w a l) (hnil : a = none → l = [] ∧ cap = 0) (h300 : len ≤ 300) :
    Calls Try.prog 4 #[.slice a len cap, .int .i64 p] w fun e w' => e = .returned (.bool true) ∧ Below w.heap.size w w' := by
  have HL : Hid (l.length = len) := hlen
  have HN : Hid (a = none → l = [] ∧ cap = 0) := hnil
  have HR : Hid (Rd w a l) := hr
  clear hlen hnil hr
  generalize hr : readV l p = r
  have HRD : Hid (readV l p = r) := hr
  clear hr
  obtain ⟨⟨k, i, s⟩, n, e⟩ := r
  go_enter Try.func4, Try.ntmps4
  go_wp2_with fail
  refine (twin_any a len cap l _ HL.out (by omega) HN.out HR.out).mono ?_
  rintro e' w1 ⟨a1, cap1, rfl, hc1, ho1, hn1, hr1, hb1⟩
  clear ho1 hn1
  have HR1 : Hid (Rd w1 a1 l) := hr1
  have HB : Hid (Below w.heap.size w w1) := hb1
  replace HR : Hid (Rd w1 a l) := HR.out.later hb1
  clear hr1 hb1
  go_wp2_with fail
  refine (V.read a1 len cap1 p l _ HL.out (by omega) hc1 HR1.out).mono ?_
  rintro e' w2 ⟨he, hb⟩
  rw [HRD.out] at he
  unfold TellsV at he
  simp only at he
  subst he
  replace HR : Hid (Rd (w2.alloc (.cells #[.int .i64 k, .int .i64 i, .string s] 23)) a l) := HR.out.later (chain hb (alloc_below _ _))
  replace HR1 : Hid (Rd (w2.alloc (.cells #[.int .i64 k, .int .i64 i, .string s] 23)) a1 l) := HR1.out.later (chain hb (alloc_below _ _))
  replace HB : Hid (Below w.heap.size w (w2.alloc (.cells #[.int .i64 k, .int .i64 i, .string s] 23))) := chain HB.out (chain hb (alloc_below _ _))
  have B1 : Box (w2.alloc (.cells #[.int .i64 k, .int .i64 i, .string s] 23)) w2.heap.size k i s := Box.made rfl
  clear hb
  go_wp2_with fail
  refine (rRead_any a len cap p l _ HL.out (by omega) hcap HR.out).mono ?_
  rintro e' w3 ⟨he, hb⟩
  rw [HRD.out] at he
  unfold TellsV at he
  simp only at he
  subst he
  replace HR : Hid (Rd (w3.alloc (.cells #[.int .i64 k, .int .i64 i, .string s] 23)) a l) := HR.out.later (chain hb (alloc_below _ _))
  replace HR1 : Hid (Rd (w3.alloc (.cells #[.int .i64 k, .int .i64 i, .string s] 23)) a1 l) := HR1.out.later (chain hb (alloc_below _ _))
  replace HB : Hid (Below w.heap.size w (w3.alloc (.cells #[.int .i64 k, .int .i64 i, .string s] 23))) := chain HB.out (chain hb (alloc_below _ _))
  have hlt := (B1.later hb).lt
  replace B1 := B1.later (chain hb (alloc_below _ (.cells #[.int .i64 k, .int .i64 i, .string s] 23)))
  have B2 : Box (w3.alloc (.cells #[.int .i64 k, .int .i64 i, .string s] 23)) w3.heap.size k i s := Box.made rfl
  clear hb
  obtain ⟨c0, c1, c2, _⟩ := B1.cells
  obtain ⟨d0, d1, d2, _⟩ := B2.cells
  go_wp2_with fail
  refine (keepValue_any _ _ _ _ _ _ _).mono ?_
  rintro e' w4 ⟨rfl, hb⟩
  rw [show (decide (k = k) && decide (i = i) && (s.toList == s.toList)) = true from by simp]
  replace HR : Hid (Rd w4 a l) := HR.out.later hb
  replace HR1 : Hid (Rd w4 a1 l) := HR1.out.later hb
  replace HB : Hid (Below w.heap.size w w4) := chain HB.out hb
  replace B1 := B1.later hb
  clear c0 c1 c2 d0 d1 d2 hb hlt B2
  go_wp2_with fail
  refine (bytes_any a1 a len len cap1 cap l l _ HL.out HL.out (by omega) (by omega) HR1.out HR.out).mono ?_
  rintro e' w5 ⟨rfl, hb⟩
  rw [show decide (l = l) = true from by simp]
  replace HR : Hid (Rd w5 a l) := HR.out.later hb
  replace HB : Hid (Below w.heap.size w w5) := chain HB.out hb
  replace B1 := B1.later hb
  obtain ⟨c0, c1, c2, _⟩ := B1.cells
  clear hb HR1
  by_cases he : e = 0
  · subst he
    obtain ⟨q, rfl, hok, ⟨rest, hrest⟩, rfl⟩ := readV_inv HRD.out
    have hll := len_of_drop hrest
    rw [List.length_append, HL.out] at hll
    have hpos : 1 ≤ (bytesV ⟨k, i, s⟩).length := by simp [bytesV]
    obtain ⟨b, off, rfl⟩ := HR.out.some_of (by rw [HL.out]; omega)
    have HP : Hid (∀ W : World, Rd W (some ⟨b, off, none⟩) l → Rd W (some ⟨b, off + q, none⟩) (bytesV ⟨k, i, s⟩)) := fun W h => h.part hrest
    have HOK : Hid (okV ⟨k, i, s⟩ = true) := hok
    clear hrest hok HN
    generalize hm : (bytesV ⟨k, i, s⟩).length = m at *
    have HM : Hid ((bytesV ⟨k, i, s⟩).length = m) := hm
    clear hm
    go_wp2_with fail
    refine (V.bytes _ _ _ _).mono ?_
    rintro e' w6 ⟨a6, n6, cap6, rfl, hn6, hs6, hc6, hr6, hnl6, hb⟩
    rw [putV_ok HOK.out] at hn6 hr6 hnl6 ⊢
    simp only at hn6 hr6 hnl6 ⊢
    rw [HM.out] at hn6
    subst hn6
    have HR6 : Hid (Rd w6 a6 (bytesV ⟨k, i, s⟩)) := hr6
    replace HR : Hid (Rd w6 (some ⟨b, off, none⟩) l) := HR.out.later hb
    replace HB : Hid (Below w.heap.size w w6) := chain HB.out hb
    clear hr6 hnl6 hb c0 c1 c2 B1
    have t1 : (q : Int) + (m : Int) ≤ (len : Int) := by omega
    have t2 : (0 : Int) ≤ (q : Int) := by omega
    have t3 : (q : Int) ≤ (q : Int) + (m : Int) := by omega
    go_wp2_with fail
    refine (bytes_any a6 (some ⟨b, off + q, none⟩) m m cap6 (cap - q) _ _ _ HM.out HM.out (by omega) (by omega) HR6.out (HP.out _ HR.out)).mono ?_
    rintro e' w7 ⟨rfl, hb⟩
    rw [show decide (bytesV (PV.mk k i s) = bytesV (PV.mk k i s)) = true from by simp]
    replace HB : Hid (Below w.heap.size w w7) := chain HB.out hb
    clear hb
    go_wp2_with fail
    refine (vwakes_any V _).mono ?_
    rintro e' w8 ⟨rfl, hb⟩
    go_wp2
    go_ret
    exact ⟨rfl, chain HB.out hb⟩
  · have hne : (e != 0) = true := by simp [he]
    go_wp2_with fail
    refine (vwakes_any V _).mono ?_
    rintro e' w6 ⟨rfl, hb⟩
    go_wp2
    go_ret
    exact ⟨rfl, chain HB.out hb⟩

set_option maxHeartbeats 400000 in
theorem vreads_long (a : Option Addr) (len cap : Nat) (p : Int) (w : World) (h : 300 < len) (hb : len ≤ 9223372036854775807) :
    Calls Try.prog 4 #[.slice a len cap, .int .i64 p] w fun e w' => e = .returned (.bool true) ∧ Below w.heap.size w w' := by
  go_enter Try.func4, Try.ntmps4
  go_wp2
  go_ret
  exact ⟨rfl, Below.refl _ _⟩

theorem vreads_walk (V : ValueApi) (a : Option Addr) (len cap : Nat) (zs : List Int) (p : Int) (w : World) (hz : IsInts .u8 w a len cap zs) :
    Calls Try.prog 4 #[.slice a len cap, .int .i64 p] w fun e w' => e = .returned (.bool true) ∧ Below w.heap.size w w' := by
  by_cases h : 300 < len
  · exact vreads_long a len cap p w h hz.small
  · obtain ⟨l, hlen, hcap, hr, hnil⟩ := hz.bytes
    exact vreads_some V a len cap p l w hlen hcap hr hnil (by omega)

end Go.Proofs.Ytfjckfjaekpffaa
