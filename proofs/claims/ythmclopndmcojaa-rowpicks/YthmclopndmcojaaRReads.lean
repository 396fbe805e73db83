/-
  What raddlelaw04's wakes answers; RowReads' walk.
-/
import Derived.Test.YthmclopndmcojaaRows
import Derived.Test.YthmclopndmcojaaRApi
import Derived.Test.YthmclopndmcojaaKeep
import Derived.Test.YthmclopndmcojaaGrow
import Derived.Test.YthmclopndmcojaaFrame
import Derived.Handy
namespace Go.Proofs.Ythmclopndmcojaa
open Go.RowKit Go.Lib
set_option linter.unusedVariables false

/-- The row of one null. -/
def oneN : List PV := [⟨1, 0, ⟨#[]⟩⟩]

theorem chkN : chkR oneN = 0 := rfl
theorem bytesN : (bytesR oneN).length = 2 := rfl
theorem readN : readR (bytesR oneN) 0 = (oneN, 2, 0) := by
  have := readR_bytes (vs := oneN) (l := bytesR oneN) (r := []) (p := 0) chkN (by simp)
  rw [bytesN] at this
  exact this

set_option maxHeartbeats 400000 in
theorem rwakes_of (RB : RowBytesC) (RR : RowRead) (RC : RowCompare) (w : World) :
    Calls Try.prog 24 #[] w fun e w' => e = .returned (.bool true) ∧ Below w.heap.size w w' := by
  have HV : Hid (RdV (w.alloc (.cells #[.int .i64 1, .int .i64 0, .string ⟨#[]⟩] 50)) (some ⟨w.heap.size, 0, none⟩) oneN) := rdV_at w _ rfl 1 0 ⟨#[]⟩
  go_enter Try.func24, Try.ntmps24
  go_wp2_with fail
  refine (RB (some ⟨w.heap.size, 0, none⟩) 1 1 oneN _ rfl (by omega) HV.out).mono ?_
  rintro e w1 ⟨a, n, cap, rfl, hn, hs, hc, hr, hnl, hb1⟩
  rw [putR_ok chkN] at hn hr hnl ⊢
  simp only at hn hr hnl ⊢
  rw [bytesN] at hn
  subst hn
  replace HV : Hid (RdV w1 (some ⟨w.heap.size, 0, none⟩) oneN) := HV.out.later hb1
  have HB : Hid (Below w.heap.size w w1) := chain (alloc_below _ _) hb1
  clear hb1 hnl
  go_wp2_with fail
  refine (RR a 2 cap 0 _ _ bytesN (by omega) hc hr).mono ?_
  rintro e w2 ⟨a2, n2, cap2, rfl, hn2, _, hc2, _, hr2, hnl2, hb2⟩
  rw [readN] at hn2 ⊢
  simp only [oneN, List.length_cons, List.length_nil] at hn2 ⊢
  subst hn2
  replace HV : Hid (RdV w2 (some ⟨w.heap.size, 0, none⟩) oneN) := HV.out.later hb2
  replace HB : Hid (Below w.heap.size w w2) := chain HB.out hb2
  clear hb2 hnl2 hr2
  go_wp2_with fail
  refine (RC none (some ⟨w.heap.size, 0, none⟩) 0 1 0 1 [] oneN _ rfl rfl (by omega) (by omega) (RdV.nil _ _) HV.out).mono ?_
  rintro e w3 ⟨rfl, hb3⟩
  rw [show cmpR [] oneN = -1 from rfl]
  go_wp2
  go_ret
  exact ⟨rfl, chain HB.out hb3⟩

theorem rwakes_any (R : RowApi) (w : World) :
    Calls Try.prog 24 #[] w fun e w' => e = .returned (.bool true) ∧ Below w.heap.size w w' := rwakes_of R.bytes R.read R.compare w

set_option maxHeartbeats 1000000 in
theorem rreads_some (R : RowApi) (a : Option Addr) (len cap : Nat) (p : Int) (l : List UInt8) (w : World) (hlen : l.length = len) (hcap : len ≤ cap) (hr : Rd w a l) (hnil : a = none → l = [] ∧ cap = 0) (h300 : len ≤ 300) :
    Calls Try.prog 4 #[.slice a len cap, .int .i64 p] w fun e w' => e = .returned (.bool true) ∧ Below w.heap.size w w' := by
  have HL : Hid (l.length = len) := hlen
  have HN : Hid (a = none → l = [] ∧ cap = 0) := hnil
  have HR : Hid (Rd w a l) := hr
  clear hlen hnil hr
  generalize hr : readR l p = r
  have HRD : Hid (readR l p = r) := hr
  clear hr
  obtain ⟨vs, n, e⟩ := r
  go_enter Try.func4, Try.ntmps4
  go_wp2_with fail
  refine (twin_any a len cap l _ HL.out (by omega) HN.out HR.out).mono ?_
  rintro e' w1 ⟨a1, cap1, rfl, hc1, ho1, hn1, hr1, hb1⟩
  clear ho1 hn1
  have HR1 : Hid (Rd w1 a1 l) := hr1
  have HB : Hid (Below w.heap.size w w1) := hb1
  replace HR : Hid (Rd w1 a l) := HR.out.later hb1
  clear hr1 hb1
  go_wp2_with fail
  refine (R.read a1 len cap1 p l _ HL.out (by omega) hc1 HR1.out).mono ?_
  rintro e' w2 ⟨a2, m2, cap2, rfl, hm2, h642, hc2, _, hr2, _, hb⟩
  rw [HRD.out] at hm2 hr2 ⊢
  simp only at hm2 hr2 ⊢
  have HM2 : Hid (vs.length = m2) := hm2
  have HV2 : Hid (RdV w2 a2 vs) := hr2
  replace HR : Hid (Rd w2 a l) := HR.out.later hb
  replace HR1 : Hid (Rd w2 a1 l) := HR1.out.later hb
  replace HB : Hid (Below w.heap.size w w2) := chain HB.out hb
  clear hb hm2 hr2
  go_wp2_with fail
  refine (rReadRow_any a len cap p l _ HL.out (by omega) hcap HR.out).mono ?_
  rintro e' w3 ⟨a3, m3, cap3, rfl, hm3, h643, hc3, _, hr3, _, hb⟩
  rw [HRD.out] at hm3 hr3 ⊢
  simp only at hm3 hr3 ⊢
  have HM3 : Hid (vs.length = m3) := hm3
  have HV3 : Hid (RdV w3 a3 vs) := hr3
  replace HV2 : Hid (RdV w3 a2 vs) := HV2.out.later hb
  replace HR : Hid (Rd w3 a l) := HR.out.later hb
  replace HR1 : Hid (Rd w3 a1 l) := HR1.out.later hb
  replace HB : Hid (Below w.heap.size w w3) := chain HB.out hb
  clear hb hm3 hr3
  go_wp2_with fail
  refine (keepRow_any a2 a3 m2 m3 cap2 cap3 vs vs _ HM2.out HM3.out h642 h643 HV2.out HV3.out).mono ?_
  rintro e' w4 ⟨rfl, hb⟩
  rw [(sameVs_iff vs vs).2 rfl]
  replace HV2 : Hid (RdV w4 a2 vs) := HV2.out.later hb
  replace HR : Hid (Rd w4 a l) := HR.out.later hb
  replace HR1 : Hid (Rd w4 a1 l) := HR1.out.later hb
  replace HB : Hid (Below w.heap.size w w4) := chain HB.out hb
  clear hb HV3 HM3
  go_wp2_with fail
  refine (bytes_any a1 a len len cap1 cap l l _ HL.out HL.out (by omega) (by omega) HR1.out HR.out).mono ?_
  rintro e' w5 ⟨rfl, hb⟩
  rw [show decide (l = l) = true from by simp]
  replace HV2 : Hid (RdV w5 a2 vs) := HV2.out.later hb
  replace HR : Hid (Rd w5 a l) := HR.out.later hb
  replace HB : Hid (Below w.heap.size w w5) := chain HB.out hb
  clear hb HR1
  by_cases he : e = 0
  · subst he
    obtain ⟨q, rfl, hok, ⟨rest, hrest⟩, rfl⟩ := readR_inv HRD.out
    have hll := len_of_drop hrest
    rw [List.length_append, HL.out] at hll
    have hpos : 1 ≤ (bytesR vs).length := by simp [bytesR]
    obtain ⟨b, off, rfl⟩ := HR.out.some_of (by rw [HL.out]; omega)
    have HP : Hid (∀ W : World, Rd W (some ⟨b, off, none⟩) l → Rd W (some ⟨b, off + q, none⟩) (bytesR vs)) := fun W h => h.part hrest
    have HOK : Hid (chkR vs = 0) := hok
    clear hrest hok HN
    generalize hm : (bytesR vs).length = m at *
    have HM : Hid ((bytesR vs).length = m) := hm
    clear hm
    go_wp2_with fail
    refine (R.bytes a2 m2 cap2 vs _ HM2.out h642 HV2.out).mono ?_
    rintro e' w6 ⟨a6, n6, cap6, rfl, hn6, hs6, hc6, hr6, hnl6, hb⟩
    rw [putR_ok HOK.out] at hn6 hr6 hnl6 ⊢
    simp only at hn6 hr6 hnl6 ⊢
    rw [HM.out] at hn6
    subst hn6
    have HR6 : Hid (Rd w6 a6 (bytesR vs)) := hr6
    replace HR : Hid (Rd w6 (some ⟨b, off, none⟩) l) := HR.out.later hb
    replace HB : Hid (Below w.heap.size w w6) := chain HB.out hb
    clear hr6 hnl6 hb HV2
    have t1 : (q : Int) + (m : Int) ≤ (len : Int) := by omega
    have t2 : (0 : Int) ≤ (q : Int) := by omega
    have t3 : (q : Int) ≤ (q : Int) + (m : Int) := by omega
    go_wp2_with fail
    refine (bytes_any a6 (some ⟨b, off + q, none⟩) m m cap6 (cap - q) _ _ _ HM.out HM.out (by omega) (by omega) HR6.out (HP.out _ HR.out)).mono ?_
    rintro e' w7 ⟨rfl, hb⟩
    rw [show decide (bytesR vs = bytesR vs) = true from by simp]
    replace HB : Hid (Below w.heap.size w w7) := chain HB.out hb
    clear hb
    go_wp2_with fail
    refine (rwakes_any R _).mono ?_
    rintro e' w8 ⟨rfl, hb⟩
    go_wp2
    go_ret
    exact ⟨rfl, chain HB.out hb⟩
  · have hne : (e != 0) = true := by simp [he]
    go_wp2_with fail
    refine (rwakes_any R _).mono ?_
    rintro e' w6 ⟨rfl, hb⟩
    go_wp2
    go_ret
    exact ⟨rfl, chain HB.out hb⟩

set_option maxHeartbeats 400000 in
theorem rreads_long (a : Option Addr) (len cap : Nat) (p : Int) (w : World) (h : 300 < len) (hb : len ≤ 9223372036854775807) :
    Calls Try.prog 4 #[.slice a len cap, .int .i64 p] w fun e w' => e = .returned (.bool true) ∧ Below w.heap.size w w' := by
  go_enter Try.func4, Try.ntmps4
  go_wp2
  go_ret
  exact ⟨rfl, Below.refl _ _⟩

theorem rreads_walk (R : RowApi) (a : Option Addr) (len cap : Nat) (zs : List Int) (p : Int) (w : World) (hz : IsInts .u8 w a len cap zs) :
    Calls Try.prog 4 #[.slice a len cap, .int .i64 p] w fun e w' => e = .returned (.bool true) ∧ Below w.heap.size w w' := by
  by_cases h : 300 < len
  · exact rreads_long a len cap p w h hz.small
  · obtain ⟨l, hlen, hcap, hr, hnil⟩ := hz.bytes
    exact rreads_some R a len cap p l w hlen hcap hr hnil (by omega)

end Go.Proofs.Ythmclopndmcojaa
