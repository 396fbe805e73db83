/-
  PredNulls' walk: what the law answers, whatever its types, place and value.
-/
import Derived.Test.YtmolklaammfbmaaRows
import Derived.Test.YtmolklaammfbmaaPNullsM
import Derived.Test.YtmolklaammfbmaaRFrame
namespace Go.Proofs.Ytmolklaammfbmaa
open Go.RowKit Go.Lib
set_option linter.unusedVariables false

theorem keepP15 {W w w' : World} {b0 o0 b1 o1 b2 o2 b3 o3 b4 o4 b5 o5 b6 o6 b7 o7 b8 o8 b9 o9 b10 o10 b11 o11 b12 o12 b13 o13 b14 o14 : Nat} {x0 x1 x2 x3 x4 x5 x6 x7 x8 x9 x10 x11 x12 x13 x14 : Value} (hb : Below w.heap.size w w') (h : w.cell? ⟨b0, o0, none⟩ = some x0 ∧ w.cell? ⟨b1, o1, none⟩ = some x1 ∧ w.cell? ⟨b2, o2, none⟩ = some x2 ∧ w.cell? ⟨b3, o3, none⟩ = some x3 ∧ w.cell? ⟨b4, o4, none⟩ = some x4 ∧ w.cell? ⟨b5, o5, none⟩ = some x5 ∧ w.cell? ⟨b6, o6, none⟩ = some x6 ∧ w.cell? ⟨b7, o7, none⟩ = some x7 ∧ w.cell? ⟨b8, o8, none⟩ = some x8 ∧ w.cell? ⟨b9, o9, none⟩ = some x9 ∧ w.cell? ⟨b10, o10, none⟩ = some x10 ∧ w.cell? ⟨b11, o11, none⟩ = some x11 ∧ w.cell? ⟨b12, o12, none⟩ = some x12 ∧ w.cell? ⟨b13, o13, none⟩ = some x13 ∧ w.cell? ⟨b14, o14, none⟩ = some x14 ∧ Hid (Below W.heap.size W w)) :
    w'.cell? ⟨b0, o0, none⟩ = some x0 ∧ w'.cell? ⟨b1, o1, none⟩ = some x1 ∧ w'.cell? ⟨b2, o2, none⟩ = some x2 ∧ w'.cell? ⟨b3, o3, none⟩ = some x3 ∧ w'.cell? ⟨b4, o4, none⟩ = some x4 ∧ w'.cell? ⟨b5, o5, none⟩ = some x5 ∧ w'.cell? ⟨b6, o6, none⟩ = some x6 ∧ w'.cell? ⟨b7, o7, none⟩ = some x7 ∧ w'.cell? ⟨b8, o8, none⟩ = some x8 ∧ w'.cell? ⟨b9, o9, none⟩ = some x9 ∧ w'.cell? ⟨b10, o10, none⟩ = some x10 ∧ w'.cell? ⟨b11, o11, none⟩ = some x11 ∧ w'.cell? ⟨b12, o12, none⟩ = some x12 ∧ w'.cell? ⟨b13, o13, none⟩ = some x13 ∧ w'.cell? ⟨b14, o14, none⟩ = some x14 ∧ Hid (Below W.heap.size W w') :=
  ⟨cell_later hb h.1, cell_later hb h.2.1, cell_later hb h.2.2.1, cell_later hb h.2.2.2.1, cell_later hb h.2.2.2.2.1, cell_later hb h.2.2.2.2.2.1, cell_later hb h.2.2.2.2.2.2.1, cell_later hb h.2.2.2.2.2.2.2.1, cell_later hb h.2.2.2.2.2.2.2.2.1, cell_later hb h.2.2.2.2.2.2.2.2.2.1, cell_later hb h.2.2.2.2.2.2.2.2.2.2.1, cell_later hb h.2.2.2.2.2.2.2.2.2.2.2.1, cell_later hb h.2.2.2.2.2.2.2.2.2.2.2.2.1, cell_later hb h.2.2.2.2.2.2.2.2.2.2.2.2.2.1, cell_later hb h.2.2.2.2.2.2.2.2.2.2.2.2.2.2.1, chain h.2.2.2.2.2.2.2.2.2.2.2.2.2.2.2.out hb⟩

set_option maxHeartbeats 8000000 in
set_option maxRecDepth 100000 in
theorem pnulls_none (a : Option Addr) (n cap : Nat) (zs : List Int) (x vk vi : Int) (vs : ByteArray) (w : World) (hz : IsInts .i64 w a n cap zs) (h0 : n = 0) :
    Calls Try.prog 5 #[.slice a n cap, .int .i64 x, .agg #[.int .i64 vk, .int .i64 vi, .string vs]] w fun e w' => e = .returned (.bool true) ∧ Below w.heap.size w w' := by
  obtain ⟨ts, hn0, hnc, hrI, hnI, _⟩ := hz.ints
  have hns := hz.small
  have HN : Hid (ts.length = n) := hn0
  have HI : Hid (RdI .i64 w a ts) := hrI
  clear hn0 hrI hnI hz
  have BX := alloc_below w (.cells #[.int .i64 vk, .int .i64 vi, .string vs] 23)
  subst h0
  go_enter Try.func5, Try.ntmps5
  go_wp2
  go_ret
  exact ⟨rfl, BX⟩

set_option maxHeartbeats 8000000 in
set_option maxRecDepth 100000 in
theorem pnulls_many (a : Option Addr) (n cap : Nat) (zs : List Int) (x vk vi : Int) (vs : ByteArray) (w : World) (hz : IsInts .i64 w a n cap zs) (h0 : 12 < n) :
    Calls Try.prog 5 #[.slice a n cap, .int .i64 x, .agg #[.int .i64 vk, .int .i64 vi, .string vs]] w fun e w' => e = .returned (.bool true) ∧ Below w.heap.size w w' := by
  obtain ⟨ts, hn0, hnc, hrI, hnI, _⟩ := hz.ints
  have hns := hz.small
  have HN : Hid (ts.length = n) := hn0
  have HI : Hid (RdI .i64 w a ts) := hrI
  clear hn0 hrI hnI hz
  have BX := alloc_below w (.cells #[.int .i64 vk, .int .i64 vi, .string vs] 23)
  have hn1 : ((n : Int) == 0) = false := by simp; omega
  have hn2 : (n = 0) = False := eq_false (by omega)
  go_enter Try.func5, Try.ntmps5
  go_wp2
  go_ret
  exact ⟨rfl, BX⟩

set_option maxHeartbeats 8000000 in
set_option maxRecDepth 100000 in
theorem pnulls_long (a : Option Addr) (n cap : Nat) (zs : List Int) (x vk vi : Int) (vs : ByteArray) (w : World) (hz : IsInts .i64 w a n cap zs) (h0 : 0 < n) (h12 : n ≤ 12) (hl : longT [vs] = true) :
    Calls Try.prog 5 #[.slice a n cap, .int .i64 x, .agg #[.int .i64 vk, .int .i64 vi, .string vs]] w fun e w' => e = .returned (.bool true) ∧ Below w.heap.size w w' := by
  obtain ⟨ts, hn0, hnc, hrI, hnI, _⟩ := hz.ints
  have hns := hz.small
  have HN : Hid (ts.length = n) := hn0
  have HI : Hid (RdI .i64 w a ts) := hrI
  clear hn0 hrI hnI hz
  have BX := alloc_below w (.cells #[.int .i64 vk, .int .i64 vi, .string vs] 23)
  have HL : Hid (longT [vs] = true) := hl
  clear hl
  have hn1 : ((n : Int) == 0) = false := by simp; omega
  have hn2 : (n = 0) = False := eq_false (by omega)
  go_enter Try.func5, Try.ntmps5
  go_wp2_with fail
  refine (long_any (w.heap.size + 1) 1 1 [vs] _ rfl (by omega) (fun i hi => ?_)).mono ?_
  · obtain rfl : i = 0 := by simpa using hi
    go_simp
  rintro e w1 ⟨rfl, rfl⟩
  have BV : BoxVl (w.alloc (.cells #[.int .i64 vk, .int .i64 vi, .string vs] 23)) w.heap.size vk vi vs := BoxVl.at_ rfl
  replace BV := BV.later (alloc_below _ (.cells #[.int .i64 vk, .int .i64 vi, .string vs] 23))
  replace BX : Hid _ := chain BX (alloc_below _ (.cells #[.int .i64 vk, .int .i64 vi, .string vs] 23))
  generalize hW1 : ((w.alloc (.cells #[.int .i64 vk, .int .i64 vi, .string vs] 23)).alloc (.cells #[.int .i64 vk, .int .i64 vi, .string vs] 23)) = w1 at *
  clear hW1
  rw [HL.out]
  go_wp2
  go_ret
  exact ⟨rfl, BX.out⟩

set_option maxHeartbeats 8000000 in
set_option maxRecDepth 100000 in
theorem pnulls_bad (a : Option Addr) (n cap : Nat) (zs : List Int) (x vk vi : Int) (vs : ByteArray) (w : World) (hz : IsInts .i64 w a n cap zs) (h0 : 0 < n) (h12 : n ≤ 12) (hl : longT [vs] = false) (hq : okV ⟨vk, vi, vs⟩ = false) :
    Calls Try.prog 5 #[.slice a n cap, .int .i64 x, .agg #[.int .i64 vk, .int .i64 vi, .string vs]] w fun e w' => e = .returned (.bool true) ∧ Below w.heap.size w w' := by
  obtain ⟨ts, hn0, hnc, hrI, hnI, _⟩ := hz.ints
  have hns := hz.small
  have HN : Hid (ts.length = n) := hn0
  have HI : Hid (RdI .i64 w a ts) := hrI
  clear hn0 hrI hnI hz
  have BX := alloc_below w (.cells #[.int .i64 vk, .int .i64 vi, .string vs] 23)
  have HL : Hid (longT [vs] = false) := hl
  have HQ : Hid (okV ⟨vk, vi, vs⟩ = false) := hq
  clear hl hq
  have hn1 : ((n : Int) == 0) = false := by simp; omega
  have hn2 : (n = 0) = False := eq_false (by omega)
  go_enter Try.func5, Try.ntmps5
  go_wp2_with fail
  refine (long_any (w.heap.size + 1) 1 1 [vs] _ rfl (by omega) (fun i hi => ?_)).mono ?_
  · obtain rfl : i = 0 := by simpa using hi
    go_simp
  rintro e w1 ⟨rfl, rfl⟩
  have BV : BoxVl (w.alloc (.cells #[.int .i64 vk, .int .i64 vi, .string vs] 23)) w.heap.size vk vi vs := BoxVl.at_ rfl
  replace BV := BV.later (alloc_below _ (.cells #[.int .i64 vk, .int .i64 vi, .string vs] 23))
  replace BX : Hid _ := chain BX (alloc_below _ (.cells #[.int .i64 vk, .int .i64 vi, .string vs] 23))
  generalize hW1 : ((w.alloc (.cells #[.int .i64 vk, .int .i64 vi, .string vs] 23)).alloc (.cells #[.int .i64 vk, .int .i64 vi, .string vs] 23)) = w1 at *
  clear hW1
  rw [HL.out]
  obtain ⟨c0, c1, c2⟩ := BV.cells
  have BV' : Hid (BoxVl w1 w.heap.size vk vi vs) := BV
  clear BV
  go_wp2_with fail
  refine (rValue_of vk vi vs _ HQ.out).mono ?_
  rintro e w2 ⟨rfl, hb⟩
  have HB : Hid (Below w.heap.size w w2) := chain BX.out hb
  replace BV' : Hid (BoxVl w2 w.heap.size vk vi vs) := BV'.out.later hb
  clear hb BX c0 c1 c2
  go_wp2
  go_ret
  exact ⟨rfl, HB.out⟩

set_option maxHeartbeats 8000000 in
set_option maxRecDepth 100000 in
theorem pnulls_other (a : Option Addr) (n cap : Nat) (zs : List Int) (x vk vi : Int) (vs : ByteArray) (w : World) (hz : IsInts .i64 w a n cap zs) (h0 : 0 < n) (h12 : n ≤ 12) (hl : longT [vs] = false) (hq : okV ⟨vk, vi, vs⟩ = true) (hk : vk ≠ 1) :
    Calls Try.prog 5 #[.slice a n cap, .int .i64 x, .agg #[.int .i64 vk, .int .i64 vi, .string vs]] w fun e w' => e = .returned (.bool true) ∧ Below w.heap.size w w' := by
  obtain ⟨ts, hn0, hnc, hrI, hnI, _⟩ := hz.ints
  have hns := hz.small
  have HN : Hid (ts.length = n) := hn0
  have HI : Hid (RdI .i64 w a ts) := hrI
  clear hn0 hrI hnI hz
  have BX := alloc_below w (.cells #[.int .i64 vk, .int .i64 vi, .string vs] 23)
  have ek1 : (vk == 1) = false := by simpa using hk
  have ek2 : (vk != 1) = true := by simpa using hk
  have ek3 : (vk = 1) = False := eq_false hk
  have HL : Hid (longT [vs] = false) := hl
  have HQ : Hid (okV ⟨vk, vi, vs⟩ = true) := hq
  clear hl hq
  obtain ⟨i, hi, ei1, ei2, ei3⟩ := modAt x n h0 (by omega)
  have hil : i < ts.length := by rw [HN.out]; exact hi
  obtain ⟨b, off, rfl, hc⟩ := HI.out (by omega)
  have y0 := hc i hil
  have HF1 : Hid (2 ≤ ts[i] ∧ ts[i] ≤ 4 → chkP ⟨1, i, 0, ⟨1, 0, ⟨#[]⟩⟩⟩ ts = 0) := fun h => null_fits hil 1 0 rfl h
  have HF2 : Hid (2 ≤ ts[i] ∧ ts[i] ≤ 4 → chkP ⟨2, i, 0, ⟨1, 0, ⟨#[]⟩⟩⟩ ts = 0) := fun h => null_fits hil 2 0 rfl h
  generalize ts[i] = t at *
  clear hc hil
  have wn : IntKind.u64.wrap (n : Int) = (n : Int) := by rw [IntKind.wrap_u64]; omega
  have hm1 : (n : Int) ≠ 0 := by omega
  have hm2 : ((n : Int) = 0) = False := eq_false hm1
  have i0 : (0 : Int) ≤ (i : Int) := by omega
  have i1 : (i : Int) < (n : Int) := by omega
  have n4 : n ≤ 65536 := by omega
  have HH1 : Hid (holdsP ⟨1, i, 0, ⟨1, 0, ⟨#[]⟩⟩⟩ (List.replicate n nullV) = true) := nulls_1 hi 0
  have HH2 : Hid (holdsP ⟨2, i, 0, ⟨1, 0, ⟨#[]⟩⟩⟩ (List.replicate n nullV) = false) := nulls_2 hi 0
  have HH3 : Hid (holdsP ⟨2, i, 0, ⟨vk, vi, vs⟩⟩ (List.replicate n nullV) = true) := (nulls_v hi 0 HQ.out).trans (by simp [hk])
  have HG1 : Hid (holdsP ⟨1, i, 0, ⟨1, 0, ⟨#[]⟩⟩⟩ ((List.replicate n nullV).set i ⟨vk, vi, vs⟩) = false) := (one_1 hi 0 HQ.out).trans ek1
  have HG2 : Hid (holdsP ⟨2, i, 0, ⟨1, 0, ⟨#[]⟩⟩⟩ ((List.replicate n nullV).set i ⟨vk, vi, vs⟩) = false) := one_2 hi 0 HQ.out
  have HG5 : Hid (holdsP ⟨5, i, 0, ⟨0, 0, ⟨#[]⟩⟩⟩ ((List.replicate n nullV).set i ⟨vk, vi, vs⟩) = false) := (one_5 hi 0).trans ek1
  have hn1 : ((n : Int) == 0) = false := by simp; omega
  have hn2 : (n = 0) = False := eq_false (by omega)
  go_enter Try.func5, Try.ntmps5
  go_wp2_with fail
  refine (long_any (w.heap.size + 1) 1 1 [vs] _ rfl (by omega) (fun i hi => ?_)).mono ?_
  · obtain rfl : i = 0 := by simpa using hi
    go_simp
  rintro e w1 ⟨rfl, rfl⟩
  have BV : BoxVl (w.alloc (.cells #[.int .i64 vk, .int .i64 vi, .string vs] 23)) w.heap.size vk vi vs := BoxVl.at_ rfl
  replace BV := BV.later (alloc_below _ (.cells #[.int .i64 vk, .int .i64 vi, .string vs] 23))
  replace BX : Hid _ := chain BX (alloc_below _ (.cells #[.int .i64 vk, .int .i64 vi, .string vs] 23))
  generalize hW1 : ((w.alloc (.cells #[.int .i64 vk, .int .i64 vi, .string vs] 23)).alloc (.cells #[.int .i64 vk, .int .i64 vi, .string vs] 23)) = w1 at *
  clear hW1
  rw [HL.out]
  obtain ⟨c0, c1, c2⟩ := BV.cells
  have BV' : Hid (BoxVl w1 w.heap.size vk vi vs) := BV
  clear BV
  go_wp2_with fail
  refine (rValue_of vk vi vs _ HQ.out).mono ?_
  rintro e w2 ⟨rfl, hb⟩
  have HB : Hid (Below w.heap.size w w2) := chain BX.out hb
  replace BV' : Hid (BoxVl w2 w.heap.size vk vi vs) := BV'.out.later hb
  clear hb BX c0 c1 c2
  obtain ⟨w3, hmake, hO3, hB3⟩ := run_make_vals w2 n n4
  have HO3 : Hid (OwnV w3 w2.heap.size (.slice (some ⟨w2.heap.size, 0, none⟩) n n) (List.replicate 0 nullV ++ List.replicate (n - 0) noV)) := hO3
  have HB3 : Hid (Below w2.heap.size w2 w3) := hB3
  clear hO3 hB3
  go_wp2
  go_loopw [8] (fun q wr => ∃ k : Nat, k ≤ n ∧ q = .int .i64 k ∧ Hid (OwnV wr w2.heap.size (.slice (some ⟨w2.heap.size, 0, none⟩) n n) (List.replicate k nullV ++ List.replicate (n - k) noV)) ∧ Hid (Below w2.heap.size w2 wr)) (fun q _ => n - (RowKit.intOf q).toNat)
  case atStart => exact ⟨0, Nat.zero_le _, rfl, HO3, HB3⟩
  case round =>
    clear hmake HO3 HB3
    obtain ⟨k, hk, rfl, hO, hB⟩ := hrel
    by_cases hlt : k < n
    · have hLn : (List.replicate k nullV ++ List.replicate (n - k) noV).length = n := by simp; omega
      obtain ⟨d0, d1, d2, f0, f1, f2⟩ := hO.out.at_ hLn hlt
      obtain ⟨hO', hB'⟩ := hO.out.put hLn k ⟨1, 0, ⟨#[]⟩⟩
      rw [show (⟨1, 0, ⟨#[]⟩⟩ : PV) = nullV from rfl, set_nulls hlt] at hO'
      simp only at hO' hB'
      generalize (List.replicate k nullV ++ List.replicate (n - k) noV)[k] = y at *
      clear hLn
      have HO' : Hid _ := hO'
      have HB' : Hid _ := hB'
      clear hO hO' hB'
      have k0 : (0 : Int) ≤ (k : Int) := by omega
      have k1 : (k : Int) < (n : Int) := by omega
      go_wp2
      go_roundw
      case rel => exact ⟨k + 1, by omega, by go_num, HO', hB.out.trans HB'.out⟩
      case measure => simp [RowKit.intOf]; omega
    · obtain rfl : k = n := by omega
      have hO4 := hO.out
      rw [Nat.sub_self, List.replicate_zero, List.append_nil] at hO4
      have HO : Hid (OwnV wr w2.heap.size (.slice (some ⟨w2.heap.size, 0, none⟩) k k) (List.replicate k nullV)) := hO4
      have BW : Hid (BoxVl wr w.heap.size vk vi vs) := BV'.out.later hB.out
      replace HB : Hid (Below w.heap.size w wr) := chain HB.out hB.out
      have hlt2 : w.heap.size < w2.heap.size := BV'.out.lt
      have HWR : Hid (w2.heap.size < wr.heap.size) := (World.ownsRow.lt hO4 _ rfl).2
      clear hO hO4 hB BV' hlt
      have B1 : BoxVl (wr.alloc (.cells #[.int .i64 1, .int .i64 0, .string ⟨#[]⟩] 23)) wr.heap.size 1 0 ⟨#[]⟩ := BoxVl.at_ rfl
      obtain ⟨d0, d1, d2⟩ := B1.cells
      have HA : Hid (Below wr.heap.size wr (wr.alloc (.cells #[.int .i64 1, .int .i64 0, .string ⟨#[]⟩] 23))) := alloc_below _ _
      have q0 := fun o => cell_later (alloc_below (wr.alloc (.cells #[.int .i64 1, .int .i64 0, .string ⟨#[]⟩] 23)) o) d0
      have q1 := fun o => cell_later (alloc_below (wr.alloc (.cells #[.int .i64 1, .int .i64 0, .string ⟨#[]⟩] 23)) o) d1
      have q2 := fun o => cell_later (alloc_below (wr.alloc (.cells #[.int .i64 1, .int .i64 0, .string ⟨#[]⟩] 23)) o) d2
      have p0 := fun o o' => cell_later (alloc_below ((wr.alloc (.cells #[.int .i64 1, .int .i64 0, .string ⟨#[]⟩] 23)).alloc o) o') (q0 o)
      have p1 := fun o o' => cell_later (alloc_below ((wr.alloc (.cells #[.int .i64 1, .int .i64 0, .string ⟨#[]⟩] 23)).alloc o) o') (q1 o)
      have p2 := fun o o' => cell_later (alloc_below ((wr.alloc (.cells #[.int .i64 1, .int .i64 0, .string ⟨#[]⟩] 23)).alloc o) o') (q2 o)
      clear B1
      go_upto_region 10 with fail
      have HS5 : Hid (w2.heap.size < (wr.alloc (.cells #[.int .i64 1, .int .i64 0, .string ⟨#[]⟩] 23)).heap.size) := by
        show _ < _
        have := HWR.out
        simp
        omega
      generalize hW5 : (wr.alloc (.cells #[.int .i64 1, .int .i64 0, .string ⟨#[]⟩] 23)) = w5 at *
      clear hW5
      go_cut [10, 11] from 51 (fun s10 s11 wx => ∃ ge gl : Nat, s10 = .pointer (some ⟨ge, 0, none⟩) ∧ s11 = .pointer (some ⟨gl, 0, none⟩) ∧ Hid (BoxPd wx ge #[.int .i64 1, .int .i64 i, .int .i64 0, .int .i64 1, .int .i64 0, .string ⟨#[]⟩]) ∧ Hid (BoxPd wx gl #[.int .i64 2, .int .i64 i, .int .i64 0, .int .i64 1, .int .i64 0, .string ⟨#[]⟩]) ∧ w5.heap.size ≤ ge ∧ w5.heap.size ≤ gl ∧ Hid (Below w5.heap.size w5 wx))
      case first =>
        clear HF1 HF2 HH1 HH2 HH3 HG1 HG2 HG5
        go_region
        all_goals
          go_wp2
          go_meet
          refine ⟨_, _, rfl, rfl, ?_, ?_, ?_, ?_, ?_⟩
          · show BoxPd _ _ _
            refine BoxPd.drew ?_
            repeat (first | exact BoxPd.at_ (by simp; done) | refine BoxPd.up ?_)
          · show BoxPd _ _ _
            refine BoxPd.drew ?_
            repeat (first | exact BoxPd.at_ (by simp; done) | refine BoxPd.up ?_)
          · simp
          · simp
          · show Below _ _ _
            go_grown
      case rest =>
        obtain ⟨ge, gl, rfl, rfl, HE, HG, le1, le2, HBc⟩ := hcut
        replace HBc := chain HA.out HBc.out
        replace HB : Hid (Below w.heap.size w wc) := chain HB.out HBc
        replace HO : Hid (OwnV wc w2.heap.size (.slice (some ⟨w2.heap.size, 0, none⟩) k k) (List.replicate k nullV)) := HO.out.later HBc
        replace BW : Hid (BoxVl wc w.heap.size vk vi vs) := BW.out.later HBc
        have hwr : w2.heap.size < wr.heap.size := HWR.out
        have ne1 : ge ≠ w2.heap.size := by have := HS5.out; omega
        have ne2 : gl ≠ w2.heap.size := by have := HS5.out; omega
        have ne3 : w.heap.size ≠ w2.heap.size := by omega
        clear HBc le1 le2 HA d0 d1 d2 q0 q1 q2 p0 p1 p2 hwr HWR HS5
        obtain ⟨e0, e1, e2, e3, e4, e5⟩ := HE.out.cells
        obtain ⟨g0, g1, g2, g3, g4, g5⟩ := HG.out.cells
        obtain ⟨v0, v1, v2⟩ := BW.out.cells
        have hlen : (List.replicate k nullV).length = k := by simp
        have CA : ∀ V, Below wc.heap.size wc V → Calls Try.prog 13 #[.agg #[.int .i64 1, .int .i64 i, .int .i64 0, .int .i64 1, .int .i64 0, .string ⟨#[]⟩], .slice (some ⟨w2.heap.size, 0, none⟩) k k] V fun e w' => e = .returned (.bool true) ∧ Below V.heap.size V w' := fun V hb => by
          have h := pHolds_at 1 i 0 1 0 ⟨#[]⟩ (some ⟨w2.heap.size, 0, none⟩) k k (List.replicate k nullV) V hlen n4 (HO.out.rd0.later hb)
          rw [HH1.out] at h
          exact h
        have CB : ∀ V, Below wc.heap.size wc V → Calls Try.prog 13 #[.agg #[.int .i64 2, .int .i64 i, .int .i64 0, .int .i64 1, .int .i64 0, .string ⟨#[]⟩], .slice (some ⟨w2.heap.size, 0, none⟩) k k] V fun e w' => e = .returned (.bool false) ∧ Below V.heap.size V w' := fun V hb => by
          have h := pHolds_at 2 i 0 1 0 ⟨#[]⟩ (some ⟨w2.heap.size, 0, none⟩) k k (List.replicate k nullV) V hlen n4 (HO.out.rd0.later hb)
          rw [HH2.out] at h
          exact h
        have CC : ∀ V, Below wc.heap.size wc V → Calls Try.prog 13 #[.agg #[.int .i64 2, .int .i64 i, .int .i64 0, .int .i64 vk, .int .i64 vi, .string vs], .slice (some ⟨w2.heap.size, 0, none⟩) k k] V fun e w' => e = .returned (.bool true) ∧ Below V.heap.size V w' := fun V hb => by
          have h := pHolds_at 2 i 0 vk vi vs (some ⟨w2.heap.size, 0, none⟩) k k (List.replicate k nullV) V hlen n4 (HO.out.rd0.later hb)
          rw [HH3.out] at h
          exact h
        clear hlen HH1 HH2 HH3
        go_upto_region 11 with fail
        have HS : wc.drew.cell? ⟨ge, 0, none⟩ = some (.int .i64 1) ∧ wc.drew.cell? ⟨ge, 1, none⟩ = some (.int .i64 i) ∧ wc.drew.cell? ⟨ge, 2, none⟩ = some (.int .i64 0) ∧ wc.drew.cell? ⟨ge, 3, none⟩ = some (.int .i64 1) ∧ wc.drew.cell? ⟨ge, 4, none⟩ = some (.int .i64 0) ∧ wc.drew.cell? ⟨ge, 5, none⟩ = some (.string ⟨#[]⟩) ∧ wc.drew.cell? ⟨gl, 0, none⟩ = some (.int .i64 2) ∧ wc.drew.cell? ⟨gl, 1, none⟩ = some (.int .i64 i) ∧ wc.drew.cell? ⟨gl, 2, none⟩ = some (.int .i64 0) ∧ wc.drew.cell? ⟨gl, 3, none⟩ = some (.int .i64 1) ∧ wc.drew.cell? ⟨gl, 4, none⟩ = some (.int .i64 0) ∧ wc.drew.cell? ⟨gl, 5, none⟩ = some (.string ⟨#[]⟩) ∧ wc.drew.cell? ⟨w.heap.size, 0, none⟩ = some (.int .i64 vk) ∧ wc.drew.cell? ⟨w.heap.size, 1, none⟩ = some (.int .i64 vi) ∧ wc.drew.cell? ⟨w.heap.size, 2, none⟩ = some (.string vs) ∧ Hid (Below wc.heap.size wc wc.drew) := keepP15 (Below.refl _ _).drew ⟨e0, e1, e2, e3, e4, e5, g0, g1, g2, g3, g4, g5, v0, v1, v2, Below.refl _ _⟩
        clear e0 e1 e2 e3 e4 e5 g0 g1 g2 g3 g4 g5 v0 v1 v2
        refine wp_region_held_drew (S := (fun w' => w'.cell? ⟨ge, 0, none⟩ = some (.int .i64 1) ∧ w'.cell? ⟨ge, 1, none⟩ = some (.int .i64 i) ∧ w'.cell? ⟨ge, 2, none⟩ = some (.int .i64 0) ∧ w'.cell? ⟨ge, 3, none⟩ = some (.int .i64 1) ∧ w'.cell? ⟨ge, 4, none⟩ = some (.int .i64 0) ∧ w'.cell? ⟨ge, 5, none⟩ = some (.string ⟨#[]⟩) ∧ w'.cell? ⟨gl, 0, none⟩ = some (.int .i64 2) ∧ w'.cell? ⟨gl, 1, none⟩ = some (.int .i64 i) ∧ w'.cell? ⟨gl, 2, none⟩ = some (.int .i64 0) ∧ w'.cell? ⟨gl, 3, none⟩ = some (.int .i64 1) ∧ w'.cell? ⟨gl, 4, none⟩ = some (.int .i64 0) ∧ w'.cell? ⟨gl, 5, none⟩ = some (.string ⟨#[]⟩) ∧ w'.cell? ⟨w.heap.size, 0, none⟩ = some (.int .i64 vk) ∧ w'.cell? ⟨w.heap.size, 1, none⟩ = some (.int .i64 vi) ∧ w'.cell? ⟨w.heap.size, 2, none⟩ = some (.string vs) ∧ Hid (Below wc.heap.size wc w'))) (by kernel_rfl) HS (fun hHeld => ?_)
        refine heldTake (v := ?_) 0 57 rfl rfl (by kernel_rfl) (by kernel_rfl) (by kernel_rfl) (fun _ _ _ h => h) (by rfl) (fun w hSw => ?_) (by assumption) ?_
        rotate_left
        · (try dsimp only at hSw); first | (go_simp; done) | (go_simp; with_reducible rfl)
        simp only [List.setIfInBounds_toArray, List.set_cons_zero, List.set_cons_succ]
        refine heldTake (v := ?_) 1 58 rfl rfl (by kernel_rfl) (by kernel_rfl) (by kernel_rfl) (fun _ _ _ h => h) (by rfl) (fun w hSw => ?_) (by assumption) ?_
        rotate_left
        · (try dsimp only at hSw); first | (go_simp; done) | (go_simp; with_reducible rfl)
        simp only [List.setIfInBounds_toArray, List.set_cons_zero, List.set_cons_succ]
        refine heldOne 2 rfl (by kernel_rfl) (by rfl) (fun K2 hK => ?_)
        go_simp
        refine (CA _ hHeld.2.2.2.2.2.2.2.2.2.2.2.2.2.2.2.out).mono ?_
        rintro e wz ⟨rfl, hb⟩
        simp only []
        refine hK.out _ _ ?_ (fun hHeld => ?_)
        · first | exact keepP15 (by assumption) (by assumption) | exact keepP15 (Below.refl _ _).drew (by assumption)
        clear hK K2
        try simp only [List.setIfInBounds_toArray, List.set_cons_zero, List.set_cons_succ]
        refine heldTake (v := ?_) 3 60 rfl rfl (by kernel_rfl) (by kernel_rfl) (by kernel_rfl) (fun _ _ _ h => h) (by rfl) (fun w hSw => ?_) (by assumption) ?_
        rotate_left
        · (try dsimp only at hSw); first | (go_simp; done) | (go_simp; with_reducible rfl)
        simp only [List.setIfInBounds_toArray, List.set_cons_zero, List.set_cons_succ]
        refine heldTake (v := ?_) 4 61 rfl rfl (by kernel_rfl) (by kernel_rfl) (by kernel_rfl) (fun _ _ _ h => h) (by rfl) (fun w hSw => ?_) (by assumption) ?_
        rotate_left
        · (try dsimp only at hSw); first | (go_simp; done) | (go_simp; with_reducible rfl)
        simp only [List.setIfInBounds_toArray, List.set_cons_zero, List.set_cons_succ]
        refine heldTake (v := ?_) 5 62 rfl rfl (by kernel_rfl) (by kernel_rfl) (by kernel_rfl) (fun _ _ _ h => h) (by rfl) (fun w hSw => ?_) (by assumption) ?_
        rotate_left
        · (try dsimp only at hSw); first | (go_simp; done) | (go_simp; with_reducible rfl)
        simp only [List.setIfInBounds_toArray, List.set_cons_zero, List.set_cons_succ]
        refine heldTake (v := ?_) 6 63 rfl rfl (by kernel_rfl) (by kernel_rfl) (by kernel_rfl) (fun _ _ _ h => h) (by rfl) (fun w hSw => ?_) (by assumption) ?_
        rotate_left
        · (try dsimp only at hSw); first | (go_simp; done) | (go_simp; with_reducible rfl)
        simp only [List.setIfInBounds_toArray, List.set_cons_zero, List.set_cons_succ]
        refine heldOne 7 rfl (by kernel_rfl) (by rfl) (fun K2 hK => ?_)
        go_simp
        refine (CB _ hHeld.2.2.2.2.2.2.2.2.2.2.2.2.2.2.2.out).mono ?_
        rintro e wz ⟨rfl, hb⟩
        simp only []
        refine hK.out _ _ ?_ (fun hHeld => ?_)
        · first | exact keepP15 (by assumption) (by assumption) | exact keepP15 (Below.refl _ _).drew (by assumption)
        clear hK K2
        try simp only [List.setIfInBounds_toArray, List.set_cons_zero, List.set_cons_succ]
        refine heldTake (v := ?_) 8 65 rfl rfl (by kernel_rfl) (by kernel_rfl) (by kernel_rfl) (fun _ _ _ h => h) (by rfl) (fun w hSw => ?_) (by assumption) ?_
        rotate_left
        · (try dsimp only at hSw); first | (go_simp; done) | (go_simp; with_reducible rfl)
        simp only [List.setIfInBounds_toArray, List.set_cons_zero, List.set_cons_succ]
        refine heldTake (v := ?_) 9 66 rfl rfl (by kernel_rfl) (by kernel_rfl) (by kernel_rfl) (fun _ _ _ h => h) (by rfl) (fun w hSw => ?_) (by assumption) ?_
        rotate_left
        · (try dsimp only at hSw); first | (go_simp; done) | (go_simp; with_reducible rfl)
        simp only [List.setIfInBounds_toArray, List.set_cons_zero, List.set_cons_succ]
        refine heldTake (v := ?_) 10 67 rfl rfl (by kernel_rfl) (by kernel_rfl) (by kernel_rfl) (fun _ _ _ h => h) (by rfl) (fun w hSw => ?_) (by assumption) ?_
        rotate_left
        · (try dsimp only at hSw); first | (go_simp; done) | (go_simp; with_reducible rfl)
        simp only [List.setIfInBounds_toArray, List.set_cons_zero, List.set_cons_succ]
        refine heldTake (v := ?_) 11 68 rfl rfl (by kernel_rfl) (by kernel_rfl) (by kernel_rfl) (fun _ _ _ h => h) (by rfl) (fun w hSw => ?_) (by assumption) ?_
        rotate_left
        · (try dsimp only at hSw); first | (go_simp; done) | (go_simp; with_reducible rfl)
        simp only [List.setIfInBounds_toArray, List.set_cons_zero, List.set_cons_succ]
        refine heldTake (v := ?_) 12 69 rfl rfl (by kernel_rfl) (by kernel_rfl) (by kernel_rfl) (fun _ _ _ h => h) (by rfl) (fun w hSw => ?_) (by assumption) ?_
        rotate_left
        · (try dsimp only at hSw); first | (go_simp; done) | (go_simp; with_reducible rfl)
        simp only [List.setIfInBounds_toArray, List.set_cons_zero, List.set_cons_succ]
        refine heldTake (v := ?_) 13 70 rfl rfl (by kernel_rfl) (by kernel_rfl) (by kernel_rfl) (fun _ _ _ h => h) (by rfl) (fun w hSw => ?_) (by assumption) ?_
        rotate_left
        · (try dsimp only at hSw); first | (go_simp; done) | (go_simp; with_reducible rfl)
        simp only [List.setIfInBounds_toArray, List.set_cons_zero, List.set_cons_succ]
        refine heldTake (v := ?_) 15 72 rfl rfl (by kernel_rfl) (by kernel_rfl) (by kernel_rfl) (fun _ _ _ h => h) (by rfl) (fun w hSw => ?_) (by assumption) ?_
        rotate_left
        · (try dsimp only at hSw); first | (go_simp; done) | (go_simp; with_reducible rfl)
        simp only [List.setIfInBounds_toArray, List.set_cons_zero, List.set_cons_succ]
        refine heldTake (v := ?_) 16 73 rfl rfl (by kernel_rfl) (by kernel_rfl) (by kernel_rfl) (fun _ _ _ h => h) (by rfl) (fun w hSw => ?_) (by assumption) ?_
        rotate_left
        · (try dsimp only at hSw); first | (go_simp; done) | (go_simp; with_reducible rfl)
        simp only [List.setIfInBounds_toArray, List.set_cons_zero, List.set_cons_succ]
        refine heldTake (v := ?_) 17 74 rfl rfl (by kernel_rfl) (by kernel_rfl) (by kernel_rfl) (fun _ _ _ h => h) (by rfl) (fun w hSw => ?_) (by assumption) ?_
        rotate_left
        · (try dsimp only at hSw); first | (go_simp; done) | (go_simp; with_reducible rfl)
        simp only [List.setIfInBounds_toArray, List.set_cons_zero, List.set_cons_succ]
        refine heldOne 14 rfl (by kernel_rfl) (by rfl) (fun K2 hK => ?_)
        go_simp
        refine (CC _ hHeld.2.2.2.2.2.2.2.2.2.2.2.2.2.2.2.out).mono ?_
        rintro e wz ⟨rfl, hb⟩
        simp only []
        refine hK.out _ _ ?_ (fun hHeld => ?_)
        · first | exact keepP15 (by assumption) (by assumption) | exact keepP15 (Below.refl _ _).drew (by assumption)
        clear hK K2
        try simp only [List.setIfInBounds_toArray, List.set_cons_zero, List.set_cons_succ]
        refine heldTake (v := ?_) 18 75 rfl rfl (by kernel_rfl) (by kernel_rfl) (by kernel_rfl) (fun _ _ _ h => h) (by rfl) (fun w hSw => ?_) (by assumption) ?_
        rotate_left
        · (try dsimp only at hSw); first | (go_simp; done) | (go_simp; with_reducible rfl)
        simp only [List.setIfInBounds_toArray, List.set_cons_zero, List.set_cons_succ]
        refine heldTake (v := ?_) 19 76 rfl rfl (by kernel_rfl) (by kernel_rfl) (by kernel_rfl) (fun _ _ _ h => h) (by rfl) (fun w hSw => ?_) (by assumption) ?_
        rotate_left
        · (try dsimp only at hSw); first | (go_simp; done) | (go_simp; with_reducible rfl)
        simp only [List.setIfInBounds_toArray, List.set_cons_zero, List.set_cons_succ]
        refine wpAnyH_done (by kernel_rfl) ?_ _
        have HBd := hHeld.2.2.2.2.2.2.2.2.2.2.2.2.2.2.2
        clear hHeld HS CA CB CC
        rename World => wd
        replace HB : Hid (Below w.heap.size w wd) := chain HB.out HBd.out
        replace HO : Hid (OwnV wd w2.heap.size (.slice (some ⟨w2.heap.size, 0, none⟩) k k) (List.replicate k nullV)) := HO.out.later HBd.out
        replace BW : Hid (BoxVl wd w.heap.size vk vi vs) := BW.out.later HBd.out
        replace HE : Hid (BoxPd wd ge #[.int .i64 1, .int .i64 i, .int .i64 0, .int .i64 1, .int .i64 0, .string ⟨#[]⟩]) := HE.out.later HBd.out
        replace HG : Hid (BoxPd wd gl #[.int .i64 2, .int .i64 i, .int .i64 0, .int .i64 1, .int .i64 0, .string ⟨#[]⟩]) := HG.out.later HBd.out
        clear HBd
        go_upto_region 13 with fail
        go_cut [] from 77 (fun wx => Hid (OwnV wx w2.heap.size (.slice (some ⟨w2.heap.size, 0, none⟩) k k) ((List.replicate k nullV).set i ⟨vk, vi, vs⟩)) ∧ Hid (BoxVl wx w.heap.size vk vi vs) ∧ Hid (BoxPd wx ge #[.int .i64 1, .int .i64 i, .int .i64 0, .int .i64 1, .int .i64 0, .string ⟨#[]⟩]) ∧ Hid (BoxPd wx gl #[.int .i64 2, .int .i64 i, .int .i64 0, .int .i64 1, .int .i64 0, .string ⟨#[]⟩]) ∧ Hid (Below w.heap.size w wx))
        case first =>
          obtain ⟨v0, v1, v2⟩ := BW.out.cells
          have hlen : (List.replicate k nullV).length = k := by simp
          obtain ⟨d0, d1, d2, f0, f1, f2⟩ := HO.out.at_ hlen hi
          obtain ⟨hO', hB'⟩ := HO.out.put hlen i ⟨vk, vi, vs⟩
          simp only at hO' hB'
          have HO' : Hid _ := hO'
          have HB' : Hid _ := hB'
          generalize (List.replicate k nullV)[i] = y at *
          clear hO' hB' hlen
          go_wp2
          go_meet
          exact ⟨HO', other3P BW.out ne3, other3P HE.out ne1, other3P HG.out ne2, HB.out.trans (HB'.out.mono (Nat.le_of_lt hlt2))⟩
        case rest =>
          obtain ⟨HO', BW', HE', HG', HB'⟩ := hcut
          clear HO BW HE HG HB
          rename World => we
          obtain ⟨e0, e1, e2, e3, e4, e5⟩ := HE'.out.cells
          obtain ⟨g0, g1, g2, g3, g4, g5⟩ := HG'.out.cells
          obtain ⟨v0, v1, v2⟩ := BW'.out.cells
          have hlen : ((List.replicate k nullV).set i ⟨vk, vi, vs⟩).length = k := by simp
          have CA : ∀ V, Below we.heap.size we V → Calls Try.prog 13 #[.agg #[.int .i64 1, .int .i64 i, .int .i64 0, .int .i64 1, .int .i64 0, .string ⟨#[]⟩], .slice (some ⟨w2.heap.size, 0, none⟩) k k] V fun e w' => e = .returned (.bool false) ∧ Below V.heap.size V w' := fun V hb => by
            have h := pHolds_at 1 i 0 1 0 ⟨#[]⟩ (some ⟨w2.heap.size, 0, none⟩) k k _ V hlen n4 (HO'.out.rd0.later hb)
            rw [HG1.out] at h
            exact h
          have CB : ∀ V, Below we.heap.size we V → Calls Try.prog 13 #[.agg #[.int .i64 2, .int .i64 i, .int .i64 0, .int .i64 1, .int .i64 0, .string ⟨#[]⟩], .slice (some ⟨w2.heap.size, 0, none⟩) k k] V fun e w' => e = .returned (.bool false) ∧ Below V.heap.size V w' := fun V hb => by
            have h := pHolds_at 2 i 0 1 0 ⟨#[]⟩ (some ⟨w2.heap.size, 0, none⟩) k k _ V hlen n4 (HO'.out.rd0.later hb)
            rw [HG2.out] at h
            exact h
          have CC : ∀ V, Below we.heap.size we V → Calls Try.prog 13 #[.agg #[.int .i64 5, .int .i64 i, .int .i64 0, .int .i64 0, .int .i64 0, .string ⟨#[]⟩], .slice (some ⟨w2.heap.size, 0, none⟩) k k] V fun e w' => e = .returned (.bool false) ∧ Below V.heap.size V w' := fun V hb => by
            have h := pHolds_at 5 i 0 0 0 ⟨#[]⟩ (some ⟨w2.heap.size, 0, none⟩) k k _ V hlen n4 (HO'.out.rd0.later hb)
            rw [HG5.out] at h
            exact h
          clear hlen HG1 HG2 HG5
          go_upto_region 14 with fail
          have HS : we.drew.cell? ⟨ge, 0, none⟩ = some (.int .i64 1) ∧ we.drew.cell? ⟨ge, 1, none⟩ = some (.int .i64 i) ∧ we.drew.cell? ⟨ge, 2, none⟩ = some (.int .i64 0) ∧ we.drew.cell? ⟨ge, 3, none⟩ = some (.int .i64 1) ∧ we.drew.cell? ⟨ge, 4, none⟩ = some (.int .i64 0) ∧ we.drew.cell? ⟨ge, 5, none⟩ = some (.string ⟨#[]⟩) ∧ we.drew.cell? ⟨gl, 0, none⟩ = some (.int .i64 2) ∧ we.drew.cell? ⟨gl, 1, none⟩ = some (.int .i64 i) ∧ we.drew.cell? ⟨gl, 2, none⟩ = some (.int .i64 0) ∧ we.drew.cell? ⟨gl, 3, none⟩ = some (.int .i64 1) ∧ we.drew.cell? ⟨gl, 4, none⟩ = some (.int .i64 0) ∧ we.drew.cell? ⟨gl, 5, none⟩ = some (.string ⟨#[]⟩) ∧ we.drew.cell? ⟨w.heap.size, 0, none⟩ = some (.int .i64 vk) ∧ we.drew.cell? ⟨w.heap.size, 1, none⟩ = some (.int .i64 vi) ∧ we.drew.cell? ⟨w.heap.size, 2, none⟩ = some (.string vs) ∧ Hid (Below we.heap.size we we.drew) := keepP15 (Below.refl _ _).drew ⟨e0, e1, e2, e3, e4, e5, g0, g1, g2, g3, g4, g5, v0, v1, v2, Below.refl _ _⟩
          clear e0 e1 e2 e3 e4 e5 g0 g1 g2 g3 g4 g5 v0 v1 v2
          refine wp_region_held_drew (S := (fun w' => w'.cell? ⟨ge, 0, none⟩ = some (.int .i64 1) ∧ w'.cell? ⟨ge, 1, none⟩ = some (.int .i64 i) ∧ w'.cell? ⟨ge, 2, none⟩ = some (.int .i64 0) ∧ w'.cell? ⟨ge, 3, none⟩ = some (.int .i64 1) ∧ w'.cell? ⟨ge, 4, none⟩ = some (.int .i64 0) ∧ w'.cell? ⟨ge, 5, none⟩ = some (.string ⟨#[]⟩) ∧ w'.cell? ⟨gl, 0, none⟩ = some (.int .i64 2) ∧ w'.cell? ⟨gl, 1, none⟩ = some (.int .i64 i) ∧ w'.cell? ⟨gl, 2, none⟩ = some (.int .i64 0) ∧ w'.cell? ⟨gl, 3, none⟩ = some (.int .i64 1) ∧ w'.cell? ⟨gl, 4, none⟩ = some (.int .i64 0) ∧ w'.cell? ⟨gl, 5, none⟩ = some (.string ⟨#[]⟩) ∧ w'.cell? ⟨w.heap.size, 0, none⟩ = some (.int .i64 vk) ∧ w'.cell? ⟨w.heap.size, 1, none⟩ = some (.int .i64 vi) ∧ w'.cell? ⟨w.heap.size, 2, none⟩ = some (.string vs) ∧ Hid (Below we.heap.size we w'))) (by kernel_rfl) HS (fun hHeld => ?_)
          refine heldTake (v := ?_) 0 81 rfl rfl (by kernel_rfl) (by kernel_rfl) (by kernel_rfl) (fun _ _ _ h => h) (by rfl) (fun w hSw => ?_) (by assumption) ?_
          rotate_left
          · (try dsimp only at hSw); first | (go_simp; done) | (go_simp; with_reducible rfl)
          simp only [List.setIfInBounds_toArray, List.set_cons_zero, List.set_cons_succ]
          refine heldTake (v := ?_) 1 82 rfl rfl (by kernel_rfl) (by kernel_rfl) (by kernel_rfl) (fun _ _ _ h => h) (by rfl) (fun w hSw => ?_) (by assumption) ?_
          rotate_left
          · (try dsimp only at hSw); first | (go_simp; done) | (go_simp; with_reducible rfl)
          simp only [List.setIfInBounds_toArray, List.set_cons_zero, List.set_cons_succ]
          refine heldTake (v := ?_) 3 84 rfl rfl (by kernel_rfl) (by kernel_rfl) (by kernel_rfl) (fun _ _ _ h => h) (by rfl) (fun w hSw => ?_) (by assumption) ?_
          rotate_left
          · (try dsimp only at hSw); first | (go_simp; done) | (go_simp; with_reducible rfl)
          simp only [List.setIfInBounds_toArray, List.set_cons_zero, List.set_cons_succ]
          refine heldTake (v := ?_) 4 85 rfl rfl (by kernel_rfl) (by kernel_rfl) (by kernel_rfl) (fun _ _ _ h => h) (by rfl) (fun w hSw => ?_) (by assumption) ?_
          rotate_left
          · (try dsimp only at hSw); first | (go_simp; done) | (go_simp; with_reducible rfl)
          simp only [List.setIfInBounds_toArray, List.set_cons_zero, List.set_cons_succ]
          refine heldTake (v := ?_) 5 86 rfl rfl (by kernel_rfl) (by kernel_rfl) (by kernel_rfl) (fun _ _ _ h => h) (by rfl) (fun w hSw => ?_) (by assumption) ?_
          rotate_left
          · (try dsimp only at hSw); first | (go_simp; done) | (go_simp; with_reducible rfl)
          simp only [List.setIfInBounds_toArray, List.set_cons_zero, List.set_cons_succ]
          refine heldOne 2 rfl (by kernel_rfl) (by rfl) (fun K2 hK => ?_)
          go_simp
          refine (CA _ hHeld.2.2.2.2.2.2.2.2.2.2.2.2.2.2.2.out).mono ?_
          rintro e wz ⟨rfl, hb⟩
          simp only []
          refine hK.out _ _ ?_ (fun hHeld => ?_)
          · first | exact keepP15 (by assumption) (by assumption) | exact keepP15 (Below.refl _ _).drew (by assumption)
          clear hK K2
          try simp only [List.setIfInBounds_toArray, List.set_cons_zero, List.set_cons_succ]
          refine heldTake (v := ?_) 6 87 rfl rfl (by kernel_rfl) (by kernel_rfl) (by kernel_rfl) (fun _ _ _ h => h) (by rfl) (fun w hSw => ?_) (by assumption) ?_
          rotate_left
          · (try dsimp only at hSw); first | (go_simp; done) | (go_simp; with_reducible rfl)
          simp only [List.setIfInBounds_toArray, List.set_cons_zero, List.set_cons_succ]
          refine heldTake (v := ?_) 7 88 rfl rfl (by kernel_rfl) (by kernel_rfl) (by kernel_rfl) (fun _ _ _ h => h) (by rfl) (fun w hSw => ?_) (by assumption) ?_
          rotate_left
          · (try dsimp only at hSw); first | (go_simp; done) | (go_simp; with_reducible rfl)
          simp only [List.setIfInBounds_toArray, List.set_cons_zero, List.set_cons_succ]
          refine heldTake (v := ?_) 8 89 rfl rfl (by kernel_rfl) (by kernel_rfl) (by kernel_rfl) (fun _ _ _ h => h) (by rfl) (fun w hSw => ?_) (by assumption) ?_
          rotate_left
          · (try dsimp only at hSw); first | (go_simp; done) | (go_simp; with_reducible rfl)
          simp only [List.setIfInBounds_toArray, List.set_cons_zero, List.set_cons_succ]
          refine heldTake (v := ?_) 9 90 rfl rfl (by kernel_rfl) (by kernel_rfl) (by kernel_rfl) (fun _ _ _ h => h) (by rfl) (fun w hSw => ?_) (by assumption) ?_
          rotate_left
          · (try dsimp only at hSw); first | (go_simp; done) | (go_simp; with_reducible rfl)
          simp only [List.setIfInBounds_toArray, List.set_cons_zero, List.set_cons_succ]
          refine heldOne 10 rfl (by kernel_rfl) (by rfl) (fun K2 hK => ?_)
          go_simp
          refine (CB _ hHeld.2.2.2.2.2.2.2.2.2.2.2.2.2.2.2.out).mono ?_
          rintro e wz ⟨rfl, hb⟩
          simp only []
          refine hK.out _ _ ?_ (fun hHeld => ?_)
          · first | exact keepP15 (by assumption) (by assumption) | exact keepP15 (Below.refl _ _).drew (by assumption)
          clear hK K2
          try simp only [List.setIfInBounds_toArray, List.set_cons_zero, List.set_cons_succ]
          refine heldTake (v := ?_) 11 92 rfl rfl (by kernel_rfl) (by kernel_rfl) (by kernel_rfl) (fun _ _ _ h => h) (by rfl) (fun w hSw => ?_) (by assumption) ?_
          rotate_left
          · (try dsimp only at hSw); first | (go_simp; done) | (go_simp; with_reducible rfl)
          simp only [List.setIfInBounds_toArray, List.set_cons_zero, List.set_cons_succ]
          refine heldTake (v := ?_) 12 93 rfl rfl (by kernel_rfl) (by kernel_rfl) (by kernel_rfl) (fun _ _ _ h => h) (by rfl) (fun w hSw => ?_) (by assumption) ?_
          rotate_left
          · (try dsimp only at hSw); first | (go_simp; done) | (go_simp; with_reducible rfl)
          simp only [List.setIfInBounds_toArray, List.set_cons_zero, List.set_cons_succ]
          refine heldTake (v := ?_) 13 94 rfl rfl (by kernel_rfl) (by kernel_rfl) (by kernel_rfl) (fun _ _ _ h => h) (by rfl) (fun w hSw => ?_) (by assumption) ?_
          rotate_left
          · (try dsimp only at hSw); first | (go_simp; done) | (go_simp; with_reducible rfl)
          simp only [List.setIfInBounds_toArray, List.set_cons_zero, List.set_cons_succ]
          refine heldTake (v := ?_) 14 95 rfl rfl (by kernel_rfl) (by kernel_rfl) (by kernel_rfl) (fun _ _ _ h => h) (by rfl) (fun w hSw => ?_) (by assumption) ?_
          rotate_left
          · (try dsimp only at hSw); first | (go_simp; done) | (go_simp; with_reducible rfl)
          simp only [List.setIfInBounds_toArray, List.set_cons_zero, List.set_cons_succ]
          refine heldTake (v := ?_) 15 96 rfl rfl (by kernel_rfl) (by kernel_rfl) (by kernel_rfl) (fun _ _ _ h => h) (by rfl) (fun w hSw => ?_) (by assumption) ?_
          rotate_left
          · (try dsimp only at hSw); first | (go_simp; done) | (go_simp; with_reducible rfl)
          simp only [List.setIfInBounds_toArray, List.set_cons_zero, List.set_cons_succ]
          refine heldTake (v := ?_) 17 98 rfl rfl (by kernel_rfl) (by kernel_rfl) (by kernel_rfl) (fun _ _ _ h => h) (by rfl) (fun w hSw => ?_) (by assumption) ?_
          rotate_left
          · (try dsimp only at hSw); first | (go_simp; done) | (go_simp; with_reducible rfl)
          simp only [List.setIfInBounds_toArray, List.set_cons_zero, List.set_cons_succ]
          refine heldTake (v := ?_) 18 99 rfl rfl (by kernel_rfl) (by kernel_rfl) (by kernel_rfl) (fun _ _ _ h => h) (by rfl) (fun w hSw => ?_) (by assumption) ?_
          rotate_left
          · (try dsimp only at hSw); first | (go_simp; done) | (go_simp; with_reducible rfl)
          simp only [List.setIfInBounds_toArray, List.set_cons_zero, List.set_cons_succ]
          refine heldTake (v := ?_) 19 100 rfl rfl (by kernel_rfl) (by kernel_rfl) (by kernel_rfl) (fun _ _ _ h => h) (by rfl) (fun w hSw => ?_) (by assumption) ?_
          rotate_left
          · (try dsimp only at hSw); first | (go_simp; done) | (go_simp; with_reducible rfl)
          simp only [List.setIfInBounds_toArray, List.set_cons_zero, List.set_cons_succ]
          refine heldOne 16 rfl (by kernel_rfl) (by rfl) (fun K2 hK => ?_)
          go_simp
          refine (CC _ hHeld.2.2.2.2.2.2.2.2.2.2.2.2.2.2.2.out).mono ?_
          rintro e wz ⟨rfl, hb⟩
          simp only []
          refine hK.out _ _ ?_ (fun hHeld => ?_)
          · first | exact keepP15 (by assumption) (by assumption) | exact keepP15 (Below.refl _ _).drew (by assumption)
          clear hK K2
          try simp only [List.setIfInBounds_toArray, List.set_cons_zero, List.set_cons_succ]
          refine heldTake (v := ?_) 20 101 rfl rfl (by kernel_rfl) (by kernel_rfl) (by kernel_rfl) (fun _ _ _ h => h) (by rfl) (fun w hSw => ?_) (by assumption) ?_
          rotate_left
          · (try dsimp only at hSw); first | (go_simp; done) | (go_simp; with_reducible rfl)
          simp only [List.setIfInBounds_toArray, List.set_cons_zero, List.set_cons_succ]
          refine heldTake (v := ?_) 21 102 rfl rfl (by kernel_rfl) (by kernel_rfl) (by kernel_rfl) (fun _ _ _ h => h) (by rfl) (fun w hSw => ?_) (by assumption) ?_
          rotate_left
          · (try dsimp only at hSw); first | (go_simp; done) | (go_simp; with_reducible rfl)
          simp only [List.setIfInBounds_toArray, List.set_cons_zero, List.set_cons_succ]
          refine wpAnyH_done (by kernel_rfl) ?_ _
          have HBf := hHeld.2.2.2.2.2.2.2.2.2.2.2.2.2.2.2
          clear hHeld HS CA CB CC
          rename World => wf
          have HB : Hid (Below w.heap.size w wf) := chain HB'.out HBf.out
          replace HE : Hid (BoxPd wf ge #[.int .i64 1, .int .i64 i, .int .i64 0, .int .i64 1, .int .i64 0, .string ⟨#[]⟩]) := HE'.out.later HBf.out
          replace HG : Hid (BoxPd wf gl #[.int .i64 2, .int .i64 i, .int .i64 0, .int .i64 1, .int .i64 0, .string ⟨#[]⟩]) := HG'.out.later HBf.out
          clear HBf HB' HE' HG' BW' HO'
          replace y0 := cell_later HB.out y0
          by_cases ht2 : t < 2
          · go_wp2_with fail
            refine (predwakes_any _).mono ?_
            rintro e wg ⟨rfl, hb⟩
            go_wp2
            go_ret
            exact ⟨rfl, chain HB.out hb⟩
          by_cases ht4 : 4 < t
          · go_wp2_with fail
            refine (predwakes_any _).mono ?_
            rintro e wg ⟨rfl, hb⟩
            go_wp2
            go_ret
            exact ⟨rfl, chain HB.out hb⟩
          · have K1 := HF1.out ⟨by omega, by omega⟩
            have K2 := HF2.out ⟨by omega, by omega⟩
            have HK1 : Hid _ := K1
            have HK2 : Hid _ := K2
            clear K1 K2 HF1 HF2
            obtain ⟨e0, e1, e2, e3, e4, e5⟩ := HE.out.cells
            go_wp2_with fail
            refine (pCheck_at 1 i 0 1 0 ⟨#[]⟩ (some ⟨b, off, none⟩) k cap ts _ HN.out n4 (HI.out.later HB.out)).mono ?_
            rintro e wg ⟨rfl, hb⟩
            rw [HK1.out]
            replace HB : Hid (Below w.heap.size w wg) := chain HB.out hb
            clear e0 e1 e2 e3 e4 e5
            obtain ⟨g0, g1, g2, g3, g4, g5⟩ := (HG.out.later hb).cells
            clear hb
            go_wp2_with fail
            refine (pCheck_at 2 i 0 1 0 ⟨#[]⟩ (some ⟨b, off, none⟩) k cap ts _ HN.out n4 (HI.out.later HB.out)).mono ?_
            rintro e wh ⟨rfl, hb⟩
            rw [HK2.out]
            replace HB : Hid (Below w.heap.size w wh) := chain HB.out hb
            clear hb
            go_wp2_with fail
            refine (predwakes_any _).mono ?_
            rintro e wi ⟨rfl, hb⟩
            go_wp2
            go_ret
            exact ⟨rfl, chain HB.out hb⟩

set_option maxHeartbeats 8000000 in
set_option maxRecDepth 100000 in
theorem pnulls_null (a : Option Addr) (n cap : Nat) (zs : List Int) (x vi : Int) (vs : ByteArray) (w : World) (hz : IsInts .i64 w a n cap zs) (h0 : 0 < n) (h12 : n ≤ 12) (hl : longT [vs] = false) (hq : okV ⟨1, vi, vs⟩ = true)  :
    Calls Try.prog 5 #[.slice a n cap, .int .i64 x, .agg #[.int .i64 1, .int .i64 vi, .string vs]] w fun e w' => e = .returned (.bool true) ∧ Below w.heap.size w w' := by
  obtain ⟨ts, hn0, hnc, hrI, hnI, _⟩ := hz.ints
  have hns := hz.small
  have HN : Hid (ts.length = n) := hn0
  have HI : Hid (RdI .i64 w a ts) := hrI
  clear hn0 hrI hnI hz
  have BX := alloc_below w (.cells #[.int .i64 1, .int .i64 vi, .string vs] 23)
  have HL : Hid (longT [vs] = false) := hl
  have HQ : Hid (okV ⟨1, vi, vs⟩ = true) := hq
  clear hl hq
  obtain ⟨i, hi, ei1, ei2, ei3⟩ := modAt x n h0 (by omega)
  have hil : i < ts.length := by rw [HN.out]; exact hi
  obtain ⟨b, off, rfl, hc⟩ := HI.out (by omega)
  have y0 := hc i hil
  have HF1 : Hid (2 ≤ ts[i] ∧ ts[i] ≤ 4 → chkP ⟨1, i, 0, ⟨1, 0, ⟨#[]⟩⟩⟩ ts = 0) := fun h => null_fits hil 1 0 rfl h
  have HF2 : Hid (2 ≤ ts[i] ∧ ts[i] ≤ 4 → chkP ⟨2, i, 0, ⟨1, 0, ⟨#[]⟩⟩⟩ ts = 0) := fun h => null_fits hil 2 0 rfl h
  generalize ts[i] = t at *
  clear hc hil
  have wn : IntKind.u64.wrap (n : Int) = (n : Int) := by rw [IntKind.wrap_u64]; omega
  have hm1 : (n : Int) ≠ 0 := by omega
  have hm2 : ((n : Int) = 0) = False := eq_false hm1
  have i0 : (0 : Int) ≤ (i : Int) := by omega
  have i1 : (i : Int) < (n : Int) := by omega
  have n4 : n ≤ 65536 := by omega
  have HH1 : Hid (holdsP ⟨1, i, 0, ⟨1, 0, ⟨#[]⟩⟩⟩ (List.replicate n nullV) = true) := nulls_1 hi 0
  have HH2 : Hid (holdsP ⟨2, i, 0, ⟨1, 0, ⟨#[]⟩⟩⟩ (List.replicate n nullV) = false) := nulls_2 hi 0
  have HH3 : Hid (holdsP ⟨2, i, 0, ⟨1, vi, vs⟩⟩ (List.replicate n nullV) = false) := (nulls_v hi 0 HQ.out).trans rfl
  have HG1 : Hid (holdsP ⟨1, i, 0, ⟨1, 0, ⟨#[]⟩⟩⟩ ((List.replicate n nullV).set i ⟨1, vi, vs⟩) = true) := (one_1 hi 0 HQ.out).trans rfl
  have HG2 : Hid (holdsP ⟨2, i, 0, ⟨1, 0, ⟨#[]⟩⟩⟩ ((List.replicate n nullV).set i ⟨1, vi, vs⟩) = false) := one_2 hi 0 HQ.out
  have HG5 : Hid (holdsP ⟨5, i, 0, ⟨0, 0, ⟨#[]⟩⟩⟩ ((List.replicate n nullV).set i ⟨1, vi, vs⟩) = true) := (one_5 hi 0).trans rfl
  have hn1 : ((n : Int) == 0) = false := by simp; omega
  have hn2 : (n = 0) = False := eq_false (by omega)
  go_enter Try.func5, Try.ntmps5
  go_wp2_with fail
  refine (long_any (w.heap.size + 1) 1 1 [vs] _ rfl (by omega) (fun i hi => ?_)).mono ?_
  · obtain rfl : i = 0 := by simpa using hi
    go_simp
  rintro e w1 ⟨rfl, rfl⟩
  have BV : BoxVl (w.alloc (.cells #[.int .i64 1, .int .i64 vi, .string vs] 23)) w.heap.size 1 vi vs := BoxVl.at_ rfl
  replace BV := BV.later (alloc_below _ (.cells #[.int .i64 1, .int .i64 vi, .string vs] 23))
  replace BX : Hid _ := chain BX (alloc_below _ (.cells #[.int .i64 1, .int .i64 vi, .string vs] 23))
  generalize hW1 : ((w.alloc (.cells #[.int .i64 1, .int .i64 vi, .string vs] 23)).alloc (.cells #[.int .i64 1, .int .i64 vi, .string vs] 23)) = w1 at *
  clear hW1
  rw [HL.out]
  obtain ⟨c0, c1, c2⟩ := BV.cells
  have BV' : Hid (BoxVl w1 w.heap.size 1 vi vs) := BV
  clear BV
  go_wp2_with fail
  refine (rValue_of 1 vi vs _ HQ.out).mono ?_
  rintro e w2 ⟨rfl, hb⟩
  have HB : Hid (Below w.heap.size w w2) := chain BX.out hb
  replace BV' : Hid (BoxVl w2 w.heap.size 1 vi vs) := BV'.out.later hb
  clear hb BX c0 c1 c2
  obtain ⟨w3, hmake, hO3, hB3⟩ := run_make_vals w2 n n4
  have HO3 : Hid (OwnV w3 w2.heap.size (.slice (some ⟨w2.heap.size, 0, none⟩) n n) (List.replicate 0 nullV ++ List.replicate (n - 0) noV)) := hO3
  have HB3 : Hid (Below w2.heap.size w2 w3) := hB3
  clear hO3 hB3
  go_wp2
  go_loopw [8] (fun q wr => ∃ k : Nat, k ≤ n ∧ q = .int .i64 k ∧ Hid (OwnV wr w2.heap.size (.slice (some ⟨w2.heap.size, 0, none⟩) n n) (List.replicate k nullV ++ List.replicate (n - k) noV)) ∧ Hid (Below w2.heap.size w2 wr)) (fun q _ => n - (RowKit.intOf q).toNat)
  case atStart => exact ⟨0, Nat.zero_le _, rfl, HO3, HB3⟩
  case round =>
    clear hmake HO3 HB3
    obtain ⟨k, hk, rfl, hO, hB⟩ := hrel
    by_cases hlt : k < n
    · have hLn : (List.replicate k nullV ++ List.replicate (n - k) noV).length = n := by simp; omega
      obtain ⟨d0, d1, d2, f0, f1, f2⟩ := hO.out.at_ hLn hlt
      obtain ⟨hO', hB'⟩ := hO.out.put hLn k ⟨1, 0, ⟨#[]⟩⟩
      rw [show (⟨1, 0, ⟨#[]⟩⟩ : PV) = nullV from rfl, set_nulls hlt] at hO'
      simp only at hO' hB'
      generalize (List.replicate k nullV ++ List.replicate (n - k) noV)[k] = y at *
      clear hLn
      have HO' : Hid _ := hO'
      have HB' : Hid _ := hB'
      clear hO hO' hB'
      have k0 : (0 : Int) ≤ (k : Int) := by omega
      have k1 : (k : Int) < (n : Int) := by omega
      go_wp2
      go_roundw
      case rel => exact ⟨k + 1, by omega, by go_num, HO', hB.out.trans HB'.out⟩
      case measure => simp [RowKit.intOf]; omega
    · obtain rfl : k = n := by omega
      have hO4 := hO.out
      rw [Nat.sub_self, List.replicate_zero, List.append_nil] at hO4
      have HO : Hid (OwnV wr w2.heap.size (.slice (some ⟨w2.heap.size, 0, none⟩) k k) (List.replicate k nullV)) := hO4
      have BW : Hid (BoxVl wr w.heap.size 1 vi vs) := BV'.out.later hB.out
      replace HB : Hid (Below w.heap.size w wr) := chain HB.out hB.out
      have hlt2 : w.heap.size < w2.heap.size := BV'.out.lt
      have HWR : Hid (w2.heap.size < wr.heap.size) := (World.ownsRow.lt hO4 _ rfl).2
      clear hO hO4 hB BV' hlt
      have B1 : BoxVl (wr.alloc (.cells #[.int .i64 1, .int .i64 0, .string ⟨#[]⟩] 23)) wr.heap.size 1 0 ⟨#[]⟩ := BoxVl.at_ rfl
      obtain ⟨d0, d1, d2⟩ := B1.cells
      have HA : Hid (Below wr.heap.size wr (wr.alloc (.cells #[.int .i64 1, .int .i64 0, .string ⟨#[]⟩] 23))) := alloc_below _ _
      have q0 := fun o => cell_later (alloc_below (wr.alloc (.cells #[.int .i64 1, .int .i64 0, .string ⟨#[]⟩] 23)) o) d0
      have q1 := fun o => cell_later (alloc_below (wr.alloc (.cells #[.int .i64 1, .int .i64 0, .string ⟨#[]⟩] 23)) o) d1
      have q2 := fun o => cell_later (alloc_below (wr.alloc (.cells #[.int .i64 1, .int .i64 0, .string ⟨#[]⟩] 23)) o) d2
      have p0 := fun o o' => cell_later (alloc_below ((wr.alloc (.cells #[.int .i64 1, .int .i64 0, .string ⟨#[]⟩] 23)).alloc o) o') (q0 o)
      have p1 := fun o o' => cell_later (alloc_below ((wr.alloc (.cells #[.int .i64 1, .int .i64 0, .string ⟨#[]⟩] 23)).alloc o) o') (q1 o)
      have p2 := fun o o' => cell_later (alloc_below ((wr.alloc (.cells #[.int .i64 1, .int .i64 0, .string ⟨#[]⟩] 23)).alloc o) o') (q2 o)
      clear B1
      go_upto_region 10 with fail
      have HS5 : Hid (w2.heap.size < (wr.alloc (.cells #[.int .i64 1, .int .i64 0, .string ⟨#[]⟩] 23)).heap.size) := by
        show _ < _
        have := HWR.out
        simp
        omega
      generalize hW5 : (wr.alloc (.cells #[.int .i64 1, .int .i64 0, .string ⟨#[]⟩] 23)) = w5 at *
      clear hW5
      go_cut [10, 11] from 51 (fun s10 s11 wx => ∃ ge gl : Nat, s10 = .pointer (some ⟨ge, 0, none⟩) ∧ s11 = .pointer (some ⟨gl, 0, none⟩) ∧ Hid (BoxPd wx ge #[.int .i64 1, .int .i64 i, .int .i64 0, .int .i64 1, .int .i64 0, .string ⟨#[]⟩]) ∧ Hid (BoxPd wx gl #[.int .i64 2, .int .i64 i, .int .i64 0, .int .i64 1, .int .i64 0, .string ⟨#[]⟩]) ∧ w5.heap.size ≤ ge ∧ w5.heap.size ≤ gl ∧ Hid (Below w5.heap.size w5 wx))
      case first =>
        clear HF1 HF2 HH1 HH2 HH3 HG1 HG2 HG5
        go_region
        all_goals
          go_wp2
          go_meet
          refine ⟨_, _, rfl, rfl, ?_, ?_, ?_, ?_, ?_⟩
          · show BoxPd _ _ _
            refine BoxPd.drew ?_
            repeat (first | exact BoxPd.at_ (by simp; done) | refine BoxPd.up ?_)
          · show BoxPd _ _ _
            refine BoxPd.drew ?_
            repeat (first | exact BoxPd.at_ (by simp; done) | refine BoxPd.up ?_)
          · simp
          · simp
          · show Below _ _ _
            go_grown
      case rest =>
        obtain ⟨ge, gl, rfl, rfl, HE, HG, le1, le2, HBc⟩ := hcut
        replace HBc := chain HA.out HBc.out
        replace HB : Hid (Below w.heap.size w wc) := chain HB.out HBc
        replace HO : Hid (OwnV wc w2.heap.size (.slice (some ⟨w2.heap.size, 0, none⟩) k k) (List.replicate k nullV)) := HO.out.later HBc
        replace BW : Hid (BoxVl wc w.heap.size 1 vi vs) := BW.out.later HBc
        have hwr : w2.heap.size < wr.heap.size := HWR.out
        have ne1 : ge ≠ w2.heap.size := by have := HS5.out; omega
        have ne2 : gl ≠ w2.heap.size := by have := HS5.out; omega
        have ne3 : w.heap.size ≠ w2.heap.size := by omega
        clear HBc le1 le2 HA d0 d1 d2 q0 q1 q2 p0 p1 p2 hwr HWR HS5
        obtain ⟨e0, e1, e2, e3, e4, e5⟩ := HE.out.cells
        obtain ⟨g0, g1, g2, g3, g4, g5⟩ := HG.out.cells
        obtain ⟨v0, v1, v2⟩ := BW.out.cells
        have hlen : (List.replicate k nullV).length = k := by simp
        have CA : ∀ V, Below wc.heap.size wc V → Calls Try.prog 13 #[.agg #[.int .i64 1, .int .i64 i, .int .i64 0, .int .i64 1, .int .i64 0, .string ⟨#[]⟩], .slice (some ⟨w2.heap.size, 0, none⟩) k k] V fun e w' => e = .returned (.bool true) ∧ Below V.heap.size V w' := fun V hb => by
          have h := pHolds_at 1 i 0 1 0 ⟨#[]⟩ (some ⟨w2.heap.size, 0, none⟩) k k (List.replicate k nullV) V hlen n4 (HO.out.rd0.later hb)
          rw [HH1.out] at h
          exact h
        have CB : ∀ V, Below wc.heap.size wc V → Calls Try.prog 13 #[.agg #[.int .i64 2, .int .i64 i, .int .i64 0, .int .i64 1, .int .i64 0, .string ⟨#[]⟩], .slice (some ⟨w2.heap.size, 0, none⟩) k k] V fun e w' => e = .returned (.bool false) ∧ Below V.heap.size V w' := fun V hb => by
          have h := pHolds_at 2 i 0 1 0 ⟨#[]⟩ (some ⟨w2.heap.size, 0, none⟩) k k (List.replicate k nullV) V hlen n4 (HO.out.rd0.later hb)
          rw [HH2.out] at h
          exact h
        have CC : ∀ V, Below wc.heap.size wc V → Calls Try.prog 13 #[.agg #[.int .i64 2, .int .i64 i, .int .i64 0, .int .i64 1, .int .i64 vi, .string vs], .slice (some ⟨w2.heap.size, 0, none⟩) k k] V fun e w' => e = .returned (.bool false) ∧ Below V.heap.size V w' := fun V hb => by
          have h := pHolds_at 2 i 0 1 vi vs (some ⟨w2.heap.size, 0, none⟩) k k (List.replicate k nullV) V hlen n4 (HO.out.rd0.later hb)
          rw [HH3.out] at h
          exact h
        clear hlen HH1 HH2 HH3
        go_upto_region 11 with fail
        have HS : wc.drew.cell? ⟨ge, 0, none⟩ = some (.int .i64 1) ∧ wc.drew.cell? ⟨ge, 1, none⟩ = some (.int .i64 i) ∧ wc.drew.cell? ⟨ge, 2, none⟩ = some (.int .i64 0) ∧ wc.drew.cell? ⟨ge, 3, none⟩ = some (.int .i64 1) ∧ wc.drew.cell? ⟨ge, 4, none⟩ = some (.int .i64 0) ∧ wc.drew.cell? ⟨ge, 5, none⟩ = some (.string ⟨#[]⟩) ∧ wc.drew.cell? ⟨gl, 0, none⟩ = some (.int .i64 2) ∧ wc.drew.cell? ⟨gl, 1, none⟩ = some (.int .i64 i) ∧ wc.drew.cell? ⟨gl, 2, none⟩ = some (.int .i64 0) ∧ wc.drew.cell? ⟨gl, 3, none⟩ = some (.int .i64 1) ∧ wc.drew.cell? ⟨gl, 4, none⟩ = some (.int .i64 0) ∧ wc.drew.cell? ⟨gl, 5, none⟩ = some (.string ⟨#[]⟩) ∧ wc.drew.cell? ⟨w.heap.size, 0, none⟩ = some (.int .i64 1) ∧ wc.drew.cell? ⟨w.heap.size, 1, none⟩ = some (.int .i64 vi) ∧ wc.drew.cell? ⟨w.heap.size, 2, none⟩ = some (.string vs) ∧ Hid (Below wc.heap.size wc wc.drew) := keepP15 (Below.refl _ _).drew ⟨e0, e1, e2, e3, e4, e5, g0, g1, g2, g3, g4, g5, v0, v1, v2, Below.refl _ _⟩
        clear e0 e1 e2 e3 e4 e5 g0 g1 g2 g3 g4 g5 v0 v1 v2
        refine wp_region_held_drew (S := (fun w' => w'.cell? ⟨ge, 0, none⟩ = some (.int .i64 1) ∧ w'.cell? ⟨ge, 1, none⟩ = some (.int .i64 i) ∧ w'.cell? ⟨ge, 2, none⟩ = some (.int .i64 0) ∧ w'.cell? ⟨ge, 3, none⟩ = some (.int .i64 1) ∧ w'.cell? ⟨ge, 4, none⟩ = some (.int .i64 0) ∧ w'.cell? ⟨ge, 5, none⟩ = some (.string ⟨#[]⟩) ∧ w'.cell? ⟨gl, 0, none⟩ = some (.int .i64 2) ∧ w'.cell? ⟨gl, 1, none⟩ = some (.int .i64 i) ∧ w'.cell? ⟨gl, 2, none⟩ = some (.int .i64 0) ∧ w'.cell? ⟨gl, 3, none⟩ = some (.int .i64 1) ∧ w'.cell? ⟨gl, 4, none⟩ = some (.int .i64 0) ∧ w'.cell? ⟨gl, 5, none⟩ = some (.string ⟨#[]⟩) ∧ w'.cell? ⟨w.heap.size, 0, none⟩ = some (.int .i64 1) ∧ w'.cell? ⟨w.heap.size, 1, none⟩ = some (.int .i64 vi) ∧ w'.cell? ⟨w.heap.size, 2, none⟩ = some (.string vs) ∧ Hid (Below wc.heap.size wc w'))) (by kernel_rfl) HS (fun hHeld => ?_)
        refine heldTake (v := ?_) 0 57 rfl rfl (by kernel_rfl) (by kernel_rfl) (by kernel_rfl) (fun _ _ _ h => h) (by rfl) (fun w hSw => ?_) (by assumption) ?_
        rotate_left
        · (try dsimp only at hSw); first | (go_simp; done) | (go_simp; with_reducible rfl)
        simp only [List.setIfInBounds_toArray, List.set_cons_zero, List.set_cons_succ]
        refine heldTake (v := ?_) 1 58 rfl rfl (by kernel_rfl) (by kernel_rfl) (by kernel_rfl) (fun _ _ _ h => h) (by rfl) (fun w hSw => ?_) (by assumption) ?_
        rotate_left
        · (try dsimp only at hSw); first | (go_simp; done) | (go_simp; with_reducible rfl)
        simp only [List.setIfInBounds_toArray, List.set_cons_zero, List.set_cons_succ]
        refine heldOne 2 rfl (by kernel_rfl) (by rfl) (fun K2 hK => ?_)
        go_simp
        refine (CA _ hHeld.2.2.2.2.2.2.2.2.2.2.2.2.2.2.2.out).mono ?_
        rintro e wz ⟨rfl, hb⟩
        simp only []
        refine hK.out _ _ ?_ (fun hHeld => ?_)
        · first | exact keepP15 (by assumption) (by assumption) | exact keepP15 (Below.refl _ _).drew (by assumption)
        clear hK K2
        try simp only [List.setIfInBounds_toArray, List.set_cons_zero, List.set_cons_succ]
        refine heldTake (v := ?_) 3 60 rfl rfl (by kernel_rfl) (by kernel_rfl) (by kernel_rfl) (fun _ _ _ h => h) (by rfl) (fun w hSw => ?_) (by assumption) ?_
        rotate_left
        · (try dsimp only at hSw); first | (go_simp; done) | (go_simp; with_reducible rfl)
        simp only [List.setIfInBounds_toArray, List.set_cons_zero, List.set_cons_succ]
        refine heldTake (v := ?_) 4 61 rfl rfl (by kernel_rfl) (by kernel_rfl) (by kernel_rfl) (fun _ _ _ h => h) (by rfl) (fun w hSw => ?_) (by assumption) ?_
        rotate_left
        · (try dsimp only at hSw); first | (go_simp; done) | (go_simp; with_reducible rfl)
        simp only [List.setIfInBounds_toArray, List.set_cons_zero, List.set_cons_succ]
        refine heldTake (v := ?_) 5 62 rfl rfl (by kernel_rfl) (by kernel_rfl) (by kernel_rfl) (fun _ _ _ h => h) (by rfl) (fun w hSw => ?_) (by assumption) ?_
        rotate_left
        · (try dsimp only at hSw); first | (go_simp; done) | (go_simp; with_reducible rfl)
        simp only [List.setIfInBounds_toArray, List.set_cons_zero, List.set_cons_succ]
        refine heldTake (v := ?_) 6 63 rfl rfl (by kernel_rfl) (by kernel_rfl) (by kernel_rfl) (fun _ _ _ h => h) (by rfl) (fun w hSw => ?_) (by assumption) ?_
        rotate_left
        · (try dsimp only at hSw); first | (go_simp; done) | (go_simp; with_reducible rfl)
        simp only [List.setIfInBounds_toArray, List.set_cons_zero, List.set_cons_succ]
        refine heldOne 7 rfl (by kernel_rfl) (by rfl) (fun K2 hK => ?_)
        go_simp
        refine (CB _ hHeld.2.2.2.2.2.2.2.2.2.2.2.2.2.2.2.out).mono ?_
        rintro e wz ⟨rfl, hb⟩
        simp only []
        refine hK.out _ _ ?_ (fun hHeld => ?_)
        · first | exact keepP15 (by assumption) (by assumption) | exact keepP15 (Below.refl _ _).drew (by assumption)
        clear hK K2
        try simp only [List.setIfInBounds_toArray, List.set_cons_zero, List.set_cons_succ]
        refine heldTake (v := ?_) 8 65 rfl rfl (by kernel_rfl) (by kernel_rfl) (by kernel_rfl) (fun _ _ _ h => h) (by rfl) (fun w hSw => ?_) (by assumption) ?_
        rotate_left
        · (try dsimp only at hSw); first | (go_simp; done) | (go_simp; with_reducible rfl)
        simp only [List.setIfInBounds_toArray, List.set_cons_zero, List.set_cons_succ]
        refine heldTake (v := ?_) 9 66 rfl rfl (by kernel_rfl) (by kernel_rfl) (by kernel_rfl) (fun _ _ _ h => h) (by rfl) (fun w hSw => ?_) (by assumption) ?_
        rotate_left
        · (try dsimp only at hSw); first | (go_simp; done) | (go_simp; with_reducible rfl)
        simp only [List.setIfInBounds_toArray, List.set_cons_zero, List.set_cons_succ]
        refine heldTake (v := ?_) 10 67 rfl rfl (by kernel_rfl) (by kernel_rfl) (by kernel_rfl) (fun _ _ _ h => h) (by rfl) (fun w hSw => ?_) (by assumption) ?_
        rotate_left
        · (try dsimp only at hSw); first | (go_simp; done) | (go_simp; with_reducible rfl)
        simp only [List.setIfInBounds_toArray, List.set_cons_zero, List.set_cons_succ]
        refine heldTake (v := ?_) 11 68 rfl rfl (by kernel_rfl) (by kernel_rfl) (by kernel_rfl) (fun _ _ _ h => h) (by rfl) (fun w hSw => ?_) (by assumption) ?_
        rotate_left
        · (try dsimp only at hSw); first | (go_simp; done) | (go_simp; with_reducible rfl)
        simp only [List.setIfInBounds_toArray, List.set_cons_zero, List.set_cons_succ]
        refine heldTake (v := ?_) 12 69 rfl rfl (by kernel_rfl) (by kernel_rfl) (by kernel_rfl) (fun _ _ _ h => h) (by rfl) (fun w hSw => ?_) (by assumption) ?_
        rotate_left
        · (try dsimp only at hSw); first | (go_simp; done) | (go_simp; with_reducible rfl)
        simp only [List.setIfInBounds_toArray, List.set_cons_zero, List.set_cons_succ]
        refine heldTake (v := ?_) 13 70 rfl rfl (by kernel_rfl) (by kernel_rfl) (by kernel_rfl) (fun _ _ _ h => h) (by rfl) (fun w hSw => ?_) (by assumption) ?_
        rotate_left
        · (try dsimp only at hSw); first | (go_simp; done) | (go_simp; with_reducible rfl)
        simp only [List.setIfInBounds_toArray, List.set_cons_zero, List.set_cons_succ]
        refine heldTake (v := ?_) 15 72 rfl rfl (by kernel_rfl) (by kernel_rfl) (by kernel_rfl) (fun _ _ _ h => h) (by rfl) (fun w hSw => ?_) (by assumption) ?_
        rotate_left
        · (try dsimp only at hSw); first | (go_simp; done) | (go_simp; with_reducible rfl)
        simp only [List.setIfInBounds_toArray, List.set_cons_zero, List.set_cons_succ]
        refine heldTake (v := ?_) 16 73 rfl rfl (by kernel_rfl) (by kernel_rfl) (by kernel_rfl) (fun _ _ _ h => h) (by rfl) (fun w hSw => ?_) (by assumption) ?_
        rotate_left
        · (try dsimp only at hSw); first | (go_simp; done) | (go_simp; with_reducible rfl)
        simp only [List.setIfInBounds_toArray, List.set_cons_zero, List.set_cons_succ]
        refine heldTake (v := ?_) 17 74 rfl rfl (by kernel_rfl) (by kernel_rfl) (by kernel_rfl) (fun _ _ _ h => h) (by rfl) (fun w hSw => ?_) (by assumption) ?_
        rotate_left
        · (try dsimp only at hSw); first | (go_simp; done) | (go_simp; with_reducible rfl)
        simp only [List.setIfInBounds_toArray, List.set_cons_zero, List.set_cons_succ]
        refine heldOne 14 rfl (by kernel_rfl) (by rfl) (fun K2 hK => ?_)
        go_simp
        refine (CC _ hHeld.2.2.2.2.2.2.2.2.2.2.2.2.2.2.2.out).mono ?_
        rintro e wz ⟨rfl, hb⟩
        simp only []
        refine hK.out _ _ ?_ (fun hHeld => ?_)
        · first | exact keepP15 (by assumption) (by assumption) | exact keepP15 (Below.refl _ _).drew (by assumption)
        clear hK K2
        try simp only [List.setIfInBounds_toArray, List.set_cons_zero, List.set_cons_succ]
        refine heldTake (v := ?_) 18 75 rfl rfl (by kernel_rfl) (by kernel_rfl) (by kernel_rfl) (fun _ _ _ h => h) (by rfl) (fun w hSw => ?_) (by assumption) ?_
        rotate_left
        · (try dsimp only at hSw); first | (go_simp; done) | (go_simp; with_reducible rfl)
        simp only [List.setIfInBounds_toArray, List.set_cons_zero, List.set_cons_succ]
        refine heldTake (v := ?_) 19 76 rfl rfl (by kernel_rfl) (by kernel_rfl) (by kernel_rfl) (fun _ _ _ h => h) (by rfl) (fun w hSw => ?_) (by assumption) ?_
        rotate_left
        · (try dsimp only at hSw); first | (go_simp; done) | (go_simp; with_reducible rfl)
        simp only [List.setIfInBounds_toArray, List.set_cons_zero, List.set_cons_succ]
        refine wpAnyH_done (by kernel_rfl) ?_ _
        have HBd := hHeld.2.2.2.2.2.2.2.2.2.2.2.2.2.2.2
        clear hHeld HS CA CB CC
        rename World => wd
        replace HB : Hid (Below w.heap.size w wd) := chain HB.out HBd.out
        replace HO : Hid (OwnV wd w2.heap.size (.slice (some ⟨w2.heap.size, 0, none⟩) k k) (List.replicate k nullV)) := HO.out.later HBd.out
        replace BW : Hid (BoxVl wd w.heap.size 1 vi vs) := BW.out.later HBd.out
        replace HE : Hid (BoxPd wd ge #[.int .i64 1, .int .i64 i, .int .i64 0, .int .i64 1, .int .i64 0, .string ⟨#[]⟩]) := HE.out.later HBd.out
        replace HG : Hid (BoxPd wd gl #[.int .i64 2, .int .i64 i, .int .i64 0, .int .i64 1, .int .i64 0, .string ⟨#[]⟩]) := HG.out.later HBd.out
        clear HBd
        go_upto_region 13 with fail
        go_cut [] from 77 (fun wx => Hid (OwnV wx w2.heap.size (.slice (some ⟨w2.heap.size, 0, none⟩) k k) ((List.replicate k nullV).set i ⟨1, vi, vs⟩)) ∧ Hid (BoxVl wx w.heap.size 1 vi vs) ∧ Hid (BoxPd wx ge #[.int .i64 1, .int .i64 i, .int .i64 0, .int .i64 1, .int .i64 0, .string ⟨#[]⟩]) ∧ Hid (BoxPd wx gl #[.int .i64 2, .int .i64 i, .int .i64 0, .int .i64 1, .int .i64 0, .string ⟨#[]⟩]) ∧ Hid (Below w.heap.size w wx))
        case first =>
          obtain ⟨v0, v1, v2⟩ := BW.out.cells
          have hlen : (List.replicate k nullV).length = k := by simp
          obtain ⟨d0, d1, d2, f0, f1, f2⟩ := HO.out.at_ hlen hi
          obtain ⟨hO', hB'⟩ := HO.out.put hlen i ⟨1, vi, vs⟩
          simp only at hO' hB'
          have HO' : Hid _ := hO'
          have HB' : Hid _ := hB'
          generalize (List.replicate k nullV)[i] = y at *
          clear hO' hB' hlen
          go_wp2
          go_meet
          exact ⟨HO', other3P BW.out ne3, other3P HE.out ne1, other3P HG.out ne2, HB.out.trans (HB'.out.mono (Nat.le_of_lt hlt2))⟩
        case rest =>
          obtain ⟨HO', BW', HE', HG', HB'⟩ := hcut
          clear HO BW HE HG HB
          rename World => we
          obtain ⟨e0, e1, e2, e3, e4, e5⟩ := HE'.out.cells
          obtain ⟨g0, g1, g2, g3, g4, g5⟩ := HG'.out.cells
          obtain ⟨v0, v1, v2⟩ := BW'.out.cells
          have hlen : ((List.replicate k nullV).set i ⟨1, vi, vs⟩).length = k := by simp
          have CA : ∀ V, Below we.heap.size we V → Calls Try.prog 13 #[.agg #[.int .i64 1, .int .i64 i, .int .i64 0, .int .i64 1, .int .i64 0, .string ⟨#[]⟩], .slice (some ⟨w2.heap.size, 0, none⟩) k k] V fun e w' => e = .returned (.bool true) ∧ Below V.heap.size V w' := fun V hb => by
            have h := pHolds_at 1 i 0 1 0 ⟨#[]⟩ (some ⟨w2.heap.size, 0, none⟩) k k _ V hlen n4 (HO'.out.rd0.later hb)
            rw [HG1.out] at h
            exact h
          have CB : ∀ V, Below we.heap.size we V → Calls Try.prog 13 #[.agg #[.int .i64 2, .int .i64 i, .int .i64 0, .int .i64 1, .int .i64 0, .string ⟨#[]⟩], .slice (some ⟨w2.heap.size, 0, none⟩) k k] V fun e w' => e = .returned (.bool false) ∧ Below V.heap.size V w' := fun V hb => by
            have h := pHolds_at 2 i 0 1 0 ⟨#[]⟩ (some ⟨w2.heap.size, 0, none⟩) k k _ V hlen n4 (HO'.out.rd0.later hb)
            rw [HG2.out] at h
            exact h
          have CC : ∀ V, Below we.heap.size we V → Calls Try.prog 13 #[.agg #[.int .i64 5, .int .i64 i, .int .i64 0, .int .i64 0, .int .i64 0, .string ⟨#[]⟩], .slice (some ⟨w2.heap.size, 0, none⟩) k k] V fun e w' => e = .returned (.bool true) ∧ Below V.heap.size V w' := fun V hb => by
            have h := pHolds_at 5 i 0 0 0 ⟨#[]⟩ (some ⟨w2.heap.size, 0, none⟩) k k _ V hlen n4 (HO'.out.rd0.later hb)
            rw [HG5.out] at h
            exact h
          clear hlen HG1 HG2 HG5
          go_upto_region 14 with fail
          have HS : we.drew.cell? ⟨ge, 0, none⟩ = some (.int .i64 1) ∧ we.drew.cell? ⟨ge, 1, none⟩ = some (.int .i64 i) ∧ we.drew.cell? ⟨ge, 2, none⟩ = some (.int .i64 0) ∧ we.drew.cell? ⟨ge, 3, none⟩ = some (.int .i64 1) ∧ we.drew.cell? ⟨ge, 4, none⟩ = some (.int .i64 0) ∧ we.drew.cell? ⟨ge, 5, none⟩ = some (.string ⟨#[]⟩) ∧ we.drew.cell? ⟨gl, 0, none⟩ = some (.int .i64 2) ∧ we.drew.cell? ⟨gl, 1, none⟩ = some (.int .i64 i) ∧ we.drew.cell? ⟨gl, 2, none⟩ = some (.int .i64 0) ∧ we.drew.cell? ⟨gl, 3, none⟩ = some (.int .i64 1) ∧ we.drew.cell? ⟨gl, 4, none⟩ = some (.int .i64 0) ∧ we.drew.cell? ⟨gl, 5, none⟩ = some (.string ⟨#[]⟩) ∧ we.drew.cell? ⟨w.heap.size, 0, none⟩ = some (.int .i64 1) ∧ we.drew.cell? ⟨w.heap.size, 1, none⟩ = some (.int .i64 vi) ∧ we.drew.cell? ⟨w.heap.size, 2, none⟩ = some (.string vs) ∧ Hid (Below we.heap.size we we.drew) := keepP15 (Below.refl _ _).drew ⟨e0, e1, e2, e3, e4, e5, g0, g1, g2, g3, g4, g5, v0, v1, v2, Below.refl _ _⟩
          clear e0 e1 e2 e3 e4 e5 g0 g1 g2 g3 g4 g5 v0 v1 v2
          refine wp_region_held_drew (S := (fun w' => w'.cell? ⟨ge, 0, none⟩ = some (.int .i64 1) ∧ w'.cell? ⟨ge, 1, none⟩ = some (.int .i64 i) ∧ w'.cell? ⟨ge, 2, none⟩ = some (.int .i64 0) ∧ w'.cell? ⟨ge, 3, none⟩ = some (.int .i64 1) ∧ w'.cell? ⟨ge, 4, none⟩ = some (.int .i64 0) ∧ w'.cell? ⟨ge, 5, none⟩ = some (.string ⟨#[]⟩) ∧ w'.cell? ⟨gl, 0, none⟩ = some (.int .i64 2) ∧ w'.cell? ⟨gl, 1, none⟩ = some (.int .i64 i) ∧ w'.cell? ⟨gl, 2, none⟩ = some (.int .i64 0) ∧ w'.cell? ⟨gl, 3, none⟩ = some (.int .i64 1) ∧ w'.cell? ⟨gl, 4, none⟩ = some (.int .i64 0) ∧ w'.cell? ⟨gl, 5, none⟩ = some (.string ⟨#[]⟩) ∧ w'.cell? ⟨w.heap.size, 0, none⟩ = some (.int .i64 1) ∧ w'.cell? ⟨w.heap.size, 1, none⟩ = some (.int .i64 vi) ∧ w'.cell? ⟨w.heap.size, 2, none⟩ = some (.string vs) ∧ Hid (Below we.heap.size we w'))) (by kernel_rfl) HS (fun hHeld => ?_)
          refine heldTake (v := ?_) 0 81 rfl rfl (by kernel_rfl) (by kernel_rfl) (by kernel_rfl) (fun _ _ _ h => h) (by rfl) (fun w hSw => ?_) (by assumption) ?_
          rotate_left
          · (try dsimp only at hSw); first | (go_simp; done) | (go_simp; with_reducible rfl)
          simp only [List.setIfInBounds_toArray, List.set_cons_zero, List.set_cons_succ]
          refine heldTake (v := ?_) 1 82 rfl rfl (by kernel_rfl) (by kernel_rfl) (by kernel_rfl) (fun _ _ _ h => h) (by rfl) (fun w hSw => ?_) (by assumption) ?_
          rotate_left
          · (try dsimp only at hSw); first | (go_simp; done) | (go_simp; with_reducible rfl)
          simp only [List.setIfInBounds_toArray, List.set_cons_zero, List.set_cons_succ]
          refine heldTake (v := ?_) 3 84 rfl rfl (by kernel_rfl) (by kernel_rfl) (by kernel_rfl) (fun _ _ _ h => h) (by rfl) (fun w hSw => ?_) (by assumption) ?_
          rotate_left
          · (try dsimp only at hSw); first | (go_simp; done) | (go_simp; with_reducible rfl)
          simp only [List.setIfInBounds_toArray, List.set_cons_zero, List.set_cons_succ]
          refine heldTake (v := ?_) 4 85 rfl rfl (by kernel_rfl) (by kernel_rfl) (by kernel_rfl) (fun _ _ _ h => h) (by rfl) (fun w hSw => ?_) (by assumption) ?_
          rotate_left
          · (try dsimp only at hSw); first | (go_simp; done) | (go_simp; with_reducible rfl)
          simp only [List.setIfInBounds_toArray, List.set_cons_zero, List.set_cons_succ]
          refine heldTake (v := ?_) 5 86 rfl rfl (by kernel_rfl) (by kernel_rfl) (by kernel_rfl) (fun _ _ _ h => h) (by rfl) (fun w hSw => ?_) (by assumption) ?_
          rotate_left
          · (try dsimp only at hSw); first | (go_simp; done) | (go_simp; with_reducible rfl)
          simp only [List.setIfInBounds_toArray, List.set_cons_zero, List.set_cons_succ]
          refine heldOne 2 rfl (by kernel_rfl) (by rfl) (fun K2 hK => ?_)
          go_simp
          refine (CA _ hHeld.2.2.2.2.2.2.2.2.2.2.2.2.2.2.2.out).mono ?_
          rintro e wz ⟨rfl, hb⟩
          simp only []
          refine hK.out _ _ ?_ (fun hHeld => ?_)
          · first | exact keepP15 (by assumption) (by assumption) | exact keepP15 (Below.refl _ _).drew (by assumption)
          clear hK K2
          try simp only [List.setIfInBounds_toArray, List.set_cons_zero, List.set_cons_succ]
          refine heldTake (v := ?_) 6 87 rfl rfl (by kernel_rfl) (by kernel_rfl) (by kernel_rfl) (fun _ _ _ h => h) (by rfl) (fun w hSw => ?_) (by assumption) ?_
          rotate_left
          · (try dsimp only at hSw); first | (go_simp; done) | (go_simp; with_reducible rfl)
          simp only [List.setIfInBounds_toArray, List.set_cons_zero, List.set_cons_succ]
          refine heldTake (v := ?_) 7 88 rfl rfl (by kernel_rfl) (by kernel_rfl) (by kernel_rfl) (fun _ _ _ h => h) (by rfl) (fun w hSw => ?_) (by assumption) ?_
          rotate_left
          · (try dsimp only at hSw); first | (go_simp; done) | (go_simp; with_reducible rfl)
          simp only [List.setIfInBounds_toArray, List.set_cons_zero, List.set_cons_succ]
          refine heldTake (v := ?_) 8 89 rfl rfl (by kernel_rfl) (by kernel_rfl) (by kernel_rfl) (fun _ _ _ h => h) (by rfl) (fun w hSw => ?_) (by assumption) ?_
          rotate_left
          · (try dsimp only at hSw); first | (go_simp; done) | (go_simp; with_reducible rfl)
          simp only [List.setIfInBounds_toArray, List.set_cons_zero, List.set_cons_succ]
          refine heldTake (v := ?_) 9 90 rfl rfl (by kernel_rfl) (by kernel_rfl) (by kernel_rfl) (fun _ _ _ h => h) (by rfl) (fun w hSw => ?_) (by assumption) ?_
          rotate_left
          · (try dsimp only at hSw); first | (go_simp; done) | (go_simp; with_reducible rfl)
          simp only [List.setIfInBounds_toArray, List.set_cons_zero, List.set_cons_succ]
          refine heldOne 10 rfl (by kernel_rfl) (by rfl) (fun K2 hK => ?_)
          go_simp
          refine (CB _ hHeld.2.2.2.2.2.2.2.2.2.2.2.2.2.2.2.out).mono ?_
          rintro e wz ⟨rfl, hb⟩
          simp only []
          refine hK.out _ _ ?_ (fun hHeld => ?_)
          · first | exact keepP15 (by assumption) (by assumption) | exact keepP15 (Below.refl _ _).drew (by assumption)
          clear hK K2
          try simp only [List.setIfInBounds_toArray, List.set_cons_zero, List.set_cons_succ]
          refine heldTake (v := ?_) 11 92 rfl rfl (by kernel_rfl) (by kernel_rfl) (by kernel_rfl) (fun _ _ _ h => h) (by rfl) (fun w hSw => ?_) (by assumption) ?_
          rotate_left
          · (try dsimp only at hSw); first | (go_simp; done) | (go_simp; with_reducible rfl)
          simp only [List.setIfInBounds_toArray, List.set_cons_zero, List.set_cons_succ]
          refine heldTake (v := ?_) 12 93 rfl rfl (by kernel_rfl) (by kernel_rfl) (by kernel_rfl) (fun _ _ _ h => h) (by rfl) (fun w hSw => ?_) (by assumption) ?_
          rotate_left
          · (try dsimp only at hSw); first | (go_simp; done) | (go_simp; with_reducible rfl)
          simp only [List.setIfInBounds_toArray, List.set_cons_zero, List.set_cons_succ]
          refine heldTake (v := ?_) 13 94 rfl rfl (by kernel_rfl) (by kernel_rfl) (by kernel_rfl) (fun _ _ _ h => h) (by rfl) (fun w hSw => ?_) (by assumption) ?_
          rotate_left
          · (try dsimp only at hSw); first | (go_simp; done) | (go_simp; with_reducible rfl)
          simp only [List.setIfInBounds_toArray, List.set_cons_zero, List.set_cons_succ]
          refine heldTake (v := ?_) 14 95 rfl rfl (by kernel_rfl) (by kernel_rfl) (by kernel_rfl) (fun _ _ _ h => h) (by rfl) (fun w hSw => ?_) (by assumption) ?_
          rotate_left
          · (try dsimp only at hSw); first | (go_simp; done) | (go_simp; with_reducible rfl)
          simp only [List.setIfInBounds_toArray, List.set_cons_zero, List.set_cons_succ]
          refine heldTake (v := ?_) 15 96 rfl rfl (by kernel_rfl) (by kernel_rfl) (by kernel_rfl) (fun _ _ _ h => h) (by rfl) (fun w hSw => ?_) (by assumption) ?_
          rotate_left
          · (try dsimp only at hSw); first | (go_simp; done) | (go_simp; with_reducible rfl)
          simp only [List.setIfInBounds_toArray, List.set_cons_zero, List.set_cons_succ]
          refine heldTake (v := ?_) 17 98 rfl rfl (by kernel_rfl) (by kernel_rfl) (by kernel_rfl) (fun _ _ _ h => h) (by rfl) (fun w hSw => ?_) (by assumption) ?_
          rotate_left
          · (try dsimp only at hSw); first | (go_simp; done) | (go_simp; with_reducible rfl)
          simp only [List.setIfInBounds_toArray, List.set_cons_zero, List.set_cons_succ]
          refine heldTake (v := ?_) 18 99 rfl rfl (by kernel_rfl) (by kernel_rfl) (by kernel_rfl) (fun _ _ _ h => h) (by rfl) (fun w hSw => ?_) (by assumption) ?_
          rotate_left
          · (try dsimp only at hSw); first | (go_simp; done) | (go_simp; with_reducible rfl)
          simp only [List.setIfInBounds_toArray, List.set_cons_zero, List.set_cons_succ]
          refine heldTake (v := ?_) 19 100 rfl rfl (by kernel_rfl) (by kernel_rfl) (by kernel_rfl) (fun _ _ _ h => h) (by rfl) (fun w hSw => ?_) (by assumption) ?_
          rotate_left
          · (try dsimp only at hSw); first | (go_simp; done) | (go_simp; with_reducible rfl)
          simp only [List.setIfInBounds_toArray, List.set_cons_zero, List.set_cons_succ]
          refine heldOne 16 rfl (by kernel_rfl) (by rfl) (fun K2 hK => ?_)
          go_simp
          refine (CC _ hHeld.2.2.2.2.2.2.2.2.2.2.2.2.2.2.2.out).mono ?_
          rintro e wz ⟨rfl, hb⟩
          simp only []
          refine hK.out _ _ ?_ (fun hHeld => ?_)
          · first | exact keepP15 (by assumption) (by assumption) | exact keepP15 (Below.refl _ _).drew (by assumption)
          clear hK K2
          try simp only [List.setIfInBounds_toArray, List.set_cons_zero, List.set_cons_succ]
          refine heldTake (v := ?_) 20 101 rfl rfl (by kernel_rfl) (by kernel_rfl) (by kernel_rfl) (fun _ _ _ h => h) (by rfl) (fun w hSw => ?_) (by assumption) ?_
          rotate_left
          · (try dsimp only at hSw); first | (go_simp; done) | (go_simp; with_reducible rfl)
          simp only [List.setIfInBounds_toArray, List.set_cons_zero, List.set_cons_succ]
          refine heldTake (v := ?_) 21 102 rfl rfl (by kernel_rfl) (by kernel_rfl) (by kernel_rfl) (fun _ _ _ h => h) (by rfl) (fun w hSw => ?_) (by assumption) ?_
          rotate_left
          · (try dsimp only at hSw); first | (go_simp; done) | (go_simp; with_reducible rfl)
          simp only [List.setIfInBounds_toArray, List.set_cons_zero, List.set_cons_succ]
          refine wpAnyH_done (by kernel_rfl) ?_ _
          have HBf := hHeld.2.2.2.2.2.2.2.2.2.2.2.2.2.2.2
          clear hHeld HS CA CB CC
          rename World => wf
          have HB : Hid (Below w.heap.size w wf) := chain HB'.out HBf.out
          replace HE : Hid (BoxPd wf ge #[.int .i64 1, .int .i64 i, .int .i64 0, .int .i64 1, .int .i64 0, .string ⟨#[]⟩]) := HE'.out.later HBf.out
          replace HG : Hid (BoxPd wf gl #[.int .i64 2, .int .i64 i, .int .i64 0, .int .i64 1, .int .i64 0, .string ⟨#[]⟩]) := HG'.out.later HBf.out
          clear HBf HB' HE' HG' BW' HO'
          replace y0 := cell_later HB.out y0
          by_cases ht2 : t < 2
          · go_wp2_with fail
            refine (predwakes_any _).mono ?_
            rintro e wg ⟨rfl, hb⟩
            go_wp2
            go_ret
            exact ⟨rfl, chain HB.out hb⟩
          by_cases ht4 : 4 < t
          · go_wp2_with fail
            refine (predwakes_any _).mono ?_
            rintro e wg ⟨rfl, hb⟩
            go_wp2
            go_ret
            exact ⟨rfl, chain HB.out hb⟩
          · have K1 := HF1.out ⟨by omega, by omega⟩
            have K2 := HF2.out ⟨by omega, by omega⟩
            have HK1 : Hid _ := K1
            have HK2 : Hid _ := K2
            clear K1 K2 HF1 HF2
            obtain ⟨e0, e1, e2, e3, e4, e5⟩ := HE.out.cells
            go_wp2_with fail
            refine (pCheck_at 1 i 0 1 0 ⟨#[]⟩ (some ⟨b, off, none⟩) k cap ts _ HN.out n4 (HI.out.later HB.out)).mono ?_
            rintro e wg ⟨rfl, hb⟩
            rw [HK1.out]
            replace HB : Hid (Below w.heap.size w wg) := chain HB.out hb
            clear e0 e1 e2 e3 e4 e5
            obtain ⟨g0, g1, g2, g3, g4, g5⟩ := (HG.out.later hb).cells
            clear hb
            go_wp2_with fail
            refine (pCheck_at 2 i 0 1 0 ⟨#[]⟩ (some ⟨b, off, none⟩) k cap ts _ HN.out n4 (HI.out.later HB.out)).mono ?_
            rintro e wh ⟨rfl, hb⟩
            rw [HK2.out]
            replace HB : Hid (Below w.heap.size w wh) := chain HB.out hb
            clear hb
            go_wp2_with fail
            refine (predwakes_any _).mono ?_
            rintro e wi ⟨rfl, hb⟩
            go_wp2
            go_ret
            exact ⟨rfl, chain HB.out hb⟩

theorem pnulls_walk (a : Option Addr) (n cap : Nat) (zs : List Int) (x vk vi : Int) (vs : ByteArray) (w : World) (hz : IsInts .i64 w a n cap zs) :
    Calls Try.prog 5 #[.slice a n cap, .int .i64 x, .agg #[.int .i64 vk, .int .i64 vi, .string vs]] w fun e w' => e = .returned (.bool true) ∧ Below w.heap.size w w' := by
  rcases Nat.eq_zero_or_pos n with h0 | h0
  · exact pnulls_none a n cap zs x vk vi vs w hz h0
  by_cases h12 : 12 < n
  · exact pnulls_many a n cap zs x vk vi vs w hz h12
  cases hl : longT [vs] with
  | true => exact pnulls_long a n cap zs x vk vi vs w hz h0 (by omega) hl
  | false =>
    cases hq : okV ⟨vk, vi, vs⟩ with
    | false => exact pnulls_bad a n cap zs x vk vi vs w hz h0 (by omega) hl hq
    | true =>
      by_cases hk : vk = 1
      · subst hk
        exact pnulls_null a n cap zs x vi vs w hz h0 (by omega) hl hq
      · exact pnulls_other a n cap zs x vk vi vs w hz h0 (by omega) hl hq hk

end Go.Proofs.Ytmolklaammfbmaa
