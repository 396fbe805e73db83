/-
  Texts of the proof of OpKinds, one behind the other.
-/
import Derived.Test.YtjpcljmlkgjbgaaRows
import Derived.Test.YtjpcljmlkgjbgaaG23OpKinds
import Derived.Test.YtjpcljmlkgjbgaaG24OpKinds
import Derived.Test.YtjpcljmlkgjbgaaG16OpKinds
namespace Go.Proofs.Ytjpcljmlkgjbgaa
open Go.RowKit Go.Lib
set_option linter.unusedVariables false

/-- A value's box and a number stay. -/
theorem keepBox {W w w' : World} {b c p : Nat} {k0 i0 k1 : Int} {s0 : ByteArray}
    (hb : Below w.heap.size w w')
    (h : w.cell? ⟨b, 0, none⟩ = some (.int .i64 k0) ∧ w.cell? ⟨b, 1, none⟩ = some (.int .i64 i0) ∧ w.cell? ⟨b, 2, none⟩ = some (.string s0) ∧ w.cell? ⟨c, p, none⟩ = some (.int .i64 k1) ∧ Hid (Below W.heap.size W w)) :
    w'.cell? ⟨b, 0, none⟩ = some (.int .i64 k0) ∧ w'.cell? ⟨b, 1, none⟩ = some (.int .i64 i0) ∧ w'.cell? ⟨b, 2, none⟩ = some (.string s0) ∧ w'.cell? ⟨c, p, none⟩ = some (.int .i64 k1) ∧ Hid (Below W.heap.size W w') := by
  obtain ⟨h0, h1, h2, h3, h9⟩ := h
  exact ⟨cell_later hb h0, cell_later hb h1, cell_later hb h2, cell_later hb h3, chain h9.out hb⟩

set_option maxHeartbeats 1000000 in
theorem rowFitsC : RowFitsC := by
  intro a b n m cap dap l ts w hn hm hl hr ha hb
  by_cases hnm : n = m
  · subst hnm
    have HN : Hid (l.length = n) := hn
    have HM : Hid (ts.length = n) := hm
    clear hn hm
    go_enter Try.func115, Try.ntmps115
    go_wp2
    go_loopw [14] (fun i wr => ∃ k : Nat, k ≤ n ∧ i = .int .i64 k ∧ Hid (fitsR l ts = fitsR (l.drop k) (ts.drop k)) ∧ Hid (Below w.heap.size w wr)) (fun i _ => n - (RowKit.intOf i).toNat)
    case atStart => exact ⟨0, Nat.zero_le _, rfl, rfl, Below.refl _ _⟩
    case round =>
      obtain ⟨k, hk, rfl, hT, hB⟩ := hrel
      by_cases hlt : k < n
      · have hkl : k < l.length := by rw [HN.out]; exact hlt
        have hkr : k < ts.length := by rw [HM.out]; exact hlt
        obtain ⟨b1, o1, rfl, hc1⟩ := ha (by omega)
        obtain ⟨b2, o2, rfl, hc2⟩ := hb (by omega)
        obtain ⟨x0, x1, x2⟩ := hc1 k hkl
        have y0 := cell_later hB.out (hc2 k hkr)
        replace x0 := cell_later hB.out x0
        replace x1 := cell_later hB.out x1
        replace x2 := cell_later hB.out x2
        have HQ : Hid (fitsR l ts = (fitsV l[k] ts[k] && fitsR (l.drop (k + 1)) (ts.drop (k + 1)))) := by
          rw [← fitsR_step hkl hkr]; exact hT
        clear hc1 hc2 ha hb
        generalize l[k] = x at *
        generalize ts[k] = ty at *
        clear hkl hkr
        obtain ⟨k0, i0, s0⟩ := x
        simp only at x0 x1 x2
        obtain ⟨c0, c1, c2, _⟩ := (Box.made (w := wr) (g := wr.heap.size) (k := k0) (i := i0) (s := s0) rfl).cells
        have HS := And.intro c0 (And.intro c1 (And.intro c2 (And.intro (cell_later (alloc_below wr (.cells #[.int .i64 k0, .int .i64 i0, .string s0] 102)) y0) (show Hid (Below w.heap.size w (wr.alloc (.cells #[.int .i64 k0, .int .i64 i0, .string s0] 102))) from chain hB.out (alloc_below _ _)))))
        clear c0 c1 c2
        have C := valueFits k0 i0 s0 ty
        have b1' : (0 : Int) ≤ (k : Int) := by omega
        have b2' : (k : Int) < (n : Int) := by omega
        cases hf : fitsV ⟨k0, i0, s0⟩ ty with
        | true =>
          rw [hf] at C HQ
          rw [Bool.true_and] at HQ
          clear hT hB hf
          go_wp2
          go_region_held3 (fun w' => w'.cell? ⟨wr.heap.size, 0, none⟩ = some (.int .i64 k0) ∧ w'.cell? ⟨wr.heap.size, 1, none⟩ = some (.int .i64 i0) ∧ w'.cell? ⟨wr.heap.size, 2, none⟩ = some (.string s0) ∧ w'.cell? ⟨b2, o2 + k, none⟩ = some (.int .i64 ty) ∧ Hid (Below w.heap.size w w')) (first | exact keepBox (by assumption) (by assumption) | exact keepBox (Below.refl _ _).drew (by assumption)) (first | (go_at_call 111; refine (C _).mono ?_; rintro e w' ⟨rfl, hb⟩))
          have HS1 : w'.cell? ⟨wr.heap.size, 0, none⟩ = some (.int .i64 k0) ∧ w'.cell? ⟨wr.heap.size, 1, none⟩ = some (.int .i64 i0) ∧ w'.cell? ⟨wr.heap.size, 2, none⟩ = some (.string s0) ∧ w'.cell? ⟨b2, o2 + k, none⟩ = some (.int .i64 ty) ∧ Hid (Below w.heap.size w w') := by assumption
          obtain ⟨_, _, _, _, HB1⟩ := HS1
          go_wp2
          go_roundw
          case rel => exact ⟨k + 1, by omega, by go_num, HQ, HB1⟩
          case measure => simp [RowKit.intOf]; omega
        | false =>
          rw [hf] at C HQ
          rw [Bool.false_and] at HQ
          clear hT hB hf
          go_wp2
          go_region_held3 (fun w' => w'.cell? ⟨wr.heap.size, 0, none⟩ = some (.int .i64 k0) ∧ w'.cell? ⟨wr.heap.size, 1, none⟩ = some (.int .i64 i0) ∧ w'.cell? ⟨wr.heap.size, 2, none⟩ = some (.string s0) ∧ w'.cell? ⟨b2, o2 + k, none⟩ = some (.int .i64 ty) ∧ Hid (Below w.heap.size w w')) (first | exact keepBox (by assumption) (by assumption) | exact keepBox (Below.refl _ _).drew (by assumption)) (first | (go_at_call 111; refine (C _).mono ?_; rintro e w' ⟨rfl, hb⟩))
          have HS1 : w'.cell? ⟨wr.heap.size, 0, none⟩ = some (.int .i64 k0) ∧ w'.cell? ⟨wr.heap.size, 1, none⟩ = some (.int .i64 i0) ∧ w'.cell? ⟨wr.heap.size, 2, none⟩ = some (.string s0) ∧ w'.cell? ⟨b2, o2 + k, none⟩ = some (.int .i64 ty) ∧ Hid (Below w.heap.size w w') := by assumption
          obtain ⟨_, _, _, _, HB1⟩ := HS1
          go_wp2
          go_ret
          exact ⟨by rw [HQ.out]; rfl, HB1.out⟩
      · have HE : Hid (fitsR l ts = true) := by
          have h1 := hT.out
          rw [List.drop_of_length_le (by rw [HN.out]; omega), List.drop_of_length_le (by rw [HM.out]; omega)] at h1
          exact h1
        go_wp2
        go_ret
        exact ⟨by rw [HE.out]; rfl, hB.out⟩
  · have HE : Hid (fitsR l ts = false) := by
      show _ = _
      cases h : fitsR l ts with
      | false => rfl
      | true => exact absurd (fitsR_len h) (by rw [hn, hm]; exact hnm)
    have hbq : ((n : Int) != (m : Int)) = true := by simp; omega
    clear hn hm hnm
    go_enter Try.func115, Try.ntmps115
    go_wp2
    go_ret
    exact ⟨by rw [HE.out]; rfl, Below.refl _ _⟩

theorem set_mid {p q : List PV} {k m : Nat} {v : PV} (hp : p.length = k) (hk : k < m) : (p ++ List.replicate (m - k) noV).set k v = (p ++ [v]) ++ List.replicate (m - (k + 1)) noV := by
  subst hp
  rw [List.set_append_right _ _ (Nat.le_refl _), Nat.sub_self, show m - p.length = (m - (p.length + 1)) + 1 from by omega, List.replicate_succ, List.set_cons_zero]
  simp

theorem Row.own {w : World} {g B n : Nat} {l : List UInt8} (h : Row w g l) (hB : B ≤ g) (hn : l.length = n) (hm : n ≤ 1048576) : Own w B (.slice (some ⟨g, 0, none⟩) n n) l := by
  subst hn
  refine ⟨by simp [byteCells_length], .inr ⟨g, l.length, (byteCells l).toArray, rfl, hB, h, Nat.le_refl _, by unfold maxLen; omega, by simp [byteCells_length], ?_⟩⟩
  rw [List.take_of_length_le (by simp [byteCells_length])]

theorem valueBytes_ok (k i : Int) (s : ByteArray) (w : World) (h : okV ⟨k, i, s⟩ = true) :
    Calls Try.prog 63 #[.agg #[.int .i64 k, .int .i64 i, .string s]] w fun e w' => GivesB w w' e (bytesV ⟨k, i, s⟩, 0) := by
  have C := valueBytes k i s w
  have e : putV ⟨k, i, s⟩ = (bytesV ⟨k, i, s⟩, 0) := by simp [putV, h]
  rw [e] at C
  exact C

theorem rowCheck_of {c : Int} (a : Option Addr) (n cap : Nat) (vs : List PV) (w : World) (hn : vs.length = n) (h : n ≤ 65536) (hr : RdV w a vs) (hc : chkR vs = c) :
    Calls Try.prog 61 #[.slice a n cap] w fun e w' => e = .returned (.int .i64 c) ∧ Below w.heap.size w w' := by
  subst hc
  exact rowCheck a n cap vs w hn h hr

set_option maxHeartbeats 1000000 in
theorem rowBytes_no (a : Option Addr) (n cap : Nat) (vs : List PV) (w : World) (hn : vs.length = n) (hl : n ≤ 65536) (hr : RdV w a vs) (c : Int) (hc : chkR vs = c) (h0 : c ≠ 0) :
    Calls Try.prog 21 #[.slice a n cap] w fun e w' => GivesB w w' e ([], c) := by
  have C := rowCheck_of a n cap vs w hn hl hr hc
  have hne : (c != 0) = true := by simp [h0]
  clear hn hc
  go_enter Try.func21, Try.ntmps21
  go_wp2_with fail
  refine C.mono ?_
  rintro e w1 ⟨rfl, hb⟩
  go_wp2
  go_ret2
  exact ⟨_, _, _, rfl, rfl, by omega, Nat.le_refl _, Rd.nil _ _, fun _ => ⟨rfl, rfl⟩, hb⟩

set_option maxHeartbeats 1000000 in
theorem rowBytes_ok (a : Option Addr) (n cap : Nat) (vs : List PV) (w : World) (hn : vs.length = n) (h12 : n ≤ 12) (hok : vs.all okV = true) (hr : RdV w a vs) :
    Calls Try.prog 21 #[.slice a n cap] w fun e w' => GivesB w w' e (bytesR vs, 0) := by
  have C := rowCheck_of a n cap vs w hn (by omega) hr (chkR_ok.2 ⟨by omega, hok⟩)
  have HN : Hid (vs.length = n) := hn
  have HK : Hid (vs.all okV = true) := hok
  clear hn hok
  go_enter Try.func21, Try.ntmps21
  go_wp2_with fail
  refine C.mono ?_
  rintro e w1 ⟨rfl, hb⟩
  go_wp2_with fail
  refine (put_len none 0 0 n 1 [] _ rfl (by omega) (by omega) (by omega) (by omega) (Rd.nil _ _)).mono ?_
  rintro e w2 ⟨g, rfl, hg, hrow, hb2⟩
  have hbe : ([] ++ be n 1 : List UInt8) = [UInt8.ofNat vs.length] := by
    rw [HN.out]
    simp [be, Nat.mod_eq_of_lt (show n < 256 by omega)]
  rw [hbe] at hrow
  have HB2 : Hid (Below w.heap.size w w2) := chain hb hb2
  have HO : Hid (Own w2 w.heap.size (.slice (some ⟨g, 0, none⟩) 1 1) [UInt8.ofNat vs.length]) := hrow.own (Nat.le_trans hb.size hg) rfl (by omega)
  clear hbe hrow hb hb2 C hg
  go_wp2
  go_loopw [5, 27] (fun o i wr => ∃ (k m cp : Nat) (aw : Option Addr), k ≤ n ∧ i = .int .i64 k ∧ o = .slice aw m cp ∧ m ≤ cp ∧ m ≤ 1 + 26 * k ∧ Hid ((UInt8.ofNat vs.length :: bytesVs (vs.take k)).length = m) ∧ Hid (Own wr w.heap.size (.slice aw m cp) (UInt8.ofNat vs.length :: bytesVs (vs.take k))) ∧ Hid (Below w.heap.size w wr)) (fun _ i _ => n - (RowKit.intOf i).toNat)
  case atStart => exact ⟨0, 1, 1, _, Nat.zero_le _, rfl, rfl, Nat.le_refl _, by omega, rfl, HO, HB2⟩
  case round =>
    clear HO HB2
    obtain ⟨k, m, cp, aw, hk, rfl, rfl, hcp, hm, hL, hO, hB⟩ := hrel
    by_cases hlt : k < n
    · have hkl : k < vs.length := by rw [HN.out]; exact hlt
      obtain ⟨b, off, rfl, hc⟩ := hr (by omega)
      obtain ⟨x0, x1, x2⟩ := hc k hkl
      replace x0 := cell_later hB.out x0
      replace x1 := cell_later hB.out x1
      replace x2 := cell_later hB.out x2
      have HT : Hid (bytesVs (vs.take (k + 1)) = bytesVs (vs.take k) ++ bytesV vs[k]) := bytesVs_take hkl
      have hokx : okV vs[k] = true := by have h := HK.out; rw [List.all_eq_true] at h; exact h _ (List.getElem_mem hkl)
      clear hc hr
      generalize vs[k] = x at *
      clear hkl
      obtain ⟨k0, i0, s0⟩ := x
      simp only at x0 x1 x2
      have hsm := bytesV_small hokx
      go_wp2_with fail
      refine (valueBytes_ok k0 i0 s0 _ hokx).mono ?_
      rintro e w3 ⟨a2, n2, cap2, rfl, hn2, hm2, hc2, hr2, hnl2, hb2'⟩
      simp only at hn2 hr2 hnl2
      have hb2 : Below wr.heap.size wr w3 := chain (alloc_below _ _) hb2'
      clear hb2'
      obtain ⟨a', cap', w', hrun, hc', ho', hr', hn', _, hb'⟩ := run_append_form (t := 22) (ty := 22) (cap := cap2) Try.underlying22 Try.info5 (hO.out.later hb2) (n := m) hL.out hn2 hr2 hnl2 (by omega) (by omega) (Nat.le_trans hB.out.size hb2.size)
      rw [List.cons_append, ← HT.out] at ho' hr' hn'
      have HO' : Hid _ := ho'
      have HB' : Hid (Below w.heap.size w w') := (hB.out.trans (hb2.mono hB.out.size)).trans hb'
      have HL' : Hid ((UInt8.ofNat vs.length :: bytesVs (vs.take (k + 1))).length = m + n2) := by
        have h1 := hL.out
        show _ = _
        rw [HT.out, ← hn2, ← h1]
        simp
        omega
      have hn26 : n2 ≤ 26 := by omega
      clear hO hL hB hr2 hnl2 hb2 ho' hr' hn' hb' hn2 hsm
      go_wp2_with (at_builtin; refine wpList_append_run rfl (.tmp 39) (.tmp 40) 22 22 rfl _ _ _ _ rfl rfl hrun ?_)
      go_roundw
      case rel => exact ⟨k + 1, m + n2, cap', a', by omega, by go_num, rfl, hc', by omega, HL', HO', HB'⟩
      case measure => simp [RowKit.intOf]; omega
    · obtain rfl : k = n := by omega
      have hT2 : vs.take k = vs := List.take_of_length_le (by rw [HN.out]; omega)
      rw [hT2] at hL hO
      go_wp2
      go_ret2
      obtain ⟨a5, cap5, e5, h1, h2, h3⟩ := hO.out.form
      simp only [Value.slice.injEq] at e5
      obtain ⟨rfl, e6, rfl⟩ := e5
      exact ⟨_, _, _, rfl, hL.out, by omega, hcp, h2, h3, hB.out⟩

theorem rowBytesC : RowBytesC := by
  intro a n cap vs w hn hl hr
  by_cases h : chkR vs = 0
  · rw [putR_ok h]
    obtain ⟨h12, hok⟩ := chkR_ok.1 h
    exact rowBytes_ok a n cap vs w hn (by omega) hok hr
  · rw [putR_no h]
    exact rowBytes_no a n cap vs w hn hl hr _ rfl h

/-- Within the bytes what can't be read is told by one number. -/
theorem readV_bad {l : List UInt8} {q : Int} (h0 : 0 ≤ q) (h1 : q ≤ l.length) (h : (readV l q).2.2 ≠ 0) : readV l q = (noV, 0, 3) := by
  unfold readV at h ⊢
  rw [if_neg (by omega)] at h ⊢
  by_cases h2 : q = (l.length : Int)
  · rw [if_pos h2]
  · rw [if_neg h2] at h ⊢
    unfold sealV at h ⊢
    by_cases h3 : (rawV l q.toNat).2.2 ≠ 0 ∨ okV (rawV l q.toNat).1 = false
    · rw [if_pos h3]
    · rw [if_neg h3] at h
      exact absurd rfl h

/-- .. and what is read leaves the place within them. -/
theorem readV_next {l : List UInt8} {q n : Int} {v : PV} (h : readV l q = (v, n, 0)) : 0 ≤ n ∧ n ≤ l.length := by
  obtain ⟨p, rfl, _, ⟨r, hd⟩, rfl⟩ := readV_inv h
  have := congrArg List.length hd
  simp only [List.length_drop, List.length_append] at this
  have hp : p ≤ l.length ∨ l.length < p := by omega
  have hb : 0 < (bytesV v).length := by simp [bytesV]
  omega

set_option maxHeartbeats 400000 in
theorem rowRead_err (a : Option Addr) (len cap : Nat) (p : Int) (l : List UInt8) (w : World) (hlen : l.length = len) (hl : len ≤ 1048576) (hcap : len ≤ cap) (hr : Rd w a l) (r3 : Int) (hR : rGet l p 1 = (0, 0, r3)) (h3 : r3 ≠ 0) :
    Calls Try.prog 29 #[.slice a len cap, .int .i64 p] w fun e w' => TellsR w w' e ([], 0, r3) := by
  have C := get_any a len cap p 1 l w hlen hl hcap hr
  rw [hR] at C
  clear hlen hR
  have hne : (r3 != 0) = true := by simp [h3]
  go_enter Try.func29, Try.ntmps29
  go_wp2_with fail
  refine C.mono ?_
  rintro e w1 ⟨rfl, rfl⟩
  go_wp2
  go_ret3
  exact TellsR.of_no rfl (Below.refl _ _)

set_option maxHeartbeats 400000 in
theorem rowRead_many (a : Option Addr) (len cap p k : Nat) (l : List UInt8) (w : World) (hlen : l.length = len) (hl : len ≤ 1048576) (hcap : len ≤ cap) (hr : Rd w a l) (hR : rGet l p 1 = ((k : Int), (p : Int) + 1, 0)) (h12 : 12 < k) :
    Calls Try.prog 29 #[.slice a len cap, .int .i64 p] w fun e w' => TellsR w w' e ([], 0, 3) := by
  have C := get_any a len cap p 1 l w hlen hl hcap hr
  rw [hR] at C
  clear hlen hR
  go_enter Try.func29, Try.ntmps29
  go_wp2_with fail
  refine C.mono ?_
  rintro e w1 ⟨rfl, rfl⟩
  go_wp2
  go_ret3
  exact TellsR.of_no rfl (Below.refl _ _)

set_option maxRecDepth 100000 in
set_option maxHeartbeats 1000000 in
theorem rowRead_some (a : Option Addr) (len cap p n : Nat) (l : List UInt8) (w : World) (hlen : l.length = len) (hl : len ≤ 1048576) (hcap : len ≤ cap) (hr : Rd w a l) (hp : p < len) (hR : rGet l p 1 = ((n : Int), (p : Int) + 1, 0)) (h12 : n ≤ 12) :
    Calls Try.prog 29 #[.slice a len cap, .int .i64 p] w fun e w' => TellsR w w' e (match readVs n l ((p : Int) + 1) with | none => ([], 0, 3) | some r => (r.1, r.2, 0)) := by
  have C := get_any a len cap p 1 l w hlen hl hcap hr
  rw [hR] at C
  have HL : Hid (l.length = len) := hlen
  have HR : Hid (Rd w a l) := hr
  generalize hG : (match readVs n l ((p : Int) + 1) with | none => (([] : List PV), (0 : Int), (3 : Int)) | some r => (r.1, r.2, 0)) = G
  have HG : Hid _ := hG
  clear hlen hr hG hR
  obtain ⟨w0, hmake, hO0, hB0⟩ := run_make_vals w n (by omega)
  have HO0 : Hid (OwnV w0 w.heap.size (.slice (some ⟨w.heap.size, 0, none⟩) n n) ([] ++ List.replicate (n - 0) noV)) := hO0
  have HB0 : Hid _ := hB0
  clear hO0 hB0
  go_enter Try.func29, Try.ntmps29
  go_wp2_with fail
  refine C.mono ?_
  rintro e w1 ⟨rfl, hw1⟩
  subst w1
  clear C
  go_wp2
  go_loopw [4, 5, 25] (fun o at_ i wr => ∃ (k : Nat) (q : Int) (done : List PV), k ≤ n ∧ i = .int .i64 k ∧ o = .slice (some ⟨w.heap.size, 0, none⟩) n n ∧ at_ = .int .i64 q ∧ Hid (0 ≤ q ∧ q ≤ (len : Int)) ∧ Hid (done.length = k) ∧ Hid (readVs n l ((p : Int) + 1) = (readVs (n - k) l q).map fun x => (done ++ x.1, x.2)) ∧ Hid (OwnV wr w.heap.size (.slice (some ⟨w.heap.size, 0, none⟩) n n) (done ++ List.replicate (n - k) noV)) ∧ Hid (Below w.heap.size w wr)) (fun _ _ i _ => n - (RowKit.intOf i).toNat)
  case atStart => exact ⟨0, _, [], Nat.zero_le _, rfl, rfl, rfl, ⟨by omega, by omega⟩, rfl, by simp [Hid], HO0, HB0⟩
  case round =>
    clear hmake HO0 HB0
    obtain ⟨k, q, done, hk, rfl, rfl, rfl, hq, hD, hT, hO, hB⟩ := hrel
    by_cases hlt : k < n
    · generalize hX : readV l q = r
      have HX : Hid (readV l q = r) := hX
      clear hX
      obtain ⟨⟨k0, i0, s0⟩, q', e⟩ := r
      have C := valueRead a len cap q l wr HL.out hl hcap (HR.out.later hB.out)
      rw [HX.out] at C
      unfold TellsV at C
      simp only at C
      by_cases he : e = 0
      · subst he
        have HT' : Hid (readVs n l ((p : Int) + 1) = (readVs (n - (k + 1)) l q').map fun x => ((done ++ [⟨k0, i0, s0⟩]) ++ x.1, x.2)) := readVs_step hlt HX.out rfl hT.out
        have HQ' : Hid (0 ≤ q' ∧ q' ≤ (len : Int)) := by have h := readV_next HX.out; rw [HL.out] at h; exact h
        go_wp2_with fail
        refine C.mono ?_
        rintro e w2 ⟨rfl, hb2⟩
        have hO2 := hO.out.later hb2
        have hLn : (done ++ List.replicate (n - k) noV).length = n := by simp [hD.out]; omega
        obtain ⟨c0, c1, c2, f0, f1, f2⟩ := hO2.at_ hLn hlt
        obtain ⟨hO', hB'⟩ := hO2.put hLn k ⟨k0, i0, s0⟩
        rw [set_mid (q := []) hD.out hlt] at hO'
        simp only at hO' hB'
        generalize (done ++ List.replicate (n - k) noV)[k] = y at *
        have HO' : Hid _ := hO'
        have HB' : Hid _ := (chain hB.out hb2).trans hB'
        have HD' : Hid ((done ++ [PV.mk k0 i0 s0]).length = k + 1) := by show _ = _; simp [hD.out]
        clear hO hB hO' hB' hb2 hD hT HX hO2 hLn C
        go_wp2
        go_roundw
        case rel => exact ⟨k + 1, q', _, by omega, by go_num, rfl, rfl, HQ', HD', HT', HO', HB'⟩
        case measure => simp [RowKit.intOf]; omega
      · have HT' : Hid (readVs n l ((p : Int) + 1) = none) := readVs_fail hlt HX.out he hT.out
        have hbad := readV_bad (l := l) hq.out.1 (by rw [HL.out]; exact hq.out.2) (by rw [HX.out]; exact he)
        rw [HX.out] at hbad
        simp only [noV, Prod.mk.injEq, PV.mk.injEq] at hbad
        obtain ⟨⟨rfl, rfl, rfl⟩, rfl, rfl⟩ := hbad
        go_wp2_with fail
        refine C.mono ?_
        rintro e' w2 ⟨rfl, hb2⟩
        have hO2 := hO.out.later hb2
        have hLn : (done ++ List.replicate (n - k) noV).length = n := by simp [hD.out]; omega
        obtain ⟨c0, c1, c2, f0, f1, f2⟩ := hO2.at_ hLn hlt
        obtain ⟨hO', hB'⟩ := hO2.put hLn k noV
        simp only [noV] at hB'
        generalize (done ++ List.replicate (n - k) noV)[k] = y at *
        have HB' : Hid _ := (chain hB.out hb2).trans hB'
        clear hO hB hO' hB' hb2 hD hT HX hO2 hLn C
        go_wp2
        go_ret3
        have eG : G = ([], 0, 3) := by rw [← HG.out, HT'.out]
        rw [eG]
        exact TellsR.of_no rfl HB'.out
    · obtain rfl : k = n := by omega
      rw [Nat.sub_self, List.replicate_zero, List.append_nil] at hO
      go_wp2
      go_ret3
      have eG : G = (done, q, 0) := by
        rw [← HG.out, hT.out, Nat.sub_self]
        simp [readVs]
      rw [eG]
      obtain ⟨a5, cap5, e5, _, hr5, hn5⟩ := hO.out.form
      simp only [Value.slice.injEq] at e5
      obtain ⟨rfl, _, rfl⟩ := e5
      exact ⟨_, _, _, rfl, hD.out, by omega, Nat.le_refl _, hO.out, hr5, hn5, hB.out⟩

theorem rowRead : RowRead := by
  intro a len cap p l w hlen hl hcap hr
  by_cases h2 : p < 0 ∨ (len : Int) < p
  · have e : readR l p = ([], 0, 1) := by unfold readR; rw [if_pos (by omega)]
    rw [e]
    exact rowRead_err a len cap p l w hlen hl hcap hr 1 (by unfold rGet; rw [if_pos (by omega)]) (by decide)
  by_cases h3 : p = (len : Int)
  · have e : readR l p = ([], 0, 3) := by unfold readR; rw [if_neg (by omega), if_pos (by omega)]
    rw [e]
    exact rowRead_err a len cap p l w hlen hl hcap hr 3 (by unfold rGet; rw [if_neg (by omega), if_pos (by omega)]) (by decide)
  obtain ⟨q, rfl⟩ : ∃ q : Nat, p = q := ⟨p.toNat, by omega⟩
  have hG := rGet_one (l := l) (q := q) (by omega)
  unfold readR
  rw [if_neg (by omega), if_neg (by omega), show ((q : Int).toNat) = q from by omega]
  generalize (l[q]?.getD 0).toNat = k at *
  by_cases h12 : 12 < k
  · rw [if_pos h12]
    exact rowRead_many a len cap q k l w hlen hl hcap hr hG h12
  · rw [if_neg h12]
    exact rowRead_some a len cap q k l w hlen hl hcap hr (by omega) hG (by omega)

end Go.Proofs.Ytjpcljmlkgjbgaa
