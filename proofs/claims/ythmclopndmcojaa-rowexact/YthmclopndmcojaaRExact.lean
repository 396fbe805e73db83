/-
  RowExact's walk: what the law answers, whatever its rows, types and places.
-/
import Derived.Test.YthmclopndmcojaaRows
import Derived.Test.YthmclopndmcojaaRSizes
namespace Go.Proofs.Ythmclopndmcojaa
open Go.RowKit Go.Lib
set_option linter.unusedVariables false

/-- What stays while the law goes on. -/
structure Kn (a b t c a1 t1 c1 : Option Addr) (l r : List PV) (ts cs : List Int) (w : World) : Prop where
  A : RdV w a l
  B : RdV w b r
  T : RdI .i64 w t ts
  C : RdI .i64 w c cs
  A1 : RdV w a1 l
  T1 : RdI .i64 w t1 ts
  C1 : RdI .i64 w c1 cs

theorem Kn.later {a b t c a1 t1 c1 : Option Addr} {l r : List PV} {ts cs : List Int} {w w' : World} (h : Kn a b t c a1 t1 c1 l r ts cs w) (hb : Below w.heap.size w w') : Kn a b t c a1 t1 c1 l r ts cs w' :=
  ⟨h.A.later hb, h.B.later hb, h.T.later hb, h.C.later hb, h.A1.later hb, h.T1.later hb, h.C1.later hb⟩

set_option maxRecDepth 100000 in
set_option maxHeartbeats 4000000 in
theorem rexact_some (R : RowApi) (a b t c : Option Addr) (n m o p cap dap eap fap : Nat) (l r : List PV) (ts cs : List Int) (w : World) (hn : l.length = n) (hm : r.length = m) (ho : ts.length = o) (hp : cs.length = p) (h1 : n ≤ 40) (h2 : m ≤ 40) (h3 : o ≤ 40) (h4 : p ≤ 40)
    (ha : RdV w a l) (hb : RdV w b r) (ht : RdI .i64 w t ts) (hc : RdI .i64 w c cs) (na : a = none → l = [] ∧ cap = 0) (nt : t = none → ts = [] ∧ eap = 0) (nc : c = none → cs = [] ∧ fap = 0)
    (C : Calls Try.prog 9 #[.slice a n cap] w fun e w' => e = .returned (.bool false) ∧ w' = w) (D : Calls Try.prog 9 #[.slice b m dap] w fun e w' => e = .returned (.bool false) ∧ w' = w) :
    Calls Try.prog 3 #[.slice a n cap, .slice b m dap, .slice t o eap, .slice c p fap] w fun e w' => e = .returned (.bool true) ∧ Below w.heap.size w w' := by
  have HN : Hid (l.length = n) := hn
  have HM : Hid (r.length = m) := hm
  have HO : Hid (ts.length = o) := ho
  have HP : Hid (cs.length = p) := hp
  have HA : Hid (RdV w a l) := ha
  have HB : Hid (RdV w b r) := hb
  have HT : Hid (RdI .i64 w t ts) := ht
  have HC : Hid (RdI .i64 w c cs) := hc
  have NA : Hid (a = none → l = [] ∧ cap = 0) := na
  have NT : Hid (t = none → ts = [] ∧ eap = 0) := nt
  have NC : Hid (c = none → cs = [] ∧ fap = 0) := nc
  clear hn hm ho hp ha hb ht hc na nt nc
  go_enter Try.func3, Try.ntmps3
  go_wp2_with fail
  refine C.mono ?_
  rintro e w1 ⟨rfl, hw1⟩
  subst w1
  go_wp2_with fail
  refine D.mono ?_
  rintro e w1 ⟨rfl, hw1⟩
  subst w1
  go_wp2_with fail
  refine (twinRow_any a n cap l _ HN.out (by omega) NA.out HA.out).mono ?_
  rintro e w1 ⟨a1, cap1, rfl, hc1, _, _, hr1, hb1⟩
  have X1 : Hid (RdV w1 a1 l) := hr1
  have HX : Hid (Below w.heap.size w w1) := hb1
  clear hr1 hb1 C D
  go_wp2_with fail
  refine (twinInts_any t o eap ts _ HO.out (by omega) NT.out (HT.out.later HX.out)).mono ?_
  rintro e w2 ⟨t1, cap2, rfl, hc2, _, _, hr2, hb2⟩
  have X2 : Hid (RdI .i64 w2 t1 ts) := hr2
  replace X1 : Hid (RdV w2 a1 l) := X1.out.later hb2
  replace HX : Hid (Below w.heap.size w w2) := chain HX.out hb2
  clear hr2 hb2
  go_wp2_with fail
  refine (twinInts_any c p fap cs _ HP.out (by omega) NC.out (HC.out.later HX.out)).mono ?_
  rintro e w3 ⟨c1, cap3, rfl, hc3, _, _, hr3, hb3⟩
  have K : Hid (Kn a b t c a1 t1 c1 l r ts cs w3) := ⟨HA.out.later (chain HX.out hb3), HB.out.later (chain HX.out hb3), HT.out.later (chain HX.out hb3), HC.out.later (chain HX.out hb3), X1.out.later hb3, X2.out.later hb3, hr3⟩
  replace HX : Hid (Below w.heap.size w w3) := chain HX.out hb3
  clear hr3 hb3 X1 X2 HA HB HT HC NA NT NC
  go_wp2_with fail
  refine (rRow_any a n cap l _ HN.out (by omega) K.out.A).mono ?_
  rintro e w4 ⟨rfl, hb⟩
  replace K : Hid (Kn a b t c a1 t1 c1 l r ts cs w4) := K.out.later hb
  replace HX : Hid (Below w.heap.size w w4) := chain HX.out hb
  clear hb
  go_wp2_with fail
  refine (R.bytes a1 n cap1 l _ HN.out (by omega) K.out.A1).mono ?_
  rintro e w5 ⟨ax, nx, cx, rfl, hnx, hsx, hcx, hrx, hnlx, hb⟩
  replace K : Hid (Kn a b t c a1 t1 c1 l r ts cs w5) := K.out.later hb
  replace HX : Hid (Below w.heap.size w w5) := chain HX.out hb
  have HNX : Hid ((putR l).1.length = nx) := hnx
  have RX : Hid (Rd w5 ax (putR l).1) := hrx
  clear hb hnx hrx hnlx
  go_wp2_with fail
  refine (R.pick a1 c1 n p cap1 cap3 l cs _ HN.out HP.out (by omega) (by omega) K.out.A1 K.out.C1).mono ?_
  rintro e w6 ⟨ap, np, cp, rfl, hnp, hsp, hcp, hop, hrp, hnlp, hb⟩
  have HNP : Hid ((pickR l cs).1.length = np) := hnp
  have OP : Hid (OwnV w6 w5.heap.size (.slice ap np cp) (pickR l cs).1) := hop
  have RP : Hid (RdV w6 ap (pickR l cs).1) := hrp
  have B5 : Hid (Below w5.heap.size w5 w6) := hb
  clear hb hnp hop hrp hnlp
  go_wp2_with fail
  refine (rPick_out a c n p cap fap l cs _ HN.out HP.out (by omega) (by omega) (K.out.later B5.out).A (K.out.later B5.out).C).mono ?_
  rintro e w7 ⟨aq, nq, cq, rfl, hnq, hsq, hcq, hoq, hrq, hnlq, hb⟩
  have HNQ : Hid ((pickR l cs).1.length = nq) := hnq
  have RQ : Hid (RdV w7 aq (pickR l cs).1) := hrq
  replace OP : Hid (OwnV w7 w5.heap.size (.slice ap np cp) (pickR l cs).1) := OP.out.later hb
  replace RP : Hid (RdV w7 ap (pickR l cs).1) := RP.out.later hb
  replace B5 : Hid (Below w5.heap.size w5 w7) := chain B5.out hb
  clear hb hnq hoq hrq hnlq
  generalize hpk : pickR l cs = PK at *
  clear hpk
  obtain ⟨pk, pe⟩ := PK
  simp only at HNP OP RP HNQ RQ
  go_wp2_with fail
  refine (R.check a1 n cap1 l _ HN.out (by omega) (K.out.later B5.out).A1).mono ?_
  rintro e w8 ⟨rfl, hb⟩
  replace OP : Hid (OwnV w8 w5.heap.size (.slice ap np cp) pk) := OP.out.later hb
  replace RP : Hid (RdV w8 ap pk) := RP.out.later hb
  replace RQ : Hid (RdV w8 aq pk) := RQ.out.later hb
  replace B5 : Hid (Below w5.heap.size w5 w8) := chain B5.out hb
  clear hb
  go_wp2_with fail
  refine (R.compare a1 b n m cap1 dap l r _ HN.out HM.out (by omega) (by omega) (K.out.later B5.out).A1 (K.out.later B5.out).B).mono ?_
  rintro e w9 ⟨rfl, hb⟩
  replace OP : Hid (OwnV w9 w5.heap.size (.slice ap np cp) pk) := OP.out.later hb
  replace RP : Hid (RdV w9 ap pk) := RP.out.later hb
  replace RQ : Hid (RdV w9 aq pk) := RQ.out.later hb
  replace B5 : Hid (Below w5.heap.size w5 w9) := chain B5.out hb
  clear hb
  go_wp2_with fail
  refine (rCompareRows_any a b n m cap dap l r _ HN.out HM.out (by omega) (by omega) (K.out.later B5.out).A (K.out.later B5.out).B).mono ?_
  rintro e w10 ⟨rfl, hb⟩
  replace OP : Hid (OwnV w10 w5.heap.size (.slice ap np cp) pk) := OP.out.later hb
  replace RP : Hid (RdV w10 ap pk) := RP.out.later hb
  replace RQ : Hid (RdV w10 aq pk) := RQ.out.later hb
  replace B5 : Hid (Below w5.heap.size w5 w10) := chain B5.out hb
  clear hb
  generalize cmpR l r = CR
  go_wp2_with fail
  refine (R.fits a1 t1 n o cap1 cap2 l ts _ HN.out HO.out (by omega) (by omega) (K.out.later B5.out).A1 (K.out.later B5.out).T1).mono ?_
  rintro e w11 ⟨rfl, hb⟩
  replace OP : Hid (OwnV w11 w5.heap.size (.slice ap np cp) pk) := OP.out.later hb
  replace RP : Hid (RdV w11 ap pk) := RP.out.later hb
  replace RQ : Hid (RdV w11 aq pk) := RQ.out.later hb
  replace B5 : Hid (Below w5.heap.size w5 w11) := chain B5.out hb
  clear hb
  go_wp2_with fail
  refine (rRowFits_any a t n o cap eap l ts _ HN.out HO.out (by omega) (by omega) (K.out.later B5.out).A (K.out.later B5.out).T).mono ?_
  rintro e w12 ⟨rfl, hb⟩
  replace OP : Hid (OwnV w12 w5.heap.size (.slice ap np cp) pk) := OP.out.later hb
  replace RP : Hid (RdV w12 ap pk) := RP.out.later hb
  replace RQ : Hid (RdV w12 aq pk) := RQ.out.later hb
  replace B5 : Hid (Below w5.heap.size w5 w12) := chain B5.out hb
  clear hb
  generalize fitsR l ts = FR
  go_wp2_with fail
  refine (keepRow_any ap aq np nq cp cq pk pk _ HNP.out HNQ.out hsp hsq RP.out RQ.out).mono ?_
  rintro e w13 ⟨rfl, hb⟩
  rw [(sameVs_iff pk pk).2 rfl]
  replace OP : Hid (OwnV w13 w5.heap.size (.slice ap np cp) pk) := OP.out.later hb
  replace B5 : Hid (Below w5.heap.size w5 w13) := chain B5.out hb
  clear hb RP RQ
  go_wp2_with fail
  refine (spoilRow_own ap np cp w5.heap.size pk _ HNP.out hsp OP.out).mono ?_
  rintro e w14 ⟨rfl, hb⟩
  replace B5 : Hid (Below w5.heap.size w5 w14) := B5.out.trans hb
  clear hb OP
  go_wp2_with fail
  refine (keepRow_any a1 a n n cap1 cap l l _ HN.out HN.out (by omega) (by omega) (K.out.later B5.out).A1 (K.out.later B5.out).A).mono ?_
  rintro e w15 ⟨rfl, hb⟩
  rw [(sameVs_iff l l).2 rfl]
  replace B5 : Hid (Below w5.heap.size w5 w15) := chain B5.out hb
  clear hb
  go_wp2_with fail
  refine (keepInts_any t1 t o o cap2 eap ts ts _ HO.out HO.out (by omega) (by omega) (K.out.later B5.out).T1 (K.out.later B5.out).T).mono ?_
  rintro e w16 ⟨rfl, hb⟩
  rw [show decide (ts = ts) = true from by simp]
  replace B5 : Hid (Below w5.heap.size w5 w16) := chain B5.out hb
  clear hb
  go_wp2_with fail
  refine (keepInts_any c1 c p p cap3 fap cs cs _ HP.out HP.out (by omega) (by omega) (K.out.later B5.out).C1 (K.out.later B5.out).C).mono ?_
  rintro e w17 ⟨rfl, hb⟩
  rw [show decide (cs = cs) = true from by simp]
  replace B5 : Hid (Below w5.heap.size w5 w17) := chain B5.out hb
  clear hb
  by_cases hk : chkR l = 0
  · obtain ⟨h12, hall⟩ := chkR_ok.1 hk
    rw [HN.out] at h12
    have HAll : Hid (l.all okV = true) := hall
    have HK : Hid (chkR l = 0) := hk
    rw [putR_ok hk] at HNX RX ⊢
    rw [hk]
    simp only at HNX RX ⊢
    have px4 : nx ≤ 400 := by rw [← HNX.out]; exact bytesR_small HK.out
    have HRD : Hid (readR (bytesR l) 0 = (l, (nx : Int), (0 : Int))) := by
      have := readR_bytes (vs := l) (l := bytesR l) (r := []) (p := 0) HK.out (by simp)
      rw [HNX.out] at this
      show _ = _
      simpa using this
    clear hk hall
    go_wp2_with fail
    refine (R.read ax nx cx 0 (bytesR l) _ HNX.out (by omega) hcx (RX.out.later B5.out)).mono ?_
    rintro e w18 ⟨ar, nr, cr, rfl, hnr, hsr, hcr, _, hrr, _, hb⟩
    rw [HRD.out] at hnr hrr ⊢
    simp only at hnr hrr ⊢
    have HNR : Hid (l.length = nr) := hnr
    have RR : Hid (RdV w18 ar l) := hrr
    replace B5 : Hid (Below w5.heap.size w5 w18) := chain B5.out hb
    clear hb hnr hrr
    go_wp2_with fail
    refine (rRowBytes_any a n cap l _ HN.out h12 HAll.out (K.out.later B5.out).A).mono ?_
    rintro e w19 ⟨az, nz, cz, rfl, hnz, hcz, _, hrz, _, hb⟩
    have HNZ : Hid ((bytesR l).length = nz) := hnz
    have RZ : Hid (Rd w19 az (bytesR l)) := hrz
    replace RR : Hid (RdV w19 ar l) := RR.out.later hb
    replace B5 : Hid (Below w5.heap.size w5 w19) := chain B5.out hb
    have pz4 : nz ≤ 400 := by rw [← hnz]; exact bytesR_small HK.out
    clear hb hnz hrz
    go_wp2_with fail
    refine (bytes_any ax az nx nz cx cz _ _ _ HNX.out HNZ.out (by omega) (by omega) (RX.out.later B5.out) RZ.out).mono ?_
    rintro e w20 ⟨rfl, hb⟩
    rw [show decide (bytesR l = bytesR l) = true from by simp]
    replace RR : Hid (RdV w20 ar l) := RR.out.later hb
    replace B5 : Hid (Below w5.heap.size w5 w20) := chain B5.out hb
    clear hb RZ
    go_wp2_with fail
    refine (keepRow_any ar a nr n cr cap l l _ HNR.out HN.out hsr (by omega) RR.out (K.out.later B5.out).A).mono ?_
    rintro e w21 ⟨rfl, hb⟩
    rw [(sameVs_iff l l).2 rfl]
    replace B5 : Hid (Below w5.heap.size w5 w21) := chain B5.out hb
    clear hb RR
    go_wp2_with fail
    refine (rwakes_any R _).mono ?_
    rintro e w22 ⟨rfl, hb⟩
    go_wp2
    go_ret
    exact ⟨rfl, chain HX.out (chain B5.out hb)⟩
  · rw [putR_no hk] at HNX RX ⊢
    simp only at HNX RX ⊢
    obtain rfl : nx = 0 := HNX.out.symm
    generalize chkR l = q at *
    have hq : (q != 0) = true := by simp [hk]
    clear RX HNX hk
    go_wp2_with fail
    refine (rwakes_any R _).mono ?_
    rintro e w18 ⟨rfl, hb⟩
    go_wp2
    go_ret
    exact ⟨rfl, chain HX.out (chain B5.out hb)⟩

set_option maxRecDepth 100000 in
set_option maxHeartbeats 1000000 in
theorem rexact_out (a b t c : Option Addr) (n m o p cap dap eap fap : Nat) (w : World) (ho : o ≤ 9223372036854775807) (hp : p ≤ 9223372036854775807)
    (H : (Calls Try.prog 9 #[.slice a n cap] w fun e w' => e = .returned (.bool true) ∧ w' = w) ∨
      ((Calls Try.prog 9 #[.slice a n cap] w fun e w' => e = .returned (.bool false) ∧ w' = w) ∧
        ((Calls Try.prog 9 #[.slice b m dap] w fun e w' => e = .returned (.bool true) ∧ w' = w) ∨
          ((Calls Try.prog 9 #[.slice b m dap] w fun e w' => e = .returned (.bool false) ∧ w' = w) ∧ (40 < o ∨ o ≤ 40 ∧ 40 < p))))) :
    Calls Try.prog 3 #[.slice a n cap, .slice b m dap, .slice t o eap, .slice c p fap] w fun e w' => e = .returned (.bool true) ∧ Below w.heap.size w w' := by
  rcases H with C | ⟨C, D | ⟨D, ho' | ⟨ho', hp'⟩⟩⟩
  · go_enter Try.func3, Try.ntmps3
    go_wp2_with fail
    refine C.mono ?_
    rintro e w1 ⟨rfl, rfl⟩
    go_wp2
    go_ret
    exact ⟨rfl, Below.refl _ _⟩
  all_goals
    go_enter Try.func3, Try.ntmps3
    go_wp2_with fail
    refine C.mono ?_
    rintro e w1 ⟨rfl, hw1⟩
    subst w1
    go_wp2_with fail
    refine D.mono ?_
    rintro e w1 ⟨rfl, rfl⟩
    go_wp2
    go_ret
    exact ⟨rfl, Below.refl _ _⟩

theorem rexact_walk (R : RowApi) (a b t c : Option Addr) (n m o p cap dap eap fap : Nat) (x y : List PV) (zt zc : List Int) (w : World) (hx : IsVals w a n cap x) (hy : IsVals w b m dap y) (ht : IsInts .i64 w t o eap zt) (hc : IsInts .i64 w c p fap zc) :
    Calls Try.prog 3 #[.slice a n cap, .slice b m dap, .slice t o eap, .slice c p fap] w fun e w' => e = .returned (.bool true) ∧ Below w.heap.size w w' := by
  rcases heavy_in a n cap x w hx with C | ⟨h1, h2, C⟩
  · exact rexact_out a b t c n m o p cap dap eap fap w ht.small hc.small (.inl C)
  rcases heavy_in b m dap y w hy with D | ⟨h3, h4, D⟩
  · exact rexact_out a b t c n m o p cap dap eap fap w ht.small hc.small (.inr ⟨C, .inl D⟩)
  by_cases ho : 40 < o
  · exact rexact_out a b t c n m o p cap dap eap fap w ht.small hc.small (.inr ⟨C, .inr ⟨D, .inl ho⟩⟩)
  by_cases hp : 40 < p
  · exact rexact_out a b t c n m o p cap dap eap fap w ht.small hc.small (.inr ⟨C, .inr ⟨D, .inr ⟨by omega, hp⟩⟩⟩)
  obtain ⟨hn, _, hr, na⟩ := hx.vals
  obtain ⟨hm, _, hr2, _⟩ := hy.vals
  obtain ⟨T, hT, _, hrT, nT, _⟩ := ht.ints
  obtain ⟨S, hS, _, hrS, nS, _⟩ := hc.ints
  exact rexact_some R a b t c n m o p cap dap eap fap x y T S w hn hm hT hS h1 h3 (by omega) (by omega) hr hr2 hrT hrS na nT nS C D

end Go.Proofs.Ythmclopndmcojaa
