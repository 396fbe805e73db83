/-
  Texts of the proof of OpKinds, one behind the other.
-/
import Derived.Test.YtjpcljmlkgjbgaaRows
import Derived.Test.YtjpcljmlkgjbgaaG19OpKinds
import Derived.Test.YtjpcljmlkgjbgaaG21OpKinds
import Derived.Test.YtjpcljmlkgjbgaaG15OpKinds
import Derived.Test.YtjpcljmlkgjbgaaG11OpKinds
namespace Go.Proofs.Ytjpcljmlkgjbgaa
open Go.RowKit Go.Lib
set_option linter.unusedVariables false

/-- So many values, one behind the other, and the place behind them. -/
def readVs : Nat → List UInt8 → Int → Option (List PV × Int)
  | 0, _, p => some ([], p)
  | n + 1, l, p => if (readV l p).2.2 = 0 then (readVs n l (readV l p).2.1).map fun r => ((readV l p).1 :: r.1, r.2) else none

/-- Read. -/
def readR (l : List UInt8) (p : Int) : List PV × Int × Int :=
  if p < 0 ∨ (l.length : Int) < p then ([], 0, 1)
  else if p = (l.length : Int) then ([], 0, 3)
  else if 12 < (l[p.toNat]?.getD 0).toNat then ([], 0, 3)
  else match readVs (l[p.toNat]?.getD 0).toNat l (p + 1) with
    | none => ([], 0, 3)
    | some r => (r.1, r.2, 0)

/-- What Read hands back. -/
def TellsR (w w' : World) (e : Ending) (r : List PV × Int × Int) : Prop :=
  ∃ a n cap, e = .returned (.tuple #[.slice a n cap, .int .i64 r.2.1, .int .i64 r.2.2]) ∧ r.1.length = n ∧ n ≤ 65536 ∧ n ≤ cap ∧ OwnV w' w.heap.size (.slice a n cap) r.1 ∧ RdV w' a r.1 ∧ (a = none → r.1 = [] ∧ cap = 0) ∧ Below w.heap.size w w'

theorem TellsR.of_no {w w' : World} {e : Ending} {k : Int} (h : e = .returned (.tuple #[.slice none 0 0, .int .i64 0, .int .i64 k])) (hb : Below w.heap.size w w') : TellsR w w' e ([], 0, k) :=
  ⟨none, 0, 0, h, rfl, by omega, Nat.le_refl _, OwnV.nought _ _, RdV.nil _ _, fun _ => ⟨rfl, rfl⟩, hb⟩

set_option maxHeartbeats 400000 in
theorem rReadRow_place (a : Option Addr) (len cap : Nat) (p : Int) (w : World) (hl : len ≤ 1048576) (h : p < 0 ∨ (len : Int) < p) :
    Calls Try.prog 110 #[.slice a len cap, .int .i64 p] w fun e w' => TellsR w w' e ([], 0, 1) := by
  go_enter Try.func110, Try.ntmps110
  go_wp2_with fail
  refine (in_no _ _ _ _ h).mono ?_
  rintro e w1 ⟨rfl, rfl⟩
  go_wp2
  go_ret3
  exact TellsR.of_no rfl (Below.refl _ _)

set_option maxHeartbeats 400000 in
theorem rReadRow_end (a : Option Addr) (len cap : Nat) (w : World) (hl : len ≤ 1048576) :
    Calls Try.prog 110 #[.slice a len cap, .int .i64 len] w fun e w' => TellsR w w' e ([], 0, 3) := by
  go_enter Try.func110, Try.ntmps110
  go_wp2_with fail
  refine (in_yes _ _ _ _ (by omega) (by omega)).mono ?_
  rintro e w1 ⟨rfl, rfl⟩
  go_wp2
  go_ret3
  exact TellsR.of_no rfl (Below.refl _ _)

set_option maxHeartbeats 400000 in
theorem rReadRow_many (b off len cap p k : Nat) (w : World) (hl : len ≤ 1048576) (hp : p < len) (hc : w.cell? ⟨b, off + p, none⟩ = some (.int .u8 k)) (hk8 : k < 256) (hk : 12 < k) :
    Calls Try.prog 110 #[.slice (some ⟨b, off, none⟩) len cap, .int .i64 p] w fun e w' => TellsR w w' e ([], 0, 3) := by
  have hpl : ((p : Int) == (len : Int)) = false := by simp; omega
  go_enter Try.func110, Try.ntmps110
  go_wp2_with fail
  refine (in_yes _ _ _ _ (by omega) (by omega)).mono ?_
  rintro e w1 ⟨rfl, rfl⟩
  go_wp2
  go_ret3
  exact TellsR.of_no rfl (Below.refl _ _)

theorem readVs_step {n k : Nat} {l : List UInt8} {p q : Int} {done : List PV} {r : PV × Int × Int} (hk : k < n) (hr : readV l q = r) (he : r.2.2 = 0) (h : readVs n l p = (readVs (n - k) l q).map fun x => (done ++ x.1, x.2)) :
    readVs n l p = (readVs (n - (k + 1)) l r.2.1).map fun x => ((done ++ [r.1]) ++ x.1, x.2) := by
  rw [h, show n - k = (n - (k + 1)) + 1 from by omega, readVs, hr, if_pos he, Option.map_map]
  congr 1
  funext x
  simp

theorem readVs_fail {n k : Nat} {l : List UInt8} {p q : Int} {done : List PV} {r : PV × Int × Int} (hk : k < n) (hr : readV l q = r) (he : r.2.2 ≠ 0) (h : readVs n l p = (readVs (n - k) l q).map fun x => (done ++ x.1, x.2)) : readVs n l p = none := by
  rw [h, show n - k = (n - (k + 1)) + 1 from by omega, readVs, hr, if_neg he]
  rfl

set_option maxHeartbeats 1000000 in
theorem rReadRow_some (b off len cap p n : Nat) (l : List UInt8) (w : World) (hlen : l.length = len) (hl : len ≤ 1048576) (hcap : len ≤ cap) (hr : Rd w (some ⟨b, off, none⟩) l) (hp : p < len) (hc : w.cell? ⟨b, off + p, none⟩ = some (.int .u8 n)) (hn : n ≤ 12) :
    Calls Try.prog 110 #[.slice (some ⟨b, off, none⟩) len cap, .int .i64 p] w fun e w' => TellsR w w' e (match readVs n l ((p : Int) + 1) with | none => ([], 0, 3) | some r => (r.1, r.2, 0)) := by
  have hpl : ((p : Int) == (len : Int)) = false := by simp; omega
  have HL : Hid (l.length = len) := hlen
  have HR : Hid (Rd w (some ⟨b, off, none⟩) l) := hr
  generalize hG : (match readVs n l ((p : Int) + 1) with | none => (([] : List PV), (0 : Int), (3 : Int)) | some r => (r.1, r.2, 0)) = G
  have HG : Hid _ := hG
  clear hlen hr hG
  go_enter Try.func110, Try.ntmps110
  go_wp2_with fail
  refine (in_yes _ _ _ _ (by omega) (by omega)).mono ?_
  rintro e w1 ⟨rfl, hw1⟩
  subst w1
  go_wp2
  go_loopw [1, 8, 9] (fun at_ o i wr => ∃ (k cp : Nat) (aw : Option Addr) (q : Int) (done : List PV), k ≤ n ∧ i = .int .i64 k ∧ at_ = .int .i64 q ∧ o = .slice aw k cp ∧ k ≤ cp ∧ Hid (done.length = k) ∧ Hid (readVs n l ((p : Int) + 1) = (readVs (n - k) l q).map fun x => (done ++ x.1, x.2)) ∧ Hid (OwnV wr w.heap.size (.slice aw k cp) done) ∧ Hid (RdV wr aw done) ∧ Hid (aw = none → done = [] ∧ cp = 0) ∧ Hid (Below w.heap.size w wr)) (fun _ _ i _ => n - (RowKit.intOf i).toNat)
  case atStart => exact ⟨0, 0, none, _, [], Nat.zero_le _, rfl, rfl, rfl, Nat.le_refl _, rfl, by simp [Hid], OwnV.nought _ _, RdV.nil _ _, fun _ => ⟨rfl, rfl⟩, Below.refl _ _⟩
  case round =>
    obtain ⟨k, cp, aw, q, done, hk, rfl, rfl, rfl, hcp, hD, hT, hO, hRd, hNl, hB⟩ := hrel
    by_cases hlt : k < n
    · generalize hX : readV l q = r
      have HX : Hid (readV l q = r) := hX
      clear hX
      obtain ⟨⟨k0, i0, s0⟩, q', e⟩ := r
      by_cases he : e = 0
      · subst he
        have HT' : Hid (readVs n l ((p : Int) + 1) = (readVs (n - (k + 1)) l q').map fun x => ((done ++ [⟨k0, i0, s0⟩]) ++ x.1, x.2)) := readVs_step hlt HX.out rfl hT.out
        go_wp2_with fail
        refine (rRead_any (some ⟨b, off, none⟩) len cap q l _ HL.out hl hcap (HR.out.later hB.out)).mono ?_
        rintro e w2 ⟨he, hb2⟩
        rw [HX.out] at he
        unfold TellsV at he
        simp only at he
        subst he
        obtain ⟨a', cap', w', hrun, hc', ho', hr', hn', hb'⟩ := run_append_val (w := w2.alloc (.cells #[.int .i64 k0, .int .i64 i0, .string s0] 102)) (w2.heap.size + 1) (by simp) k0 i0 s0 (hO.out.later (chain hb2 (alloc_below _ _))) (n := k) hD.out (by omega) (Nat.le_trans hB.out.size (Nat.le_trans hb2.size (by simp)))
        have HO' : Hid _ := ho'
        have HR' : Hid _ := hr'
        have HN' : Hid _ := hn'
        have HB' : Hid (Below w.heap.size w w') := (chain hB.out (chain hb2 (alloc_below _ _))).trans hb'
        have HD' : Hid ((done ++ [PV.mk k0 i0 s0]).length = k + 1) := by show _ = _; simp [hD.out]
        clear hO hRd hNl hB ho' hr' hn' hb' hb2 hD hT HX
        go_wp2_with (at_builtin; refine wpList_append_run rfl (.tmp 51) (.tmp 53) 29 29 rfl _ _ _ _ rfl rfl hrun ?_)
        go_roundw
        case rel => exact ⟨k + 1, cap', a', q', _, by omega, by go_num, rfl, rfl, hc', HD', HT', HO', HR', HN', HB'⟩
        case measure => simp [RowKit.intOf]; omega
      · have HT' : Hid (readVs n l ((p : Int) + 1) = none) := readVs_fail hlt HX.out he hT.out
        have hne : (e != 0) = true := by simp [he]
        go_wp2_with fail
        refine (rRead_any (some ⟨b, off, none⟩) len cap q l _ HL.out hl hcap (HR.out.later hB.out)).mono ?_
        rintro e' w2 ⟨he', hb2⟩
        rw [HX.out] at he'
        unfold TellsV at he'
        simp only at he'
        subst he'
        go_wp2
        go_ret3
        have eG : G = ([], 0, 3) := by rw [← HG.out, HT'.out]
        rw [eG]
        exact TellsR.of_no rfl (chain hB.out (chain hb2 (alloc_below _ _)))
    · obtain rfl : k = n := by omega
      go_wp2
      go_ret3
      have eG : G = (done, q, 0) := by
        rw [← HG.out, hT.out, Nat.sub_self]
        simp [readVs]
      rw [eG]
      exact ⟨_, _, _, rfl, hD.out, by omega, hcp, hO.out, hRd.out, hNl.out, hB.out⟩

theorem rReadRow_any (a : Option Addr) (len cap : Nat) (p : Int) (l : List UInt8) (w : World) (hlen : l.length = len) (hl : len ≤ 1048576) (hcap : len ≤ cap) (hr : Rd w a l) :
    Calls Try.prog 110 #[.slice a len cap, .int .i64 p] w fun e w' => TellsR w w' e (readR l p) := by
  by_cases h2 : p < 0 ∨ (len : Int) < p
  · have e : readR l p = ([], 0, 1) := by unfold readR; rw [if_pos (by omega)]
    rw [e]; exact rReadRow_place a len cap p w hl h2
  by_cases h3 : p = (len : Int)
  · subst h3
    have e : readR l len = ([], 0, 3) := by unfold readR; rw [if_neg (by omega), if_pos (by omega)]
    rw [e]; exact rReadRow_end a len cap w hl
  obtain ⟨q, rfl⟩ : ∃ q : Nat, p = q := ⟨p.toNat, by omega⟩
  obtain ⟨b, off, rfl⟩ := hr.some_of (by omega)
  have hq : q < len := by omega
  have hc := hr.at_ (drop_at (l := l) (p := q) (by omega))
  unfold readR
  rw [if_neg (by omega), if_neg (by omega), show ((q : Int).toNat) = q from by omega]
  generalize hx : (l[q]?.getD 0).toNat = k at *
  have hk8 : k < 256 := by rw [← hx]; exact UInt8.toNat_lt _
  by_cases h12 : 12 < k
  · rw [if_pos h12]
    exact rReadRow_many b off len cap q k w hl hq hc hk8 h12
  · rw [if_neg h12]
    exact rReadRow_some b off len cap q k l w hlen hl hcap hr hq hc (by omega)

end Go.Proofs.Ytjpcljmlkgjbgaa

namespace Go.Proofs.Ytjpcljmlkgjbgaa
open Go.RowKit Go.Lib
set_option linter.unusedVariables false

/-- Bytes' answer. -/
def putR (vs : List PV) : List UInt8 × Int := if chkR vs = 0 then (bytesR vs, 0) else ([], chkR vs)

def RowCheck : Prop := ∀ (a : Option Addr) (n cap : Nat) (vs : List PV) (w : World), vs.length = n → n ≤ 65536 → RdV w a vs → Calls Try.prog 61 #[.slice a n cap] w fun e w' => e = .returned (.int .i64 (chkR vs)) ∧ Below w.heap.size w w'

def RowFitsC : Prop := ∀ (a b : Option Addr) (n m cap dap : Nat) (l : List PV) (ts : List Int) (w : World), l.length = n → ts.length = m → n ≤ 65536 → m ≤ 65536 → RdV w a l → RdI .i64 w b ts → Calls Try.prog 115 #[.slice a n cap, .slice b m dap] w fun e w' => e = .returned (.bool (fitsR l ts)) ∧ Below w.heap.size w w'

def RowBytesC : Prop := ∀ (a : Option Addr) (n cap : Nat) (vs : List PV) (w : World), vs.length = n → n ≤ 65536 → RdV w a vs → Calls Try.prog 21 #[.slice a n cap] w fun e w' => GivesB w w' e (putR vs)

def RowRead : Prop := ∀ (a : Option Addr) (len cap : Nat) (p : Int) (l : List UInt8) (w : World), l.length = len → len ≤ 1048576 → len ≤ cap → Rd w a l → Calls Try.prog 29 #[.slice a len cap, .int .i64 p] w fun e w' => TellsR w w' e (readR l p)

theorem chkR_ok {vs : List PV} : chkR vs = 0 ↔ vs.length ≤ 12 ∧ vs.all okV = true := by
  unfold chkR errR
  by_cases h : 12 < vs.length
  · rw [if_pos h]; omega
  · rw [if_neg h]
    cases hv : vs.all okV <;> simp <;> omega

theorem putR_ok {vs : List PV} (h : chkR vs = 0) : putR vs = (bytesR vs, 0) := by unfold putR; rw [if_pos h]
theorem putR_no {vs : List PV} (h : chkR vs ≠ 0) : putR vs = ([], chkR vs) := by unfold putR; rw [if_neg h]

theorem readVs_bytes : ∀ {vs : List PV} {l r : List UInt8} {p : Nat}, vs.all okV = true → l.drop p = bytesVs vs ++ r → readVs vs.length l (p : Int) = some (vs, (p : Int) + (bytesVs vs).length)
  | [], l, r, p, _, _ => by simp [readVs, bytesVs]
  | v :: vs, l, r, p, h, hd => by
    simp only [List.all_cons, Bool.and_eq_true] at h
    have hd' : l.drop p = bytesV v ++ (bytesVs vs ++ r) := by rw [hd]; simp [bytesVs]
    have h1 := readV_bytes h.1 hd'
    have hd2 : l.drop (p + (bytesV v).length) = bytesVs vs ++ r := by rw [← List.drop_drop, hd', List.drop_left]
    have h2 := readVs_bytes h.2 hd2
    rw [List.length_cons, readVs, h1, if_pos rfl]
    simp only
    rw [show (p : Int) + ((bytesV v).length : Int) = ((p + (bytesV v).length : Nat) : Int) from by omega, h2]
    simp [bytesVs]
    omega

/-- What is written is read. -/
theorem readR_bytes {vs : List PV} {l r : List UInt8} {p : Nat} (hok : chkR vs = 0) (h : l.drop p = bytesR vs ++ r) : readR l (p : Int) = (vs, (p : Int) + (bytesR vs).length, 0) := by
  obtain ⟨h12, hall⟩ := chkR_ok.1 hok
  unfold bytesR at h
  rw [List.cons_append] at h
  obtain ⟨hp, hx, hr⟩ := at_of_drop h
  unfold readR
  rw [if_neg (by omega), if_neg (by omega), show ((p : Int).toNat) = p from by omega, hx, ofNat_small (by omega), if_neg (by omega), show (p : Int) + 1 = ((p + 1 : Nat) : Int) from by omega, readVs_bytes hall hr]
  simp [bytesR]
  omega

theorem readVs_inv : ∀ {n : Nat} {l : List UInt8} {p : Nat} {vs : List PV} {q : Int}, readVs n l (p : Int) = some (vs, q) → vs.length = n ∧ vs.all okV = true ∧ (∃ r, l.drop p = bytesVs vs ++ r) ∧ q = (p : Int) + (bytesVs vs).length
  | 0, l, p, vs, q, h => by
    simp [readVs] at h
    obtain ⟨rfl, rfl⟩ := h
    simp [bytesVs]
  | n + 1, l, p, vs, q, h => by
    rw [readVs] at h
    split at h
    · rename_i he
      generalize hr : readV l (p : Int) = r at *
      obtain ⟨v, q1, e⟩ := r
      simp only at he h
      subst he
      obtain ⟨p', hp', hok, ⟨rest, hd⟩, hq1⟩ := readV_inv hr
      obtain rfl : p = p' := by omega
      rw [Option.map_eq_some_iff] at h
      obtain ⟨⟨us, q2⟩, h2, he2⟩ := h
      simp only [Prod.mk.injEq] at he2
      obtain ⟨rfl, rfl⟩ := he2
      rw [hq1, show (p : Int) + ((bytesV v).length : Int) = ((p + (bytesV v).length : Nat) : Int) from by omega] at h2
      obtain ⟨hl, ha, ⟨r2, hd2⟩, hq2⟩ := readVs_inv h2
      refine ⟨by simp [hl], by simp [hok, ha], ⟨r2, ?_⟩, ?_⟩
      · rw [← List.drop_drop, hd, List.drop_left] at hd2
        rw [hd, hd2]
        simp [bytesVs]
      · rw [hq2]
        simp [bytesVs]
        omega
    · cases h

/-- What is read is written as it stood. -/
theorem readR_inv {l : List UInt8} {p : Int} {vs : List PV} {n : Int} (h : readR l p = (vs, n, 0)) : ∃ q : Nat, p = q ∧ chkR vs = 0 ∧ (∃ r, l.drop q = bytesR vs ++ r) ∧ n = (q : Int) + (bytesR vs).length := by
  unfold readR at h
  split at h
  · simp at h
  · split at h
    · simp at h
    · obtain ⟨q, rfl⟩ : ∃ q : Nat, p = q := ⟨p.toNat, by omega⟩
      rw [show ((q : Int).toNat) = q from by omega] at h
      split at h
      · simp at h
      · rename_i h12
        split at h
        · simp at h
        · rename_i r hr
          obtain ⟨us, m⟩ := r
          simp only [Prod.mk.injEq, and_true] at h
          obtain ⟨rfl, rfl⟩ := h
          rw [show (q : Int) + 1 = ((q + 1 : Nat) : Int) from by omega] at hr
          obtain ⟨hl, ha, ⟨rest, hd⟩, hm⟩ := readVs_inv hr
          have hp : q < l.length := by omega
          refine ⟨q, rfl, chkR_ok.2 ⟨by omega, ha⟩, ⟨rest, ?_⟩, ?_⟩
          · rw [drop_at hp, hd]
            unfold bytesR
            rw [hl, List.cons_append]
            congr 1
            simp
          · rw [hm]
            simp [bytesR]
            omega

end Go.Proofs.Ytjpcljmlkgjbgaa
