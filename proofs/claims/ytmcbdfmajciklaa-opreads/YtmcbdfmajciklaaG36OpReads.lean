/-
  Texts of the proof of OpReads, one behind the other.
-/
import Derived.Test.YtmcbdfmajciklaaRows
import Derived.Test.YtmcbdfmajciklaaG35OpReads
import Derived.Deep.RegionLaw
namespace Go.Proofs.Ytmcbdfmajciklaa
open Go.RowKit Go.Lib
set_option linter.unusedVariables false

theorem OwnD.boxedC {w : World} {g B i : Nat} {u x : Value} {ds : List (Int × Int)} (ho : OwnD w B u ds) (hg : g < B) : OwnD (w.setCell ⟨g, i, none⟩ x) B u ds := by
  refine ⟨ho.1, ?_⟩
  rcases ho.2 with h | ⟨r, cap, cur, hv, hB, hh, hc⟩
  · exact .inl h
  · exact .inr ⟨r, cap, cur, hv, hB, (Below.heap_setCell w ⟨g, i, none⟩ x r (by show r ≠ g; omega)).trans hh, hc⟩

/-- A call, as one step of a region that draws its order. -/
theorem step_callC {P : Program} {ops : Array Oper} {o : Oper} {a : Act} {w : World} {Kc : Act → World → Prop} {Q : Exit → Act → World → Prop} {E : Prop} {f : Nat} {args : Array Value} {R : Ending → World → Prop}
    (hgd : o.guard = none) (hrun : (execOp a.eval o).run P w = .ok (.enter f args) w) (hc : Calls P f args w R) (h : ∀ e w', R e w' → ∃ v, e = .returned v ∧ Kc (a.put o.dst v) w') :
    if Region.wanted o (yielded ops a.tmps) = true then Oper.wp P o a w Kc Q else E := by
  have hw : Region.wanted o (yielded ops a.tmps) = true := by simp [Region.wanted, hgd]
  rw [if_pos hw]
  unfold Oper.wp
  rw [hrun]
  refine hc.mono fun e w' hr => ?_
  obtain ⟨v, rfl, hk⟩ := h e w' hr
  exact hk

theorem takeDs_stuck {l : List UInt8} : ∀ {n : Nat} {t : Int × Int}, (takeDs l n t).2.2 = 0 → t.2 = 0
  | 0, _, h => h
  | n + 1, t, h => (lawD.inv l t (takeDs_stuck (n := n) h)).1

/-- Lists that lie in new memory. -/
def FreshO (B : Nat) (da va oa : Option Addr) : Prop := (∀ b o, da = some ⟨b, o, none⟩ → B ≤ b) ∧ (∀ b o, va = some ⟨b, o, none⟩ → B ≤ b) ∧ (∀ b o, oa = some ⟨b, o, none⟩ → B ≤ b)

/-- All but one block is the same. -/
structure SameBut (G : Nat) (V V' : World) : Prop where
  os : V'.os = V.os
  tape : V'.tape = V.tape
  output : V'.output = V.output
  size : V'.heap.size = V.heap.size
  block : ∀ b, b ≠ G → V'.heap[b]? = V.heap[b]?

theorem SameBut.refl (G : Nat) (V : World) : SameBut G V V := ⟨rfl, rfl, rfl, rfl, fun _ _ => rfl⟩

theorem SameBut.set {G : Nat} {V V' : World} (h : SameBut G V V') (i : Nat) (v : Value) : SameBut G V (V'.setCell ⟨G, i, none⟩ v) :=
  ⟨h.os, h.tape, h.output, by simpa [World.setCell] using h.size, fun b hb => (same_set b hb).trans (h.block b hb)⟩

theorem LiesO.same {w w' : World} {G : Nat} {x : PO} {da va oa : Option Addr} {dc vc oc : Nat} (h : LiesO w x da va oa dc vc oc) (hb : SameBut G w w') (h1 : ∀ b o, da = some ⟨b, o, none⟩ → b ≠ G) (h2 : ∀ b o, va = some ⟨b, o, none⟩ → b ≠ G) (h3 : ∀ b o, oa = some ⟨b, o, none⟩ → b ≠ G) : LiesO w' x da va oa dc vc oc := by
  have e : ∀ b o, b ≠ G → w'.cell? ⟨b, o, none⟩ = w.cell? ⟨b, o, none⟩ := fun b o hne => World.cell?_of_block (w := w) (a := ⟨b, o, none⟩) (hb.block b hne)
  refine ⟨fun h0 => ?_, fun h0 => ?_, fun h0 => ?_, h.ld, h.lv, h.lo, h.cd, h.cv, h.co, h.nd, h.nv, h.no, h.key⟩
  · obtain ⟨b, o, rfl, hc⟩ := h.deps h0
    exact ⟨b, o, rfl, fun i hi => (e b _ (h1 b o rfl)).trans (hc i hi)⟩
  · obtain ⟨b, o, rfl, hc⟩ := h.vals h0
    exact ⟨b, o, rfl, fun i hi => ⟨(e b _ (h2 b o rfl)).trans (hc i hi).1, (e b _ (h2 b o rfl)).trans (hc i hi).2.1, (e b _ (h2 b o rfl)).trans (hc i hi).2.2⟩⟩
  · obtain ⟨b, o, rfl, hc⟩ := h.dots h0
    exact ⟨b, o, rfl, fun i hi => ⟨(e b _ (h3 b o rfl)).trans (hc i hi).1, (e b _ (h3 b o rfl)).trans (hc i hi).2⟩⟩

theorem CAt.same {w w' : World} {g G : Nat} {a : Option Addr} {len cap : Nat} {l : List UInt8} {t : Int × Int} (h : CAt w g a len cap l t) (hg : g ≠ G) (hs : ∀ x k, a = some ⟨x, k, none⟩ → 0 < len → x ≠ G) (hb : SameBut G w w') : CAt w' g a len cap l t := by
  obtain ⟨p, bad, h1, h2⟩ := h.box
  refine ⟨⟨p, bad, (hb.block g hg).trans h1, h2⟩, ?_, fun b o e h0 => ⟨(h.src b o e h0).1, by rw [hb.size]; exact (h.src b o e h0).2⟩, h.hlen, h.hl, h.hcap⟩
  intro h0
  obtain ⟨b, off, rfl, hcl⟩ := h.rd h0
  have h00 : 0 < len := by rw [← h.hlen]; exact h0
  exact ⟨b, off, rfl, fun j hj => (World.cell?_of_block (w := w) (a := ⟨b, _, none⟩) (hb.block b (hs b off rfl h00))).trans (hcl j hj)⟩

set_option maxRecDepth 100000 in
set_option maxHeartbeats 16000000 in
theorem cOp_any (g : Nat) (a : Option Addr) (len cap : Nat) (l : List UInt8) (t : Int × Int) (w : World) (h : CAt w g a len cap l t) :
    Calls Try.prog 33 #[.pointer (some ⟨g, 0, none⟩)] w fun e w' => ∃ x da va oa dc vc oc, e = .returned (.agg (cellsO x da va oa dc vc oc)) ∧ LiesO w' x da va oa dc vc oc ∧ FreshO w.heap.size da va oa ∧ CAt w' g a len cap l (takeO l t).2 ∧ ((takeO l t).2.2 = 0 → toTO x = (takeO l t).1) ∧ Aside g w w' := by
  obtain ⟨TT, hTT⟩ : ∃ TT, takeO l t = TT := ⟨_, rfl⟩
  have hT0 : TT = (let r1 := takeN l t ((1 : Nat) : Int); let r2 := takeD l r1.2; let r3 := takeV l r2.2; let r4 := takeS l r3.2; let r5 := takeN l r4.2 ((1 : Nat) : Int); let r6 := takeT l r5.2; let r7 := takeN l r6.2 ((1 : Nat) : Int); let r8 := takeR l r7.2; ((r1.1, r2.1, r3.1, r4.1, r5.1, r6.1, r7.1, r8.1, (takeDots l r8.2 64).1), (takeDots l r8.2 64).2)) := hTT.symm.trans rfl
  rw [hTT]
  clear hTT
  simp only [] at hT0
  have C1 := fun (V : World) (hV : CAt V g a len cap l t) => cNum_any g a len cap l t 1 V (by omega) (by omega) hV
  generalize takeN l t ((1 : Nat) : Int) = r1 at *
  have C2 := fun (V : World) (hV : CAt V g a len cap l r1.2) => cDot_any g a len cap l r1.2 V hV
  generalize takeD l r1.2 = r2 at *
  have C3 := fun (V : World) (hV : CAt V g a len cap l r2.2) => cVector_any g a len cap l r2.2 V hV
  generalize takeV l r2.2 = r3 at *
  have C4 := fun (V : World) (hV : CAt V g a len cap l r3.2) => cStamp_any g a len cap l r3.2 V hV
  have hs4 : (takeS l r3.2).2.2 = 0 → r3.2.2 = 0 := fun h => (lawS.inv l _ h).1
  generalize takeS l r3.2 = r4 at *
  have C5 := fun (V : World) (hV : CAt V g a len cap l r4.2) => cNum_any g a len cap l r4.2 1 V (by omega) (by omega) hV
  have hs5 : (takeN l r4.2 ((1 : Nat) : Int)).2.2 = 0 → r4.2.2 = 0 := fun h => takeN_stuck h
  generalize takeN l r4.2 ((1 : Nat) : Int) = r5 at *
  have C6 := fun (V : World) (hV : CAt V g a len cap l r5.2) => cText_any g a len cap l r5.2 V hV
  have hs6 : (takeT l r5.2).2.2 = 0 → r5.2.2 = 0 := fun h => (lawT.inv l _ h).1
  have hk6 : (takeT l r5.2).1.size ≤ 24 := takeT_size l r5.2
  generalize takeT l r5.2 = r6 at *
  have C7 := fun (V : World) (hV : CAt V g a len cap l r6.2) => cNum_any g a len cap l r6.2 1 V (by omega) (by omega) hV
  have hs7 : (takeN l r6.2 ((1 : Nat) : Int)).2.2 = 0 → r6.2.2 = 0 := fun h => takeN_stuck h
  generalize takeN l r6.2 ((1 : Nat) : Int) = r7 at *
  have C8 := fun (V : World) (hV : CAt V g a len cap l r7.2) => cRow_any g a len cap l r7.2 V hV
  have hs8 : (takeR l r7.2).2.2 = 0 → r7.2.2 = 0 := fun h => (lawR.inv l _ h).1
  generalize takeR l r7.2 = r8 at *
  have C9 := fun (V : World) (hV : CAt V g a len cap l r8.2) => cNum_any g a len cap l r8.2 1 V (by omega) (by omega) hV
  have HS3 : Hid (TT.2.2 = 0 → r3.2.2 = 0) := fun h => by
    rw [hT0] at h
    exact hs4 (hs5 (hs6 (hs7 (hs8 ((lawDs.inv l r8.2 h).1)))))
  clear hs4 hs5 hs6 hs7 hs8
  have hD : takeDots l r8.2 64 = takeDs l (takeC l r8.2 1 64).1.toNat (takeC l r8.2 1 64).2 := rfl
  have hC : takeC l r8.2 1 64 = if 64 < (takeN l r8.2 ((1 : Nat) : Int)).1 then (0, ((takeN l r8.2 ((1 : Nat) : Int)).2.1, 3)) else takeN l r8.2 ((1 : Nat) : Int) := rfl
  have hn0 := takeN_nat l r8.2 ((1 : Nat) : Int)
  rw [hC] at hD
  clear hC
  generalize takeDots l r8.2 64 = DD at *
  generalize takeN l r8.2 ((1 : Nat) : Int) = r9 at *
  obtain ⟨v9, t9⟩ := r9
  simp only at C9 hD hn0
  obtain ⟨m, rfl⟩ : ∃ m : Nat, v9 = m := ⟨v9.toNat, by omega⟩
  clear hn0
  have HVm : Hid (64 < m → DD.2.2 ≠ 0) := fun h5 h0 => by
    rw [hD, if_pos (by omega)] at h0
    exact absurd (takeDs_stuck h0) (show ¬ ((3 : Int) = 0) by decide)
  have HVt : Hid (t9.2 ≠ 0 → DD.2.2 ≠ 0) := fun ht h0 => by
    rw [hD] at h0
    split at h0
    · exact absurd (takeDs_stuck h0) (show ¬ ((3 : Int) = 0) by decide)
    · exact ht (takeDs_stuck h0)
  have HVk : Hid (m ≤ 64 → DD = takeDs l m t9) := fun h5 => by
    rw [hD, if_neg (by omega)]
    simp
  have HTT : Hid (TT = ((r1.1, r2.1, r3.1, r4.1, r5.1, r6.1, r7.1, r8.1, DD.1), DD.2)) := hT0
  clear hD hT0
  have hg := h.lt
  have HSRC : Hid (∀ x k, a = some ⟨x, k, none⟩ → 0 < len → x < w.heap.size) := fun x k e h0 => (h.src x k e h0).2
  obtain ⟨A, hA⟩ : ∃ A, A = w.alloc (.cells #[.int .i64 0, .int .i64 0, .slice none 0 0, .int .i64 0, .int .i64 0, .int .i64 0, .int .i64 0, .int .i64 0, .string ⟨#[]⟩, .int .i64 0, .slice none 0 0, .slice none 0 0] 32) := ⟨_, rfl⟩
  have HK : Hid (CellsAt A w.heap.size #[.int .i64 0, .int .i64 0, .slice none 0 0, .int .i64 0, .int .i64 0, .int .i64 0, .int .i64 0, .int .i64 0, .string ⟨#[]⟩, .int .i64 0, .slice none 0 0, .slice none 0 0] 32) := by rw [hA]; exact CellsAt.made rfl
  have HA0 : Hid (Aside g w A) := by rw [hA]; exact Aside.of_below (alloc_below w _)
  have hsz : A.heap.size = w.heap.size + 1 := by rw [hA]; simp
  have hcA : CAt A g a len cap l t := by rw [hA]; exact h.later (alloc_below w _)
  have HAA : Hid (A = w.alloc (.cells #[.int .i64 0, .int .i64 0, .slice none 0 0, .int .i64 0, .int .i64 0, .int .i64 0, .int .i64 0, .int .i64 0, .string ⟨#[]⟩, .int .i64 0, .slice none 0 0, .slice none 0 0] 32)) := hA
  have C1' := C1 A hcA
  clear hA h hcA C1
  go_enter Try.func33, Try.ntmps33
  go_wp2_with fail
  rw [← HAA.out]
  refine C1'.mono ?_
  rintro e w1 ⟨rfl, hc1, hs1⟩
  have HK1 : Hid (CellsAt w1 w.heap.size #[.int .i64 0, .int .i64 0, .slice none 0 0, .int .i64 0, .int .i64 0, .int .i64 0, .int .i64 0, .int .i64 0, .string ⟨#[]⟩, .int .i64 0, .slice none 0 0, .slice none 0 0] 32) := HK.out.aside hs1 (by omega)
  have HA1 : Hid (Aside g A w1) := hs1
  have C2' := C2 w1 hc1
  clear C1' C2 HK hs1 hc1 HAA
  go_wp2_with fail
  refine C2'.mono ?_
  rintro e w2 ⟨rfl, hc2, hs2⟩
  have HK2 : Hid (CellsAt w2 w.heap.size #[.int .i64 0, .int .i64 0, .slice none 0 0, .int .i64 0, .int .i64 0, .int .i64 0, .int .i64 0, .int .i64 0, .string ⟨#[]⟩, .int .i64 0, .slice none 0 0, .slice none 0 0] 32) := HK1.out.aside hs2 (by omega)
  have HA2 : Hid (Aside g A w2) := HA1.out.trans hs2
  have C3' := C3 w2 hc2
  clear C2' C3 HK1 HA1 hs2 hc2
  go_wp2_with fail
  refine C3'.mono ?_
  rintro e w3 ⟨da, rn, dc, N, rfl, hN1, hN2, hN3, hN4, hN5, hc3, hs3⟩
  have HK3 : Hid (CellsAt w3 w.heap.size #[.int .i64 0, .int .i64 0, .slice none 0 0, .int .i64 0, .int .i64 0, .int .i64 0, .int .i64 0, .int .i64 0, .string ⟨#[]⟩, .int .i64 0, .slice none 0 0, .slice none 0 0] 32) := HK2.out.aside hs3 (by omega)
  have HA3 : Hid (Aside g A w3) := HA2.out.trans hs3
  have HN3 : Hid (N.length = rn ∧ rn ≤ 5 ∧ rn ≤ dc ∧ (r3.2.2 = 0 → N = r3.1)) := ⟨hN1, hN2, hN3, hN5⟩
  have HO3 : Hid (OwnI w3 A.heap.size (.slice da rn dc) N) := OwnI.base hN4 HA2.out.size
  clear hN1 hN2 hN3 hN4 hN5
  have C4' := C4 w3 hc3
  clear C3' C4 HK2 HA2 hs3 hc3
  go_wp2_with fail
  refine C4'.mono ?_
  rintro e w4 ⟨rfl, hc4, hs4⟩
  have HK4 : Hid (CellsAt w4 w.heap.size #[.int .i64 0, .int .i64 0, .slice none 0 0, .int .i64 0, .int .i64 0, .int .i64 0, .int .i64 0, .int .i64 0, .string ⟨#[]⟩, .int .i64 0, .slice none 0 0, .slice none 0 0] 32) := HK3.out.aside hs4 (by omega)
  have HA4 : Hid (Aside g A w4) := HA3.out.trans hs4
  have HO4 : Hid (OwnI w4 A.heap.size (.slice da rn dc) N) := OwnI.aside HO3.out hs4 (by omega)
  have C5' := C5 w4 hc4
  clear C4' C5 HK3 HA3 hs4 hc4 HO3
  go_wp2_with fail
  refine C5'.mono ?_
  rintro e w5 ⟨rfl, hc5, hs5⟩
  have HK5 : Hid (CellsAt w5 w.heap.size #[.int .i64 0, .int .i64 0, .slice none 0 0, .int .i64 0, .int .i64 0, .int .i64 0, .int .i64 0, .int .i64 0, .string ⟨#[]⟩, .int .i64 0, .slice none 0 0, .slice none 0 0] 32) := HK4.out.aside hs5 (by omega)
  have HA5 : Hid (Aside g A w5) := HA4.out.trans hs5
  have HO5 : Hid (OwnI w5 A.heap.size (.slice da rn dc) N) := OwnI.aside HO4.out hs5 (by omega)
  have C6' := C6 w5 hc5
  clear C5' C6 HK4 HA4 hs5 hc5 HO4
  go_wp2_with fail
  refine C6'.mono ?_
  rintro e w6 ⟨rfl, hc6, hs6⟩
  have HK6 : Hid (CellsAt w6 w.heap.size #[.int .i64 0, .int .i64 0, .slice none 0 0, .int .i64 0, .int .i64 0, .int .i64 0, .int .i64 0, .int .i64 0, .string ⟨#[]⟩, .int .i64 0, .slice none 0 0, .slice none 0 0] 32) := HK5.out.aside hs6 (by omega)
  have HA6 : Hid (Aside g A w6) := HA5.out.trans hs6
  have HO6 : Hid (OwnI w6 A.heap.size (.slice da rn dc) N) := OwnI.aside HO5.out hs6 (by omega)
  have C7' := C7 w6 hc6
  clear C6' C7 HK5 HA5 hs6 hc6 HO5
  go_wp2_with fail
  refine C7'.mono ?_
  rintro e w7 ⟨rfl, hc7, hs7⟩
  have HK7 : Hid (CellsAt w7 w.heap.size #[.int .i64 0, .int .i64 0, .slice none 0 0, .int .i64 0, .int .i64 0, .int .i64 0, .int .i64 0, .int .i64 0, .string ⟨#[]⟩, .int .i64 0, .slice none 0 0, .slice none 0 0] 32) := HK6.out.aside hs7 (by omega)
  have HA7 : Hid (Aside g A w7) := HA6.out.trans hs7
  have HO7 : Hid (OwnI w7 A.heap.size (.slice da rn dc) N) := OwnI.aside HO6.out hs7 (by omega)
  have C8' := C8 w7 hc7
  clear C7' C8 HK6 HA6 hs7 hc7 HO6
  go_wp2_with fail
  refine C8'.mono ?_
  rintro e w8 ⟨va, vn, vc, rfl, hv1, hv2, hv3, hv4, hc8, hs8⟩
  have HK8 : Hid (CellsAt w8 w.heap.size #[.int .i64 0, .int .i64 0, .slice none 0 0, .int .i64 0, .int .i64 0, .int .i64 0, .int .i64 0, .int .i64 0, .string ⟨#[]⟩, .int .i64 0, .slice none 0 0, .slice none 0 0] 32) := HK7.out.aside hs8 (by omega)
  have HA8 : Hid (Aside g A w8) := HA7.out.trans hs8
  have HO8 : Hid (OwnI w8 A.heap.size (.slice da rn dc) N) := OwnI.aside HO7.out hs8 (by omega)
  have HV8 : Hid (r8.1.length = vn ∧ vn ≤ 65536 ∧ vn ≤ vc) := ⟨hv1, hv2, hv3⟩
  have HW8 : Hid (OwnV w8 A.heap.size (.slice va vn vc) r8.1) := OwnV.base hv4 HA7.out.size
  have HC8 : Hid (CAt w8 g a len cap l r8.2) := hc8
  clear hv1 hv2 hv3 hv4 hc8
  clear C8' HK7 HA7 HO7 hs8
  obtain ⟨X, hX⟩ : ∃ X, X = w8.alloc (.cells #[.int .i64 r2.1.1, .int .i64 r2.1.2, .slice da rn dc, .int .i64 r4.1.1, .int .i64 r4.1.2.1, .int .i64 r4.1.2.2, .int .i64 r1.1, .int .i64 r5.1, .string r6.1, .int .i64 r7.1, .slice va vn vc, .slice none 0 0] 32) := ⟨_, rfl⟩
  have hb : Below w8.heap.size w8 X := by rw [hX]; exact alloc_below _ _
  have hXs : X.heap.size = w8.heap.size + 1 := by rw [hX]; simp
  have HKX : Hid (CellsAt X w8.heap.size #[.int .i64 r2.1.1, .int .i64 r2.1.2, .slice da rn dc, .int .i64 r4.1.1, .int .i64 r4.1.2.1, .int .i64 r4.1.2.2, .int .i64 r1.1, .int .i64 r5.1, .string r6.1, .int .i64 r7.1, .slice va vn vc, .slice none 0 0] 32) := by rw [hX]; exact CellsAt.made rfl
  have HKZ : Hid (CellsAt X w.heap.size #[.int .i64 0, .int .i64 0, .slice none 0 0, .int .i64 0, .int .i64 0, .int .i64 0, .int .i64 0, .int .i64 0, .string ⟨#[]⟩, .int .i64 0, .slice none 0 0, .slice none 0 0] 32) := HK8.out.later hb
  have HOX : Hid (OwnI X A.heap.size (.slice da rn dc) N) := OwnI.later HO8.out hb
  have HWX : Hid (OwnV X A.heap.size (.slice va vn vc) r8.1) := OwnV.later HW8.out hb
  have HAX : Hid (Aside g A X) := aside_below HA8.out (hb.mono HA8.out.size)
  have C9' := C9 X (HC8.out.later hb)
  have hgX : w.heap.size + 1 ≤ w8.heap.size := by have := HA8.out.size; omega
  have HXX : Hid (X = w8.alloc (.cells #[.int .i64 r2.1.1, .int .i64 r2.1.2, .slice da rn dc, .int .i64 r4.1.1, .int .i64 r4.1.2.1, .int .i64 r4.1.2.2, .int .i64 r1.1, .int .i64 r5.1, .string r6.1, .int .i64 r7.1, .slice va vn vc, .slice none 0 0] 32)) := hX
  clear hX C9 HK8 HO8 HW8 HC8 hb HA8
  go_wp2_with fail
  rw [← HXX.out]
  refine C9'.mono ?_
  rintro e w9 ⟨rfl, hc9, hs9⟩
  have HS9 : Hid (Stay (fun b => b ≠ g ∧ b ≠ w8.heap.size ∧ b < X.heap.size) X w9) := Stay.mono hs9 (fun b h => ⟨h.1, h.2.2⟩)
  have HK9 : Hid (CellsAt w9 w8.heap.size #[.int .i64 r2.1.1, .int .i64 r2.1.2, .slice da rn dc, .int .i64 r4.1.1, .int .i64 r4.1.2.1, .int .i64 r4.1.2.2, .int .i64 r1.1, .int .i64 r5.1, .string r6.1, .int .i64 r7.1, .slice va vn vc, .slice none 0 0] 32) := HKX.out.aside hs9 (by omega)
  clear C9' HXX hs9
  have d5 : decide ((64 : Int) < (m : Int)) = decide (64 < m) := by
    by_cases c : 64 < m
    · rw [decide_eq_true c, decide_eq_true (by omega)]
    · rw [decide_eq_false c, decide_eq_false (by omega)]
  have HFIN : Hid (∀ (V V' : World) (od : Option Addr) (on oc : Nat) (ds : List (Int × Int)), SameBut w.heap.size V V' → Stay (fun b => b ≠ g ∧ b ≠ w8.heap.size ∧ b < X.heap.size) X V → OwnD V X.heap.size (.slice od on oc) ds → ds.length = on → on ≤ 64 → on ≤ oc → CAt V g a len cap l DD.2 → (DD.2.2 = 0 → ds = DD.1) → ∃ x da' va' oa' dc' vc' oc', (Value.agg #[.int .i64 r2.1.1, .int .i64 r2.1.2, .slice da rn dc, .int .i64 r4.1.1, .int .i64 r4.1.2.1, .int .i64 r4.1.2.2, .int .i64 r1.1, .int .i64 r5.1, .string r6.1, .int .i64 r7.1, .slice va vn vc, .slice od on oc]) = (Value.agg (cellsO x da' va' oa' dc' vc' oc')) ∧ LiesO V' x da' va' oa' dc' vc' oc' ∧ FreshO w.heap.size da' va' oa' ∧ CAt V' g a len cap l TT.2 ∧ (TT.2.2 = 0 → toTO x = TT.1) ∧ Aside g w V') := fun V V' od on oc ds hSB hS hO hd1 hd2 hd3 hC hE => by
    have hz : CellsAt V w.heap.size #[.int .i64 0, .int .i64 0, .slice none 0 0, .int .i64 0, .int .i64 0, .int .i64 0, .int .i64 0, .int .i64 0, .string ⟨#[]⟩, .int .i64 0, .slice none 0 0, .slice none 0 0] 32 := (hS.block w.heap.size ⟨by omega, by omega, by omega⟩).trans HKZ.out
    have same := hSB.block
    have size := hSB.size
    have hAV : Aside g w V := by
      have h1 : Aside g w X := HA0.out.trans HAX.out
      have hx := h1.size
      exact ⟨hS.os.trans h1.os, hS.tape.trans h1.tape, hS.output.trans h1.output, Nat.le_trans hx hS.size, fun b hb => (hS.block b ⟨hb.1, by omega, by omega⟩).trans (h1.block b hb)⟩
    have hAf : Aside g w V' := ⟨hSB.os.trans hAV.os, hSB.tape.trans hAV.tape, hSB.output.trans hAV.output, by rw [size]; exact hAV.size, fun b hb => (same b (by omega)).trans (hAV.block b hb)⟩
    have hI : OwnI V' A.heap.size (.slice da rn dc) N := by
      refine ⟨HOX.out.1, ?_⟩
      rcases HOX.out.2 with h2 | ⟨x, cap', cur, hv, hx, hh, hc⟩
      · exact .inl h2
      · refine .inr ⟨x, cap', cur, hv, hx, ?_, hc⟩
        have hlt := heap_lt hh
        have hne : x ≠ w8.heap.size := fun e => by rw [e] at hh; have h9 := hh.symm.trans HKX.out; simp at h9
        exact ((same x (by omega)).trans (hS.block x ⟨by omega, hne, hlt⟩)).trans hh
    have hW : OwnV V' A.heap.size (.slice va vn vc) r8.1 := by
      refine ⟨HWX.out.1, ?_⟩
      rcases HWX.out.2 with h2 | ⟨x, cap', cur, hv, hx, hh, hc⟩
      · exact .inl h2
      · refine .inr ⟨x, cap', cur, hv, hx, ?_, hc⟩
        have hlt := heap_lt hh
        have hne : x ≠ w8.heap.size := fun e => by rw [e] at hh; have h9 := hh.symm.trans HKX.out; simp at h9
        exact ((same x (by omega)).trans (hS.block x ⟨by omega, hne, hlt⟩)).trans hh
    have hD : OwnD V' X.heap.size (.slice od on oc) ds := by
      refine ⟨hO.1, ?_⟩
      rcases hO.2 with h2 | ⟨x, cap', cur, hv, hx, hh, hc⟩
      · exact .inl h2
      · exact .inr ⟨x, cap', cur, hv, hx, (same x (by omega)).trans hh, hc⟩
    obtain ⟨n1, n2, n3, n4⟩ := HN3.out
    obtain ⟨q1, q2, q3⟩ := HV8.out
    obtain ⟨ia, ic, ie, _, ir, inil⟩ := OwnI.form hI
    obtain ⟨ja, jc, je, _, jr, jnil⟩ := OwnV.form hW
    obtain ⟨ka, kc, ke, _, kr, knil⟩ := OwnD.form hD
    simp only [Value.slice.injEq] at ie je ke
    obtain ⟨rfl, _, rfl⟩ := ie
    obtain ⟨rfl, _, rfl⟩ := je
    obtain ⟨rfl, _, rfl⟩ := ke
    have hfr : FreshO w.heap.size da va od := ⟨fun b o e => by have := (World.ownsRow.lt hI b (by rw [e]; rfl)).1; omega, fun b o e => by have := (World.ownsRow.lt hW b (by rw [e]; rfl)).1; omega, fun b o e => by have := (World.ownsRow.lt hD b (by rw [e]; rfl)).1; omega⟩
    refine ⟨⟨r2.1.1, r2.1.2, N, r4.1.1, r4.1.2.1, r4.1.2.2, r1.1, r5.1, r6.1, r7.1, r8.1, ds⟩, da, va, od, dc, vc, oc, ?_, ?_, hfr, ?_, ?_, hAf⟩
    · rw [← n1, ← q1, ← hd1]
    · exact ⟨ir, jr, kr, by show N.length ≤ _; omega, by show r8.1.length ≤ _; omega, by show ds.length ≤ _; omega, by show N.length ≤ _; omega, by show r8.1.length ≤ _; omega, by show ds.length ≤ _; omega, inil, jnil, knil, by show r6.1.size ≤ _; omega⟩
    · rw [HTT.out]
      exact hC.same (by omega) (fun x k e h0 => by have := HSRC.out x k e h0; omega) hSB
    · intro h0
      have h3 := HS3.out h0
      rw [HTT.out] at h0 ⊢
      show (r1.1, (r2.1.1, r2.1.2), N, (r4.1.1, r4.1.2.1, r4.1.2.2), r5.1, r6.1, r7.1, r8.1, ds) = _
      rw [n4 h3, hE h0]
  rcases hc9.cases with ⟨p, hp, rfl, hb⟩ | ⟨p, ht, hb⟩
  · obtain ⟨c0, c1, c2⟩ := cellsC_at hb
    have f2 := hb.free 2
    by_cases h5 : 64 < m
    · rw [decide_eq_true h5] at d5
      obtain ⟨hC, hA⟩ := hc9.bad (t' := DD.2) (HVm.out h5)
      have HC : Hid (CAt (w9.setCell ⟨g, 2, none⟩ (.bool true)) g a len cap l DD.2) := hC
      have HX : Hid (CellsAt (w9.setCell ⟨g, 2, none⟩ (.bool true)) g #[.slice a len cap, .int .i64 (p : Int), .bool true] 70) := hb.set 2 (.bool true)
      have HKx : Hid (CellsAt (w9.setCell ⟨g, 2, none⟩ (.bool true)) w8.heap.size #[.int .i64 r2.1.1, .int .i64 r2.1.2, .slice da rn dc, .int .i64 r4.1.1, .int .i64 r4.1.2.1, .int .i64 r4.1.2.2, .int .i64 r1.1, .int .i64 r5.1, .string r6.1, .int .i64 r7.1, .slice va vn vc, .slice none 0 0] 32) := HK9.out.other (by omega) 2 (.bool true)
      have HS : Hid (Stay (fun b => b ≠ g ∧ b ≠ w8.heap.size ∧ b < X.heap.size) X (w9.setCell ⟨g, 2, none⟩ (.bool true))) := Stay.setCell (p := ⟨g, 2, none⟩) HS9.out (fun h => h.1 rfl) _
      clear hC hA hb hc9 HS9 HK9
      go_wp2
      go_loopw [5] (fun i wr => i = .int .i64 0 ∧ Hid (CAt wr g a len cap l DD.2) ∧ Hid (CellsAt wr w8.heap.size #[.int .i64 r2.1.1, .int .i64 r2.1.2, .slice da rn dc, .int .i64 r4.1.1, .int .i64 r4.1.2.1, .int .i64 r4.1.2.2, .int .i64 r1.1, .int .i64 r5.1, .string r6.1, .int .i64 r7.1, .slice va vn vc, .slice none 0 0] 32) ∧ Hid (Stay (fun b => b ≠ g ∧ b ≠ w8.heap.size ∧ b < X.heap.size) X wr) ∧ Hid (wr.cell? ⟨g, 2, none⟩ = some (.bool true))) (fun _ _ => 0)
      case atStart => exact ⟨rfl, HC, HKx, HS, (cellsC_at HX.out).2.2⟩
      case round =>
      obtain ⟨rfl, hP, hK, hS, hx⟩ := hrel
      have y2c := hx.out
      have hKw := hK.out
      have hZw : CellsAt wr w.heap.size #[.int .i64 0, .int .i64 0, .slice none 0 0, .int .i64 0, .int .i64 0, .int .i64 0, .int .i64 0, .int .i64 0, .string ⟨#[]⟩, .int .i64 0, .slice none 0 0, .slice none 0 0] 32 := (hS.out.block w.heap.size ⟨by omega, by omega, by omega⟩).trans HKZ.out
      have hSw := hS.out
      have hOw : OwnD wr X.heap.size (.slice none 0 0) [] := OwnD.nought _ _
      have hCw := hP.out
      by_cases hm0 : 0 < m
      · obtain ⟨f0, f1, f2, f3, f4, f5, f6, f7, f8, f9, f10, f11⟩ := cellsO_at hKw
        obtain ⟨y0, y1, y2, y3, y4, y5, y6, y7, y8, y9, y10, y11⟩ := cellsO_at hZw
        have z0 := hZw.free 0
        have z1 := hZw.free 1
        have z2 := hZw.free 2
        have z3 := hZw.free 3
        have z4 := hZw.free 4
        have z5 := hZw.free 5
        have z6 := hZw.free 6
        have z7 := hZw.free 7
        have z8 := hZw.free 8
        have z9 := hZw.free 9
        have z10 := hZw.free 10
        have z11 := hZw.free 11
        go_wp2
        refine bodyPost_ret (by simp [results, Try.results33, go_sem, y0, y1, y2, y3, y4, y5, y6, y7, y8, y9, y10, y11]; rfl) rfl ?_
        obtain ⟨x, da', va', oa', dc', vc', oc', he, r1', r0', r2', r3', r4'⟩ := HFIN.out _ _ none 0 0 [] ((((((((((((((SameBut.refl w.heap.size _).set 0 (.int .i64 r2.1.1)).set 1 (.int .i64 r2.1.2)).set 2 (.slice da rn dc)).set 3 (.int .i64 r4.1.1)).set 4 (.int .i64 r4.1.2.1)).set 5 (.int .i64 r4.1.2.2)).set 6 (.int .i64 r1.1)).set 7 (.int .i64 r5.1)).set 8 (.string r6.1)).set 9 (.int .i64 r7.1)).set 10 (.slice va vn vc)).set 11 (.slice none 0 0))) hSw hOw (by rfl) (by omega) (by omega) hCw (fun h0 => absurd h0 (HVm.out h5))
        exact ⟨x, da', va', oa', dc', vc', oc', congrArg Ending.returned he, r1', r0', r2', r3', r4'⟩
      · exact absurd h5 (by omega)
    · rw [decide_eq_false h5] at d5
      have hA : Aside g w9 (w9.setCell ⟨g, 2, none⟩ (.bool false)) := Stay.setCell (p := ⟨g, 2, none⟩) (Stay.refl _ w9) (fun h => h.1 rfl) _
      have HC : Hid (CAt (w9.setCell ⟨g, 2, none⟩ (.bool false)) g a len cap l ((p : Int), 0)) := hc9.to hA (hb.set 2 (.bool false)) (.inl ⟨rfl, rfl, by omega, by omega⟩)
      have HKx : Hid (CellsAt (w9.setCell ⟨g, 2, none⟩ (.bool false)) w8.heap.size #[.int .i64 r2.1.1, .int .i64 r2.1.2, .slice da rn dc, .int .i64 r4.1.1, .int .i64 r4.1.2.1, .int .i64 r4.1.2.2, .int .i64 r1.1, .int .i64 r5.1, .string r6.1, .int .i64 r7.1, .slice va vn vc, .slice none 0 0] 32) := HK9.out.other (by omega) 2 (.bool false)
      have HS : Hid (Stay (fun b => b ≠ g ∧ b ≠ w8.heap.size ∧ b < X.heap.size) X (w9.setCell ⟨g, 2, none⟩ (.bool false))) := Stay.setCell (p := ⟨g, 2, none⟩) HS9.out (fun h => h.1 rfl) _
      have HVE : Hid (DD = takeDs l m ((p : Int), 0)) := HVk.out (by omega)
      clear hA hb hc9 HS9 HK9 HVk HVt HVm
      go_wp2
      go_loopw [5] (fun i wr => ∃ (k : Nat) (sk : Int × Int) (done : List (Int × Int)) (od : Option Addr) (oc : Nat), k ≤ m ∧ i = .int .i64 k ∧ k ≤ oc ∧ Hid (done.length = k) ∧ Hid (DD = (done ++ (takeDs l (m - k) sk).1, (takeDs l (m - k) sk).2)) ∧ Hid (OwnD wr X.heap.size (.slice od k oc) done) ∧ Hid (CellsAt wr w8.heap.size #[.int .i64 r2.1.1, .int .i64 r2.1.2, .slice da rn dc, .int .i64 r4.1.1, .int .i64 r4.1.2.1, .int .i64 r4.1.2.2, .int .i64 r1.1, .int .i64 r5.1, .string r6.1, .int .i64 r7.1, .slice va vn vc, .slice od k oc] 32) ∧ Hid (CAt wr g a len cap l sk) ∧ Hid (Stay (fun b => b ≠ g ∧ b ≠ w8.heap.size ∧ b < X.heap.size) X wr)) (fun i _ => m - (RowKit.intOf i).toNat)
      case atStart => exact ⟨0, ((p : Int), 0), [], none, 0, Nat.zero_le _, rfl, Nat.le_refl _, rfl, HVE.out, OwnD.nought _ _, HKx, HC, HS⟩
      case round =>
      clear HC HKx HVE HS c0 c1 c2 f2 d5
      obtain ⟨k, sk, done, od, oc, hk, rfl, hkc, hD, hE, hO, hK, hP, hS⟩ := hrel
      have hZw : CellsAt wr w.heap.size #[.int .i64 0, .int .i64 0, .slice none 0 0, .int .i64 0, .int .i64 0, .int .i64 0, .int .i64 0, .int .i64 0, .string ⟨#[]⟩, .int .i64 0, .slice none 0 0, .slice none 0 0] 32 := (hS.out.block w.heap.size ⟨by omega, by omega, by omega⟩).trans HKZ.out
      by_cases hlt : k < m
      · rcases hP.out.cases with ⟨q, hq, hsk, hb⟩ | ⟨q, ht, hb⟩
        · obtain ⟨c0, c1, c2⟩ := cellsC_at hb
          have C := fun (V : World) (hV : CAt V g a len cap l sk) => cDot_any g a len cap l sk V hV
          have HE : Hid (DD = (done ++ [(takeD l sk).1] ++ (takeDs l (m - (k + 1)) (takeD l sk).2).1, (takeDs l (m - (k + 1)) (takeD l sk).2).2)) := by
            have h := hE.out
            rw [show m - k = m - (k + 1) + 1 from by omega] at h
            refine h.trans ?_
            rw [takeDs]
            simp
          generalize takeD l sk = r at C HE
          obtain ⟨⟨dp, dq⟩, s2⟩ := r
          simp only at C HE
          have x0 : wr.cell? ⟨w8.heap.size, 11, none⟩ = some (.slice od k oc) := hK.out.cell 11
          clear hE hb
          go_wp2_with fail
          go_region_law (first
            | (refine step_append_run rfl (.tmp 49) (.tmp 52) 30 30 rfl _ _ _ _ rfl rfl hrun ?_)
            | (refine step_callC (f := 71) (args := #[.pointer (some ⟨g, 0, none⟩)]) rfl (by first | (go_simp; done) | (go_simp; with_reducible rfl)) (C _ (hP.out.later ((Below.refl _ _).drew))) ?_
               rintro e w2 ⟨rfl, hp2, hs2'⟩
               have hs2 : Aside g wr w2 := ⟨hs2'.os, hs2'.tape, hs2'.output, hs2'.size, hs2'.block⟩
               have hk2 : CellsAt w2 w8.heap.size #[.int .i64 r2.1.1, .int .i64 r2.1.2, .slice da rn dc, .int .i64 r4.1.1, .int .i64 r4.1.2.1, .int .i64 r4.1.2.2, .int .i64 r1.1, .int .i64 r5.1, .string r6.1, .int .i64 r7.1, .slice va vn vc, .slice od k oc] 32 := hK.out.aside hs2 (by omega)
               have x1 : w2.cell? ⟨w8.heap.size, 11, none⟩ = some (.slice od k oc) := hk2.cell 11
               have x2 : ∀ o, (w2.alloc o).cell? ⟨w8.heap.size, 11, none⟩ = some (.slice od k oc) := fun o => cell_later (alloc_below _ _) x1
               have bx := box2 w2 w2.heap.size rfl (.int .i64 dp) (.int .i64 dq) 25
               have hszX : X.heap.size ≤ w2.heap.size := Nat.le_trans hS.out.size hs2.size
               obtain ⟨a', cap', w', hrun, hc', ho', hsz', hb'⟩ := run_append_dot (ty := 30) ((hO.out.aside hs2 (by omega)).later (alloc_below w2 (.cells #[.int .i64 dp, .int .i64 dq] 25))) hD.out (by omega) (Nat.le_trans hszX (by simp)) bx.1 bx.2
               have hkw : CellsAt w' w8.heap.size #[.int .i64 r2.1.1, .int .i64 r2.1.2, .slice da rn dc, .int .i64 r4.1.1, .int .i64 r4.1.2.1, .int .i64 r4.1.2.2, .int .i64 r1.1, .int .i64 r5.1, .string r6.1, .int .i64 r7.1, .slice va vn vc, .slice od k oc] 32 := ((hb'.block w8.heap.size (by omega)).trans ((alloc_below w2 (.cells #[.int .i64 dp, .int .i64 dq] 25)).block w8.heap.size (by omega))).trans hk2
               have x3 : w'.cell? ⟨w8.heap.size, 11, none⟩ = some (.slice od k oc) := hkw.cell 11
               have f3 := hkw.free 11
               refine ⟨_, rfl, ?_⟩))
          all_goals
            have HK3 : Hid (CellsAt (w'.setCell ⟨w8.heap.size, 11, none⟩ (.slice a' (k + 1) cap')) w8.heap.size #[.int .i64 r2.1.1, .int .i64 r2.1.2, .slice da rn dc, .int .i64 r4.1.1, .int .i64 r4.1.2.1, .int .i64 r4.1.2.2, .int .i64 r1.1, .int .i64 r5.1, .string r6.1, .int .i64 r7.1, .slice va vn vc, .slice a' (k + 1) cap'] 32) := hkw.set 11 (.slice a' (k + 1) cap')
            have HO3 : Hid (OwnD (w'.setCell ⟨w8.heap.size, 11, none⟩ (.slice a' (k + 1) cap')) X.heap.size (.slice a' (k + 1) cap') (done ++ [(dp, dq)])) := ho'.boxedC (by omega)
            have hp3 : CAt w' g a len cap l s2 := (hp2.later (alloc_below w2 (.cells #[.int .i64 dp, .int .i64 dq] 25))).below hb' (by omega) (fun x k e h0 => by have := HSRC.out x k e h0; omega)
            have HP3 : Hid (CAt (w'.setCell ⟨w8.heap.size, 11, none⟩ (.slice a' (k + 1) cap')) g a len cap l s2) := hp3.set 11 _ (by omega) (fun x k e h0 => by have := HSRC.out x k e h0; omega)
            have hs3 : Stay (fun b => b ≠ g ∧ b ≠ w8.heap.size ∧ b < X.heap.size) X w' := (Stay.trans hS.out (Stay.mono hs2 (fun b hb => ⟨hb.1, Nat.lt_of_lt_of_le hb.2.2 hS.out.size⟩))).trans (Stay.of_below ((Below.mono (alloc_below w2 (.cells #[.int .i64 dp, .int .i64 dq] 25)) hszX).trans hb') (fun b hb => hb.2.2))
            have HS3' : Hid (Stay (fun b => b ≠ g ∧ b ≠ w8.heap.size ∧ b < X.heap.size) X (w'.setCell ⟨w8.heap.size, 11, none⟩ (.slice a' (k + 1) cap'))) := Stay.setCell (p := ⟨w8.heap.size, 11, none⟩) hs3 (fun h => h.2.1 rfl) _
            have HD3 : Hid ((done ++ [(dp, dq)]).length = k + 1) := by
              have := hD.out
              show _ = _
              simp
              omega
            clear ho' hb' hp2 hs2 hs2' hO hS hD hK hk2 hkw x0 x1 x2 x3 f3 bx hp3 hs3 c0 c1 c2 C hP hZw
            go_wp2
            go_roundw
            case rel => exact ⟨k + 1, s2, done ++ [(dp, dq)], a', cap', by omega, by go_num, hc', HD3, HE, HO3, HK3, HP3, HS3'⟩
            case measure => simp [RowKit.intOf]; omega
        · obtain ⟨c0, c1, c2⟩ := cellsC_at hb
          have hne : DD.2.2 ≠ 0 := fun h0 => ht (takeDs_stuck (by rw [hE.out] at h0; exact h0))
          have hCw : CAt wr g a len cap l DD.2 := hP.out.to (Aside.refl _ _) hb (.inr ⟨rfl, hne⟩)
          have hKw := hK.out
          have hSw := hS.out
          have hOw := hO.out
          clear hb hE
          obtain ⟨f0, f1, f2, f3, f4, f5, f6, f7, f8, f9, f10, f11⟩ := cellsO_at hKw
          obtain ⟨y0, y1, y2, y3, y4, y5, y6, y7, y8, y9, y10, y11⟩ := cellsO_at hZw
          have z0 := hZw.free 0
          have z1 := hZw.free 1
          have z2 := hZw.free 2
          have z3 := hZw.free 3
          have z4 := hZw.free 4
          have z5 := hZw.free 5
          have z6 := hZw.free 6
          have z7 := hZw.free 7
          have z8 := hZw.free 8
          have z9 := hZw.free 9
          have z10 := hZw.free 10
          have z11 := hZw.free 11
          go_wp2
          refine bodyPost_ret (by simp [results, Try.results33, go_sem, y0, y1, y2, y3, y4, y5, y6, y7, y8, y9, y10, y11]; rfl) rfl ?_
          obtain ⟨x, da', va', oa', dc', vc', oc', he, r1', r0', r2', r3', r4'⟩ := HFIN.out _ _ od k oc done ((((((((((((((SameBut.refl w.heap.size _).set 0 (.int .i64 r2.1.1)).set 1 (.int .i64 r2.1.2)).set 2 (.slice da rn dc)).set 3 (.int .i64 r4.1.1)).set 4 (.int .i64 r4.1.2.1)).set 5 (.int .i64 r4.1.2.2)).set 6 (.int .i64 r1.1)).set 7 (.int .i64 r5.1)).set 8 (.string r6.1)).set 9 (.int .i64 r7.1)).set 10 (.slice va vn vc)).set 11 (.slice od k oc))) hSw hOw (by exact hD.out) (by omega) (by omega) hCw (fun h0 => absurd h0 hne)
          exact ⟨x, da', va', oa', dc', vc', oc', congrArg Ending.returned he, r1', r0', r2', r3', r4'⟩
      · obtain rfl : k = m := by omega
        have e1 : DD = (done, sk) := by
          rw [hE.out, Nat.sub_self]
          simp [takeDs]
        have hCw : CAt wr g a len cap l DD.2 := by rw [e1]; exact hP.out
        have hKw := hK.out
        have hSw := hS.out
        have hOw := hO.out
        have HE1 : Hid (DD = (done, sk)) := e1
        clear hE e1
        obtain ⟨f0, f1, f2, f3, f4, f5, f6, f7, f8, f9, f10, f11⟩ := cellsO_at hKw
        obtain ⟨y0, y1, y2, y3, y4, y5, y6, y7, y8, y9, y10, y11⟩ := cellsO_at hZw
        have z0 := hZw.free 0
        have z1 := hZw.free 1
        have z2 := hZw.free 2
        have z3 := hZw.free 3
        have z4 := hZw.free 4
        have z5 := hZw.free 5
        have z6 := hZw.free 6
        have z7 := hZw.free 7
        have z8 := hZw.free 8
        have z9 := hZw.free 9
        have z10 := hZw.free 10
        have z11 := hZw.free 11
        go_wp2
        refine bodyPost_ret (by simp [results, Try.results33, go_sem, y0, y1, y2, y3, y4, y5, y6, y7, y8, y9, y10, y11]; rfl) rfl ?_
        obtain ⟨x, da', va', oa', dc', vc', oc', he, r1', r0', r2', r3', r4'⟩ := HFIN.out _ _ od k oc done ((((((((((((((SameBut.refl w.heap.size _).set 0 (.int .i64 r2.1.1)).set 1 (.int .i64 r2.1.2)).set 2 (.slice da rn dc)).set 3 (.int .i64 r4.1.1)).set 4 (.int .i64 r4.1.2.1)).set 5 (.int .i64 r4.1.2.2)).set 6 (.int .i64 r1.1)).set 7 (.int .i64 r5.1)).set 8 (.string r6.1)).set 9 (.int .i64 r7.1)).set 10 (.slice va vn vc)).set 11 (.slice od k oc))) hSw hOw (by exact hD.out) (by omega) (by omega) hCw (fun _ => by rw [HE1.out])
        exact ⟨x, da', va', oa', dc', vc', oc', congrArg Ending.returned he, r1', r0', r2', r3', r4'⟩
  · obtain ⟨c0, c1, c2⟩ := cellsC_at hb
    have f2 := hb.free 2
    obtain ⟨hC, hA⟩ := hc9.bad (t' := DD.2) (HVt.out ht)
    have HC : Hid (CAt (w9.setCell ⟨g, 2, none⟩ (.bool true)) g a len cap l DD.2) := hC
    have HX : Hid (CellsAt (w9.setCell ⟨g, 2, none⟩ (.bool true)) g #[.slice a len cap, .int .i64 p, .bool true] 70) := hb.set 2 (.bool true)
    have HKx : Hid (CellsAt (w9.setCell ⟨g, 2, none⟩ (.bool true)) w8.heap.size #[.int .i64 r2.1.1, .int .i64 r2.1.2, .slice da rn dc, .int .i64 r4.1.1, .int .i64 r4.1.2.1, .int .i64 r4.1.2.2, .int .i64 r1.1, .int .i64 r5.1, .string r6.1, .int .i64 r7.1, .slice va vn vc, .slice none 0 0] 32) := HK9.out.other (by omega) 2 (.bool true)
    have HS : Hid (Stay (fun b => b ≠ g ∧ b ≠ w8.heap.size ∧ b < X.heap.size) X (w9.setCell ⟨g, 2, none⟩ (.bool true))) := Stay.setCell (p := ⟨g, 2, none⟩) HS9.out (fun h => h.1 rfl) _
    have HN : Hid (DD.2.2 ≠ 0) := HVt.out ht
    clear hC hA hb hc9 HS9 HK9 HVk HVm
    go_wp2
    go_loopw [5] (fun i wr => i = .int .i64 0 ∧ Hid (CAt wr g a len cap l DD.2) ∧ Hid (CellsAt wr w8.heap.size #[.int .i64 r2.1.1, .int .i64 r2.1.2, .slice da rn dc, .int .i64 r4.1.1, .int .i64 r4.1.2.1, .int .i64 r4.1.2.2, .int .i64 r1.1, .int .i64 r5.1, .string r6.1, .int .i64 r7.1, .slice va vn vc, .slice none 0 0] 32) ∧ Hid (Stay (fun b => b ≠ g ∧ b ≠ w8.heap.size ∧ b < X.heap.size) X wr) ∧ Hid (wr.cell? ⟨g, 2, none⟩ = some (.bool true))) (fun _ _ => 0)
    case atStart => exact ⟨rfl, HC, HKx, HS, (cellsC_at HX.out).2.2⟩
    case round =>
    obtain ⟨rfl, hP, hK, hS, hx⟩ := hrel
    have y2c := hx.out
    have hKw := hK.out
    have hZw : CellsAt wr w.heap.size #[.int .i64 0, .int .i64 0, .slice none 0 0, .int .i64 0, .int .i64 0, .int .i64 0, .int .i64 0, .int .i64 0, .string ⟨#[]⟩, .int .i64 0, .slice none 0 0, .slice none 0 0] 32 := (hS.out.block w.heap.size ⟨by omega, by omega, by omega⟩).trans HKZ.out
    have hSw := hS.out
    have hOw : OwnD wr X.heap.size (.slice none 0 0) [] := OwnD.nought _ _
    have hCw := hP.out
    by_cases hm0 : 0 < m
    · obtain ⟨f0, f1, f2, f3, f4, f5, f6, f7, f8, f9, f10, f11⟩ := cellsO_at hKw
      obtain ⟨y0, y1, y2, y3, y4, y5, y6, y7, y8, y9, y10, y11⟩ := cellsO_at hZw
      have z0 := hZw.free 0
      have z1 := hZw.free 1
      have z2 := hZw.free 2
      have z3 := hZw.free 3
      have z4 := hZw.free 4
      have z5 := hZw.free 5
      have z6 := hZw.free 6
      have z7 := hZw.free 7
      have z8 := hZw.free 8
      have z9 := hZw.free 9
      have z10 := hZw.free 10
      have z11 := hZw.free 11
      go_wp2
      refine bodyPost_ret (by simp [results, Try.results33, go_sem, y0, y1, y2, y3, y4, y5, y6, y7, y8, y9, y10, y11]; rfl) rfl ?_
      obtain ⟨x, da', va', oa', dc', vc', oc', he, r1', r0', r2', r3', r4'⟩ := HFIN.out _ _ none 0 0 [] ((((((((((((((SameBut.refl w.heap.size _).set 0 (.int .i64 r2.1.1)).set 1 (.int .i64 r2.1.2)).set 2 (.slice da rn dc)).set 3 (.int .i64 r4.1.1)).set 4 (.int .i64 r4.1.2.1)).set 5 (.int .i64 r4.1.2.2)).set 6 (.int .i64 r1.1)).set 7 (.int .i64 r5.1)).set 8 (.string r6.1)).set 9 (.int .i64 r7.1)).set 10 (.slice va vn vc)).set 11 (.slice none 0 0))) hSw hOw (by rfl) (by omega) (by omega) hCw (fun h0 => absurd h0 HN.out)
      exact ⟨x, da', va', oa', dc', vc', oc', congrArg Ending.returned he, r1', r0', r2', r3', r4'⟩
    · obtain rfl : m = 0 := by omega
      obtain ⟨f0, f1, f2, f3, f4, f5, f6, f7, f8, f9, f10, f11⟩ := cellsO_at hKw
      obtain ⟨y0, y1, y2, y3, y4, y5, y6, y7, y8, y9, y10, y11⟩ := cellsO_at hZw
      have z0 := hZw.free 0
      have z1 := hZw.free 1
      have z2 := hZw.free 2
      have z3 := hZw.free 3
      have z4 := hZw.free 4
      have z5 := hZw.free 5
      have z6 := hZw.free 6
      have z7 := hZw.free 7
      have z8 := hZw.free 8
      have z9 := hZw.free 9
      have z10 := hZw.free 10
      have z11 := hZw.free 11
      go_wp2
      refine bodyPost_ret (by simp [results, Try.results33, go_sem, y0, y1, y2, y3, y4, y5, y6, y7, y8, y9, y10, y11]; rfl) rfl ?_
      obtain ⟨x, da', va', oa', dc', vc', oc', he, r1', r0', r2', r3', r4'⟩ := HFIN.out _ _ none 0 0 [] ((((((((((((((SameBut.refl w.heap.size _).set 0 (.int .i64 r2.1.1)).set 1 (.int .i64 r2.1.2)).set 2 (.slice da rn dc)).set 3 (.int .i64 r4.1.1)).set 4 (.int .i64 r4.1.2.1)).set 5 (.int .i64 r4.1.2.2)).set 6 (.int .i64 r1.1)).set 7 (.int .i64 r5.1)).set 8 (.string r6.1)).set 9 (.int .i64 r7.1)).set 10 (.slice va vn vc)).set 11 (.slice none 0 0))) hSw hOw (by rfl) (by omega) (by omega) hCw (fun h0 => absurd h0 HN.out)
      exact ⟨x, da', va', oa', dc', vc', oc', congrArg Ending.returned he, r1', r0', r2', r3', r4'⟩

end Go.Proofs.Ytmcbdfmajciklaa

namespace Go.Proofs.Ytmcbdfmajciklaa
open Go.RowKit Go.Lib
set_option linter.unusedVariables false

theorem lies_noOP (w : World) : LiesO w noO none none none 0 0 0 :=
  ⟨(fun h => absurd h (by simp [noO])), (fun h => absurd h (by simp [noO])), (fun h => absurd h (by simp [noO])), by simp [noO], by simp [noO], by simp [noO], by simp [noO], by simp [noO], by simp [noO], fun _ => ⟨rfl, rfl⟩, fun _ => ⟨rfl, rfl⟩, fun _ => ⟨rfl, rfl⟩, (by show (0 : Nat) ≤ _; omega)⟩

theorem SameBut.drew {G : Nat} {V V' : World} (h : SameBut G V V') : SameBut G V V'.drew := ⟨h.os, h.tape, h.output, h.size, h.block⟩

theorem below_same {w V V' : World} {G : Nat} (h : Below w.heap.size w V ∧ w.heap.size ≤ G) (hs : SameBut G V V') : Below w.heap.size w V' :=
  ⟨hs.os.trans h.1.os, hs.tape.trans h.1.tape, hs.output.trans h.1.output, by rw [hs.size]; exact h.1.size, fun b hb => (hs.block b (by omega)).trans (h.1.block b hb)⟩

/-- A place that is none. -/
theorem readO_out {l : List UInt8} {p : Int} (h : p < 0 ∨ (l.length : Int) < p) : readO l p = (noO, 0, 1) := by
  have h1 : takeN l (p, 0) 1 = (0, (0, 1)) := by
    unfold takeN
    rw [if_pos rfl]
    unfold rGet
    rw [if_pos (by omega)]
  have hb : ∀ (s : Int), takeN l ((0 : Int), (1 : Int)) s = (0, (0, 1)) := fun s => if_neg (show ¬ ((1 : Int) = 0) by decide)
  have hc : ∀ (most : Nat), takeC l ((0 : Int), (1 : Int)) 1 (most : Int) = (0, (0, 1)) := fun most => by
    unfold takeC
    rw [hb, if_neg (by omega)]
  have hd : takeD l ((0 : Int), (1 : Int)) = ((0, 0), (0, 1)) := by
    unfold takeD
    rw [hb, hb]
  have hv : takeV l ((0 : Int), (1 : Int)) = ([], (0, 1)) := by
    unfold takeV
    rw [show takeC l ((0 : Int), (1 : Int)) 1 5 = (0, (0, 1)) from hc 5]
    rfl
  have hs : takeS l ((0 : Int), (1 : Int)) = ((0, 0, 0), (0, 1)) := by
    unfold takeS
    rw [hb, hb, hb]
  have ht : takeT l ((0 : Int), (1 : Int)) = (ByteArray.empty, (0, 1)) := if_neg (show ¬ ((1 : Int) = 0) by decide)
  have hr : takeR l ((0 : Int), (1 : Int)) = ([], (0, 1)) := if_neg (show ¬ ((1 : Int) = 0) by decide)
  have hds : takeDots l ((0 : Int), (1 : Int)) 64 = ([], (0, 1)) := by
    unfold takeDots
    rw [show takeC l ((0 : Int), (1 : Int)) 1 ((64 : Nat) : Int) = (0, (0, 1)) from hc 64]
    rfl
  unfold readO
  simp only [h1, hb, hd, hv, hs, ht, hr, hds]
  rfl

set_option maxRecDepth 100000 in
set_option maxHeartbeats 2000000 in
theorem rReadOp_any (a : Option Addr) (len cap : Nat) (l : List UInt8) (p : Int) (w : World) (hlen : l.length = len) (hl : len ≤ 1048576) (hcap : len ≤ cap) (hr : Rd w a l) :
    Calls Try.prog 10 #[.slice a len cap, .int .i64 p] w fun e w' => GivesO w w' e (readO l p) := by
  obtain ⟨A, hA⟩ : ∃ A, A = w.alloc (.cells #[.int .i64 0, .int .i64 0, .slice none 0 0, .int .i64 0, .int .i64 0, .int .i64 0, .int .i64 0, .int .i64 0, .string ⟨#[]⟩, .int .i64 0, .slice none 0 0, .slice none 0 0] 32) := ⟨_, rfl⟩
  have hZw : CellsAt A w.heap.size #[.int .i64 0, .int .i64 0, .slice none 0 0, .int .i64 0, .int .i64 0, .int .i64 0, .int .i64 0, .int .i64 0, .string ⟨#[]⟩, .int .i64 0, .slice none 0 0, .slice none 0 0] 32 := by rw [hA]; exact CellsAt.made rfl
  have hbA : Below w.heap.size w A := by rw [hA]; exact alloc_below _ _
  have hsz : A.heap.size = w.heap.size + 1 := by rw [hA]; simp
  have HBW := And.intro hbA (Nat.le_refl w.heap.size)
  have HA : Hid (A = w.alloc (.cells #[.int .i64 0, .int .i64 0, .slice none 0 0, .int .i64 0, .int .i64 0, .int .i64 0, .int .i64 0, .int .i64 0, .string ⟨#[]⟩, .int .i64 0, .slice none 0 0, .slice none 0 0] 32)) := hA
  clear hA
  by_cases hp : p < 0 ∨ (len : Int) < p
  · rw [readO_out (by rw [hlen]; exact hp)]
    have C := fun (V : World) => in_no p 0 len V hp
    clear hr hlen hbA
    go_enter Try.func10, Try.ntmps10
    go_wp2_with fail
    rw [← HA.out]
    refine (C _).mono ?_
    rintro e w1 ⟨rfl, hw⟩
    subst w1
    obtain ⟨y0, y1, y2, y3, y4, y5, y6, y7, y8, y9, y10, y11⟩ := cellsO_at hZw
    have z0 := hZw.free 0
    have z1 := hZw.free 1
    have z2 := hZw.free 2
    have z3 := hZw.free 3
    have z4 := hZw.free 4
    have z5 := hZw.free 5
    have z6 := hZw.free 6
    have z7 := hZw.free 7
    have z8 := hZw.free 8
    have z9 := hZw.free 9
    have z10 := hZw.free 10
    have z11 := hZw.free 11
    go_wp2
    refine bodyPost_ret (by simp [results, Try.results10, go_sem, y0, y1, y2, y3, y4, y5, y6, y7, y8, y9, y10, y11]; rfl) rfl ?_
    exact ⟨none, none, none, 0, 0, 0, rfl, lies_noOP _, below_same HBW (((((((((((((SameBut.refl w.heap.size _).set 0 (.int .i64 0)).set 1 (.int .i64 0)).set 2 (.slice none 0 0)).set 3 (.int .i64 0)).set 4 (.int .i64 0)).set 5 (.int .i64 0)).set 6 (.int .i64 0)).set 7 (.int .i64 0)).set 8 (.string ⟨#[]⟩)).set 9 (.int .i64 0)).set 10 (.slice none 0 0)).set 11 (.slice none 0 0))⟩
  · obtain ⟨q, rfl⟩ : ∃ q : Nat, p = q := ⟨p.toNat, by omega⟩
    have hq : q ≤ len := by omega
    have C := fun (V : World) => in_yes (q : Int) 0 len V (by omega) (by omega)
    obtain ⟨B, hB⟩ : ∃ B, B = A.alloc (.cells #[.slice a len cap, .int .i64 (q : Int), .bool false] 70) := ⟨_, rfl⟩
    have hbB : Below A.heap.size A B := by rw [hB]; exact alloc_below _ _
    have hCB : CellsAt B (w.heap.size + 1) #[.slice a len cap, .int .i64 (q : Int), .bool false] 70 := by rw [hB]; exact CellsAt.made hsz
    have hszB : B.heap.size = w.heap.size + 2 := by rw [hB]; simp [hsz]
    have hcat : CAt B (w.heap.size + 1) a len cap l ((q : Int), 0) := by
      refine ⟨⟨(q : Int), false, hCB, .inl ⟨rfl, rfl, by omega, by omega⟩⟩, (hr.later hbA).later hbB, fun b o e h0 => ?_, hlen, hl, hcap⟩
      obtain ⟨b', o', e', hc⟩ := hr (by rw [hlen]; exact h0)
      rw [e] at e'
      simp only [Option.some.injEq, Addr.mk.injEq, and_true] at e'
      obtain ⟨rfl, rfl⟩ := e'
      have := cell_inside (hc 0 (by rw [hlen]; exact h0))
      omega
    have CO := cOp_any (w.heap.size + 1) a len cap l ((q : Int), 0) B hcat
    have hfine := lawO.fine l ((q : Int), 0) (.inl ⟨rfl, by simp only; omega, by simp only; rw [hlen]; omega⟩)
    rw [readO_take]
    generalize takeO l ((q : Int), 0) = TT at *
    obtain ⟨tv, ts⟩ := TT
    have HB : Hid (B = A.alloc (.cells #[.slice a len cap, .int .i64 (q : Int), .bool false] 70)) := hB
    have HZ : Hid (CellsAt B w.heap.size #[.int .i64 0, .int .i64 0, .slice none 0 0, .int .i64 0, .int .i64 0, .int .i64 0, .int .i64 0, .int .i64 0, .string ⟨#[]⟩, .int .i64 0, .slice none 0 0, .slice none 0 0] 32) := hZw.later hbB
    have HWB : Hid (Below w.heap.size w B) := chain hbA hbB
    clear hB hbB hCB hcat hr hbA hZw HBW
    simp only at CO hfine ⊢
    obtain ⟨R, hR⟩ : ∃ R, (if ts.2 = 0 then (ofTO tv, ts.1, 0) else (noO, 0, ts.2)) = R := ⟨_, rfl⟩
    have HR0 : Hid (ts.2 = 0 → R = (ofTO tv, ts.1, 0)) := fun h => by rw [← hR, if_pos h]
    have HR1 : Hid (ts.2 ≠ 0 → R = (noO, 0, 3)) := fun h => by
      rw [← hR, if_neg h]
      rcases hfine with h1 | h1
      · exact absurd h1.1 h
      · rw [h1]
    rw [hR]
    clear hR hfine
    go_enter Try.func10, Try.ntmps10
    go_wp2_with fail
    rw [← HA.out]
    refine (C _).mono ?_
    rintro e w1 ⟨rfl, hw⟩
    subst w1
    clear C
    go_wp2_with fail
    rw [← HB.out]
    refine CO.mono ?_
    rintro e w2 ⟨x, da, va, oa, dc, vc, oc, rfl, hL, hF, hc, hE, hs⟩
    have hZ2 : CellsAt w2 w.heap.size #[.int .i64 0, .int .i64 0, .slice none 0 0, .int .i64 0, .int .i64 0, .int .i64 0, .int .i64 0, .int .i64 0, .string ⟨#[]⟩, .int .i64 0, .slice none 0 0, .slice none 0 0] 32 := HZ.out.aside hs (by omega)
    have hB2 : Below w.heap.size w w2 := hs.below_from HWB.out (by omega)
    clear CO HZ HWB HA HB
    obtain ⟨X, hX⟩ : ∃ X, X = w2.alloc (.cells #[.int .i64 x.dp, .int .i64 x.dn, .slice da x.deps.length dc, .int .i64 x.sp, .int .i64 x.sl, .int .i64 x.sq, .int .i64 x.kind, .int .i64 x.table, .string x.key, .int .i64 x.col, .slice va x.vals.length vc, .slice oa x.dots.length oc] 32) := ⟨_, rfl⟩
    have hbX : Below w2.heap.size w2 X := by rw [hX]; exact alloc_below _ _
    have hKX : CellsAt X w2.heap.size #[.int .i64 x.dp, .int .i64 x.dn, .slice da x.deps.length dc, .int .i64 x.sp, .int .i64 x.sl, .int .i64 x.sq, .int .i64 x.kind, .int .i64 x.table, .string x.key, .int .i64 x.col, .slice va x.vals.length vc, .slice oa x.dots.length oc] 32 := by rw [hX]; exact CellsAt.made rfl
    have hZw := hZ2.later hbX
    have hLX := hL.later hbX
    have hcX := hc.later hbX
    have HBW := And.intro (chain hB2 hbX) (Nat.le_refl w.heap.size)
    have hsz2 := hs.size
    have HX : Hid (X = w2.alloc (.cells #[.int .i64 x.dp, .int .i64 x.dn, .slice da x.deps.length dc, .int .i64 x.sp, .int .i64 x.sl, .int .i64 x.sq, .int .i64 x.kind, .int .i64 x.table, .string x.key, .int .i64 x.col, .slice va x.vals.length vc, .slice oa x.dots.length oc] 32)) := hX
    clear hX hbX hZ2 hL hc hB2
    rcases hcX.cases with ⟨r, hrl, hts, hb⟩ | ⟨r, ht, hb⟩
    · obtain ⟨c0, c1, c2⟩ := cellsC_at hb
      rw [hts] at HR0 hE
      obtain ⟨f0, f1, f2, f3, f4, f5, f6, f7, f8, f9, f10, f11⟩ := cellsO_at hKX
      obtain ⟨y0, y1, y2, y3, y4, y5, y6, y7, y8, y9, y10, y11⟩ := cellsO_at hZw
      have z0 := hZw.free 0
      have z1 := hZw.free 1
      have z2 := hZw.free 2
      have z3 := hZw.free 3
      have z4 := hZw.free 4
      have z5 := hZw.free 5
      have z6 := hZw.free 6
      have z7 := hZw.free 7
      have z8 := hZw.free 8
      have z9 := hZw.free 9
      have z10 := hZw.free 10
      have z11 := hZw.free 11
      have HRE : Hid (R = (x, (r : Int), 0)) := by
        have h := HR0.out rfl
        have hx : ofTO tv = x := by rw [← hE rfl, of_to]
        rw [hx] at h
        exact h
      have hpq : w2.heap.size ≠ w.heap.size := by omega
      have HLX : Hid (LiesO X x da va oa dc vc oc) := hLX
      have HF : Hid (FreshO B.heap.size da va oa) := hF
      clear hb hcX hLX hF HR0 HR1 hE hZw hKX
      simp only [cellsO]
      have hX0 := HX.out
      clear HX
      subst hX0
      go_wp2_with fail
      go_region_law (fail)
      all_goals
        go_wp2
        refine bodyPost_ret (by simp [results, Try.results10, go_sem, y0, y1, y2, y3, y4, y5, y6, y7, y8, y9, y10, y11]; rfl) rfl ?_
        rw [HRE.out]
        refine ⟨da, va, oa, dc, vc, oc, rfl, LiesO.same (G := w.heap.size) HLX.out ?_ (fun b o e => by have := HF.out.1 b o e; omega) (fun b o e => by have := HF.out.2.1 b o e; omega) (fun b o e => by have := HF.out.2.2 b o e; omega), below_same HBW ?_⟩
        all_goals
          refine SameBut.drew ?_
          iterate 12 refine SameBut.set ?_ _ _
          exact SameBut.refl _ _
    · obtain ⟨c0, c1, c2⟩ := cellsC_at hb
      have HRE : Hid (R = (noO, 0, 3)) := HR1.out ht
      obtain ⟨y0, y1, y2, y3, y4, y5, y6, y7, y8, y9, y10, y11⟩ := cellsO_at hZw
      have z0 := hZw.free 0
      have z1 := hZw.free 1
      have z2 := hZw.free 2
      have z3 := hZw.free 3
      have z4 := hZw.free 4
      have z5 := hZw.free 5
      have z6 := hZw.free 6
      have z7 := hZw.free 7
      have z8 := hZw.free 8
      have z9 := hZw.free 9
      have z10 := hZw.free 10
      have z11 := hZw.free 11
      clear hb hcX hLX hF HR0 HR1 hE hZw hKX
      simp only [cellsO]
      have hX0 := HX.out
      clear HX
      subst hX0
      go_wp2_with fail
      refine bodyPost_ret (by simp [results, Try.results10, go_sem, y0, y1, y2, y3, y4, y5, y6, y7, y8, y9, y10, y11]; rfl) rfl ?_
      rw [HRE.out]
      exact ⟨none, none, none, 0, 0, 0, rfl, lies_noOP _, below_same HBW (((((((((((((SameBut.refl w.heap.size _).set 0 (.int .i64 0)).set 1 (.int .i64 0)).set 2 (.slice none 0 0)).set 3 (.int .i64 0)).set 4 (.int .i64 0)).set 5 (.int .i64 0)).set 6 (.int .i64 0)).set 7 (.int .i64 0)).set 8 (.string ⟨#[]⟩)).set 9 (.int .i64 0)).set 10 (.slice none 0 0)).set 11 (.slice none 0 0))⟩

end Go.Proofs.Ytmcbdfmajciklaa
