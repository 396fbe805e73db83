/-
  MatLater's walk: what the law answers, whatever its numbers.
-/
import Derived.Test.YtljikgjgcpheaaaRows
import Derived.Test.YtljikgjgcpheaaaMLaws
import Derived.Deep.CutRange
namespace Go.Proofs.Ytljikgjgcpheaaa
open Go.RowKit Go.Lib
set_option linter.unusedVariables false

theorem modK (k : Int) : ∃ j : Nat, j < 1000 ∧ wrap64 ((IntKind.u64.wrap k).tmod 1000) = (j : Int) := by
  have := modPlace k 1000 (by omega) (by omega)
  simpa using this

theorem modK1 (k : Int) : ∃ j : Nat, (1 ≤ j ∧ j ≤ 1000) ∧ wrap64 (1 + wrap64 ((IntKind.u64.wrap k).tmod 1000)) = (j : Int) := by
  obtain ⟨j, hj, e⟩ := modK k
  rw [e, IntWalk.wrap64_in _ ⟨by omega, by omega⟩]
  exact ⟨1 + j, by omega, by omega⟩

theorem OwnI.other {w : World} {B g g' n cap k : Nat} {u : Value} {N : List Int} (h : OwnI w B (.slice (some ⟨g, 0, none⟩) n cap) N) (hg : g ≠ g') : OwnI (w.setCell ⟨g', k, none⟩ u) B (.slice (some ⟨g, 0, none⟩) n cap) N := by
  obtain ⟨h1, ⟨hv, _⟩ | ⟨g2, c2, cur, hv, hB, hh, hc⟩⟩ := h
  · cases hv
  · refine ⟨h1, .inr ⟨g2, c2, cur, hv, hB, (Below.heap_setCell w ⟨g', k, none⟩ u g2 (fun e => ?_)).trans hh, hc⟩⟩
    simp only [Value.slice.injEq, Option.some.injEq, Addr.mk.injEq, and_true] at hv
    exact hg (hv.1.trans e)

theorem OwnI.rd {w : World} {B n cap : Nat} {a : Option Addr} {N : List Int} (h : OwnI w B (.slice a n cap) N) : RdI .i64 w a N := by
  obtain ⟨a5, cap5, e5, _, hr5, _⟩ := h.form
  simp only [Value.slice.injEq] at e5
  obtain ⟨rfl, _, _⟩ := e5
  exact hr5

theorem zset_right {n z : Nat} {x : Int} (h : 0 ≤ x ∧ x ≤ 1073741824) : rightD ((List.replicate n (0 : Int)).set z x) = true := rightD_iff.2 fun i hi => by
  rw [List.getElem_set]
  split
  · exact h
  · rw [List.getElem_replicate]
    omega

theorem max_zeros {n : Nat} {S : List Int} (hn : S.length = n) (h : rightD S = true) : maxD (List.replicate n 0) S = S := by
  apply List.ext_getElem
  · rw [maxD_len (by simp [hn])]
    simp [hn]
  · intro i h1 h2
    rw [maxD_at (by simp; omega) h2, List.getElem_replicate]
    have := rightD_at h h2
    omega

/-- Two rows of noughts, made one behind the other. -/
theorem two_made {n : Nat} {w1 : World} {f : World → World} (hf : ∀ W : World, OwnI (f W) W.heap.size (.slice (some ⟨W.heap.size, 0, none⟩) n n) (List.replicate n 0) ∧ Below W.heap.size W (f W)) :
    w1.heap.size ≠ (f w1.drew).heap.size ∧ OwnI (f (f w1.drew)) w1.heap.size (.slice (some ⟨w1.heap.size, 0, none⟩) n n) (List.replicate n 0) ∧ OwnI (f (f w1.drew)) w1.heap.size (.slice (some ⟨(f w1.drew).heap.size, 0, none⟩) n n) (List.replicate n 0) ∧ Below w1.heap.size w1 (f (f w1.drew)) := by
  obtain ⟨h1, h2⟩ := hf w1.drew
  obtain ⟨h3, h4⟩ := hf (f w1.drew)
  have e : w1.drew.heap.size = w1.heap.size := rfl
  rw [e] at h1 h2
  have hlt := (World.ownsRow.lt h1 w1.heap.size rfl).2
  have hb : Below w1.heap.size w1 (f w1.drew) := ((Below.refl w1.heap.size w1).drew).trans h2
  exact ⟨by omega, h1.later h4, h3.base (by omega), chain hb h4⟩

set_option maxRecDepth 100000 in
set_option maxHeartbeats 4000000 in
theorem mlater_walk (n0 p0 k0 m0 : Int) (w : World) :
    Calls Try.prog 6 #[.int .i64 n0, .int .i64 p0, .int .i64 k0, .int .i64 m0] w fun e w' => e = .returned (.bool true) ∧ Below w.heap.size w w' := by
  obtain ⟨n, ⟨n1, n5⟩, hne⟩ := peers_of n0
  obtain ⟨z, hz, hze⟩ := modPlace p0 n n1 (by omega)
  obtain ⟨k, hk, hke⟩ := modK k0
  obtain ⟨m, ⟨m1, m2⟩, hme⟩ := modK1 m0
  have hn0 : (n : Int) ≠ 0 := by omega
  go_enter Try.func6, Try.ntmps6
  go_wp2_with fail
  rw [hne, hze, hke, hme]
  clear hne hze hke hme
  refine (mNew_yes n w n1 n5).mono ?_
  rintro e w1 ⟨g, rfl, hr1, hb1⟩
  have HM : Hid (RdII w1 (some ⟨g, 0, none⟩) (List.replicate n (List.replicate n 0))) := hr1
  have HX : Hid (Below w.heap.size w w1) := hb1
  clear hr1 hb1
  have hmk : ∃ f : World → World, ∀ W : World, (Instr.makeSlice 23 (.int .i64 (n : Int)) (.int .i64 (n : Int))).run Try.prog W = .ok (.slice (some ⟨W.heap.size, 0, none⟩) n n) (f W) ∧ OwnI (f W) W.heap.size (.slice (some ⟨W.heap.size, 0, none⟩) n n) (List.replicate n 0) ∧ Below W.heap.size W (f W) :=
    ⟨fun W => (run_make_ints W n (by omega)).choose, fun W => (run_make_ints W n (by omega)).choose_spec⟩
  obtain ⟨f, hf⟩ := hmk
  have hmake := fun W => (hf W).1
  have HF : Hid (∀ W : World, OwnI (f W) W.heap.size (.slice (some ⟨W.heap.size, 0, none⟩) n n) (List.replicate n 0) ∧ Below W.heap.size W (f W)) := fun W => (hf W).2
  clear hf
  go_upto_region 4 with fail
  go_cut [11, 12] from 16 (fun s11 s12 wx => ∃ ga gb : Nat, s11 = .slice (some ⟨ga, 0, none⟩) n n ∧ s12 = .slice (some ⟨gb, 0, none⟩) n n ∧ ga ≠ gb ∧ Hid (OwnI wx w1.heap.size (.slice (some ⟨ga, 0, none⟩) n n) (List.replicate n 0)) ∧ Hid (OwnI wx w1.heap.size (.slice (some ⟨gb, 0, none⟩) n n) (List.replicate n 0)) ∧ Hid (Below w1.heap.size w1 wx))
  case first =>
    have HT : Hid _ := two_made (w1 := w1) HF.out
    obtain ⟨t1, t2, t3, t4⟩ := HT.out
    have T1 : Hid _ := t1
    have T2 : Hid (OwnI (f (f w1.drew)) w1.heap.size (.slice (some ⟨w1.heap.size, 0, none⟩) n n) (List.replicate n 0)) := t2
    have T3 : Hid (OwnI (f (f w1.drew)) w1.heap.size (.slice (some ⟨(f w1.drew).heap.size, 0, none⟩) n n) (List.replicate n 0)) := t3
    have T4 : Hid (Below w1.heap.size w1 (f (f w1.drew))) := t4
    clear t1 t2 t3 t4 HT
    go_region
    · go_wp2
      go_meet
      exact ⟨_, _, rfl, rfl, T1.out, T2, T3, T4⟩
    · go_wp2
      go_meet
      exact ⟨_, _, rfl, rfl, fun h => T1.out h.symm, T3, T2, T4⟩
  case rest =>
  obtain ⟨ga, gb, rfl, rfl, hgg, hOa, hOb, hB⟩ := hcut
  clear hmake HF
  have hzl : z < (List.replicate n (0 : Int)).length := by simp; exact hz
  have hz1 : (0 : Int) ≤ (z : Int) := by omega
  have hz2 : (z : Int) < (n : Int) := by omega
  obtain ⟨ca, fa⟩ := hOa.out.at_ (k := z) (by simp) hz
  obtain ⟨cb, fb⟩ := hOb.out.at_ (k := z) (by simp) hz
  obtain ⟨oa, ba, _⟩ := hOa.out.put (by simp) z (k : Int)
  have ob := hOb.out.other (k := z) (u := .int .i64 (k : Int)) hgg.symm
  obtain ⟨cb', fb'⟩ := ob.at_ (k := z) (by simp) hz
  obtain ⟨ob', bb, _⟩ := ob.put (by simp) z ((k : Int) + (m : Int))
  have oa' := oa.other (k := z) (u := .int .i64 ((k : Int) + (m : Int))) hgg
  have KH : Hid (rightD ((List.replicate n (0 : Int)).set z (k : Int)) = true) := zset_right (by omega)
  have KS : Hid (rightD ((List.replicate n (0 : Int)).set z ((k : Int) + (m : Int))) = true) := zset_right (by omega)
  have HOa : Hid (OwnI _ w1.heap.size (.slice (some ⟨ga, 0, none⟩) n n) ((List.replicate n (0 : Int)).set z (k : Int))) := oa'
  have HOb : Hid (OwnI _ w1.heap.size (.slice (some ⟨gb, 0, none⟩) n n) ((List.replicate n (0 : Int)).set z ((k : Int) + (m : Int)))) := ob'
  have HB1 : Hid (Below w1.heap.size w1 _) := (hB.out.trans ba).trans bb
  clear hOa hOb oa ob oa' ob' ba bb hB
  go_wp2_with fail
  refine (mLearn_ok g 0 _ _ n n n n z _ _ _ _ (MatR.zero n1 n5) (HM.out.later HB1.out) (by simp) (by simp) KH.out KS.out HOa.out.rd HOb.out.rd hz (by simpa using hz) (by simpa using hz)).mono ?_
  rintro e w2 ⟨g2, rfl, hr2, hb2⟩
  have eH : ((List.replicate n (0 : Int)).set z (k : Int))[z]'(by simpa using hz) = (k : Int) := by simp
  have eS : ((List.replicate n (0 : Int)).set z ((k : Int) + (m : Int)))[z]'(by simpa using hz) = (k : Int) + (m : Int) := by simp
  rw [eH, eS, if_pos (by omega)] at hr2
  rw [eH, eS, show decide ((k : Int) + (m : Int) ≤ (k : Int)) = false from by simp; omega]
  have HR2 : Hid (RdII w2 (some ⟨g2, 0, none⟩) (List.replicate n (List.replicate n 0))) := hr2
  have HM2 : Hid (RdII w2 (some ⟨g, 0, none⟩) (List.replicate n (List.replicate n 0))) := (HM.out.later HB1.out).later hb2
  have HOa2 : Hid (OwnI w2 w1.heap.size (.slice (some ⟨ga, 0, none⟩) n n) ((List.replicate n (0 : Int)).set z (k : Int))) := HOa.out.later hb2
  have HOb2 : Hid (OwnI w2 w1.heap.size (.slice (some ⟨gb, 0, none⟩) n n) ((List.replicate n (0 : Int)).set z ((k : Int) + (m : Int)))) := HOb.out.later hb2
  have HB2 : Hid (Below w1.heap.size w1 w2) := chain HB1.out hb2
  clear hr2 hb2 HOa HOb HB1 eH eS fa fb ca cb cb' fb'
  have HV : Hid (∀ v ∈ List.replicate n (List.replicate n (0 : Int)), v.length ≤ 65536) := (MatR.zero n1 n5).small
  go_wp2_with fail
  refine (intRows_any _ _ n n n n _ _ _ (by simp) (by simp) (by omega) (by omega) HV.out HV.out HR2.out HM2.out).mono ?_
  rintro e w3 ⟨rfl, hb3⟩
  rw [decide_eq_true rfl]
  have HM3 : Hid (RdII w3 (some ⟨g, 0, none⟩) (List.replicate n (List.replicate n 0))) := HM2.out.later hb3
  have hOa3 : OwnI w3 w1.heap.size (.slice (some ⟨ga, 0, none⟩) n n) ((List.replicate n (0 : Int)).set z (k : Int)) := HOa2.out.later hb3
  have hOb3 : OwnI w3 w1.heap.size (.slice (some ⟨gb, 0, none⟩) n n) ((List.replicate n (0 : Int)).set z ((k : Int) + (m : Int))) := HOb2.out.later hb3
  have hB3 : Below w1.heap.size w1 w3 := chain HB2.out hb3
  obtain ⟨ca, fa⟩ := hOa3.at_ (k := z) (by simp) hz
  obtain ⟨oa, ba, _⟩ := hOa3.put (by simp) z ((k : Int) + (m : Int))
  have ob := hOb3.other (k := z) (u := .int .i64 ((k : Int) + (m : Int))) hgg.symm
  rw [List.set_set] at oa
  have HOa : Hid (OwnI _ w1.heap.size (.slice (some ⟨ga, 0, none⟩) n n) ((List.replicate n (0 : Int)).set z ((k : Int) + (m : Int)))) := oa
  have HOb : Hid (OwnI _ w1.heap.size (.slice (some ⟨gb, 0, none⟩) n n) ((List.replicate n (0 : Int)).set z ((k : Int) + (m : Int)))) := ob
  have HB1 : Hid (Below w1.heap.size w1 _) := hB3.trans ba
  clear hOa3 hOb3 hB3 oa ob ba hb3 HR2 HM2 HOa2 HOb2 HB2
  go_wp2_with fail
  refine (mLearn_ok g 0 _ _ n n n n z _ _ _ _ (MatR.zero n1 n5) (HM.out.later HB1.out) (by simp) (by simp) KS.out KS.out HOa.out.rd HOb.out.rd hz (by simpa using hz) (by simpa using hz)).mono ?_
  rintro e w4 ⟨g4, rfl, hr4, hb4⟩
  rw [if_neg (Int.lt_irrefl _)] at hr4
  rw [decide_eq_true (Int.le_refl _)]
  have hE : learnD (List.replicate n (List.replicate n 0)) z ((List.replicate n (0 : Int)).set z ((k : Int) + (m : Int))) = (List.replicate n (List.replicate n 0)).set z ((List.replicate n (0 : Int)).set z ((k : Int) + (m : Int))) := by
    rw [learnD_at (by simpa using hz), List.getElem_replicate, max_zeros (by simp) KS.out]
  rw [hE] at hr4
  have HOb4 : Hid (OwnI w4 w1.heap.size (.slice (some ⟨gb, 0, none⟩) n n) ((List.replicate n (0 : Int)).set z ((k : Int) + (m : Int)))) := HOb.out.later hb4
  have HB4 : Hid (Below w.heap.size w w4) := chain HX.out (chain HB1.out hb4)
  obtain ⟨b', off', e', hc⟩ := hr4 (by simp; omega)
  simp only [Option.some.injEq, Addr.mk.injEq, and_true] at e'
  obtain ⟨rfl, rfl⟩ := e'
  obtain ⟨u, x0, a2, cap2, rfl, hc2, hr5, hn2⟩ := hc z (by simpa using hz)
  simp only [List.getElem_set_self, List.length_set, List.length_replicate, Nat.zero_add] at x0 hr5 hc2 hn2
  have HR5 : Hid (RdI .i64 w4 a2 ((List.replicate n (0 : Int)).set z ((k : Int) + (m : Int)))) := hr5
  clear hr4 hb4 hc hr5 hn2 hE HOa HOb HB1 ca fa
  go_wp2_with fail
  refine (keepInts_any a2 _ n n cap2 n _ _ _ (by simp) (by simp) (by omega) (by omega) HR5.out HOb4.out.rd).mono ?_
  rintro e w5 ⟨rfl, hb5⟩
  rw [decide_eq_true rfl]
  have HB5 : Hid (Below w.heap.size w w5) := chain HB4.out hb5
  clear hb5 HR5 HOb4 HB4
  go_wp2_with fail
  refine (mwakes_any _).mono ?_
  rintro e w6 ⟨rfl, hb6⟩
  go_wp2
  go_ret
  exact ⟨rfl, chain HB5.out hb6⟩

end Go.Proofs.Ytljikgjgcpheaaa
