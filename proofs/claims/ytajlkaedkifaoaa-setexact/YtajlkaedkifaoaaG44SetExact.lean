/-
  Texts of the proof of SetExact, one behind the other.
-/
import Derived.Test.YtajlkaedkifaoaaRows
import Derived.Test.YtajlkaedkifaoaaG31SetExact
import Derived.Test.YtajlkaedkifaoaaG35SetExact
import Derived.Test.YtajlkaedkifaoaaG42SetExact
import Derived.Test.YtajlkaedkifaoaaG38SetExact
import Derived.Test.YtajlkaedkifaoaaG43SetExact
import Derived.Shelf.SlSortCmp.NoneTotal
namespace Go.Proofs.Ytajlkaedkifaoaa
open Go.RowKit Go.Lib
set_option linter.unusedVariables false

/-- An Item that lies in w, its row in another block than blk. -/
abbrev ZIn (w : World) (blk : Nat) := { z : List Value × PI // LiesZ (fun b => b = blk) w z.1 z.2 }

instance (w : World) (blk : Nat) : Inhabited (ZIn w blk) := ⟨⟨([.slice none 0 0, .int .i64 0], ⟨[], 0⟩), ⟨none, 0, rfl, RdV.nil _ _, Nat.zero_le _, Nat.le_refl _, fun _ => ⟨rfl, rfl⟩, (show In64 0 by unfold In64; omega), fun h => by cases h⟩⟩⟩

theorem zswo (w : World) (blk : Nat) : Go.Sort.SWO (Go.Proofs.ltOf fun (x y : ZIn w blk) => cmpZ x.1.2 y.1.2) where
  irrefl x := by simp [Go.Proofs.ltOf, cmpZ_self]
  trans x y z h k := by
    simp only [Go.Proofs.ltOf, decide_eq_true_eq] at *
    exact cmpZ_lt_trans h k
  ntrans x y z h k := by
    simp only [Go.Proofs.ltOf, decide_eq_false_iff_not] at *
    have h1 : cmpZ y.1.2 x.1.2 ≤ 0 := by rw [cmpZ_flip]; omega
    have h2 : cmpZ z.1.2 y.1.2 ≤ 0 := by rw [cmpZ_flip]; omega
    have h3 := cmpZ_le_trans h2 h1
    rw [cmpZ_flip] at h3
    omega

theorem zsort_any (B blk cap : Nat) (Z : List (List Value × PI)) (w : World) (h4 : Z.length ≤ 4194304) (ho : OwnK 2 40 w B (.slice (some ⟨blk, 0, none⟩) Z.length cap) (Z.map (·.1))) (hX : ∀ z ∈ Z, LiesZ (fun b => b = blk) w z.1 z.2) :
    Calls Try.prog 54 #[.slice (some ⟨blk, 0, none⟩) Z.length cap, .func (.func 36) #[] #[]] w fun e w' => e = .returned (.tuple #[]) ∧ ∃ Z' : List (List Value × PI), Z'.Perm Z ∧ SortZ (Z'.map (·.2)) ∧ OwnK 2 40 w' B (.slice (some ⟨blk, 0, none⟩) Z.length cap) (Z'.map (·.1)) ∧ w.grownBy w' (some blk) := by
  obtain ⟨enc, henc⟩ : ∃ enc : ZIn w blk → List Value, enc = fun z => z.1.1 := ⟨_, rfl⟩
  have hk : ∀ x, (enc x).length = 2 := fun x => by rw [henc]; exact x.2.wide.1
  have h1 : ∀ x, ∀ v ∈ enc x, v.oneCell' = true := fun x => by rw [henc]; exact x.2.wide.2
  obtain ⟨d, hd⟩ : ∃ d : Array (ZIn w blk), d.toList.map (·.1) = Z := ⟨(Z.attach.map fun z => (⟨z.1, hX z.1 z.2⟩ : ZIn w blk)).toArray, by simp only [List.map_map, Function.comp_def]; exact List.attach_map_subtype_val Z⟩
  have hde : d.toList.map enc = Z.map (·.1) := by rw [← hd, List.map_map, henc]; rfl
  have hds : d.size = Z.length := by rw [← hd]; simp
  rw [← hde] at ho
  have hg := fun (m : Nat) (dk : Array (ZIn w blk)) (os : Array Obj) (hs : dk.size = d.size) => (ho.sorted (m := m) (os := os) (by omega) hk h1 hs).2
  have hH := ho.holds (by omega) hk h1
  have hblk : blk < w.heap.size := (World.ownsRow.lt ho.2 blk rfl).2
  have hcmp : Go.Proofs.CmpLays Try.prog 36 #[] enc 2 (fun x y => cmpZ x.1.2 y.1.2) blk 0 d.size w := by
    intro m os dk hdk x y
    have hsz := Sz.of_grown (E := fun b => b = blk) (hg m dk os hdk) (fun b e => by cases e; rfl)
    have C := zCompare_any x.1.1 y.1.1 x.1.2 y.1.2 _ (x.2.sz hsz) (y.2.sz hsz)
    rw [Array.append_empty]
    have e1 : enc x = x.1.1 := by rw [henc]
    have e2 : enc y = y.1.1 := by rw [henc]
    rw [e1, e2]
    refine C.mono ?_
    rintro e w' ⟨he, hl⟩
    exact ⟨he, hl.grow⟩
  have S := Go.Proofs.AnyQ.slices_SortFunc Go.Proofs.Try.laysSort 2 (by exact Try.isAgg40) (by exact Try.sizeOf40) enc hk h1 (fun x y => cmpZ x.1.2 y.1.2) (zswo w blk) 36 #[] blk 0 cap d w (enters_of Try.func36 (by kernel_rfl) rfl) hcmp hH hblk (by omega)
  rw [hds] at S
  refine (show Calls Try.prog 54 _ w _ from S).mono ?_
  rintro e w' ⟨he, d', n, os, hp, hs, rfl⟩
  obtain ⟨p1, -, p3⟩ := hp
  obtain ⟨o1, o2⟩ := ho.sorted (m := n) (os := os) (by omega) hk h1 p1
  have hperm : d'.toList.Perm d.toList := by
    have e1 : d'.extract 0 Z.length = d' := by rw [← hds, ← p1]; simp
    have e2 : d.extract 0 Z.length = d := by rw [← hds]; simp
    rw [e1, e2] at p3
    exact p3
  refine ⟨he, d'.toList.map (·.1), ?_, ?_, ?_, o2⟩
  · rw [← hd]
    exact hperm.map _
  · rw [List.map_map]
    refine List.pairwise_map.2 ?_
    rw [List.pairwise_iff_getElem]
    intro i j hi hj hij
    have := hs i j (Nat.zero_le _) hij (by rw [← hds, ← p1]; simpa using hj)
    simp only [Go.Proofs.ltOf, decide_eq_false_iff_not] at this
    rw [getElem!_pos d' j (by simpa using hj), getElem!_pos d' i (by simpa using hi)] at this
    simp only [Function.comp_apply, Array.getElem_toList]
    rw [cmpZ_flip]
    omega
  · have : (d'.toList.map (·.1)).map (·.1) = d'.toList.map enc := by rw [List.map_map, henc]; rfl
    rw [this]
    exact o1

/-- .. of none. -/
theorem zsort_none (p : Option Addr) (cap : Nat) (fv : Value) (w : World) :
    Calls Try.prog 54 #[.slice p 0 cap, fv] w fun e w' => e = .returned (.tuple #[]) ∧ w' = w :=
  Go.Proofs.AnyF.slices_SortFunc_none Go.Proofs.Try.laysSort p cap fv w

def ZI.of : List Value → ZI
  | [.slice a n c, .int .i64 w] => ⟨a, n, c, w⟩
  | _ => ⟨none, 0, 0, 0⟩

theorem ZI.of_lies {E : Nat → Prop} {w : World} {c : List Value} {x : PI} (h : LiesZ E w c x) : (ZI.of c).cells = c := by
  obtain ⟨a, cap, rfl, -⟩ := h
  rfl

theorem zi_of {w : World} {a : Option Addr} {Z : List (List Value × PI)} (hr : RdK 2 w a (Z.map (·.1))) (hX : ∀ z ∈ Z, LiesZ (fun _ => False) w z.1 z.2) : (Z.map fun z => ZI.of z.1).map ZI.cells = Z.map (·.1) ∧ RdI2 w.heap.size w a (Z.map fun z => ZI.of z.1) := by
  have h1 : (Z.map fun z => ZI.of z.1).map ZI.cells = Z.map (·.1) := by
    rw [List.map_map]
    exact List.map_congr_left fun z hz => ZI.of_lies (hX z hz)
  refine ⟨h1, fun h0 => ?_⟩
  rw [List.length_map] at h0
  obtain ⟨b, off, e, hc⟩ := hr (by rw [List.length_map]; exact h0)
  have hat : ∀ j (h : j < (Z.map fun z => ZI.of z.1).length), w.cell? ⟨b, off + j * 2, none⟩ = some (.slice (Z.map fun z => ZI.of z.1)[j].a (Z.map fun z => ZI.of z.1)[j].n (Z.map fun z => ZI.of z.1)[j].c) ∧ w.cell? ⟨b, off + j * 2 + 1, none⟩ = some (.int .i64 (Z.map fun z => ZI.of z.1)[j].wt) := fun j hj => by
    have hj' : j < Z.length := by rw [List.length_map] at hj; exact hj
    obtain ⟨ra, rc, e1, -⟩ := hX _ (List.getElem_mem hj')
    have k0 := hc j (by rw [List.length_map]; exact hj') 0 (.slice ra Z[j].2.row.length rc) (by rw [List.getElem_map, e1]; rfl)
    have k1 := hc j (by rw [List.length_map]; exact hj') 1 (.int .i64 Z[j].2.wt) (by rw [List.getElem_map, e1]; rfl)
    rw [Nat.add_zero] at k0
    simp only [List.getElem_map, e1, ZI.of]
    exact ⟨k0, k1⟩
  exact ⟨b, off, e, cellZ_lt (hat 0 (by rw [List.length_map]; exact h0)).1, hat⟩

theorem zvalues_any (a : Option Addr) (len cap : Nat) (w : World) :
    Calls Try.prog 35 #[.slice a len cap] w fun e w' => e = .returned (.func (.func 55) #[] #[.pointer (some ⟨w.heap.size, 0, none⟩)]) ∧ w' = w.alloc (.cells #[.slice a len cap] 22) :=
  (callsIn_wide (n := 6)).1 (zvalues_in Fence.wide 6 trivial rfl a len cap w)

/-- slices.Collect of what slices.Values handed back. -/
theorem zcollect_any (Bs len cap : Nat) (a : Option Addr) (Z : List (List Value × PI)) (w : World) (hn : Z.length = len) (h4 : len ≤ 4194304) (hBs : w.cell? ⟨Bs, 0, none⟩ = some (.slice a len cap)) (hr : RdK 2 w a (Z.map (·.1))) (hX : ∀ z ∈ Z, LiesZ (fun _ => False) w z.1 z.2) :
    Calls Try.prog 53 #[.func (.func 55) #[] #[.pointer (some ⟨Bs, 0, none⟩)]] w fun e w' => ∃ v, e = .returned v ∧ OwnK 2 40 w' w.heap.size v (Z.map (·.1)) ∧ Below w.heap.size w w' := by
  obtain ⟨h1, h2⟩ := zi_of hr hX
  have hl : (Z.map fun z => ZI.of z.1).length = len := by rw [List.length_map]; exact hn
  have S := zvalues_stops Fence.wide 4 trivial rfl (by omega) Bs w.heap.size len cap a _ hl h4 w (cellZ_lt hBs) (Nat.le_refl _) hBs h2
  rw [← hl] at S
  have C := (callsIn_wide (n := 6)).1 (zcollect_in Fence.wide 6 trivial trivial rfl (by omega) _ _ trivial (enters_of Try.func55 (by kernel_rfl) rfl) _ (by rw [hl]; exact h4) w S)
  rw [h1] at C
  exact C

set_option maxHeartbeats 1000000 in
/-- slices.SortedFunc of what slices.Values handed back. -/
theorem zsorted_any (Bs len cap : Nat) (a : Option Addr) (Z : List (List Value × PI)) (w : World) (hn : Z.length = len) (h4 : len ≤ 4194304) (hBs : w.cell? ⟨Bs, 0, none⟩ = some (.slice a len cap)) (hr : RdK 2 w a (Z.map (·.1))) (hX : ∀ z ∈ Z, LiesZ (fun _ => False) w z.1 z.2) :
    Calls Try.prog 34 #[.func (.func 55) #[] #[.pointer (some ⟨Bs, 0, none⟩)], .func (.func 36) #[] #[]] w fun e w' => ∃ a' cap' X, e = .returned (.slice a' len cap') ∧ len ≤ cap' ∧ (Z.map (·.2)).Perm X ∧ SortZ X ∧ RdZ w' a' X ∧ Below w.heap.size w w' := by
  have C := zcollect_any Bs len cap a Z w hn h4 hBs hr hX
  clear hBs hr
  go_enter Try.func34, Try.ntmps34
  go_wp2_with fail
  refine C.mono ?_
  rintro e w1 ⟨v, rfl, ho, hb⟩
  clear C
  obtain ⟨a1, c1, e1, hc1, -, -, -, hB1⟩ := ho.form
  rw [List.length_map, hn] at e1 hc1
  subst e1
  have HX : Hid (∀ z ∈ Z, LiesZ (fun b => w.heap.size ≤ b) w1 z.1 z.2) := fun z hz => ((hX z hz).now.later hb).less fun b hb => .inr hb
  have HO : Hid (OwnK 2 40 w1 w.heap.size (.slice a1 len c1) (Z.map (·.1))) := ho
  have HB : Hid (Below w.heap.size w w1) := hb
  clear hX ho hb
  cases a1 with
  | none =>
    have hl0 : len = 0 := by
      obtain ⟨a2, c2, e2, -, -, -, hnil, -⟩ := HO.out.form
      simp only [Value.slice.injEq] at e2
      obtain ⟨rfl, rfl, rfl⟩ := e2
      have := (hnil rfl).1
      rw [List.map_eq_nil_iff] at this
      rw [List.length_map, this]
      rfl
    subst hl0
    have hZ := List.eq_nil_of_length_eq_zero hn
    subst hZ
    go_wp2_with fail
    refine (zsort_none _ _ _ _).mono ?_
    rintro e w2 ⟨rfl, hw⟩
    subst hw
    go_wp2
    go_ret
    exact ⟨none, c1, [], rfl, hc1, List.Perm.refl _, List.Pairwise.nil, RdZ.nil _ _, HB.out⟩
  | some ad =>
    have had : ∃ g, ad = ⟨g, 0, none⟩ ∧ w.heap.size ≤ g := by
      rcases HO.out.2.2 with ⟨h0, _⟩ | ⟨g, cap', cur, hv, hg, _⟩
      · cases h0
      · cases hv
        exact ⟨g, rfl, hg⟩
    obtain ⟨g, rfl, hg⟩ := had
    have HG : Hid (w.heap.size ≤ g) := hg
    have S := zsort_any w.heap.size g c1 Z w1 (by omega) (by rw [hn]; exact HO.out) (fun z hz => (HX.out z hz).less fun b hb => by rw [hb]; exact HG.out)
    rw [hn] at S
    have HN : Hid (Z.length = len) := hn
    clear hn hg
    go_wp2_with fail
    refine S.mono ?_
    rintro e w2 ⟨rfl, Z', hp, hs, ho2, hg2⟩
    clear S
    have hX2 : ∀ z ∈ Z', LiesZ (fun b => w.heap.size ≤ b) w2 z.1 z.2 := fun z hz => (HX.out z (hp.mem_iff.1 hz)).sz (Sz.of_grown hg2 fun b e => by cases e; exact HG.out)
    obtain ⟨a3, c3, e3, -, -, hr3, -, -⟩ := ho2.form
    simp only [Value.slice.injEq] at e3
    obtain ⟨rfl, -, rfl⟩ := e3
    have HR : Hid (RdZ w2 (some ⟨g, 0, none⟩) (Z'.map (·.2))) := ⟨Z', rfl, hr3, fun z hz => (hX2 z hz).less fun _ k => k.elim⟩
    have HP : Hid ((Z.map (·.2)).Perm (Z'.map (·.2)) ∧ SortZ (Z'.map (·.2))) := ⟨(hp.symm).map _, hs⟩
    have HB2 : Hid (Below w.heap.size w w2) := HB.out.grown hg2 HB.out.size fun k e => by cases e; exact HG.out
    clear hp hs ho2 hg2 hX2 hr3
    go_wp2
    go_ret
    exact ⟨_, _, _, rfl, hc1, HP.out.1, HP.out.2, HR.out, HB2.out⟩

end Go.Proofs.Ytajlkaedkifaoaa
