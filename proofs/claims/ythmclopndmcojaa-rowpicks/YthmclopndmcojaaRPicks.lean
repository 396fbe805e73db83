/-
  RowPicks' walk: what the law answers, whatever its row, types and places.
-/
import Derived.Test.YthmclopndmcojaaRows
import Derived.Test.YthmclopndmcojaaRSizes
import Derived.Test.YthmclopndmcojaaVBytes
import Derived.Deep.AppendLies
import Derived.Deep.RegionHeld3
namespace Go.Proofs.Ythmclopndmcojaa
open Go.RowKit Go.Lib
set_option linter.unusedVariables false

theorem rdI_at (w : World) (g : Nat) (hg : w.heap.size = g) (x : Int) : RdI .i64 (w.alloc (.cells #[.int .i64 x] 3)) (some ⟨g, 0, none⟩) [x] := by
  subst hg
  refine fun _ => ⟨w.heap.size, 0, rfl, fun j hj => ?_⟩
  obtain rfl : j = 0 := by simp at hj; omega
  rw [cell_of_row (w.alloc (.cells #[.int .i64 x] 3)) w.heap.size _ #[.int .i64 x] 3 (0, 0) (by show (w.heap.push _)[w.heap.size]? = _; simp)]
  rfl

/-- append(out, x): out the call's own. -/
theorem run_append_int {w : World} {B n : Nat} {v : Value} {xs : List Int} (g : Nat) (hg : w.heap.size = g) (x : Int) (hown : OwnI w B v xs) (hn : xs.length = n) (h1 : n ≤ 65536) (hB : B ≤ w.heap.size) :
    ∃ a' cap' w', (Builtin.append_ #[23, 23] 23 #[v, .slice (some ⟨g, 0, none⟩) 1 1]).run Try.prog (w.alloc (.cells #[.int .i64 x] 3)) = .ok (.slice a' (n + 1) cap') w' ∧ n + 1 ≤ cap' ∧ OwnI w' B (.slice a' (n + 1) cap') (xs ++ [x]) ∧ Below B w w' := by
  obtain ⟨a', cap', w', hrun, hc, ho, hrd, hnl, _, hb⟩ := run_append_ints (ty := 23) (cap := 1) (hown.later (alloc_below w (.cells #[.int .i64 x] 3))) hn (m := 1) rfl (rdI_at w g hg x) (fun h => by cases h) h1 (by omega) (Nat.le_trans hB (by simp))
  exact ⟨a', cap', w', hrun, hc, ho, ((alloc_below w _).mono hB).trans hb⟩

/-- A place, as the law makes it of any number. -/
def plc (m : Nat) (k : Int) : Int := wrap64 ((IntKind.u64.wrap k).tmod (m : Int))

theorem plc_in {m : Nat} (k : Int) (h1 : 1 ≤ m) (h2 : m ≤ 1000) : ∃ j : Nat, j < m ∧ plc m k = (j : Int) := modLen k m h1 h2

/-- All places. -/
def upto (n : Nat) : List Int := (List.range n).map fun (i : Nat) => (i : Int)

theorem upto_succ (n : Nat) : upto (n + 1) = upto n ++ [(n : Int)] := by simp [upto, List.range_succ]
theorem upto_length (n : Nat) : (upto n).length = n := by simp [upto]

/-- What stays while the law goes on. -/
structure KnP (a t c d : Option Addr) (l : List PV) (ts xs ys : List Int) (w : World) : Prop where
  A : RdV w a l
  T : RdI .i64 w t ts
  C : RdI .i64 w c xs
  D : RdI .i64 w d ys

theorem KnP.later {a t c d : Option Addr} {l : List PV} {ts xs ys : List Int} {w w' : World} (h : KnP a t c d l ts xs ys w) (hb : Below w.heap.size w w') : KnP a t c d l ts xs ys w' :=
  ⟨h.A.later hb, h.T.later hb, h.C.later hb, h.D.later hb⟩

/-- Two rows of numbers of the call's own, apart. -/
structure TwoI (w : World) (B : Nat) (u v : Value) (xs ys : List Int) : Prop where
  own1 : OwnI w B u xs
  own2 : OwnI w B v ys
  apart : ∀ g, u.ownBlock = some g → v.ownBlock ≠ some g

theorem TwoI.swap {w : World} {B : Nat} {u v : Value} {xs ys : List Int} (h : TwoI w B u v xs ys) : TwoI w B v u ys xs := ⟨h.own2, h.own1, fun g h1 h2 => h.apart g h2 h1⟩

theorem TwoI.alloc {w : World} {B : Nat} {u v : Value} {xs ys : List Int} (h : TwoI w B u v xs ys) (o : Obj) : TwoI (w.alloc o) B u v xs ys := ⟨h.own1.later (alloc_below _ _), h.own2.later (alloc_below _ _), h.apart⟩

/-- append(u, x), the new number in a block of its own, from H on; the other row, and every such block, stays. -/
theorem TwoI.append {w : World} {B n ty H s : Nat} {u v : Value} {xs ys : List Int} (T : TwoI w B u v xs ys) (hn : xs.length = n) (h1 : n ≤ 65536) (hB : B ≤ w.heap.size) (x : Int) (hs : w.cell? ⟨s, 0, none⟩ = some (.int .i64 x)) (hu : ∀ g, u.ownBlock = some g → g < H) (hH : H ≤ w.heap.size) :
    ∃ g cap w', (Builtin.append_ #[23, 23] ty #[u, .slice (some ⟨s, 0, none⟩) 1 1]).run Try.prog w = .ok (.slice (some ⟨g, 0, none⟩) (n + 1) cap) w' ∧ n + 1 ≤ cap ∧ TwoI w' B (.slice (some ⟨g, 0, none⟩) (n + 1) cap) v (xs ++ [x]) ys ∧ Below B w w' ∧ (∀ b y, H ≤ b → w.cell? ⟨b, 0, none⟩ = some y → w'.cell? ⟨b, 0, none⟩ = some y) := by
  subst hn
  obtain ⟨i0, hi, hz0, hz1, hz2⟩ := info_parts Try.infoI
  obtain ⟨g, cap, w', hrun, ho, hg, hat, hlt⟩ := run_append_lies (P := Try.prog) w 23 ty B 3 i0 (.int .i64 0) 1 8 Try.underlying23 hi hz0 hz1 hz2 rfl (by decide) u xs.length (cellsI xs) T.own1 ⟨s, 0, none⟩ 1 1 [.int .i64 x] rfl (fun j y hj => by
    obtain rfl : j = 0 := by
      rcases j with _ | j
      · rfl
      · simp at hj
    simp at hj
    subst hj
    rw [add_plain3]
    exact hs) (by simp [Value.oneCell']) (by omega) (by unfold maxLen; omega) (by omega) hB w.heap.size rfl
  have ho' : OwnI w' B (.slice (some ⟨g, 0, none⟩) (xs.length + 1) cap) (xs ++ [x]) := by
    unfold OwnI
    rw [List.length_append, show cellsI (xs ++ [x]) = cellsI xs ++ [.int .i64 x] from by simp [cellsI]]
    exact ho
  refine ⟨g, cap, w', hrun, ?_, ⟨ho', ?_, ?_⟩, (Below.refl _ _).grown hg hB (fun k hk => T.own1.block k hk), ?_⟩
  · obtain ⟨a', cap', e, h, _⟩ := ho'.form
    simp only [Value.slice.injEq, List.length_append, List.length_singleton] at e
    obtain ⟨_, _, rfl⟩ := e
    simpa using h
  · refine World.ownsRow.kept T.own2 hg ?_
    cases hv : v.ownBlock with
    | none => exact .inl rfl
    | some k => exact .inr fun he => T.apart k he.symm hv
  · intro k hk hv
    have hk' : g = k := by simpa [Value.ownBlock] using hk
    subst hk'
    rcases hat with hat | hat
    · exact T.apart g hat hv
    · have := (World.ownsRow.lt T.own2 g hv).2
      omega
  · intro b y hb hc
    have hbl : b < w.heap.size := World.block_lt_of_cell? w ⟨b, 0, none⟩ hc
    rw [hg.cell_far ⟨b, 0, none⟩ hbl (fun he => by have := hu b he.symm; omega)]
    exact hc

theorem TwoI.later {w w' : World} {B : Nat} {u v : Value} {xs ys : List Int} (h : TwoI w B u v xs ys) (hb : Below w.heap.size w w') : TwoI w' B u v xs ys := ⟨h.own1.later hb, h.own2.later hb, h.apart⟩

/-- .. as one step of a region that draws its order. -/
theorem step_append_two {ops : Array Oper} {o : Oper} {a : Act} {w : World} {K : Act → World → Prop} {Q : Exit → Act → World → Prop} {E : Prop}
    (hg : o.guard = none) (s x : Operand) (hop : o.op = Op.call { callee := Callee.builtin Builtin.append, args := #[s, x], argTypes := #[23, 23] })
    {B n H b : Nat} {u v : Value} {xs ys : List Int} (y : Int) (hs : a.eval s = u) (hx : a.eval x = .slice (some ⟨b, 0, none⟩) 1 1)
    (T : TwoI w B u v xs ys) (hn : xs.length = n) (h1 : n ≤ 65536) (hB : B ≤ w.heap.size) (hc : w.cell? ⟨b, 0, none⟩ = some (.int .i64 y)) (hu : ∀ g, u.ownBlock = some g → g < H) (hH : H ≤ w.heap.size)
    (h : ∀ g cap w', n + 1 ≤ cap → TwoI w' B (.slice (some ⟨g, 0, none⟩) (n + 1) cap) v (xs ++ [y]) ys → Below B w w' → (∀ b y, H ≤ b → w.cell? ⟨b, 0, none⟩ = some y → w'.cell? ⟨b, 0, none⟩ = some y) → K (a.put o.dst (.slice (some ⟨g, 0, none⟩) (n + 1) cap)) w') :
    if Region.wanted o (yielded ops a.tmps) = true then Oper.wp Try.prog o a w K Q else E := by
  obtain ⟨g, cap, w', hrun, hcap, T', hb, hk⟩ := T.append (ty := o.type) hn h1 hB y hc hu hH
  exact step_append_run hg s x 23 23 hop u _ _ w' hs hx hrun (h g cap w' hcap T' hb hk)

/-- What the region's load reads stays. -/
theorem keepP2 {w0 w w' : World} {b o : Nat} {y : Int} (hb : Below w0.heap.size w w') (h : w.cell? ⟨b, o, none⟩ = some (.int .i64 y) ∧ Hid (Below w0.heap.size w0 w) ∧ Hid (b < w0.heap.size)) : w'.cell? ⟨b, o, none⟩ = some (.int .i64 y) ∧ Hid (Below w0.heap.size w0 w') ∧ Hid (b < w0.heap.size) :=
  ⟨(hb.cell (p := ⟨b, o, none⟩) h.2.2.out).trans h.1, h.2.1.out.trans hb, h.2.2⟩

theorem keepPd {w0 w : World} {b o : Nat} {y : Int} (h : w.cell? ⟨b, o, none⟩ = some (.int .i64 y) ∧ Hid (Below w0.heap.size w0 w) ∧ Hid (b < w0.heap.size)) : w.drew.cell? ⟨b, o, none⟩ = some (.int .i64 y) ∧ Hid (Below w0.heap.size w0 w.drew) ∧ Hid (b < w0.heap.size) :=
  keepP2 (Below.refl _ _).drew h

theorem keepP1 {w0 w : World} {b o : Nat} {y : Int} {ob : Obj} (h : w.cell? ⟨b, o, none⟩ = some (.int .i64 y) ∧ Hid (Below w0.heap.size w0 w) ∧ Hid (b < w0.heap.size)) : (w.alloc ob).cell? ⟨b, o, none⟩ = some (.int .i64 y) ∧ Hid (Below w0.heap.size w0 (w.alloc ob)) ∧ Hid (b < w0.heap.size) :=
  keepP2 ((alloc_below w ob).mono h.2.1.out.size) h

theorem in_upto (n : Nat) : inCols n (upto n) = true := by
  unfold inCols upto
  rw [List.all_eq_true]
  intro x hx
  simp at hx
  obtain ⟨i, hi, rfl⟩ := hx
  simp
  omega

theorem pick_all {l : List PV} {n : Nat} (hn : l.length = n) (h : n ≤ 12) : pickR l (upto n) = (l, 0) := by
  subst hn
  unfold pickR
  rw [in_upto, if_pos rfl, upto_length, if_neg (by omega)]
  have e : pickAt l (upto l.length) = l := by
    unfold pickAt upto
    rw [List.map_map]
    apply List.ext_getElem
    · simp
    · intro i h1 h2
      simp [List.getElem?_eq_getElem h2]
  rw [e]

theorem in_plc {n : Nat} (xs : List Int) (h1 : 1 ≤ n) (h2 : n ≤ 1000) : inCols n (xs.map (plc n)) = true := by
  unfold inCols
  rw [List.all_eq_true]
  intro x hx
  rw [List.mem_map] at hx
  obtain ⟨k, _, rfl⟩ := hx
  obtain ⟨j, hj, e⟩ := plc_in (m := n) k h1 h2
  rw [e]
  simp
  omega

theorem pick_some {l : List PV} {n : Nat} {c : List Int} (hn : l.length = n) (hc : inCols n c = true) (h : c.length ≤ 12) : pickR l c = (pickAt l c, 0) := by
  subst hn
  unfold pickR
  rw [hc, if_pos rfl, if_neg (by omega)]

/-- The places' places. -/
def bothI (P Q : List Int) : List Int := Q.map fun k => P[k.toNat]?.getD 0

theorem at_in {n : Nat} {c : List Int} (h : inCols n c = true) {i : Nat} (hi : i < c.length) : 0 ≤ c[i] ∧ c[i] ≤ (n : Int) - 1 := by
  unfold inCols at h
  rw [List.all_eq_true] at h
  simpa using h _ (List.getElem_mem hi)

theorem in_both {n : Nat} {P Q : List Int} (hP : inCols n P = true) (hQ : inCols P.length Q = true) : inCols n (bothI P Q) = true := by
  unfold inCols at hQ ⊢
  rw [List.all_eq_true] at hQ ⊢
  intro x hx
  unfold bothI at hx
  rw [List.mem_map] at hx
  obtain ⟨k, hk, rfl⟩ := hx
  have hq := hQ k hk
  simp at hq
  have hl : k.toNat < P.length := by omega
  rw [List.getElem?_eq_getElem hl, Option.getD_some]
  simpa using at_in hP hl

theorem pick_both {l : List PV} {P Q : List Int} (hQ : inCols P.length Q = true) : pickAt (pickAt l P) Q = pickAt l (bothI P Q) := by
  unfold pickAt bothI
  rw [List.map_map]
  apply List.map_congr_left
  intro k hk
  unfold inCols at hQ
  rw [List.all_eq_true] at hQ
  have hq := hQ k hk
  simp at hq
  have hl : k.toNat < P.length := by omega
  simp [List.getElem?_eq_getElem hl]

theorem fits_at : ∀ {l : List PV} {ts : List Int} {i : Nat} (hl : i < l.length) (ht : i < ts.length), fitsR l ts = true → fitsV l[i] ts[i] = true
  | [], _, _, hl, _, _ => absurd hl (by simp)
  | _ :: _, [], _, _, ht, _ => absurd ht (by simp)
  | v :: l, t :: ts, 0, _, _, h => by simp only [fitsR, Bool.and_eq_true] at h; simpa using h.1
  | v :: l, t :: ts, i + 1, hl, ht, h => by
    simp only [fitsR, Bool.and_eq_true] at h
    simpa using fits_at (l := l) (ts := ts) (i := i) (by simpa using hl) (by simpa using ht) h.2

theorem fits_pick {l : List PV} {ts : List Int} (hf : fitsR l ts = true) : ∀ {P : List Int}, inCols l.length P = true → fitsR (pickAt l P) (P.map fun k => ts[k.toNat]?.getD 0) = true
  | [], _ => rfl
  | k :: P, h => by
    have hlen := fitsR_len hf
    have h0 := at_in h (i := 0) (by simp)
    simp only [List.getElem_cons_zero] at h0
    have hr : inCols l.length P = true := by
      unfold inCols at h ⊢
      simp only [List.all_cons, Bool.and_eq_true] at h
      exact h.2
    have hl : k.toNat < l.length := by omega
    have ht : k.toNat < ts.length := by omega
    have ih := fits_pick hf hr
    unfold pickAt at ih ⊢
    simp only [List.map_cons, fitsR, List.getElem?_eq_getElem hl, List.getElem?_eq_getElem ht, Option.getD_some, Bool.and_eq_true]
    exact ⟨fits_at hl ht hf, ih⟩

end Go.Proofs.Ythmclopndmcojaa
