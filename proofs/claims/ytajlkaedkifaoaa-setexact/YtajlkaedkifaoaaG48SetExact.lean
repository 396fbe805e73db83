/-
  Texts of the proof of SetExact, one behind the other.
-/
import Derived.Test.YtajlkaedkifaoaaRows
import Derived.Test.YtajlkaedkifaoaaG32SetExact
import Derived.Test.YtajlkaedkifaoaaG18SetExact
import Derived.Test.YtajlkaedkifaoaaG31SetExact
import Derived.Lib.SmallJoins
namespace Go.Proofs.Ytajlkaedkifaoaa
open Go.ChangeShapes Go.WideShapes Go.ChangeAt Go.RowKit Go.Lib
set_option linter.unusedVariables false

/-- An Item whose row begins at a, as it came in. -/
structure InI (w : World) (x : PI) (a : Option Addr) (c : Nat) : Prop where
  vals : RdV w a x.row
  small : x.row.length ≤ 9223372036854775807
  cap : x.row.length ≤ c
  nil : a = none → x.row = [] ∧ c = 0
  wt : In64 x.wt

theorem InI.later {w w' : World} {x : PI} {a : Option Addr} {c : Nat} (h : InI w x a c) (hb : Below w.heap.size w w') : InI w' x a c := ⟨h.vals.later hb, h.small, h.cap, h.nil, h.wt⟩

/-- A slice's beginning, and the Items that came in there. -/
def RdJ (w : World) (a : Option Addr) (X : List PI) : Prop := 0 < X.length → ∃ b off, a = some ⟨b, off, none⟩ ∧ ∀ i (hi : i < X.length), ∃ ra rc, w.cell? ⟨b, off + i * 2, none⟩ = some (.slice ra X[i].row.length rc) ∧ w.cell? ⟨b, off + i * 2 + 1, none⟩ = some (.int .i64 X[i].wt) ∧ InI w X[i] ra rc

theorem RdJ.later {w w' : World} {a : Option Addr} {X : List PI} (h : RdJ w a X) (hb : Below w.heap.size w w') : RdJ w' a X := fun h0 => by
  obtain ⟨b, off, e, hk⟩ := h h0
  refine ⟨b, off, e, fun i hi => ?_⟩
  obtain ⟨ra, rc, x0, x1, hin⟩ := hk i hi
  exact ⟨ra, rc, cell_later hb x0, cell_later hb x1, hin.later hb⟩

theorem in64_wf {n : Int} (h : (Lit.int .i64 n).wf = true) : In64 n := by
  have := bounds_i64 h
  unfold In64
  omega

/-- Rows of at most 65536: such a slice is one that zset's calls are told of. -/
theorem RdJ.rdZ {w : World} {a : Option Addr} {X : List PI} (h : RdJ w a X) (hs : ∀ x ∈ X, x.row.length ≤ 65536) : RdZ w a X := by
  rcases Nat.eq_zero_or_pos X.length with h0 | h0
  · rw [List.length_eq_zero_iff] at h0
    subst h0
    exact RdZ.nil _ _
  · obtain ⟨b, off, rfl, hk⟩ := h h0
    have hch : ∃ f : Nat → Option Addr × Nat, ∀ i (hi : i < X.length), w.cell? ⟨b, off + i * 2, none⟩ = some (.slice (f i).1 X[i].row.length (f i).2) ∧ w.cell? ⟨b, off + i * 2 + 1, none⟩ = some (.int .i64 X[i].wt) ∧ InI w X[i] (f i).1 (f i).2 :=
      ⟨fun i => if h : i < X.length then ((hk i h).choose, (hk i h).choose_spec.choose) else (none, 0), fun i hi => by simp only [dif_pos hi]; exact (hk i hi).choose_spec.choose_spec⟩
    obtain ⟨f, hf⟩ := hch
    refine ⟨(List.range X.length).map (fun i => ([.slice (f i).1 (X[i]?.getD ⟨[], 0⟩).row.length (f i).2, .int .i64 (X[i]?.getD ⟨[], 0⟩).wt], X[i]?.getD ⟨[], 0⟩)), ?_, fun _ => ⟨b, off, rfl, fun i hi j v hj => ?_⟩, fun z hz => ?_⟩
    · refine List.ext_getElem (by simp) fun i h1 h2 => ?_
      simp [List.getElem?_eq_getElem h2]
    · have hi' : i < X.length := by simpa using hi
      simp only [List.getElem_map, List.getElem_range, List.getElem?_eq_getElem hi', Option.getD_some] at hj
      obtain ⟨x0, x1, -⟩ := hf i hi'
      rcases j with _ | _ | j
      · simp at hj
        subst hj
        exact x0
      · simp at hj
        subst hj
        exact x1
      · simp at hj
    · rw [List.mem_map] at hz
      obtain ⟨i, hi, rfl⟩ := hz
      have hi' : i < X.length := List.mem_range.1 hi
      obtain ⟨-, -, hin⟩ := hf i hi'
      simp only [List.getElem?_eq_getElem hi', Option.getD_some]
      exact ⟨_, _, rfl, hin.vals, hs _ (List.getElem_mem hi'), hin.cap, hin.nil, hin.wt, fun _ b o s _ => id⟩

set_option maxRecDepth 100000 in
/-- An Item's cells that came in. -/
theorem item_in {H : Type} {enc : TypeId × Value → H} {w : World} {fuel : Nat} {cs : List Value} {y : DataW H × List MemPlace}
    (h : DataW.trod enc Try.prog w 0 (fun _ => true) true fuel 40 cs = some y) : ∃ x ra rc, cs = [.slice ra x.row.length rc, .int .i64 x.wt] ∧ InI w x ra rc := by
  have ci : Try.prog.cellsOf 3 = 1 := by kernel_rfl
  have c2 : Try.prog.cellsOf 23 = 1 := by kernel_rfl
  have cI : Try.prog.cellsOf 40 = 2 := by kernel_rfl
  obtain ⟨z0, z1, n, _, hl, t0, t1⟩ := trod_struct2 Try.underlying40 h
  have hl2 : cs.length = 2 := hl.trans cI
  match cs, hl2 with
  | [d0, d1], _ =>
    simp [ci, c2] at t0 t1
    obtain ⟨p, e1, _, k1⟩ := DataW.trod_int Try.underlying3 t1
    obtain ⟨ra, rn, rc, e0⟩ := Joins.slice_form Try.underlying23 t0
    simp at e0 e1
    subst e0 e1
    obtain ⟨vs, hv⟩ := vals_of (show DataW.Trod enc Try.prog w 0 (fun _ => true) true 23 (Value.slice ra rn rc) z0.1 z0.2 from ⟨n, t0⟩)
    obtain ⟨hv1, hv2, hv3, hv4⟩ := hv.vals
    have hs := hv.small
    subst hv1
    exact ⟨⟨vs, p⟩, ra, rc, rfl, ⟨hv3, hs, hv2, hv4, in64_wf k1⟩⟩

set_option maxRecDepth 100000 in
/-- A slice of Items that came in. -/
theorem items_of {H : Type} {enc : TypeId × Value → H} {w : World} {a : Option Addr} {len cap : Nat} {d : DataW H} {p : List MemPlace}
    (h : DataW.Trod enc Try.prog w 0 (fun _ => true) true 22 (Value.slice a len cap) d p) : ∃ X : List PI, X.length = len ∧ len ≤ 9223372036854775807 ∧ RdJ w a X := by
  obtain ⟨fuel, hf⟩ := h
  have hc : Try.prog.cellsOf 40 = 2 := by kernel_rfl
  rcases DataW.trod_slice Try.underlying22 hf with ⟨hcs, _⟩ | ⟨x, l, c, elems, rest, n, _, hcs, _, _, hl, hm, hlen, hel, _, _⟩
  · simp [Value.cells] at hcs
    obtain ⟨rfl, rfl, rfl⟩ := hcs
    exact ⟨[], rfl, by omega, (fun h => absurd h (by simp))⟩
  · simp [Value.cells] at hcs
    obtain ⟨rfl, rfl, rfl⟩ := hcs
    have each : ∀ i, i < len → ∃ (X : PI) (ra : Option Addr) (rc : Nat), w.cell? ((x.add (i * 2)).add 0) = some (.slice ra X.row.length rc) ∧ w.cell? ((x.add (i * 2)).add 1) = some (.int .i64 X.wt) ∧ InI w X ra rc := by
      intro i hi
      have h1 := hel i hi
      rw [hc, List.getElem?_eq_getElem (by omega), Option.bind_eq_some_iff] at h1
      obtain ⟨cs, hcs, hy⟩ := h1
      obtain ⟨X, ra, rc, e, hin⟩ := item_in hy
      obtain ⟨_, hl12, hcell⟩ := World.cells?_some hcs
      subst e
      exact ⟨X, ra, rc, hcell 0 (by omega), hcell 1 (by omega), hin⟩
    have hch : ∃ f : Nat → PI, ∀ i, i < len → ∃ (ra : Option Addr) (rc : Nat), w.cell? ((x.add (i * 2)).add 0) = some (.slice ra (f i).row.length rc) ∧ w.cell? ((x.add (i * 2)).add 1) = some (.int .i64 (f i).wt) ∧ InI w (f i) ra rc :=
      ⟨fun i => if h : i < len then (each i h).choose else ⟨[], 0⟩, fun i hi => by simp only [dif_pos hi]; exact (each i hi).choose_spec⟩
    obtain ⟨f, hf2⟩ := hch
    clear each hel
    refine ⟨(List.range len).map f, by simp, by unfold maxLen at hm; omega, fun h0 => ?_⟩
    have h00 : 0 < len := by simpa using h0
    have hx : x.spot = none := by
      obtain ⟨ra, rc, x0, _⟩ := hf2 0 h00
      have := World.cell?_spot x0
      simpa [Addr.add] using this
    obtain ⟨b, off, sp⟩ := x
    simp only at hx
    subst hx
    refine ⟨b, off, rfl, fun i hi => ?_⟩
    have hi' : i < len := by simpa using hi
    obtain ⟨ra, rc, x0, x1, hin⟩ := hf2 i hi'
    simp only [List.getElem_map, List.getElem_range]
    rw [add_plain3, add_plain3] at x0 x1
    exact ⟨ra, rc, x0, x1, hin⟩

end Go.Proofs.Ytajlkaedkifaoaa

namespace Go.Proofs.Ytajlkaedkifaoaa
open Go.RowKit Go.Lib
set_option linter.unusedVariables false

/-- Is a row heavy? Are Items? -/
def heavyW (vs : List PV) : Bool := decide (40 < vs.length) || heavyV vs
def heavyI (X : List PI) : Bool := decide (300 < X.length) || X.any fun x => heavyW x.row

theorem heavyI_small {X : List PI} (h : heavyI X = false) : X.length ≤ 300 ∧ ∀ x ∈ X, x.row.length ≤ 40 := by
  unfold heavyI at h
  rw [Bool.or_eq_false_iff] at h
  obtain ⟨h1, h2⟩ := h
  refine ⟨by simpa using h1, fun x hx => ?_⟩
  have := List.any_eq_false.1 h2 x hx
  unfold heavyW at this
  simp at this
  exact this.1

set_option maxHeartbeats 400000 in
theorem heavyW_any (a : Option Addr) (n cap : Nat) (vs : List PV) (w : World) (hn : vs.length = n) (hr : RdV w a vs) :
    Calls Try.prog 9 #[.slice a n cap] w fun e w' => e = .returned (.bool (heavyW vs)) ∧ w' = w := by
  by_cases h : n ≤ 40
  · have e : heavyW vs = heavyV vs := by unfold heavyW; rw [decide_eq_false (by omega), Bool.false_or]
    rw [e]
    exact heavy_few a n cap vs w hn h hr
  · have e : heavyW vs = true := by unfold heavyW; rw [decide_eq_true (by omega), Bool.true_or]
    rw [e]
    have hd : decide ((40 : Int) < (n : Int)) = true := by simp; omega
    clear hn hr e
    go_enter Try.func9, Try.ntmps9
    go_wp2
    go_ret
    exact ⟨rfl, rfl⟩

/-- Slices of Items, one behind another. -/
def RdSl (w : World) (b off : Nat) (Ls : List (Option Addr × Nat × List PI)) : Prop := ∀ i (hi : i < Ls.length), w.cell? ⟨b, off + i, none⟩ = some (.slice Ls[i].1 Ls[i].2.2.length Ls[i].2.1) ∧ Ls[i].2.2.length ≤ 9223372036854775807 ∧ RdJ w Ls[i].1 Ls[i].2.2

set_option maxRecDepth 100000 in
set_option maxHeartbeats 4000000 in
theorem heavyZ_any (b off n cap : Nat) (Ls : List (Option Addr × Nat × List PI)) (w : World) (hn : Ls.length = n) (h3 : n ≤ 3) (hr : RdSl w b off Ls) :
    Calls Try.prog 8 #[.slice (some ⟨b, off, none⟩) n cap] w fun e w' => e = .returned (.bool (Ls.any fun l => heavyI l.2.2)) ∧ w' = w := by
  have HN : Hid (Ls.length = n) := hn
  have HR : Hid (RdSl w b off Ls) := hr
  clear hn hr
  go_enter Try.func8, Try.ntmps8
  go_wp2
  go_loop [3] (fun i => ∃ k : Nat, k ≤ n ∧ i = .int .i64 k ∧ Hid (((Ls.take k).any fun l => heavyI l.2.2) = false)) (fun i => n - (RowKit.intOf i).toNat)
  case atStart => exact ⟨0, Nat.zero_le _, rfl, rfl⟩
  case round =>
    obtain ⟨k, hk, rfl, hT⟩ := hrel
    by_cases hlt : k < n
    · have hkl : k < Ls.length := by rw [HN.out]; exact hlt
      obtain ⟨x0, hm, hj⟩ := HR.out k hkl
      have HX : Hid (heavyI Ls[k].2.2 = true → (Ls.any fun l => heavyI l.2.2) = true) := fun h => by
        rw [List.any_eq_true]
        exact ⟨_, List.getElem_mem hkl, h⟩
      have HS : Hid (heavyI Ls[k].2.2 = false → ((Ls.take (k + 1)).any fun l => heavyI l.2.2) = false) := fun h => by
        rw [List.take_succ_eq_append_getElem hkl, List.any_append, hT.out, List.any_cons, h]
        rfl
      have HJ : Hid (RdJ w Ls[k].1 Ls[k].2.2) := hj
      clear hj
      generalize Ls[k].1 = a at *
      generalize Ls[k].2.1 = c at *
      generalize hX : Ls[k].2.2 = X at *
      clear hX
      by_cases h300 : 300 < X.length
      · have HH : Hid ((Ls.any fun l => heavyI l.2.2) = true) := HX.out (by unfold heavyI; rw [decide_eq_true h300, Bool.true_or])
        have hd : decide ((300 : Int) < (X.length : Int)) = true := by simp; omega
        clear HX HS h300
        generalize X.length = m at *
        go_wp2
        go_ret
        exact ⟨by rw [HH.out]; rfl, rfl⟩
      have hd : decide ((300 : Int) < (X.length : Int)) = false := by simp; omega
      have HE : Hid (heavyI X = X.any fun x => heavyW x.row) := by
        show _ = _
        unfold heavyI
        rw [decide_eq_false h300, Bool.false_or]
      have hm2 : X.length ≤ 300 := by omega
      clear h300 hm
      generalize hM : X.length = m at *
      have HM : Hid (X.length = m) := hM
      clear hM
      go_wp2
      go_loop [4] (fun i => ∃ j : Nat, j ≤ m ∧ i = .int .i64 j ∧ Hid (((X.take j).any fun x => heavyW x.row) = false)) (fun i => m - (RowKit.intOf i).toNat)
      case atStart => exact ⟨0, Nat.zero_le _, rfl, rfl⟩
      case round =>
        obtain ⟨j, hjm, rfl, hU⟩ := hrel
        by_cases hlt2 : j < m
        · have hjl : j < X.length := by rw [HM.out]; exact hlt2
          obtain ⟨b2, off2, rfl, hc⟩ := HJ.out (by omega)
          obtain ⟨ra, rc, y0, y1, hin⟩ := hc j hjl
          have C := heavyW_any ra X[j].row.length rc X[j].row w rfl hin.vals
          have l1 := hin.small
          have HY : Hid (heavyW X[j].row = true → (Ls.any fun l => heavyI l.2.2) = true) := fun h => HX.out (by
            rw [HE.out, List.any_eq_true]
            exact ⟨_, List.getElem_mem hjl, h⟩)
          have HZ : Hid (heavyW X[j].row = false → ((X.take (j + 1)).any fun x => heavyW x.row) = false) := fun h => by
            rw [List.take_succ_eq_append_getElem hjl, List.any_append, hU.out, List.any_cons, h]
            rfl
          clear hc hin y1
          generalize heavyW X[j].row = hv at *
          generalize X[j].row.length = rn at *
          clear hjl
          cases hv with
          | true =>
            have HH : Hid ((Ls.any fun l => heavyI l.2.2) = true) := HY.out rfl
            clear HX HS HE HY HZ
            go_wp2_with fail
            refine C.mono ?_
            rintro e w1 ⟨rfl, hw⟩
            subst w1
            go_wp2
            go_ret
            exact ⟨by rw [HH.out]; rfl, rfl⟩
          | false =>
            have HU : Hid (((X.take (j + 1)).any fun x => heavyW x.row) = false) := HZ.out rfl
            clear HX HS HE HY HZ
            go_wp2_with fail
            refine C.mono ?_
            rintro e w1 ⟨rfl, hw⟩
            subst w1
            go_wp2
            go_round
            case rel => exact ⟨j + 1, by omega, by go_num, HU⟩
            case measure => simp [RowKit.intOf]; omega
        · have h := hU.out
          rw [List.take_of_length_le (by rw [HM.out]; omega)] at h
          have HH : Hid (((Ls.take (k + 1)).any fun l => heavyI l.2.2) = false) := HS.out (HE.out.trans h)
          clear h HX HS HE
          go_wp2
          go_round
          case rel => exact ⟨k + 1, by omega, by go_num, HH⟩
          case measure => simp [RowKit.intOf]; omega
    · have h := hT.out
      rw [List.take_of_length_le (by rw [HN.out]; omega)] at h
      have HH : Hid ((Ls.any fun l => heavyI l.2.2) = false) := h
      clear h
      go_wp2
      go_ret
      exact ⟨by rw [HH.out]; rfl, rfl⟩

end Go.Proofs.Ytajlkaedkifaoaa
