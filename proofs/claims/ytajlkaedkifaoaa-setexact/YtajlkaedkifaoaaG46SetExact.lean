/-
  Texts of the proof of SetExact, one behind the other.
-/
import Derived.Test.YtajlkaedkifaoaaRows
import Derived.Test.YtajlkaedkifaoaaG37SetExact
import Derived.Shelf.Abstract
import Derived.WalkSpells
namespace Go.Proofs.Ytajlkaedkifaoaa
open Go.RowKit Go.Lib
set_option linter.unusedVariables false

/-- The weight of the first Item whose row is r. -/
def weightZ : List PI → List PV → Int
  | [], _ => 0
  | x :: X, r => if cmpR x.row r = 0 then x.wt else weightZ X r

/-- Where the first Item stands whose row is r. -/
def StandsZ (X : List PI) (r : List PV) (i : Int) : Prop :=
  (∃ k, ∃ hk : k < X.length, i = (k : Int) ∧ cmpR X[k].row r = 0 ∧ ∀ j (hj : j < X.length), j < k → cmpR X[j].row r ≠ 0) ∨ (i = -1 ∧ ∀ j (hj : j < X.length), cmpR X[j].row r ≠ 0)

theorem weight_none : ∀ {X : List PI} {r : List PV}, (∀ j (hj : j < X.length), cmpR X[j].row r ≠ 0) → weightZ X r = 0
  | [], _, _ => rfl
  | x :: X, r, h => by
    rw [weightZ, if_neg (show ¬ cmpR x.row r = 0 from h 0 (by simp))]
    exact weight_none fun j hj => h (j + 1) (by simpa using hj)

theorem weight_at : ∀ {X : List PI} {r : List PV} {k : Nat} (hk : k < X.length), cmpR X[k].row r = 0 → (∀ j (hj : j < X.length), j < k → cmpR X[j].row r ≠ 0) → weightZ X r = X[k].wt
  | x :: X, r, 0, _, h, _ => by rw [weightZ, if_pos (show cmpR x.row r = 0 from h)]; rfl
  | x :: X, r, k + 1, hk, h, h' => by
    rw [weightZ, if_neg (show ¬ cmpR x.row r = 0 from h' 0 (by simp) (by omega))]
    exact weight_at (by simpa using hk) h fun j hj hjk => h' (j + 1) (by simpa using hj) (by omega)

set_option maxHeartbeats 1000000 in
theorem zWeight1_any {E : Nat → Prop} (g : Nat) (c : List Value) (x : PI) (ar : Option Addr) (nr cr : Nat) (r : List PV) (w : World) (hc : LiesZ E w c x) (hbox : w.cell? ⟨g, 0, none⟩ = some (.slice ar nr cr)) (hn : r.length = nr) (hl : nr ≤ 65536) (hr : RdV w ar r) :
    Calls Try.prog 41 #[.agg c.toArray, .pointer (some ⟨g, 0, none⟩)] w fun e w' => e = .returned (.bool (decide (cmpR x.row r = 0))) ∧ Below w.heap.size w w' := by
  obtain ⟨a, cap, rfl, h1, h2, -, -, -, -⟩ := hc
  have B := alloc_below w (.cells #[.slice a x.row.length cap, .int .i64 x.wt] 40)
  have C := rowCompare a ar x.row.length nr cap cr x.row r _ rfl hn h2 hl (h1.later B) (hr.later B)
  have HB : Hid (Below w.heap.size w (w.alloc (.cells #[.slice a x.row.length cap, .int .i64 x.wt] 40))) := B
  have y0 := cell_later B hbox
  clear h1 h2 hr B hn
  generalize x.row.length = n at *
  generalize x.wt = p at *
  obtain ⟨q, hq⟩ : ∃ q, cmpR x.row r = q := ⟨_, rfl⟩
  rw [hq] at C ⊢
  clear hq
  go_enter Try.func41, Try.ntmps41
  go_wp2_with fail
  refine C.mono ?_
  rintro e w1 ⟨rfl, hb⟩
  have HB1 : Hid (Below w.heap.size w w1) := chain HB.out hb
  clear C hb
  go_wp2
  go_ret
  have e : (q == 0) = decide (q = 0) := by rw [Bool.eq_iff_iff]; simp
  exact ⟨by rw [← e]; rfl, HB1.out⟩

set_option maxRecDepth 100000 in
set_option maxHeartbeats 4000000 in
theorem zIndex_any (a : Option Addr) (n cap g : Nat) (X : List PI) (ar : Option Addr) (nr cr : Nat) (r : List PV) (w : World) (hn : X.length = n) (h4 : n ≤ 65536) (hX : RdZ w a X) (hbox : w.cell? ⟨g, 0, none⟩ = some (.slice ar nr cr)) (hnr : r.length = nr) (hl : nr ≤ 65536) (hr : RdV w ar r) :
    Calls Try.prog 40 #[.slice a n cap, .func (.func 41) #[] #[.pointer (some ⟨g, 0, none⟩)]] w fun e w' => ∃ i, e = .returned (.int .i64 i) ∧ StandsZ X r i ∧ Below w.heap.size w w' := by
  have HN : Hid (X.length = n) := hn
  have HR : Hid (RdZ w a X) := hX
  have eg := enters_of Try.func41 (by kernel_rfl) rfl
  have HP : Hid (∀ (c : List Value) (x : PI) (V : World), Below w.heap.size w V → LiesZ (fun _ => False) V c x → Calls Try.prog 41 #[.agg c.toArray, .pointer (some ⟨g, 0, none⟩)] V fun e w' => e = .returned (.bool (decide (cmpR x.row r = 0))) ∧ Below V.heap.size V w') := fun c x V hb hc => zWeight1_any g c x ar nr cr r V hc (cell_later hb hbox) hnr hl (hr.later hb)
  clear hn hX hbox hr hnr
  go_enter Try.func40, Try.ntmps40
  go_wp2
  go_loopw [8] (fun i wr => ∃ k : Nat, k ≤ n ∧ i = .int .i64 k ∧ Hid (∀ j (hj : j < X.length), j < k → cmpR X[j].row r ≠ 0) ∧ Hid (Below w.heap.size w wr)) (fun i _ => n - (RowKit.intOf i).toNat)
  case atStart => exact ⟨0, Nat.zero_le _, rfl, (fun j _ hj => absurd hj (by omega)), Below.refl _ _⟩
  case round =>
    obtain ⟨k, hk, rfl, hT, hB⟩ := hrel
    by_cases hlt : k < n
    · have hkl : k < X.length := by rw [HN.out]; exact hlt
      obtain ⟨b, off, ra, rc, rfl, x0, x1, hz⟩ := (HR.out.later hB.out).at_ hkl
      have CK : Calls Try.prog 41 #[.agg #[.slice ra X[k].row.length rc, .int .i64 X[k].wt], .pointer (some ⟨g, 0, none⟩)] wr fun e w' => e = .returned (.bool (decide (cmpR X[k].row r = 0))) ∧ Below wr.heap.size wr w' := HP.out _ X[k] wr hB.out hz
      have HH : Hid (cmpR X[k].row r = 0 → StandsZ X r k) := fun h => .inl ⟨k, hkl, rfl, h, fun j hj hjk => hT.out j hj hjk⟩
      have HT' : Hid (cmpR X[k].row r ≠ 0 → ∀ j (hj : j < X.length), j < k + 1 → cmpR X[j].row r ≠ 0) := fun h j hj hjk => by
        by_cases e : j = k
        · subst e; exact h
        · exact hT.out j hj (by omega)
      clear hz hT
      generalize cmpR X[k].row r = q at *
      generalize X[k].wt = p at *
      generalize X[k].row.length = rn at *
      have kk0 : (0 : Int) ≤ (k : Int) := by omega
      have kk1 : (k : Int) < (n : Int) := by omega
      by_cases h0 : q = 0
      · have hd : decide (q = 0) = true := decide_eq_true h0
        rw [hd] at CK
        have HI : Hid _ := HH.out h0
        clear HH HT' hd h0
        go_wp2_with fail
        refine CK.mono ?_
        rintro e w' ⟨rfl, hb'⟩
        go_wp2
        go_ret
        exact ⟨_, rfl, HI.out, hB.out.trans (hb'.mono hB.out.size)⟩
      · have hd : decide (q = 0) = false := decide_eq_false h0
        rw [hd] at CK
        have HI : Hid _ := HT'.out h0
        clear HH HT' hd h0
        go_wp2_with fail
        refine CK.mono ?_
        rintro e w' ⟨rfl, hb'⟩
        have hB' : Hid (Below w.heap.size w w') := hB.out.trans (hb'.mono hB.out.size)
        go_wp2
        go_roundw
        case rel => exact ⟨k + 1, by omega, by go_num, HI.out, hB'.out⟩
        case measure => simp [RowKit.intOf]; omega
    · obtain rfl : k = n := by omega
      have HI : Hid (StandsZ X r (-1)) := .inr ⟨rfl, fun j hj => hT.out j hj (by rw [← HN.out]; exact hj)⟩
      go_wp2
      go_ret
      exact ⟨_, rfl, HI.out, hB.out⟩

set_option maxRecDepth 100000 in
set_option maxHeartbeats 4000000 in
theorem zWeight_any (a : Option Addr) (n cap : Nat) (X : List PI) (ar : Option Addr) (nr cr : Nat) (r : List PV) (w : World) (hn : X.length = n) (h4 : n ≤ 65536) (hX : RdZ w a X) (hnr : r.length = nr) (hl : nr ≤ 65536) (hr : RdV w ar r) :
    Calls Try.prog 14 #[.slice a n cap, .slice ar nr cr] w fun e w' => e = .returned (.int .i64 (weightZ X r)) ∧ Below w.heap.size w w' := by
  have B := alloc_below w (.cells #[.slice ar nr cr] 23)
  have hbox : (w.alloc (.cells #[.slice ar nr cr] 23)).cell? ⟨w.heap.size, 0, none⟩ = some (.slice ar nr cr) := by
    have hb : (w.alloc (.cells #[.slice ar nr cr] 23)).heap[w.heap.size]? = some (.cells #[.slice ar nr cr] 23 (0, 0)) := by
      show (w.heap.push _)[w.heap.size]? = _
      simp
    unfold World.cell?
    rw [hb]
    rfl
  have C := zIndex_any a n cap w.heap.size X ar nr cr r _ hn h4 (hX.later B) hbox hnr hl (hr.later B)
  have HB : Hid (Below w.heap.size w (w.alloc (.cells #[.slice ar nr cr] 23))) := B
  have HX : Hid (RdZ w a X) := hX
  have HN : Hid (X.length = n) := hn
  clear hX hr B hbox hnr hn
  go_enter Try.func14, Try.ntmps14
  go_wp2_with fail
  refine C.mono ?_
  rintro e w1 ⟨i, rfl, hi, hb⟩
  have HB1 : Hid (Below w.heap.size w w1) := chain HB.out hb
  clear C hb
  rcases hi with ⟨k, hk, rfl, h1, h2⟩ | ⟨rfl, h1⟩
  · obtain ⟨b, off, ra, rc, rfl, x0, x1, -⟩ := (HX.out.later HB1.out).at_ hk
    have HW : Hid (weightZ X r = X[k].wt) := weight_at hk h1 h2
    have kk0 : (0 : Int) ≤ (k : Int) := by omega
    have kk1 : (k : Int) < (n : Int) := by have := HN.out; omega
    have kk2 : ((k : Int) < 0) = False := by simp
    clear h1 h2 x0
    generalize X[k].wt = p at *
    go_wp2
    go_ret
    exact ⟨by rw [HW.out]; rfl, HB1.out⟩
  · have HW : Hid (weightZ X r = 0) := weight_none h1
    clear h1
    go_wp2
    go_ret
    exact ⟨by rw [HW.out]; rfl, HB1.out⟩

end Go.Proofs.Ytajlkaedkifaoaa
