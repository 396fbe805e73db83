/-
  What the document's own Stamp, CompareStamps, NextStamp, Later do; raddlekeep's Stamp; what the calls of package hlc answer, as the laws' walks ask it.
-/
import Derived.Test.YtncidjlobjgibaaRows
import Derived.Test.YtncidjlobjgibaaHCalc
import Derived.Test.YtncidjlobjgibaaRef
import Derived.Test.YtncidjlobjgibaaRMem
import Derived.WalkKit
import Derived.WalkSpells
namespace Go.Proofs.Ytncidjlobjgibaa
open Go.RowKit Go.Lib
set_option linter.unusedVariables false

/-- A time's value. -/
abbrev vS (p l q : Int) : Value := .agg #[.int .i64 p, .int .i64 l, .int .i64 q]

/-- A time's box. -/
def BoxS (w : World) (g : Nat) (p l q : Int) : Prop := w.heap[g]? = some (.cells #[.int .i64 p, .int .i64 l, .int .i64 q] 23 (0, 0))

theorem BoxS.made {w : World} {g : Nat} {p l q : Int} (hg : w.heap.size = g) : BoxS (w.alloc (.cells #[.int .i64 p, .int .i64 l, .int .i64 q] 23)) g p l q := by
  subst hg
  show (w.heap.push _)[w.heap.size]? = _
  simp

theorem BoxS.lt {w : World} {g : Nat} {p l q : Int} (h : BoxS w g p l q) : g < w.heap.size := by
  unfold BoxS at h
  rcases Nat.lt_or_ge g w.heap.size with h1 | h1
  · exact h1
  · simp [Array.getElem?_eq_none h1] at h

theorem BoxS.later {w w' : World} {g : Nat} {p l q : Int} (h : BoxS w g p l q) (hb : Below w.heap.size w w') : BoxS w' g p l q := (hb.block g h.lt).trans h

theorem BoxS.frozen {w : World} {g : Nat} {p l q : Int} (h : BoxS w g p l q) (i : Nat) : w.frozen? ⟨g, i, none⟩ = false := by
  unfold BoxS at h
  simp [World.frozen?, h]

theorem BoxS.set {w : World} {g : Nat} {p l q : Int} (h : BoxS w g p l q) (p' l' q' : Int) : BoxS (((w.setCell ⟨g, 0, none⟩ (.int .i64 p')).setCell ⟨g, 1, none⟩ (.int .i64 l')).setCell ⟨g, 2, none⟩ (.int .i64 q')) g p' l' q' := by
  unfold BoxS at h ⊢
  rw [Go.heap_setCell_same _ _ _ _ _ _ (Go.heap_setCell_same _ _ _ _ _ _ (Go.heap_setCell_same _ _ _ _ _ _ h))]
  rfl

theorem BoxS.cells {w : World} {g : Nat} {p l q : Int} (h : BoxS w g p l q) : w.cell? ⟨g, 0, none⟩ = some (.int .i64 p) ∧ w.cell? ⟨g, 1, none⟩ = some (.int .i64 l) ∧ w.cell? ⟨g, 2, none⟩ = some (.int .i64 q) := by
  refine ⟨?_, ?_, ?_⟩ <;> (rw [cell_of_row w g _ _ _ _ h]; rfl)

set_option maxHeartbeats 400000 in
theorem rStamp_any (p l q : Int) (w : World) :
    Calls Try.prog 9 #[vS p l q] w fun e w' => e = .returned (.bool (okS ⟨p, l, q⟩)) ∧ Below w.heap.size w w' := by
  obtain ⟨x0, x1, x2⟩ := (BoxS.made (w := w) (p := p) (l := l) (q := q) rfl).cells
  by_cases h1 : 0 ≤ p ∧ p ≤ 1099511627776
  · by_cases h2 : 0 ≤ l ∧ l ≤ 65536
    · by_cases h3 : 0 ≤ q ∧ q ≤ 4
      · rw [show okS ⟨p, l, q⟩ = true from okS_iff.2 (by simp only; omega)]
        go_enter Try.func9, Try.ntmps9
        go_wp2_with fail
        refine (in_yes _ _ _ _ h1.1 h1.2).mono ?_
        rintro e w1 ⟨rfl, rfl⟩
        go_wp2_with fail
        refine (in_yes _ _ _ _ h2.1 h2.2).mono ?_
        rintro e w1 ⟨rfl, rfl⟩
        go_wp2_with fail
        refine (in_yes _ _ _ _ h3.1 h3.2).mono ?_
        rintro e w1 ⟨rfl, rfl⟩
        go_wp2
        go_ret
        exact ⟨rfl, alloc_below _ _⟩
      · rw [show okS ⟨p, l, q⟩ = false from by rw [Bool.eq_false_iff]; exact fun h => h3 (by have := okS_iff.1 h; simp only at this; omega)]
        go_enter Try.func9, Try.ntmps9
        go_wp2_with fail
        refine (in_yes _ _ _ _ h1.1 h1.2).mono ?_
        rintro e w1 ⟨rfl, rfl⟩
        go_wp2_with fail
        refine (in_yes _ _ _ _ h2.1 h2.2).mono ?_
        rintro e w1 ⟨rfl, rfl⟩
        go_wp2_with fail
        refine (in_no _ _ _ _ (by omega)).mono ?_
        rintro e w1 ⟨rfl, rfl⟩
        go_wp2
        go_ret
        exact ⟨rfl, alloc_below _ _⟩
    · rw [show okS ⟨p, l, q⟩ = false from by rw [Bool.eq_false_iff]; exact fun h => h2 (by have := okS_iff.1 h; simp only at this; omega)]
      go_enter Try.func9, Try.ntmps9
      go_wp2_with fail
      refine (in_yes _ _ _ _ h1.1 h1.2).mono ?_
      rintro e w1 ⟨rfl, rfl⟩
      go_wp2_with fail
      refine (in_no _ _ _ _ (by omega)).mono ?_
      rintro e w1 ⟨rfl, rfl⟩
      go_wp2
      go_ret
      exact ⟨rfl, alloc_below _ _⟩
  · rw [show okS ⟨p, l, q⟩ = false from by rw [Bool.eq_false_iff]; exact fun h => h1 (by have := okS_iff.1 h; simp only at this; omega)]
    go_enter Try.func9, Try.ntmps9
    go_wp2_with fail
    refine (in_no _ _ _ _ (by omega)).mono ?_
    rintro e w1 ⟨rfl, rfl⟩
    go_wp2
    go_ret
    exact ⟨rfl, alloc_below _ _⟩

theorem rStamp_of {b : Bool} (p l q : Int) (w : World) (h : okS ⟨p, l, q⟩ = b) :
    Calls Try.prog 9 #[vS p l q] w fun e w' => e = .returned (.bool b) ∧ Below w.heap.size w w' := by
  subst h
  exact rStamp_any p l q w

set_option maxHeartbeats 400000 in
theorem sign_any (b : Bool) (w : World) :
    Calls Try.prog 23 #[.bool b] w fun e w' => e = .returned (.int .i64 (if b = true then -1 else 1)) ∧ w' = w := by
  cases b
  · go_enter Try.func23, Try.ntmps23
    go_wp2
    go_ret
    exact ⟨rfl, rfl⟩
  · go_enter Try.func23, Try.ntmps23
    go_wp2
    go_ret
    exact ⟨rfl, rfl⟩

theorem sign_of (x y c : Int) (w : World) (h : sgnL x y = c) :
    Calls Try.prog 23 #[.bool (decide (x < y))] w fun e w' => e = .returned (.int .i64 c) ∧ w' = w := by
  have := sign_any (decide (x < y)) w
  unfold sgnL at h
  simp only [decide_eq_true_eq] at this
  rw [h] at this
  exact this

set_option maxHeartbeats 400000 in
theorem rCmpS_any (p l q p' l' q' : Int) (w : World) :
    Calls Try.prog 14 #[vS p l q, vS p' l' q'] w fun e w' => e = .returned (.int .i64 (cmpS ⟨p, l, q⟩ ⟨p', l', q'⟩)) ∧ Below w.heap.size w w' := by
  obtain ⟨c, hc⟩ : ∃ c, cmpS ⟨p, l, q⟩ ⟨p', l', q'⟩ = c := ⟨_, rfl⟩
  rw [hc]
  unfold cmpS at hc
  simp only at hc
  by_cases h1 : p = p'
  · subst h1
    rw [if_neg (by simp)] at hc
    by_cases h2 : l = l'
    · subst h2
      rw [if_neg (by simp)] at hc
      by_cases h3 : q = q'
      · subst h3
        rw [if_neg (by simp)] at hc
        subst hc
        go_enter Try.func14, Try.ntmps14
        go_wp2
        go_ret
        exact ⟨rfl, below_two _ _ _⟩
      · rw [if_pos h3] at hc
        have hq : (q != q') = true := by simp [h3]
        go_enter Try.func14, Try.ntmps14
        go_wp2_with fail
        refine (sign_of _ _ _ _ hc).mono ?_
        rintro e w1 ⟨rfl, rfl⟩
        go_wp2
        go_ret
        exact ⟨rfl, below_two _ _ _⟩
    · rw [if_pos h2] at hc
      have hq : (l != l') = true := by simp [h2]
      go_enter Try.func14, Try.ntmps14
      go_wp2_with fail
      refine (sign_of _ _ _ _ hc).mono ?_
      rintro e w1 ⟨rfl, rfl⟩
      go_wp2
      go_ret
      exact ⟨rfl, below_two _ _ _⟩
  · rw [if_pos h1] at hc
    have hq : (p != p') = true := by simp [h1]
    go_enter Try.func14, Try.ntmps14
    go_wp2_with fail
    refine (sign_of _ _ _ _ hc).mono ?_
    rintro e w1 ⟨rfl, rfl⟩
    go_wp2
    go_ret
    exact ⟨rfl, below_two _ _ _⟩

set_option maxHeartbeats 400000 in
theorem keepStamp_any (p l q p' l' q' : Int) (w : World) :
    Calls Try.prog 15 #[vS p l q, vS p' l' q'] w fun e w' => e = .returned (.bool (decide ((⟨p, l, q⟩ : PS) = ⟨p', l', q'⟩))) ∧ Below w.heap.size w w' := by
  by_cases h1 : p = p'
  · subst h1
    by_cases h2 : l = l'
    · subst h2
      by_cases h3 : q = q'
      · subst h3
        rw [decide_eq_true rfl]
        go_enter Try.func15, Try.ntmps15
        go_wp2
        go_ret
        exact ⟨rfl, below_two _ _ _⟩
      · rw [decide_eq_false (by simp [h3])]
        have hq : (q == q') = false := by simp [h3]
        go_enter Try.func15, Try.ntmps15
        go_wp2
        go_ret
        exact ⟨rfl, below_two _ _ _⟩
    · rw [decide_eq_false (by simp [h2])]
      have hq : (l == l') = false := by simp [h2]
      go_enter Try.func15, Try.ntmps15
      go_wp2
      go_ret
      exact ⟨rfl, below_two _ _ _⟩
  · rw [decide_eq_false (by simp [h1])]
    have hq : (p == p') = false := by simp [h1]
    go_enter Try.func15, Try.ntmps15
    go_wp2
    go_ret
    exact ⟨rfl, below_two _ _ _⟩

theorem keepStamp_of {b : Bool} (s s' : PS) (w : World) (h : decide (s = s') = b) :
    Calls Try.prog 15 #[vS s.p s.l s.q, vS s'.p s'.l s'.q] w fun e w' => e = .returned (.bool b) ∧ Below w.heap.size w w' := by
  subst h
  exact keepStamp_any s.p s.l s.q s'.p s'.l s'.q w

/-- What is told of a time, and an error. -/
def TellsS (e : Ending) (r : PS × Int) : Prop := e = .returned (.tuple #[vS r.1.p r.1.l r.1.q, .int .i64 r.2])

theorem below_set3 {w w1 : World} {B g : Nat} {x y z : Value} (h : Below B w w1) (hg : B ≤ g) : Below B w (((w1.setCell ⟨g, 0, none⟩ x).setCell ⟨g, 1, none⟩ y).setCell ⟨g, 2, none⟩ z) := ((h.setCell hg _).setCell hg _).setCell hg _

set_option maxHeartbeats 1000000 in
theorem rNextS_any (p l q wall peer : Int) (w : World) (hl : In64 l) :
    Calls Try.prog 11 #[vS p l q, .int .i64 wall, .int .i64 peer] w fun e w' => TellsS e (nextS ⟨p, l, q⟩ wall peer) ∧ Below w.heap.size w w' := by
  have HBX : Hid (BoxS ((w.alloc (.cells #[.int .i64 p, .int .i64 l, .int .i64 q] 23)).alloc (.cells #[.int .i64 0, .int .i64 0, .int .i64 0] 23)) w.heap.size p l q) := (BoxS.made (w := w) (p := p) (l := l) (q := q) rfl).later (alloc_below _ _)
  have HBR : Hid (BoxS ((w.alloc (.cells #[.int .i64 p, .int .i64 l, .int .i64 q] 23)).alloc (.cells #[.int .i64 0, .int .i64 0, .int .i64 0] 23)) (w.heap.size + 1) 0 0 0) := BoxS.made (by simp)
  obtain ⟨x0, x1, x2⟩ := HBX.out.cells
  unfold In64 at hl
  cases hok : okS ⟨p, l, q⟩ with
  | false =>
    rw [nextS_no (by simp [mayN, hok])]
    go_enter Try.func11, Try.ntmps11
    go_wp2_with fail
    refine (rStamp_of _ _ _ _ hok).mono ?_
    rintro e w1 ⟨rfl, hb⟩
    obtain ⟨x0, x1, x2⟩ := (HBX.out.later hb).cells
    obtain ⟨y0, y1, y2⟩ := (HBR.out.later hb).cells
    have HB : Hid (Below w.heap.size w w1) := chain (below_two _ _ _) hb
    have HX : Hid (BoxS w1 (w.heap.size + 1) 0 0 0) := HBR.out.later hb
    have f0 := HX.out.frozen
    clear hb
    obtain ⟨c0, c1, c2⟩ := (HX.out.set (0) (0) (0)).cells
    go_wp2
    refine bodyPost_ret (by simp [results, Try.results11, go_sem, c0, c1, c2]; rfl) rfl ?_
    exact ⟨rfl, below_set3 HB.out (by omega)⟩
  | true =>
    by_cases hw : 0 ≤ wall ∧ wall ≤ 1099511627776
    · by_cases hp : 0 ≤ peer ∧ peer ≤ 4
      · have hm : mayN ⟨p, l, q⟩ wall peer = true := mayN_iff.2 ⟨hok, hw, hp⟩
        by_cases h1 : p < wall
        · rw [nextS_ahead hm h1]
          clear hm
          go_enter Try.func11, Try.ntmps11
          go_wp2_with fail
          refine (rStamp_of _ _ _ _ hok).mono ?_
          rintro e w1 ⟨rfl, hb⟩
          obtain ⟨x0, x1, x2⟩ := (HBX.out.later hb).cells
          obtain ⟨y0, y1, y2⟩ := (HBR.out.later hb).cells
          have HB : Hid (Below w.heap.size w w1) := chain (below_two _ _ _) hb
          have HX : Hid (BoxS w1 (w.heap.size + 1) 0 0 0) := HBR.out.later hb
          have f0 := HX.out.frozen
          clear hb
          go_wp2_with fail
          refine (in_yes _ _ _ _ hw.1 hw.2).mono ?_
          rintro e w2 ⟨rfl, hw2⟩
          subst w2
          go_wp2_with fail
          refine (in_yes _ _ _ _ hp.1 hp.2).mono ?_
          rintro e w2 ⟨rfl, hw2⟩
          subst w2
          obtain ⟨c0, c1, c2⟩ := (HX.out.set (wall) (0) (peer)).cells
          go_wp2
          refine bodyPost_ret (by simp [results, Try.results11, go_sem, c0, c1, c2]; rfl) rfl ?_
          exact ⟨rfl, below_set3 HB.out (by omega)⟩
        · have hd : decide (p < wall) = false := by simpa using h1
          by_cases h2 : l = 65536
          · rw [nextS_full hm h1 h2]
            subst h2
            clear hm
            go_enter Try.func11, Try.ntmps11
            go_wp2_with fail
            refine (rStamp_of _ _ _ _ hok).mono ?_
            rintro e w1 ⟨rfl, hb⟩
            obtain ⟨x0, x1, x2⟩ := (HBX.out.later hb).cells
            obtain ⟨y0, y1, y2⟩ := (HBR.out.later hb).cells
            have HB : Hid (Below w.heap.size w w1) := chain (below_two _ _ _) hb
            have HX : Hid (BoxS w1 (w.heap.size + 1) 0 0 0) := HBR.out.later hb
            have f0 := HX.out.frozen
            clear hb
            go_wp2_with fail
            refine (in_yes _ _ _ _ hw.1 hw.2).mono ?_
            rintro e w2 ⟨rfl, hw2⟩
            subst w2
            go_wp2_with fail
            refine (in_yes _ _ _ _ hp.1 hp.2).mono ?_
            rintro e w2 ⟨rfl, hw2⟩
            subst w2
            obtain ⟨c0, c1, c2⟩ := (HX.out.set (0) (0) (0)).cells
            go_wp2
            refine bodyPost_ret (by simp [results, Try.results11, go_sem, c0, c1, c2]; rfl) rfl ?_
            exact ⟨rfl, below_set3 HB.out (by omega)⟩
          · rw [nextS_more hm h1 h2]
            have hq : (l == 65536) = false := by simp [h2]
            have hl2 := (okS_iff.1 hok).2.2.1
            have hl3 := (okS_iff.1 hok).2.2.2.1
            simp only at hl2 hl3
            clear hm
            go_enter Try.func11, Try.ntmps11
            go_wp2_with fail
            refine (rStamp_of _ _ _ _ hok).mono ?_
            rintro e w1 ⟨rfl, hb⟩
            obtain ⟨x0, x1, x2⟩ := (HBX.out.later hb).cells
            obtain ⟨y0, y1, y2⟩ := (HBR.out.later hb).cells
            have HB : Hid (Below w.heap.size w w1) := chain (below_two _ _ _) hb
            have HX : Hid (BoxS w1 (w.heap.size + 1) 0 0 0) := HBR.out.later hb
            have f0 := HX.out.frozen
            clear hb
            go_wp2_with fail
            refine (in_yes _ _ _ _ hw.1 hw.2).mono ?_
            rintro e w2 ⟨rfl, hw2⟩
            subst w2
            go_wp2_with fail
            refine (in_yes _ _ _ _ hp.1 hp.2).mono ?_
            rintro e w2 ⟨rfl, hw2⟩
            subst w2
            obtain ⟨c0, c1, c2⟩ := (HX.out.set (p) (l + 1) (peer)).cells
            go_wp2
            refine bodyPost_ret (by simp [results, Try.results11, go_sem, c0, c1, c2]; rfl) rfl ?_
            exact ⟨rfl, below_set3 HB.out (by omega)⟩
      · rw [nextS_no (by rw [Bool.eq_false_iff]; exact fun h => hp (mayN_iff.1 h).2.2)]
        go_enter Try.func11, Try.ntmps11
        go_wp2_with fail
        refine (rStamp_of _ _ _ _ hok).mono ?_
        rintro e w1 ⟨rfl, hb⟩
        obtain ⟨x0, x1, x2⟩ := (HBX.out.later hb).cells
        obtain ⟨y0, y1, y2⟩ := (HBR.out.later hb).cells
        have HB : Hid (Below w.heap.size w w1) := chain (below_two _ _ _) hb
        have HX : Hid (BoxS w1 (w.heap.size + 1) 0 0 0) := HBR.out.later hb
        have f0 := HX.out.frozen
        clear hb
        go_wp2_with fail
        refine (in_yes _ _ _ _ hw.1 hw.2).mono ?_
        rintro e w2 ⟨rfl, hw2⟩
        subst w2
        go_wp2_with fail
        refine (in_no _ _ _ _ (by omega)).mono ?_
        rintro e w2 ⟨rfl, hw2⟩
        subst w2
        obtain ⟨c0, c1, c2⟩ := (HX.out.set (0) (0) (0)).cells
        go_wp2
        refine bodyPost_ret (by simp [results, Try.results11, go_sem, c0, c1, c2]; rfl) rfl ?_
        exact ⟨rfl, below_set3 HB.out (by omega)⟩
    · rw [nextS_no (by rw [Bool.eq_false_iff]; exact fun h => hw (mayN_iff.1 h).2.1)]
      go_enter Try.func11, Try.ntmps11
      go_wp2_with fail
      refine (rStamp_of _ _ _ _ hok).mono ?_
      rintro e w1 ⟨rfl, hb⟩
      obtain ⟨x0, x1, x2⟩ := (HBX.out.later hb).cells
      obtain ⟨y0, y1, y2⟩ := (HBR.out.later hb).cells
      have HB : Hid (Below w.heap.size w w1) := chain (below_two _ _ _) hb
      have HX : Hid (BoxS w1 (w.heap.size + 1) 0 0 0) := HBR.out.later hb
      have f0 := HX.out.frozen
      clear hb
      go_wp2_with fail
      refine (in_no _ _ _ _ (by omega)).mono ?_
      rintro e w2 ⟨rfl, hw2⟩
      subst w2
      obtain ⟨c0, c1, c2⟩ := (HX.out.set (0) (0) (0)).cells
      go_wp2
      refine bodyPost_ret (by simp [results, Try.results11, go_sem, c0, c1, c2]; rfl) rfl ?_
      exact ⟨rfl, below_set3 HB.out (by omega)⟩

set_option maxHeartbeats 1000000 in
theorem rLater_any (p l q p' l' q' : Int) (w : World) :
    Calls Try.prog 17 #[vS p l q, vS p' l' q'] w fun e w' => e = .returned (vS (laterS ⟨p, l, q⟩ ⟨p', l', q'⟩).p (laterS ⟨p, l, q⟩ ⟨p', l', q'⟩).l (laterS ⟨p, l, q⟩ ⟨p', l', q'⟩).q) ∧ Below w.heap.size w w' := by
  have HA : Hid (BoxS (((w.alloc (.cells #[.int .i64 p, .int .i64 l, .int .i64 q] 23)).alloc (.cells #[.int .i64 p', .int .i64 l', .int .i64 q'] 23)).alloc (.cells #[.int .i64 0, .int .i64 0, .int .i64 0] 23)) w.heap.size p l q) := ((BoxS.made (w := w) (p := p) (l := l) (q := q) rfl).later (alloc_below _ _)).later (alloc_below _ _)
  have HB : Hid (BoxS (((w.alloc (.cells #[.int .i64 p, .int .i64 l, .int .i64 q] 23)).alloc (.cells #[.int .i64 p', .int .i64 l', .int .i64 q'] 23)).alloc (.cells #[.int .i64 0, .int .i64 0, .int .i64 0] 23)) (w.heap.size + 1) p' l' q') := (BoxS.made (by simp)).later (alloc_below _ _)
  have HR : Hid (BoxS (((w.alloc (.cells #[.int .i64 p, .int .i64 l, .int .i64 q] 23)).alloc (.cells #[.int .i64 p', .int .i64 l', .int .i64 q'] 23)).alloc (.cells #[.int .i64 0, .int .i64 0, .int .i64 0] 23)) (w.heap.size + 1 + 1) 0 0 0) := BoxS.made (by simp)
  have C := fun (W : World) => rCmpS_any p' l' q' p l q W
  unfold laterS
  by_cases h : 0 < cmpS ⟨p', l', q'⟩ ⟨p, l, q⟩
  · rw [if_pos h]
    generalize cmpS ⟨p', l', q'⟩ ⟨p, l, q⟩ = c at *
    obtain ⟨x0, x1, x2⟩ := HA.out.cells
    obtain ⟨y0, y1, y2⟩ := HB.out.cells
    go_enter Try.func17, Try.ntmps17
    go_wp2_with fail
    refine (C _).mono ?_
    rintro e w1 ⟨rfl, hb⟩
    have HB1 : Hid (Below w.heap.size w w1) := chain (below_two _ _ _) (chain (alloc_below _ _) hb)
    have HX : Hid (BoxS w1 (w.heap.size + 1 + 1) 0 0 0) := HR.out.later hb
    obtain ⟨x0, x1, x2⟩ := (HA.out.later hb).cells
    obtain ⟨y0, y1, y2⟩ := (HB.out.later hb).cells
    obtain ⟨r0, r1, r2⟩ := HX.out.cells
    obtain ⟨c0, c1, c2⟩ := (HX.out.set p' l' q').cells
    have f0 := HX.out.frozen
    clear hb
    go_wp2
    refine bodyPost_ret (by simp [results, Try.results17, go_sem, c0, c1, c2]; rfl) rfl ?_
    exact ⟨rfl, below_set3 HB1.out (by omega)⟩
  · rw [if_neg h]
    generalize cmpS ⟨p', l', q'⟩ ⟨p, l, q⟩ = c at *
    have hd : decide (0 < c) = false := by simpa using h
    obtain ⟨x0, x1, x2⟩ := HA.out.cells
    obtain ⟨y0, y1, y2⟩ := HB.out.cells
    go_enter Try.func17, Try.ntmps17
    go_wp2_with fail
    refine (C _).mono ?_
    rintro e w1 ⟨rfl, hb⟩
    have HB1 : Hid (Below w.heap.size w w1) := chain (below_two _ _ _) (chain (alloc_below _ _) hb)
    have HX : Hid (BoxS w1 (w.heap.size + 1 + 1) 0 0 0) := HR.out.later hb
    obtain ⟨x0, x1, x2⟩ := (HA.out.later hb).cells
    obtain ⟨y0, y1, y2⟩ := (HB.out.later hb).cells
    obtain ⟨r0, r1, r2⟩ := HX.out.cells
    obtain ⟨c0, c1, c2⟩ := (HX.out.set p l q).cells
    have f0 := HX.out.frozen
    clear hb
    go_wp2
    refine bodyPost_ret (by simp [results, Try.results17, go_sem, c0, c1, c2]; rfl) rfl ?_
    exact ⟨rfl, below_set3 HB1.out (by omega)⟩

def HlcCheck : Prop := ∀ (p l q : Int) (w : World), S64 ⟨p, l, q⟩ → Calls Try.prog 12 #[vS p l q] w fun e w' => e = .returned (.int .i64 (chkS ⟨p, l, q⟩)) ∧ Below w.heap.size w w'

def HlcCompare : Prop := ∀ (p l q p' l' q' : Int) (w : World), S64 ⟨p, l, q⟩ → S64 ⟨p', l', q'⟩ → Calls Try.prog 13 #[vS p l q, vS p' l' q'] w fun e w' => e = .returned (.int .i64 (cmpS ⟨p, l, q⟩ ⟨p', l', q'⟩)) ∧ Below w.heap.size w w'

def HlcNext : Prop := ∀ (p l q wall peer : Int) (w : World), S64 ⟨p, l, q⟩ → In64 wall → In64 peer → Calls Try.prog 10 #[vS p l q, .int .i64 wall, .int .i64 peer] w fun e w' => TellsS e (nextS ⟨p, l, q⟩ wall peer) ∧ Below w.heap.size w w'

def HlcLaterC : Prop := ∀ (p l q p' l' q' : Int) (w : World), S64 ⟨p, l, q⟩ → S64 ⟨p', l', q'⟩ → Calls Try.prog 16 #[vS p l q, vS p' l' q'] w fun e w' => e = .returned (vS (laterS ⟨p, l, q⟩ ⟨p', l', q'⟩).p (laterS ⟨p, l, q⟩ ⟨p', l', q'⟩).l (laterS ⟨p, l, q⟩ ⟨p', l', q'⟩).q) ∧ Below w.heap.size w w'

/-- The calls of package hlc. -/
structure HlcApi : Prop where
  check : HlcCheck
  compare : HlcCompare
  next : HlcNext
  later : HlcLaterC

end Go.Proofs.Ytncidjlobjgibaa
