/-
  Texts of the proof of OpKinds, one behind the other.
-/
import Derived.Test.YtjpcljmlkgjbgaaRows
import Derived.Test.YtjpcljmlkgjbgaaG11OpKinds
import Derived.Test.YtjpcljmlkgjbgaaG14OpKinds
import Derived.WalkKit
import Derived.WalkSpells
import Derived.WalkLawsBesides
import Derived.Handy
namespace Go.Proofs.Ytjpcljmlkgjbgaa
open Go.RowKit Go.Lib
set_option linter.unusedVariables false

theorem cell_inside {w : World} {b o : Nat} {v : Value} (h : w.cell? ⟨b, o, none⟩ = some v) : b < w.heap.size := by
  rcases Nat.lt_or_ge b w.heap.size with h1 | h1
  · exact h1
  · unfold World.cell? at h
    simp [Array.getElem?_eq_none h1] at h

theorem set_other {w : World} {a b : Addr} {v x : Value} (h : a ≠ b) (hx : w.cell? b = some x) : (w.setCell a v).cell? b = some x := (World.cell?_setCell_other _ _ _ _ h).trans hx

theorem set_same {w : World} {a : Addr} {v x : Value} (hx : w.cell? a = some x) : (w.setCell a v).cell? a = some v := World.cell?_setCell_same _ _ _ hx

/-- A box that was made earlier holds what it was made of, and may be written. -/
theorem box_at {w w1 : World} {a b c : Value} {t g : Nat} (hg : w.heap.size = g) (hb : Below (w.alloc (.cells #[a, b, c] t)).heap.size (w.alloc (.cells #[a, b, c] t)) w1) :
    (w1.cell? ⟨g, 0, none⟩ = some a ∧ w1.cell? ⟨g, 1, none⟩ = some b ∧ w1.cell? ⟨g, 2, none⟩ = some c) ∧ w1.frozen? ⟨g, 0, none⟩ = false ∧ w1.frozen? ⟨g, 1, none⟩ = false ∧ w1.frozen? ⟨g, 2, none⟩ = false := by
  subst hg
  refine ⟨box3 hb, ?_, ?_, ?_⟩ <;> (rw [hb.frozen (by simp)]; simp)

/-- A value's box. -/
def Box (w : World) (g : Nat) (k i : Int) (s : ByteArray) : Prop := w.heap[g]? = some (.cells #[.int .i64 k, .int .i64 i, .string s] 102 (0, 0))

theorem Box.made {w : World} {g : Nat} {k i : Int} {s : ByteArray} (hg : w.heap.size = g) : Box (w.alloc (.cells #[.int .i64 k, .int .i64 i, .string s] 102)) g k i s := by
  subst hg
  show (w.heap.push _)[w.heap.size]? = _
  simp

theorem Box.lt {w : World} {g : Nat} {k i : Int} {s : ByteArray} (h : Box w g k i s) : g < w.heap.size := by
  unfold Box at h
  rcases Nat.lt_or_ge g w.heap.size with h1 | h1
  · exact h1
  · simp [Array.getElem?_eq_none h1] at h

theorem Box.later {w w' : World} {g : Nat} {k i : Int} {s : ByteArray} (h : Box w g k i s) (hb : Below w.heap.size w w') : Box w' g k i s := (hb.block g h.lt).trans h

theorem Box.cells {w : World} {g : Nat} {k i : Int} {s : ByteArray} (h : Box w g k i s) : w.cell? ⟨g, 0, none⟩ = some (.int .i64 k) ∧ w.cell? ⟨g, 1, none⟩ = some (.int .i64 i) ∧ w.cell? ⟨g, 2, none⟩ = some (.string s) ∧ g < w.heap.size := by
  refine ⟨?_, ?_, ?_, h.lt⟩ <;> (rw [cell_of_row w g _ _ _ _ h]; rfl)

set_option maxHeartbeats 400000 in
theorem rRead_place (a : Option Addr) (len cap : Nat) (p : Int) (w : World) (hl : len ≤ 1048576) (h : p < 0 ∨ (len : Int) < p) :
    Calls Try.prog 120 #[.slice a len cap, .int .i64 p] w fun e w' => TellsV e (noV, 0, 1) ∧ Below w.heap.size w w' := by
  go_enter Try.func120, Try.ntmps120
  go_wp2_with fail
  refine (in_no _ _ _ _ h).mono ?_
  rintro e w1 ⟨rfl, rfl⟩
  go_wp2
  go_returns
  exact ⟨rfl, alloc_below _ _⟩

set_option maxHeartbeats 400000 in
theorem rRead_end (a : Option Addr) (len cap : Nat) (w : World) (hl : len ≤ 1048576) :
    Calls Try.prog 120 #[.slice a len cap, .int .i64 len] w fun e w' => TellsV e (noV, 0, 3) ∧ Below w.heap.size w w' := by
  go_enter Try.func120, Try.ntmps120
  go_wp2_with fail
  refine (in_yes _ _ _ _ (by omega) (by omega)).mono ?_
  rintro e w1 ⟨rfl, rfl⟩
  go_wp2
  go_returns
  exact ⟨rfl, alloc_below _ _⟩

set_option maxHeartbeats 400000 in
theorem rRead_null (b off len cap p : Nat) (w : World) (hl : len ≤ 1048576) (hp : p < len) (hc : w.cell? ⟨b, off + p, none⟩ = some (.int .u8 1)) :
    Calls Try.prog 120 #[.slice (some ⟨b, off, none⟩) len cap, .int .i64 p] w fun e w' => TellsV e (⟨1, 0, ⟨#[]⟩⟩, (p : Int) + 1, 0) ∧ Below w.heap.size w w' := by
  have hlt : b < w.heap.size := cell_inside hc
  have hpl : ((p : Int) == (len : Int)) = false := by simp; omega
  have hok : okV ⟨1, 0, ⟨#[]⟩⟩ = true := rfl
  go_enter Try.func120, Try.ntmps120
  go_wp2_with fail
  refine (in_yes _ _ _ _ (by omega) (by omega)).mono ?_
  rintro e w1 ⟨rfl, rfl⟩
  go_wp2_with fail
  refine (rValue_of _ _ _ _ hok).mono ?_
  rintro e w2 ⟨rfl, hb⟩
  obtain ⟨⟨c0, c1, c2⟩, f0, f1, f2⟩ := box_at rfl (chain (alloc_below _ _) hb)
  obtain ⟨⟨d0, d1, d2⟩, _⟩ := box_at (g := w.heap.size + 1) (by simp) hb
  have HB : Hid (Below w.heap.size w w2) := chain (below_two _ _ _) hb
  clear hb
  go_wp2
  refine bodyPost_ret (by simp [results, Try.results120, go_sem, c0, c1, c2]; rfl) rfl ?_
  exact ⟨rfl, (((HB.out.setCell (Nat.le_refl _) _).setCell (Nat.le_refl _) _).setCell (Nat.le_refl _) _)⟩

set_option maxHeartbeats 400000 in
theorem rRead_bad (b off len cap p k : Nat) (w : World) (hl : len ≤ 1048576) (hp : p < len) (hc : w.cell? ⟨b, off + p, none⟩ = some (.int .u8 k)) (hk8 : k < 256) (hk : k ≠ 1 ∧ k ≠ 2 ∧ k ≠ 3 ∧ k ≠ 4) :
    Calls Try.prog 120 #[.slice (some ⟨b, off, none⟩) len cap, .int .i64 p] w fun e w' => TellsV e (noV, 0, 3) ∧ Below w.heap.size w w' := by
  have hlt : b < w.heap.size := cell_inside hc
  have hpl : ((p : Int) == (len : Int)) = false := by simp; omega
  have k1 : ((k : Int) == 1) = false := by simp; omega
  have k2 : ((k : Int) == 2) = false := by simp; omega
  have k3 : ((k : Int) == 3) = false := by simp; omega
  have k4 : ((k : Int) == 4) = false := by simp; omega
  clear hk
  go_enter Try.func120, Try.ntmps120
  go_wp2_with fail
  refine (in_yes _ _ _ _ (by omega) (by omega)).mono ?_
  rintro e w1 ⟨rfl, rfl⟩
  go_wp2
  go_returns
  exact ⟨rfl, below_two _ _ _⟩

set_option maxHeartbeats 400000 in
theorem rRead_bool (b off len cap p : Nat) (l : List UInt8) (w : World) (hlen : l.length = len) (hl : len ≤ 1048576) (hcap : len ≤ cap) (hr : Rd w (some ⟨b, off, none⟩) l) (hp : p < len) (hc : w.cell? ⟨b, off + p, none⟩ = some (.int .u8 2)) (r : Int × Int × Int) (hR : rGet l ((p : Int) + 1) 1 = r) :
    Calls Try.prog 120 #[.slice (some ⟨b, off, none⟩) len cap, .int .i64 p] w fun e w' => TellsV e (sealV (⟨2, r.1, ⟨#[]⟩⟩, r.2.1, r.2.2)) ∧ Below w.heap.size w w' := by
  have hlt : b < w.heap.size := cell_inside hc
  have hpl : ((p : Int) == (len : Int)) = false := by simp; omega
  have HL : Hid (l.length = len) := hlen
  obtain ⟨r1, r2, r3⟩ := r
  have C := fun (W : World) (h : Rd W (some ⟨b, off, none⟩) l) => rget_any (some ⟨b, off, none⟩) len cap ((p : Int) + 1) 1 l W hlen hl hcap h
  rw [hR] at C
  clear hlen hR
  by_cases he : r3 = 0
  · subst he
    cases hok : okV ⟨2, r1, ⟨#[]⟩⟩ with
    | true =>
      rw [sealV_ok hok]
      go_enter Try.func120, Try.ntmps120
      go_wp2_with fail
      refine (in_yes _ _ _ _ (by omega) (by omega)).mono ?_
      rintro e w1 ⟨rfl, rfl⟩
      go_wp2_with fail
      refine (C _ (hr.later (below_two _ _ _))).mono ?_
      rintro e w1 ⟨rfl, rfl⟩
      go_wp2_with fail
      refine (rValue_of _ _ _ _ hok).mono ?_
      rintro e w2 ⟨rfl, hb⟩
      obtain ⟨⟨c0, c1, c2⟩, f0, f1, f2⟩ := box_at rfl (chain (alloc_below _ _) hb)
      obtain ⟨⟨d0, d1, d2⟩, _⟩ := box_at (g := w.heap.size + 1) (by simp) hb
      have HB : Hid (Below w.heap.size w w2) := chain (below_two _ _ _) hb
      clear hb
      go_wp2
      refine bodyPost_ret (by simp [results, Try.results120, go_sem, c0, c1, c2]; rfl) rfl ?_
      exact ⟨rfl, (((HB.out.setCell (Nat.le_refl _) _).setCell (Nat.le_refl _) _).setCell (Nat.le_refl _) _)⟩
    | false =>
      rw [sealV_no hok]
      go_enter Try.func120, Try.ntmps120
      go_wp2_with fail
      refine (in_yes _ _ _ _ (by omega) (by omega)).mono ?_
      rintro e w1 ⟨rfl, rfl⟩
      go_wp2_with fail
      refine (C _ (hr.later (below_two _ _ _))).mono ?_
      rintro e w1 ⟨rfl, rfl⟩
      go_wp2_with fail
      refine (rValue_of _ _ _ _ hok).mono ?_
      rintro e w2 ⟨rfl, hb⟩
      obtain ⟨⟨c0, c1, c2⟩, f0, f1, f2⟩ := box_at rfl (chain (alloc_below _ _) hb)
      obtain ⟨⟨d0, d1, d2⟩, _⟩ := box_at (g := w.heap.size + 1) (by simp) hb
      have HB : Hid (Below w.heap.size w w2) := chain (below_two _ _ _) hb
      clear hb
      go_wp2
      refine bodyPost_ret (by simp [results, Try.results120, go_sem, c0, c1, c2]; rfl) rfl ?_
      exact ⟨rfl, (((HB.out.setCell (Nat.le_refl _) _).setCell (Nat.le_refl _) _).setCell (Nat.le_refl _) _)⟩
  · rw [sealV_err he]
    have hne : (r3 != 0) = true := by simp [he]
    go_enter Try.func120, Try.ntmps120
    go_wp2_with fail
    refine (in_yes _ _ _ _ (by omega) (by omega)).mono ?_
    rintro e w1 ⟨rfl, rfl⟩
    go_wp2_with fail
    refine (C _ (hr.later (below_two _ _ _))).mono ?_
    rintro e w1 ⟨rfl, rfl⟩
    go_wp2
    go_returns
    exact ⟨rfl, below_two _ _ _⟩

set_option maxHeartbeats 400000 in
theorem rRead_int (b off len cap p : Nat) (l : List UInt8) (w : World) (hlen : l.length = len) (hl : len ≤ 1048576) (hcap : len ≤ cap) (hr : Rd w (some ⟨b, off, none⟩) l) (hp : p < len) (hc : w.cell? ⟨b, off + p, none⟩ = some (.int .u8 3)) (r : Int × Int × Int) (hR : rGetInt l ((p : Int) + 1) = r) :
    Calls Try.prog 120 #[.slice (some ⟨b, off, none⟩) len cap, .int .i64 p] w fun e w' => TellsV e (sealV (⟨3, r.1, ⟨#[]⟩⟩, r.2.1, r.2.2)) ∧ Below w.heap.size w w' := by
  have hlt : b < w.heap.size := cell_inside hc
  have hpl : ((p : Int) == (len : Int)) = false := by simp; omega
  have HL : Hid (l.length = len) := hlen
  obtain ⟨r1, r2, r3⟩ := r
  have C := fun (W : World) (h : Rd W (some ⟨b, off, none⟩) l) => rgetInt_any (some ⟨b, off, none⟩) len cap ((p : Int) + 1) l W hlen hl hcap h
  rw [hR] at C
  clear hlen hR
  by_cases he : r3 = 0
  · subst he
    cases hok : okV ⟨3, r1, ⟨#[]⟩⟩ with
    | true =>
      rw [sealV_ok hok]
      go_enter Try.func120, Try.ntmps120
      go_wp2_with fail
      refine (in_yes _ _ _ _ (by omega) (by omega)).mono ?_
      rintro e w1 ⟨rfl, rfl⟩
      go_wp2_with fail
      refine (C _ (hr.later (below_two _ _ _))).mono ?_
      rintro e w1 ⟨rfl, rfl⟩
      go_wp2_with fail
      refine (rValue_of _ _ _ _ hok).mono ?_
      rintro e w2 ⟨rfl, hb⟩
      obtain ⟨⟨c0, c1, c2⟩, f0, f1, f2⟩ := box_at rfl (chain (alloc_below _ _) hb)
      obtain ⟨⟨d0, d1, d2⟩, _⟩ := box_at (g := w.heap.size + 1) (by simp) hb
      have HB : Hid (Below w.heap.size w w2) := chain (below_two _ _ _) hb
      clear hb
      go_wp2
      refine bodyPost_ret (by simp [results, Try.results120, go_sem, c0, c1, c2]; rfl) rfl ?_
      exact ⟨rfl, (((HB.out.setCell (Nat.le_refl _) _).setCell (Nat.le_refl _) _).setCell (Nat.le_refl _) _)⟩
    | false =>
      rw [sealV_no hok]
      go_enter Try.func120, Try.ntmps120
      go_wp2_with fail
      refine (in_yes _ _ _ _ (by omega) (by omega)).mono ?_
      rintro e w1 ⟨rfl, rfl⟩
      go_wp2_with fail
      refine (C _ (hr.later (below_two _ _ _))).mono ?_
      rintro e w1 ⟨rfl, rfl⟩
      go_wp2_with fail
      refine (rValue_of _ _ _ _ hok).mono ?_
      rintro e w2 ⟨rfl, hb⟩
      obtain ⟨⟨c0, c1, c2⟩, f0, f1, f2⟩ := box_at rfl (chain (alloc_below _ _) hb)
      obtain ⟨⟨d0, d1, d2⟩, _⟩ := box_at (g := w.heap.size + 1) (by simp) hb
      have HB : Hid (Below w.heap.size w w2) := chain (below_two _ _ _) hb
      clear hb
      go_wp2
      refine bodyPost_ret (by simp [results, Try.results120, go_sem, c0, c1, c2]; rfl) rfl ?_
      exact ⟨rfl, (((HB.out.setCell (Nat.le_refl _) _).setCell (Nat.le_refl _) _).setCell (Nat.le_refl _) _)⟩
  · rw [sealV_err he]
    have hne : (r3 != 0) = true := by simp [he]
    go_enter Try.func120, Try.ntmps120
    go_wp2_with fail
    refine (in_yes _ _ _ _ (by omega) (by omega)).mono ?_
    rintro e w1 ⟨rfl, rfl⟩
    go_wp2_with fail
    refine (C _ (hr.later (below_two _ _ _))).mono ?_
    rintro e w1 ⟨rfl, rfl⟩
    go_wp2
    go_returns
    exact ⟨rfl, below_two _ _ _⟩

theorem rgetText_below (a : Option Addr) (len cap : Nat) (p : Int) (l : List UInt8) (w : World) (hlen : l.length = len) (hl : len ≤ 1048576) (hcap : len ≤ cap) (hr : Rd w a l) :
    Calls Try.prog 109 #[.slice a len cap, .int .i64 p] w fun e w' => e = .returned (.tuple #[.string ⟨(rGetText l p).1.toArray⟩, .int .i64 (rGetText l p).2.1, .int .i64 (rGetText l p).2.2]) ∧ Below w.heap.size w w' :=
  (rgetText_any a len cap p l w hlen hl hcap hr).mono fun _ _ h => ⟨h.1, by rw [h.2]; exact Below.refl _ _⟩

set_option maxHeartbeats 800000 in
theorem rRead_text (b off len cap p : Nat) (l : List UInt8) (w : World) (hlen : l.length = len) (hl : len ≤ 1048576) (hcap : len ≤ cap) (hr : Rd w (some ⟨b, off, none⟩) l) (hp : p < len) (hc : w.cell? ⟨b, off + p, none⟩ = some (.int .u8 4)) (r : List UInt8 × Int × Int) (hR : rGetText l ((p : Int) + 1) = r) :
    Calls Try.prog 120 #[.slice (some ⟨b, off, none⟩) len cap, .int .i64 p] w fun e w' => TellsV e (sealV (⟨4, 0, ⟨r.1.toArray⟩⟩, r.2.1, r.2.2)) ∧ Below w.heap.size w w' := by
  have hlt : b < w.heap.size := cell_inside hc
  have hpl : ((p : Int) == (len : Int)) = false := by simp; omega
  have HL : Hid (l.length = len) := hlen
  obtain ⟨r1, r2, r3⟩ := r
  have C := fun (W : World) (h : Rd W (some ⟨b, off, none⟩) l) => rgetText_below (some ⟨b, off, none⟩) len cap ((p : Int) + 1) l W hlen hl hcap h
  rw [hR] at C
  clear hlen hR
  simp only at C
  generalize (⟨r1.toArray⟩ : ByteArray) = T at *
  by_cases he : r3 = 0
  · subst he
    cases hok : okV ⟨4, 0, T⟩ with
    | true =>
      rw [sealV_ok hok]
      go_enter Try.func120, Try.ntmps120
      go_wp2_with fail
      refine (in_yes _ _ _ _ (by omega) (by omega)).mono ?_
      rintro e w1 ⟨rfl, rfl⟩
      go_wp2_with fail
      refine (C _ (hr.later (below_two _ _ _))).mono ?_
      rintro e w3 ⟨rfl, hb3⟩
      obtain ⟨⟨a0, a1, a2⟩, g0, g1, g2⟩ := box_at rfl (chain (alloc_below _ _) hb3)
      obtain ⟨⟨b0, b1, b2⟩, h0, h1, h2⟩ := box_at (g := w.heap.size + 1) (by simp) hb3
      have HB3 : Hid (Below w.heap.size w w3) := chain (below_two _ _ _) hb3
      clear hb3
      go_wp2_with fail
      refine (rValue_of _ _ _ _ hok).mono ?_
      rintro e w2 ⟨rfl, hb⟩
      have c0 := cell_later hb (set_other (by simp) a0)
      have c1 := cell_later hb (set_other (by simp) a1)
      have c2 := cell_later hb (set_other (by simp) a2)
      have d0 := cell_later hb (set_other (by simp) b0)
      have d1 := cell_later hb (set_other (by simp) b1)
      have d2 := cell_later hb (set_same b2)
      have f0 : w2.frozen? ⟨w.heap.size, 0, none⟩ = false := (hb.frozen (by simpa using Nat.lt_of_lt_of_le (Nat.lt_succ_self _) (cell_inside a0))).trans (by simpa using g0)
      have f1 : w2.frozen? ⟨w.heap.size, 1, none⟩ = false := (hb.frozen (by simpa using Nat.lt_of_lt_of_le (Nat.lt_succ_self _) (cell_inside a0))).trans (by simpa using g1)
      have f2 : w2.frozen? ⟨w.heap.size, 2, none⟩ = false := (hb.frozen (by simpa using Nat.lt_of_lt_of_le (Nat.lt_succ_self _) (cell_inside a0))).trans (by simpa using g2)
      have HB : Hid (Below w.heap.size w w2) := (HB3.out.setCell (by simp) _).trans (hb.mono (by simpa using HB3.out.size))
      clear hb HB3 a0 a1 a2 b0 b1 b2 g0 g1 g2 h0 h1 h2
      go_wp2
      refine bodyPost_ret (by simp [results, Try.results120, go_sem, c0, c1, c2]; rfl) rfl ?_
      exact ⟨rfl, (((HB.out.setCell (Nat.le_refl _) _).setCell (Nat.le_refl _) _).setCell (Nat.le_refl _) _)⟩
    | false =>
      rw [sealV_no hok]
      go_enter Try.func120, Try.ntmps120
      go_wp2_with fail
      refine (in_yes _ _ _ _ (by omega) (by omega)).mono ?_
      rintro e w1 ⟨rfl, rfl⟩
      go_wp2_with fail
      refine (C _ (hr.later (below_two _ _ _))).mono ?_
      rintro e w3 ⟨rfl, hb3⟩
      obtain ⟨⟨a0, a1, a2⟩, g0, g1, g2⟩ := box_at rfl (chain (alloc_below _ _) hb3)
      obtain ⟨⟨b0, b1, b2⟩, h0, h1, h2⟩ := box_at (g := w.heap.size + 1) (by simp) hb3
      have HB3 : Hid (Below w.heap.size w w3) := chain (below_two _ _ _) hb3
      clear hb3
      go_wp2_with fail
      refine (rValue_of _ _ _ _ hok).mono ?_
      rintro e w2 ⟨rfl, hb⟩
      have c0 := cell_later hb (set_other (by simp) a0)
      have c1 := cell_later hb (set_other (by simp) a1)
      have c2 := cell_later hb (set_other (by simp) a2)
      have d0 := cell_later hb (set_other (by simp) b0)
      have d1 := cell_later hb (set_other (by simp) b1)
      have d2 := cell_later hb (set_same b2)
      have f0 : w2.frozen? ⟨w.heap.size, 0, none⟩ = false := (hb.frozen (by simpa using Nat.lt_of_lt_of_le (Nat.lt_succ_self _) (cell_inside a0))).trans (by simpa using g0)
      have f1 : w2.frozen? ⟨w.heap.size, 1, none⟩ = false := (hb.frozen (by simpa using Nat.lt_of_lt_of_le (Nat.lt_succ_self _) (cell_inside a0))).trans (by simpa using g1)
      have f2 : w2.frozen? ⟨w.heap.size, 2, none⟩ = false := (hb.frozen (by simpa using Nat.lt_of_lt_of_le (Nat.lt_succ_self _) (cell_inside a0))).trans (by simpa using g2)
      have HB : Hid (Below w.heap.size w w2) := (HB3.out.setCell (by simp) _).trans (hb.mono (by simpa using HB3.out.size))
      clear hb HB3 a0 a1 a2 b0 b1 b2 g0 g1 g2 h0 h1 h2
      go_wp2
      refine bodyPost_ret (by simp [results, Try.results120, go_sem, c0, c1, c2]; rfl) rfl ?_
      exact ⟨rfl, (((HB.out.setCell (Nat.le_refl _) _).setCell (Nat.le_refl _) _).setCell (Nat.le_refl _) _)⟩
  · rw [sealV_err he]
    have hne : (r3 != 0) = true := by simp [he]
    go_enter Try.func120, Try.ntmps120
    go_wp2_with fail
    refine (in_yes _ _ _ _ (by omega) (by omega)).mono ?_
    rintro e w1 ⟨rfl, rfl⟩
    go_wp2_with fail
    refine (C _ (hr.later (below_two _ _ _))).mono ?_
    rintro e w3 ⟨rfl, hb3⟩
    obtain ⟨⟨a0, a1, a2⟩, g0, g1, g2⟩ := box_at rfl (chain (alloc_below _ _) hb3)
    obtain ⟨⟨b0, b1, b2⟩, h0, h1, h2⟩ := box_at (g := w.heap.size + 1) (by simp) hb3
    have HB3 : Hid (Below w.heap.size w w3) := chain (below_two _ _ _) hb3
    clear hb3
    go_wp2
    refine bodyPost_ret (by simp [results, Try.results120, go_sem, a0, a1, a2]; rfl) rfl ?_
    exact ⟨rfl, ((((HB3.out.setCell (by simp) _).setCell (Nat.le_refl _) _).setCell (Nat.le_refl _) _).setCell (Nat.le_refl _) _)⟩

theorem rRead_any (a : Option Addr) (len cap : Nat) (p : Int) (l : List UInt8) (w : World) (hlen : l.length = len) (hl : len ≤ 1048576) (hcap : len ≤ cap) (hr : Rd w a l) :
    Calls Try.prog 120 #[.slice a len cap, .int .i64 p] w fun e w' => TellsV e (readV l p) ∧ Below w.heap.size w w' := by
  by_cases h2 : p < 0 ∨ (len : Int) < p
  · have e : readV l p = (noV, 0, 1) := by unfold readV; rw [if_pos (by omega)]
    rw [e]; exact rRead_place a len cap p w hl h2
  by_cases h3 : p = (len : Int)
  · subst h3
    have e : readV l len = (noV, 0, 3) := by unfold readV; rw [if_neg (by omega), if_pos (by omega)]
    rw [e]; exact rRead_end a len cap w hl
  obtain ⟨q, rfl⟩ : ∃ q : Nat, p = q := ⟨p.toNat, by omega⟩
  have e : readV l q = sealV (rawV l q) := by unfold readV; rw [if_neg (by omega), if_neg (by omega)]; simp
  rw [e]
  obtain ⟨b, off, rfl⟩ := hr.some_of (by omega)
  have hq : q < len := by omega
  have hc := hr.at_ (drop_at (l := l) (p := q) (by omega))
  unfold rawV
  generalize hx : (l[q]?.getD 0).toNat = k at *
  have hk8 : k < 256 := by rw [← hx]; exact UInt8.toNat_lt _
  simp only
  by_cases k1 : k = 1
  · subst k1
    rw [if_pos rfl, sealV_ok rfl]
    exact rRead_null b off len cap q w hl hq hc
  rw [if_neg k1]
  by_cases k2 : k = 2
  · subst k2
    rw [if_pos rfl]
    exact rRead_bool b off len cap q l w hlen hl hcap hr hq hc _ rfl
  rw [if_neg k2]
  by_cases k3 : k = 3
  · subst k3
    rw [if_pos rfl]
    exact rRead_int b off len cap q l w hlen hl hcap hr hq hc _ rfl
  rw [if_neg k3]
  by_cases k4 : k = 4
  · subst k4
    rw [if_pos rfl]
    exact rRead_text b off len cap q l w hlen hl hcap hr hq hc _ rfl
  rw [if_neg k4, sealV_err (by decide)]
  exact rRead_bad b off len cap q k w hl hq hc hk8 ⟨k1, k2, k3, k4⟩

end Go.Proofs.Ytjpcljmlkgjbgaa
