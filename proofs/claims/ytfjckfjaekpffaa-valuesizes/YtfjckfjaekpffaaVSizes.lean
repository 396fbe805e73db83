/-
  ValueSizes' walk: what the law answers, whatever its value.
-/
import Derived.Test.YtfjckfjaekpffaaRows
import Derived.Test.YtfjckfjaekpffaaVLaws
import Derived.Test.YtfjckfjaekpffaaVExact
import Derived.Test.YtfjckfjaekpffaaVKinds
namespace Go.Proofs.Ytfjckfjaekpffaa
open Go.RowKit Go.Lib
set_option linter.unusedVariables false

/-- A box and a byte stay. -/
theorem keep1 {W w w' : World} {g b off : Nat} {k i : Int} {s : ByteArray} {x : Int}
    (hb : Below w.heap.size w w')
    (h : w.cell? ⟨g, 0, none⟩ = some (.int .i64 k) ∧ w.cell? ⟨g, 1, none⟩ = some (.int .i64 i) ∧ w.cell? ⟨g, 2, none⟩ = some (.string s) ∧ w.cell? ⟨b, off, none⟩ = some (.int .u8 x) ∧ Hid (Below W.heap.size W w)) :
    w'.cell? ⟨g, 0, none⟩ = some (.int .i64 k) ∧ w'.cell? ⟨g, 1, none⟩ = some (.int .i64 i) ∧ w'.cell? ⟨g, 2, none⟩ = some (.string s) ∧ w'.cell? ⟨b, off, none⟩ = some (.int .u8 x) ∧ Hid (Below W.heap.size W w') := by
  obtain ⟨h0, h1, h2, h3, h9⟩ := h
  exact ⟨cell_later hb h0, cell_later hb h1, cell_later hb h2, cell_later hb h3, chain h9.out hb⟩

/-- As many bytes as the page says. -/
def sizeV (v : PV) : Nat := if v.k = 1 then 1 else if v.k = 2 then 2 else if v.k = 3 then 10 else 2 + v.s.size

theorem bytesV_size {v : PV} (h : okV v = true) : (bytesV v).length = sizeV v := by
  rcases okV_kind h with e | e | e | e <;> simp [bytesV, sizeV, e, intBytes_length, textBytes_length]
  omega

set_option maxHeartbeats 4000000 in
theorem vsizes_walk (V : ValueApi) (k i : Int) (s : ByteArray) (w : World) :
    Calls Try.prog 7 #[.agg #[.int .i64 k, .int .i64 i, .string s]] w fun e w' => e = .returned (.bool true) ∧ Below w.heap.size w w' := by
  go_enter Try.func7, Try.ntmps7
  go_wp2_with fail
  refine (long_any (w.heap.size + 1) 1 1 [s] _ rfl (by omega) (fun i hi => ?_)).mono ?_
  · have : i = 0 := by simp at hi; omega
    subst this
    exact alloc_cell (by simp) rfl
  rintro e w1 ⟨rfl, rfl⟩
  have B0 := (Box.made (w := w) (k := k) (i := i) (s := s) rfl).later (alloc_below _ (.cells #[.int .i64 k, .int .i64 i, .string s] 23))
  have HB : Hid (Below w.heap.size w ((w.alloc (.cells #[.int .i64 k, .int .i64 i, .string s] 23)).alloc (.cells #[.int .i64 k, .int .i64 i, .string s] 23))) := below_two _ _ _
  generalize (w.alloc (.cells #[.int .i64 k, .int .i64 i, .string s] 23)).alloc (.cells #[.int .i64 k, .int .i64 i, .string s] 23) = W at *
  cases longT [s] with
  | true =>
    go_wp2
    go_ret
    exact ⟨rfl, HB.out⟩
  | false =>
    obtain ⟨c0, c1, c2, _⟩ := B0.cells
    go_wp2_with fail
    refine (V.bytes _ _ _ _).mono ?_
    rintro e w2 ⟨a, n, cap, rfl, hn, hs, hc, hr, hnl, hb⟩
    replace B0 := B0.later hb
    replace HB : Hid (Below w.heap.size w w2) := chain HB.out hb
    clear c0 c1 c2 hb
    obtain ⟨c0, c1, c2, _⟩ := B0.cells
    cases hok : okV ⟨k, i, s⟩ with
    | false =>
      rw [putV_no hok] at hn hr hnl ⊢
      simp only [List.length_nil] at hn
      subst hn
      clear hr hnl
      have Cc := V.check k i s
      rw [chkV_no hok] at Cc
      go_wp2_with fail
      refine (rValue_of _ _ _ _ hok).mono ?_
      rintro e w3 ⟨rfl, hb⟩
      replace B0 := B0.later hb
      replace HB : Hid (Below w.heap.size w w3) := chain HB.out hb
      clear c0 c1 c2 hb
      obtain ⟨c0, c1, c2, _⟩ := B0.cells
      go_wp2_with fail
      refine (Cc _).mono ?_
      rintro e w4 ⟨rfl, hb⟩
      replace HB : Hid (Below w.heap.size w w4) := chain HB.out hb
      clear c0 c1 c2 hb
      go_wp2_with fail
      refine (vwakes_any V _).mono ?_
      rintro e w5 ⟨rfl, hb⟩
      go_wp2
      go_ret
      exact ⟨rfl, chain HB.out hb⟩
    | true =>
      rw [putV_ok hok] at hn hr hnl ⊢
      simp only at hn hr hnl ⊢
      rw [bytesV_size hok] at hn
      have hx : ∃ x r, bytesV ⟨k, i, s⟩ = x :: r ∧ x = UInt8.ofNat k.toNat := ⟨_, _, rfl, rfl⟩
      obtain ⟨x, r, hxr, hxk⟩ := hx
      rw [hxr] at hr
      obtain ⟨b, off, rfl, hcell⟩ := hr (by simp)
      have hc0 := hcell 0 (by simp)
      simp only [Nat.add_zero, List.getElem_cons_zero] at hc0
      clear hr hcell hnl hxr
      go_wp2_with fail
      refine (rValue_of _ _ _ _ hok).mono ?_
      rintro e w3 ⟨rfl, hb⟩
      replace B0 := B0.later hb
      replace HB : Hid (Below w.heap.size w w3) := chain HB.out hb
      replace hc0 := cell_later hb hc0
      clear c0 c1 c2 hb
      obtain ⟨c0, c1, c2, hl0⟩ := B0.cells
      rcases okV_kind hok with e | e | e | e
      · simp only at e
        subst e
        simp [sizeV] at hn
        subst hn
        simp at hxk
        subst hxk
        have hlt := cell_inside hc0
        have HS := And.intro c0 (And.intro c1 (And.intro c2 (And.intro hc0 HB)))
        go_wp2
        go_region_held3 (fun w' => w'.cell? ⟨w.heap.size, 0, none⟩ = some (.int .i64 1) ∧ w'.cell? ⟨w.heap.size, 1, none⟩ = some (.int .i64 i) ∧ w'.cell? ⟨w.heap.size, 2, none⟩ = some (.string s) ∧ w'.cell? ⟨b, off, none⟩ = some (.int .u8 1) ∧ Hid (Below w.heap.size w w')) (first | exact keep1 (by assumption) (by assumption) | exact keep1 (alloc_below _ _).drew (by assumption)) (first | (go_at_call 19; refine (vwakes_any V _).mono ?_; rintro e w' ⟨rfl, hb⟩))
        have HS1 : w'.cell? ⟨w.heap.size, 0, none⟩ = some (.int .i64 1) ∧ w'.cell? ⟨w.heap.size, 1, none⟩ = some (.int .i64 i) ∧ w'.cell? ⟨w.heap.size, 2, none⟩ = some (.string s) ∧ w'.cell? ⟨b, off, none⟩ = some (.int .u8 1) ∧ Hid (Below w.heap.size w w') := by assumption
        obtain ⟨_, _, _, _, HB1⟩ := HS1
        go_wp2
        go_ret
        exact ⟨rfl, HB1.out⟩
      · simp only at e
        subst e
        simp [sizeV] at hn
        subst hn
        simp at hxk
        subst hxk
        have hlt := cell_inside hc0
        have HS := And.intro c0 (And.intro c1 (And.intro c2 (And.intro hc0 HB)))
        go_wp2
        go_region_held3 (fun w' => w'.cell? ⟨w.heap.size, 0, none⟩ = some (.int .i64 2) ∧ w'.cell? ⟨w.heap.size, 1, none⟩ = some (.int .i64 i) ∧ w'.cell? ⟨w.heap.size, 2, none⟩ = some (.string s) ∧ w'.cell? ⟨b, off, none⟩ = some (.int .u8 2) ∧ Hid (Below w.heap.size w w')) (first | exact keep1 (by assumption) (by assumption) | exact keep1 (alloc_below _ _).drew (by assumption)) (first | (go_at_call 19; refine (vwakes_any V _).mono ?_; rintro e w' ⟨rfl, hb⟩))
        have HS1 : w'.cell? ⟨w.heap.size, 0, none⟩ = some (.int .i64 2) ∧ w'.cell? ⟨w.heap.size, 1, none⟩ = some (.int .i64 i) ∧ w'.cell? ⟨w.heap.size, 2, none⟩ = some (.string s) ∧ w'.cell? ⟨b, off, none⟩ = some (.int .u8 2) ∧ Hid (Below w.heap.size w w') := by assumption
        obtain ⟨_, _, _, _, HB1⟩ := HS1
        go_wp2
        go_ret
        exact ⟨rfl, HB1.out⟩
      · simp only at e
        subst e
        simp [sizeV] at hn
        subst hn
        simp at hxk
        subst hxk
        have hlt := cell_inside hc0
        have HS := And.intro c0 (And.intro c1 (And.intro c2 (And.intro hc0 HB)))
        go_wp2
        go_region_held3 (fun w' => w'.cell? ⟨w.heap.size, 0, none⟩ = some (.int .i64 3) ∧ w'.cell? ⟨w.heap.size, 1, none⟩ = some (.int .i64 i) ∧ w'.cell? ⟨w.heap.size, 2, none⟩ = some (.string s) ∧ w'.cell? ⟨b, off, none⟩ = some (.int .u8 3) ∧ Hid (Below w.heap.size w w')) (first | exact keep1 (by assumption) (by assumption) | exact keep1 (alloc_below _ _).drew (by assumption)) (first | (go_at_call 19; refine (vwakes_any V _).mono ?_; rintro e w' ⟨rfl, hb⟩))
        have HS1 : w'.cell? ⟨w.heap.size, 0, none⟩ = some (.int .i64 3) ∧ w'.cell? ⟨w.heap.size, 1, none⟩ = some (.int .i64 i) ∧ w'.cell? ⟨w.heap.size, 2, none⟩ = some (.string s) ∧ w'.cell? ⟨b, off, none⟩ = some (.int .u8 3) ∧ Hid (Below w.heap.size w w') := by assumption
        obtain ⟨_, _, _, _, HB1⟩ := HS1
        go_wp2
        go_ret
        exact ⟨rfl, HB1.out⟩
      · simp only at e
        subst e
        simp [sizeV] at hn
        simp [okV] at hok
        obtain ⟨_, hs24⟩ := hok
        subst hn
        simp at hxk
        subst hxk
        have hlt := cell_inside hc0
        have hp1 : (0 : Int) < 2 + (s.size : Int) := by omega
        have hp2 : 0 < 2 + s.size := by omega
        have HS := And.intro c0 (And.intro c1 (And.intro c2 (And.intro hc0 HB)))
        go_wp2
        go_region_held3 (fun w' => w'.cell? ⟨w.heap.size, 0, none⟩ = some (.int .i64 4) ∧ w'.cell? ⟨w.heap.size, 1, none⟩ = some (.int .i64 i) ∧ w'.cell? ⟨w.heap.size, 2, none⟩ = some (.string s) ∧ w'.cell? ⟨b, off, none⟩ = some (.int .u8 4) ∧ Hid (Below w.heap.size w w')) (first | exact keep1 (by assumption) (by assumption) | exact keep1 (alloc_below _ _).drew (by assumption)) (first | (go_at_call 19; refine (vwakes_any V _).mono ?_; rintro e w' ⟨rfl, hb⟩))
        have HS1 : w'.cell? ⟨w.heap.size, 0, none⟩ = some (.int .i64 4) ∧ w'.cell? ⟨w.heap.size, 1, none⟩ = some (.int .i64 i) ∧ w'.cell? ⟨w.heap.size, 2, none⟩ = some (.string s) ∧ w'.cell? ⟨b, off, none⟩ = some (.int .u8 4) ∧ Hid (Below w.heap.size w w') := by assumption
        obtain ⟨_, _, _, _, HB1⟩ := HS1
        go_wp2
        go_ret
        exact ⟨rfl, HB1.out⟩

end Go.Proofs.Ytfjckfjaekpffaa
