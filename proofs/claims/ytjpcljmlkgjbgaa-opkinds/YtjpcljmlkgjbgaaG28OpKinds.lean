/-
  Texts of the proof of OpKinds, one behind the other.
-/
import Derived.Test.YtjpcljmlkgjbgaaRows
import Derived.Test.YtjpcljmlkgjbgaaG8OpKinds
import Derived.Test.YtjpcljmlkgjbgaaG6OpKinds
import Derived.Test.YtjpcljmlkgjbgaaG1OpKinds
import Derived.Test.YtjpcljmlkgjbgaaG27OpKinds
import Derived.Deep.AppendLies
import Derived.WalkKit
import Derived.WalkSpells
import Derived.WalkLawsBesides
namespace Go.Proofs.Ytjpcljmlkgjbgaa
open Go.RowKit Go.Lib
set_option linter.unusedVariables false

/-- A Writer's box. -/
def WBox (w : World) (g : Nat) (v : Value) (bad : Bool) : Prop := w.heap[g]? = some (.cells #[v, .bool bad] 79 (0, 0))

theorem WBox.made {w : World} {g : Nat} {v : Value} {bad : Bool} (hg : w.heap.size = g) : WBox (w.alloc (.cells #[v, .bool bad] 79)) g v bad := by
  subst hg
  show (w.heap.push _)[w.heap.size]? = _
  simp

theorem WBox.lt {w : World} {g : Nat} {v : Value} {bad : Bool} (h : WBox w g v bad) : g < w.heap.size := by
  unfold WBox at h
  rcases Nat.lt_or_ge g w.heap.size with h1 | h1
  · exact h1
  · simp [Array.getElem?_eq_none h1] at h

theorem WBox.free {w : World} {g : Nat} {v : Value} {bad : Bool} (h : WBox w g v bad) (i : Nat) : w.frozen? ⟨g, i, none⟩ = false := by
  unfold WBox at h
  simp [World.frozen?, h]

theorem WBox.cells {w : World} {g : Nat} {v : Value} {bad : Bool} (h : WBox w g v bad) : w.cell? ⟨g, 0, none⟩ = some v ∧ w.cell? ⟨g, 1, none⟩ = some (.bool bad) := by
  refine ⟨?_, ?_⟩ <;> (rw [cell_of_row w g _ _ _ _ h]; rfl)

theorem WBox.set0 {w : World} {g : Nat} {v : Value} {bad : Bool} (h : WBox w g v bad) (v' : Value) : WBox (w.setCell ⟨g, 0, none⟩ v') g v' bad := by
  unfold WBox at h ⊢
  rw [Go.heap_setCell_same _ _ _ _ _ _ h]
  rfl

theorem WBox.set1 {w : World} {g : Nat} {v : Value} {bad : Bool} (h : WBox w g v bad) (bad' : Bool) : WBox (w.setCell ⟨g, 1, none⟩ (.bool bad')) g v bad' := by
  unfold WBox at h ⊢
  rw [Go.heap_setCell_same _ _ _ _ _ _ h]
  rfl

theorem WBox.same {w w' : World} {g : Nat} {v : Value} {bad : Bool} (h : WBox w g v bad) (hb : w'.heap[g]? = w.heap[g]?) : WBox w' g v bad := hb.trans h

/-- A Writer: none of its blocks is one that K names. -/
structure WAt (K : Nat → Prop) (w : World) (g : Nat) (s : List UInt8 × Bool) : Prop where
  out : ¬ K g
  lies : ∃ v, WBox w g v s.2 ∧ Own w 0 v s.1 ∧ ∀ r, v.ownBlock = some r → ¬ K r

theorem WAt.lt {K : Nat → Prop} {w : World} {g : Nat} {s : List UInt8 × Bool} (h : WAt K w g s) : g < w.heap.size := by
  obtain ⟨v, hb, _⟩ := h.lies
  exact hb.lt

theorem WAt.stay {K K' : Nat → Prop} {w w' : World} {g : Nat} {s : List UInt8 × Bool} (h : WAt K w g s) (hb : ∀ b, b < w.heap.size → ¬ K b → w'.heap[b]? = w.heap[b]? ∧ ¬ K' b) : WAt K' w' g s := by
  obtain ⟨out, v, h1, h2, h3⟩ := h
  refine ⟨(hb g h1.lt out).2, v, h1.same (hb g h1.lt out).1, ⟨h2.1, ?_⟩, fun r e => (hb r (World.ownsRow.lt h2 r e).2 (h3 r e)).2⟩
  rcases h2.2 with h7 | ⟨r, cap, cur, hv, hg, hh, hc⟩
  · exact .inl h7
  · exact .inr ⟨r, cap, cur, hv, hg, (hb r (heap_lt hh) (h3 r (by rw [hv]; rfl))).1.trans hh, hc⟩

theorem WAt.later {K : Nat → Prop} {w w' : World} {g : Nat} {s : List UInt8 × Bool} (h : WAt K w g s) (hb : Below w.heap.size w w') : WAt K w' g s := h.stay fun b h1 h2 => ⟨hb.block b h1, h2⟩

/-- With a new block beside it. -/
theorem WAt.beside {K : Nat → Prop} {w : World} {g : Nat} {s : List UInt8 × Bool} (h : WAt K w g s) (o : Obj) : WAt (fun b => K b ∨ b = w.heap.size) (w.alloc o) g s :=
  h.stay fun b h1 h2 => ⟨Below.heap_alloc w o b h1, fun h => by rcases h with h | h; exact h2 h; omega⟩

theorem WAt.less {K K' : Nat → Prop} {w : World} {g : Nat} {s : List UInt8 × Bool} (h : WAt K w g s) (hk : ∀ b, K' b → K b) : WAt K' w g s := h.stay fun b h1 h2 => ⟨rfl, fun h3 => h2 (hk b h3)⟩

theorem WAt.new {K : Nat → Prop} {w : World} (hK : ∀ b, K b → b < w.heap.size) : WAt K (w.alloc (.cells #[.slice none 0 0, .bool false] 79)) w.heap.size ([], false) :=
  ⟨fun h => absurd (hK _ h) (Nat.lt_irrefl _), .slice none 0 0, WBox.made rfl, Own.nought _ _, fun r h => by cases h⟩

/-- The row of bytes is another block than the box. -/
theorem WBox.apart {w : World} {g r B : Nat} {v u : Value} {bad : Bool} {l : List UInt8} (h : WBox w g v bad) (ho : Own w B u l) (hr : u.ownBlock = some r) : r ≠ g := by
  rcases ho.2 with ⟨rfl, _⟩ | ⟨r', cap, cur, rfl, _, hh, _⟩
  · cases hr
  · simp [Value.ownBlock] at hr
    subst hr
    intro e
    subst e
    unfold WBox at h
    rw [hh] at h
    cases h

theorem Own.boxed {w : World} {g B i : Nat} {u x : Value} {l : List UInt8} (ho : Own w B u l) (hr : ∀ r, u.ownBlock = some r → r ≠ g) : Own (w.setCell ⟨g, i, none⟩ x) B u l := by
  refine ⟨ho.1, ?_⟩
  rcases ho.2 with h | ⟨r, cap, cur, hv, hg, hh, hc⟩
  · exact .inl h
  · exact .inr ⟨r, cap, cur, hv, hg, (Below.heap_setCell w ⟨g, i, none⟩ x r (hr r (by rw [hv]; rfl))).trans hh, hc⟩

/-- A Writer's pointer. -/
abbrev vW (g : Nat) : Value := .pointer (some ⟨g, 0, none⟩)

set_option maxHeartbeats 1000000 in
theorem wAdd_no (K : Nat → Prop) (g : Nat) (a : Option Addr) (n cap : Nat) (c : Int) (s : List UInt8 × Bool) (w : World) (h : WAt K w g s) (hc : c ≠ 0) :
    Calls Try.prog 45 #[vW g, .slice a n cap, .int .i64 c] w fun e w' => e = .returned (.tuple #[]) ∧ WAt K w' g (addW s none) ∧ Stay K w w' := by
  obtain ⟨v, hb, ho, h3⟩ := h.lies
  obtain ⟨c0, c1⟩ := hb.cells
  have f1 := hb.free 1
  have d0 : (c != 0) = true := by simpa using hc
  have R : Hid (WAt K (w.setCell ⟨g, 1, none⟩ (.bool true)) g (addW s none)) := ⟨h.out, v, hb.set1 true, ho.boxed (fun r hr => hb.apart ho hr), h3⟩
  have S : Hid (Stay K w (w.setCell ⟨g, 1, none⟩ (.bool true))) := (Stay.refl K w).setCell (p := ⟨g, 1, none⟩) h.out _
  clear hb ho h hc
  go_enter Try.func45, Try.ntmps45
  go_wp2
  go_end0
  exact ⟨rfl, R.out, S.out⟩

/-- append(w.b, b...), and the box behind it. -/
theorem writer_append {K : Nat → Prop} {w : World} {g n cap ty : Nat} {a : Option Addr} {b : List UInt8} {s : List UInt8 × Bool} {v : Value} (hK : ∀ b, K b → b < w.heap.size) (h : WAt K w g s) (hv : w.cell? ⟨g, 0, none⟩ = some v) (hbad : s.2 = false) (hn : b.length = n) (hl : s.1.length ≤ 1048576) (hl' : n ≤ 1048576) (hr : Rd w a b) (hnil : a = none → b = [] ∧ cap = 0) :
    ∃ a' m cap' w', (Builtin.append_ #[22, 22] ty #[v, .slice a n cap]).run Try.prog w = .ok (.slice a' m cap') w' ∧ w'.cell? ⟨g, 0, none⟩ = some v ∧ w'.frozen? ⟨g, 0, none⟩ = false ∧ WAt K (w'.setCell ⟨g, 0, none⟩ (.slice a' m cap')) g (s.1 ++ b, false) ∧ Stay K w (w'.setCell ⟨g, 0, none⟩ (.slice a' m cap')) := by
  obtain ⟨v0, hb, ho, h3⟩ := h.lies
  have hvv : v0 = v := by
    have := hb.cells.1
    rw [hv] at this
    exact (Option.some.inj this).symm
  subst hvv
  rw [hbad] at hb
  obtain ⟨v', w', hrun, ho', hg, hlie⟩ : ∃ v' w', (Builtin.append_ #[22, 22] ty #[v0, .slice a n cap]).run Try.prog w = .ok v' w' ∧ Own w' 0 v' (s.1 ++ b) ∧ w.grownBy w' v0.ownBlock ∧ (v'.ownBlock = v0.ownBlock ∨ v'.ownBlock = some w.heap.size) := by
    subst hn
    obtain ⟨i0, hi, hz0, hz1, hz2⟩ := info_parts Try.info5
    rcases Nat.eq_zero_or_pos b.length with h0 | h0
    · obtain rfl := List.eq_nil_of_length_eq_zero h0
      cases a with
      | none =>
        obtain ⟨_, rfl⟩ := hnil rfl
        exact ⟨v0, w, run_append_owned_none (P := Try.prog) (w := w) 0 22 ty 5 i0 1 Try.underlying22 hi v0 s.1.length (byteCells s.1) ho, by simpa [Own] using ho, World.grownBy.refl _ _, .inl rfl⟩
      | some ad =>
        obtain ⟨v', w', hrun, ho', hg, _, hlie⟩ := run_append_own_at (P := Try.prog) w 0 22 ty 5 i0 (.int .u8 0) 1 1 Try.underlying22 hi hz0 hz1 hz2 rfl (by decide) v0 s.1.length (byteCells s.1) ho ad 0 cap [] rfl (fun j u hj => by simp at hj) (fun u hu => by cases hu) (by unfold maxLen; omega) (by omega) (Nat.zero_le _)
        refine ⟨v', w', hrun, ?_, hg, hlie⟩
        unfold Own
        rw [List.append_nil]
        simpa using ho'
    · obtain ⟨ad, rfl, hsrc⟩ := hr.src (by rw [byteCells_length]; exact h0)
      obtain ⟨v', w', hrun, ho', hg, _, hlie⟩ := run_append_own_at (P := Try.prog) w 0 22 ty 5 i0 (.int .u8 0) 1 1 Try.underlying22 hi hz0 hz1 hz2 rfl (by decide) v0 s.1.length (byteCells s.1) ho ad b.length cap (byteCells b) (by simp [byteCells_length]) hsrc (byteCells_one _) (by unfold maxLen; omega) (by omega) (Nat.zero_le _)
      refine ⟨v', w', hrun, ?_, hg, hlie⟩
      unfold Own
      rw [List.length_append, byteCells_append]
      exact ho'
  obtain ⟨a', cap', rfl, hc', _, _⟩ := ho'.form
  have hWg : w'.heap[g]? = w.heap[g]? := hg.block g hb.lt (fun e => (hb.apart ho e.symm) rfl)
  have hb' := hb.same hWg
  refine ⟨a', (s.1 ++ b).length, cap', w', hrun, hb'.cells.1, hb'.free 0, ⟨h.out, _, hb'.set0 _, ho'.boxed (fun r hr => hb'.apart ho' hr), fun r e hk => ?_⟩, ((Stay.refl K w).grown hg hK (fun k hk => h3 k hk)).setCell (p := ⟨g, 0, none⟩) h.out _⟩
  rcases hlie with h4 | h4
  · exact h3 r (h4 ▸ e) hk
  · rw [h4] at e
    cases e
    exact absurd (hK _ hk) (Nat.lt_irrefl _)

set_option maxHeartbeats 1000000 in
theorem wAdd_yes (K : Nat → Prop) (g : Nat) (a : Option Addr) (n cap : Nat) (b : List UInt8) (s : List UInt8 × Bool) (w : World) (hK : ∀ b, K b → b < w.heap.size) (h : WAt K w g s) (hn : b.length = n) (hl : s.1.length ≤ 1048576) (hl' : n ≤ 1048576) (hr : Rd w a b) (hnil : a = none → b = [] ∧ cap = 0) :
    Calls Try.prog 45 #[vW g, .slice a n cap, .int .i64 0] w fun e w' => e = .returned (.tuple #[]) ∧ WAt K w' g (addW s (some b)) ∧ Stay K w w' := by
  obtain ⟨v, hb, ho, h3⟩ := h.lies
  obtain ⟨c0, c1⟩ := hb.cells
  by_cases hbad : s.2 = true
  · rw [addW_bad hbad]
    rw [hbad] at c1
    have HP : Hid (WAt K w g s) := h
    clear hb ho h hn hr hnil hbad h3 hK
    go_enter Try.func45, Try.ntmps45
    go_wp2
    go_end0
    exact ⟨rfl, HP.out, Stay.refl _ _⟩
  · have hbad' : s.2 = false := by simpa using hbad
    have e : addW s (some b) = (s.1 ++ b, false) := by simp [addW, hbad']
    rw [e]
    rw [hbad'] at c1
    obtain ⟨a', m, cap', w', hrun, x0, y0, hR, hS⟩ := writer_append (ty := 22) hK h c0 hbad' hn hl hl' hr hnil
    have R : Hid _ := hR
    have S : Hid _ := hS
    clear hb ho h hn hr hnil hbad hbad' e hR hS h3 hK
    go_enter Try.func45, Try.ntmps45
    go_wp2_with (at_builtin; refine wpList_append_run rfl _ _ 22 22 rfl _ _ _ _ rfl rfl hrun ?_)
    go_end0
    exact ⟨rfl, R.out, S.out⟩

end Go.Proofs.Ytjpcljmlkgjbgaa

namespace Go.Proofs.Ytjpcljmlkgjbgaa
open Go.RowKit Go.Lib
set_option linter.unusedVariables false

theorem putN_yes {m size : Nat} (h : m < 256 ^ size) : putN (m : Int) size = some (be m size) := by
  unfold putN
  rw [if_pos ⟨by omega, by omega⟩]
  simp

theorem putN_no {n : Int} {size : Nat} (h : ¬ (0 ≤ n ∧ n < ((256 ^ size : Nat) : Int))) : putN n size = none := by
  unfold putN
  rw [if_neg h]

set_option maxHeartbeats 1000000 in
theorem wNumber_any (K : Nat → Prop) (g : Nat) (n : Int) (size : Nat) (s : List UInt8 × Bool) (w : World) (h1 : 1 ≤ size) (h7 : size ≤ 7) (hK : ∀ b, K b → b < w.heap.size) (h : WAt K w g s) (hl : s.1.length ≤ 65536) :
    Calls Try.prog 77 #[vW g, .int .i64 n, .int .i64 (size : Int)] w fun e w' => e = .returned (.tuple #[]) ∧ WAt K w' g (addW s (putN n size)) ∧ Stay K w w' := by
  have HP : Hid (WAt K w g s) := h
  clear h
  by_cases hn : 0 ≤ n ∧ n < ((256 ^ size : Nat) : Int)
  · obtain ⟨m, rfl⟩ := Int.eq_ofNat_of_zero_le hn.1
    have hm : m < 256 ^ size := by have := hn.2; omega
    have HM : Hid (m < 256 ^ size) := hm
    rw [putN_yes hm]
    clear hn hm
    go_enter Try.func77, Try.ntmps77
    go_wp2_with fail
    refine (put_len none 0 0 m size [] _ rfl (by omega) h1 h7 HM.out (Rd.nil _ _)).mono ?_
    rintro e w1 ⟨q, rfl, hq, hrow, hb⟩
    have HR : Hid (Rd w1 (some ⟨q, 0, none⟩) (be m size)) := hrow.rd
    have HP1 : Hid (WAt K w1 g s) := HP.out.later hb
    have HB1 : Hid (Stay K w w1) := Stay.of_below hb hK
    have hz : ∀ b, K b → b < w1.heap.size := fun b hb' => Nat.lt_of_lt_of_le (hK b hb') hb.size
    clear hrow hb hq
    rw [Nat.zero_add]
    go_wp2_with fail
    refine (wAdd_yes K g _ _ _ (be m size) s _ hz HP1.out (be_length _ _) (by omega) (by omega) HR.out (fun h => by cases h)).mono ?_
    rintro e w2 ⟨rfl, hp2, hb2⟩
    go_wp2
    go_end0
    exact ⟨rfl, hp2, HB1.out.trans hb2⟩
  · rw [putN_no hn]
    have hn' : n < 0 ∨ ((256 ^ size : Nat) : Int) ≤ n := by omega
    have HN : Hid (n < 0 ∨ ((256 ^ size : Nat) : Int) ≤ n) := hn'
    clear hn hn'
    go_enter Try.func77, Try.ntmps77
    go_wp2_with fail
    refine (put_no none 0 0 size n _ h1 h7 HN.out).mono ?_
    rintro e w1 ⟨rfl, hw1⟩
    subst hw1
    go_wp2_with fail
    refine (wAdd_no K g _ _ _ 1 s _ HP.out (by omega)).mono ?_
    rintro e w2 ⟨rfl, hp2, hb2⟩
    go_wp2
    go_end0
    exact ⟨rfl, hp2, hb2⟩

set_option maxHeartbeats 1000000 in
theorem wByte_any (K : Nat → Prop) (g : Nat) (n : Int) (s : List UInt8 × Bool) (w : World) (hK : ∀ b, K b → b < w.heap.size) (h : WAt K w g s) (hl : s.1.length ≤ 65536) :
    Calls Try.prog 40 #[vW g, .int .i64 n] w fun e w' => e = .returned (.tuple #[]) ∧ WAt K w' g (addW s (putN n 1)) ∧ Stay K w w' := by
  have HP : Hid (WAt K w g s) := h
  clear h
  go_enter Try.func40, Try.ntmps40
  go_wp2_with fail
  refine (wNumber_any K g n 1 s _ (by omega) (by omega) hK HP.out hl).mono ?_
  rintro e w2 ⟨rfl, hp2, hb2⟩
  go_wp2
  go_end0
  exact ⟨rfl, hp2, hb2⟩

theorem addW_putC (s : List UInt8 × Bool) (n size most : Nat) : addW (if most < n then addW s none else s) (putN (n : Int) size) = addW s (putC n size most) := by
  unfold putC
  by_cases h : most < n
  · rw [if_pos h, if_pos h, addW_bad rfl]
  · rw [if_neg h, if_neg h]

set_option maxHeartbeats 1000000 in
theorem wCount_any (K : Nat → Prop) (g : Nat) (n size most : Nat) (s : List UInt8 × Bool) (w : World) (h1 : 1 ≤ size) (h7 : size ≤ 7) (hn : n ≤ 9223372036854775807) (hm : most ≤ 65536) (hK : ∀ b, K b → b < w.heap.size) (h : WAt K w g s) (hl : s.1.length ≤ 65536) :
    Calls Try.prog 78 #[vW g, .int .i64 (n : Int), .int .i64 (size : Int), .int .i64 (most : Int)] w fun e w' => e = .returned (.tuple #[]) ∧ WAt K w' g (addW s (putC n size most)) ∧ Stay K w w' := by
  rw [← addW_putC]
  by_cases hc : most < n
  · rw [if_pos hc]
    obtain ⟨v, hb, ho, h3⟩ := h.lies
    obtain ⟨c0, c1⟩ := hb.cells
    have f1 := hb.free 1
    have R : Hid (WAt K (w.setCell ⟨g, 1, none⟩ (.bool true)) g (addW s none)) := ⟨h.out, v, hb.set1 true, ho.boxed (fun r hr => hb.apart ho hr), h3⟩
    have S : Hid (Stay K w (w.setCell ⟨g, 1, none⟩ (.bool true))) := (Stay.refl K w).setCell (p := ⟨g, 1, none⟩) h.out _
    have HL : Hid ((addW s none).1.length ≤ 65536) := hl
    have HZ : Hid (∀ b, K b → b < (w.setCell ⟨g, 1, none⟩ (.bool true)).heap.size) := fun b hb' => Nat.lt_of_lt_of_le (hK b hb') S.out.size
    clear hb ho h
    go_enter Try.func78, Try.ntmps78
    go_wp2_with fail
    refine (wNumber_any K g (n : Int) size (addW s none) _ h1 h7 HZ.out R.out HL.out).mono ?_
    rintro e w2 ⟨rfl, hp2, hb2⟩
    go_wp2
    go_end0
    exact ⟨rfl, hp2, S.out.trans hb2⟩
  · rw [if_neg hc]
    have HP : Hid (WAt K w g s) := h
    clear h
    go_enter Try.func78, Try.ntmps78
    go_wp2_with fail
    refine (wNumber_any K g (n : Int) size s _ h1 h7 hK HP.out hl).mono ?_
    rintro e w2 ⟨rfl, hp2, hb2⟩
    go_wp2
    go_end0
    exact ⟨rfl, hp2, hb2⟩

/-- A text's bytes, if it can be written. -/
def putT (t : ByteArray) : Option (List UInt8) := if 24 < t.size then none else some (textBytes t.data.toList)

set_option maxHeartbeats 1000000 in
theorem wText_any (K : Nat → Prop) (g : Nat) (t : ByteArray) (s : List UInt8 × Bool) (w : World) (ht : t.size ≤ 9223372036854775807) (hK : ∀ b, K b → b < w.heap.size) (h : WAt K w g s) (hl : s.1.length ≤ 65536) :
    Calls Try.prog 44 #[vW g, .string t] w fun e w' => e = .returned (.tuple #[]) ∧ WAt K w' g (addW s (putT t)) ∧ Stay K w w' := by
  have HP : Hid (WAt K w g s) := h
  clear h
  by_cases hc : 24 < t.size
  · rw [show putT t = none from if_pos hc]
    go_enter Try.func44, Try.ntmps44
    go_wp2_with fail
    refine (putText_no none 0 0 t _ ht hc).mono ?_
    rintro e w1 ⟨rfl, hw1⟩
    subst hw1
    go_wp2_with fail
    refine (wAdd_no K g _ _ _ 2 s _ HP.out (by omega)).mono ?_
    rintro e w2 ⟨rfl, hp2, hb2⟩
    go_wp2
    go_end0
    exact ⟨rfl, hp2, hb2⟩
  · rw [show putT t = some (textBytes t.data.toList) from if_neg hc]
    go_enter Try.func44, Try.ntmps44
    go_wp2_with fail
    refine (putText_len none 0 0 t [] _ rfl (by omega) (by omega) (Rd.nil _ _)).mono ?_
    rintro e w1 ⟨q, rfl, hq, hrow, hb⟩
    have HR : Hid (Rd w1 (some ⟨q, 0, none⟩) (textBytes t.data.toList)) := hrow.rd
    have HP1 : Hid (WAt K w1 g s) := HP.out.later hb
    have HB1 : Hid (Stay K w w1) := Stay.of_below hb hK
    have hz : ∀ b, K b → b < w1.heap.size := fun b hb' => Nat.lt_of_lt_of_le (hK b hb') hb.size
    have HN : Hid ((textBytes t.data.toList).length = 1 + t.size) := by rw [textBytes_length, size_eq]; exact rfl
    clear hrow hb hq
    rw [Nat.zero_add]
    go_wp2_with fail
    refine (wAdd_yes K g _ _ _ (textBytes t.data.toList) s _ hz HP1.out HN.out (by omega) (by omega) HR.out (fun h => by cases h)).mono ?_
    rintro e w2 ⟨rfl, hp2, hb2⟩
    go_wp2
    go_end0
    exact ⟨rfl, hp2, HB1.out.trans hb2⟩

end Go.Proofs.Ytjpcljmlkgjbgaa
