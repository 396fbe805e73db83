/-
  What the document's own Merge does; rows of rows: raddlekeep's TwinIntRows and IntRows, raddlelaw05's Heavy.
-/
import Derived.Test.YtljikgjgcpheaaaRows
import Derived.Test.YtljikgjgcpheaaaDRef
import Derived.Test.YtljikgjgcpheaaaVBytes
namespace Go.Proofs.Ytljikgjgcpheaaa
open Go.RowKit Go.Lib
set_option linter.unusedVariables false

theorem rdI_of {w : World} {b : Nat} {y : Int} (hc : w.cell? ⟨b, 0, none⟩ = some (.int .i64 y)) : RdI .i64 w (some ⟨b, 0, none⟩) [y] := by
  refine fun _ => ⟨b, 0, rfl, fun j hj => ?_⟩
  obtain rfl : j = 0 := by simp at hj; omega
  exact hc

/-- append(u, x), as one step of a region that draws its order. -/
theorem step_append_int {ops : Array Oper} {o : Oper} {a : Act} {w : World} {K : Act → World → Prop} {Q : Exit → Act → World → Prop} {E : Prop}
    (hg : o.guard = none) (s x : Operand) (hop : o.op = Op.call { callee := Callee.builtin Builtin.append, args := #[s, x], argTypes := #[23, 23] })
    {B n b : Nat} {u : Value} {xs : List Int} (y : Int) (hs : a.eval s = u) (hx : a.eval x = .slice (some ⟨b, 0, none⟩) 1 1)
    (T : OwnI w B u xs) (hn : xs.length = n) (h1 : n ≤ 65536) (hB : B ≤ w.heap.size) (hc : w.cell? ⟨b, 0, none⟩ = some (.int .i64 y))
    (h : ∀ a' cap w', n + 1 ≤ cap → OwnI w' B (.slice a' (n + 1) cap) (xs ++ [y]) → Below B w w' → K (a.put o.dst (.slice a' (n + 1) cap)) w') :
    if Region.wanted o (yielded ops a.tmps) = true then Oper.wp Try.prog o a w K Q else E := by
  obtain ⟨a', cap', w', hrun, hc', ho, _, _, _, hb⟩ := run_append_ints (ty := o.type) (cap := 1) T hn (m := 1) rfl (rdI_of hc) (fun h => by cases h) h1 (by omega) hB
  exact step_append_run hg s x 23 23 hop u _ _ w' hs hx hrun (h a' cap' w' hc' ho hb)

/-- New numbers of the call's own. -/
def NewI (w w' : World) (e : Ending) (N : List Int) : Prop :=
  ∃ a n cap, e = .returned (.slice a n cap) ∧ N.length = n ∧ n ≤ cap ∧ OwnI w' w.heap.size (.slice a n cap) N ∧ RdI .i64 w' a N ∧ (a = none → N = [] ∧ cap = 0) ∧ Below w.heap.size w w'

theorem keepTwoI {W w w' : World} {b c o p : Nat} {x y : Int} (hb : Below w.heap.size w w')
    (h : w.cell? ⟨b, o, none⟩ = some (.int .i64 x) ∧ w.cell? ⟨c, p, none⟩ = some (.int .i64 y) ∧ Hid (Below W.heap.size W w)) :
    w'.cell? ⟨b, o, none⟩ = some (.int .i64 x) ∧ w'.cell? ⟨c, p, none⟩ = some (.int .i64 y) ∧ Hid (Below W.heap.size W w') :=
  ⟨cell_later hb h.1, cell_later hb h.2.1, chain h.2.2.out hb⟩

theorem keepTwoB {W w w' : World} {b c o p : Nat} {x y : Int} (hb : Below W.heap.size w w') (h0 : b < W.heap.size ∧ c < W.heap.size)
    (h : w.cell? ⟨b, o, none⟩ = some (.int .i64 x) ∧ w.cell? ⟨c, p, none⟩ = some (.int .i64 y) ∧ Hid (Below W.heap.size W w)) :
    w'.cell? ⟨b, o, none⟩ = some (.int .i64 x) ∧ w'.cell? ⟨c, p, none⟩ = some (.int .i64 y) ∧ Hid (Below W.heap.size W w') :=
  ⟨(hb.cell (p := ⟨b, o, none⟩) h0.1).trans h.1, (hb.cell (p := ⟨c, p, none⟩) h0.2).trans h.2.1, h.2.2.out.trans hb⟩

theorem maxD_step {A B : List Int} {k : Nat} (hA : k < A.length) (hB : k < B.length) : maxD (A.take (k + 1)) (B.take (k + 1)) = maxD (A.take k) (B.take k) ++ [max A[k] B[k]] := by
  unfold maxD
  rw [List.take_succ_eq_append_getElem hA, List.take_succ_eq_append_getElem hB, List.zipWith_append (by simp; omega)]
  rfl

set_option maxHeartbeats 1000000 in
theorem rMerge_any (a b : Option Addr) (n cap dap : Nat) (A B : List Int) (w : World) (hn : A.length = n) (hm : B.length = n) (hl : n ≤ 65536) (ha : RdI .i64 w a A) (hb : RdI .i64 w b B) :
    Calls Try.prog 23 #[.slice a n cap, .slice b n dap] w fun e w' => NewI w w' e (maxD A B) := by
  have HN : Hid (A.length = n) := hn
  have HM : Hid (B.length = n) := hm
  clear hn hm
  go_enter Try.func23, Try.ntmps23
  go_wp2
  go_loopw [5, 6] (fun o i wr => ∃ (k cp : Nat) (aw : Option Addr), k ≤ n ∧ i = .int .i64 k ∧ o = .slice aw k cp ∧ k ≤ cp ∧ Hid (OwnI wr w.heap.size (.slice aw k cp) (maxD (A.take k) (B.take k))) ∧ Hid (Below w.heap.size w wr)) (fun _ i _ => n - (RowKit.intOf i).toNat)
  case atStart => exact ⟨0, 0, none, Nat.zero_le _, rfl, rfl, Nat.le_refl _, OwnI.nought _ _, Below.refl _ _⟩
  case round =>
    obtain ⟨k, cp, aw, hk, rfl, rfl, hcp, hO, hB⟩ := hrel
    by_cases hlt : k < n
    · have hkl : k < A.length := by rw [HN.out]; exact hlt
      have hkr : k < B.length := by rw [HM.out]; exact hlt
      obtain ⟨b1, o1, rfl, hc1⟩ := ha (by omega)
      obtain ⟨b2, o2, rfl, hc2⟩ := hb (by omega)
      have HLt : Hid (b1 < w.heap.size ∧ b2 < w.heap.size) := ⟨World.block_lt_of_cell? _ ⟨_, _, none⟩ (hc1 k hkl), World.block_lt_of_cell? _ ⟨_, _, none⟩ (hc2 k hkr)⟩
      have HS := And.intro (cell_later hB.out (hc1 k hkl)) (And.intro (cell_later hB.out (hc2 k hkr)) hB)
      have HT : Hid _ := maxD_step hkl hkr
      have hL : (maxD (A.take k) (B.take k)).length = k := by simp [maxD, HN.out, HM.out]; omega
      have HL : Hid _ := hL
      have HO : Hid (OwnI wr w.heap.size (.slice aw k cp) (maxD (A.take k) (B.take k))) := hO.out
      have hsz : w.heap.size ≤ wr.heap.size := hB.out.size
      clear hc1 hc2 ha hb hO hB hL
      generalize A[k] = x at *
      generalize B[k] = y at *
      clear hkl hkr
      have b1' : (0 : Int) ≤ (k : Int) := by omega
      have b2' : (k : Int) < (n : Int) := by omega
      go_wp2
      go_region_held3 (fun w' => w'.cell? ⟨b1, o1 + k, none⟩ = some (.int .i64 x) ∧ w'.cell? ⟨b2, o2 + k, none⟩ = some (.int .i64 y) ∧ Hid (Below w.heap.size w w')) (first | exact keepTwoI (Below.refl _ _).drew (by assumption) | exact keepTwoI (alloc_below _ _) (by assumption) | exact keepTwoB (by assumption) HLt.out (by assumption) | exact keepTwoB (by assumption) HLt.out (keepTwoI (Below.refl _ _).drew (by assumption)))
        (first
        | ((refine step_append_int rfl (.tmp 13) (.tmp 23) rfl (max x y) (by rfl) (by rfl) (HO.out.later (by first | exact alloc_below _ _ | exact (alloc_below _ _).drew | go_grown)) HL.out (by omega) (by first | (simp; done) | (simp; omega)) (by go_simp) ?_; intro a1 cp1 w1 hcp1 O1 hb1)))
      rw [← HT.out] at O1
      have HO1 : Hid _ := O1
      have HS1 : w1.cell? ⟨b1, o1 + k, none⟩ = some (.int .i64 x) ∧ w1.cell? ⟨b2, o2 + k, none⟩ = some (.int .i64 y) ∧ Hid (Below w.heap.size w w1) := by assumption
      obtain ⟨_, _, HB1⟩ := HS1
      clear O1 hb1
      go_wp2
      go_roundw
      case rel => exact ⟨k + 1, cp1, a1, by omega, by go_num, rfl, hcp1, HO1, HB1⟩
      case measure => simp [RowKit.intOf]; omega
    · obtain rfl : k = n := by omega
      have hT1 : A.take k = A := List.take_of_length_le (by rw [HN.out]; omega)
      have hT2 : B.take k = B := List.take_of_length_le (by rw [HM.out]; omega)
      rw [hT1, hT2] at hO
      have LM : Hid ((maxD A B).length = k) := by show _ = _; rw [maxD_len (by rw [HN.out, HM.out]), HN.out]
      go_wp2
      go_ret
      obtain ⟨a5, cap5, e5, _, hr5, hn5⟩ := hO.out.form
      rw [LM.out] at e5
      simp only [Value.slice.injEq] at e5
      obtain ⟨rfl, _, rfl⟩ := e5
      exact ⟨_, _, _, rfl, LM.out, hcp, hO.out, hr5, hn5, hB.out⟩

theorem Try.infoS : (Try.prog.info? 23).map (fun i => (i.zero, i.size, i.bytes)) = some (some (.slice none 0 0), 1, 24) := by kernel_rfl

/-- The slice v is a row of slices of the call's own, from block B on, and its elements are rows of the call's own with these numbers. -/
def OwnII (w : World) (B : Nat) (v : Value) (L : List (List Int)) : Prop := ∃ us : List Value, us.length = L.length ∧ w.ownsRow B 23 1 v L.length us ∧ ∀ i (h1 : i < us.length) (h2 : i < L.length), OwnI w 0 us[i] L[i]

theorem OwnII.nought (w : World) (B : Nat) : OwnII w B (.slice none 0 0) [] := ⟨[], rfl, World.ownsRow_nil w B 23 1, fun i h => absurd h (by simp)⟩

theorem OwnI.sl {w : World} {B : Nat} {v : Value} {N : List Int} (h : OwnI w B v N) : SlI w v N := by
  obtain ⟨a, cap, h1, h2, h3, h4⟩ := h.form
  exact ⟨a, cap, h1, h2, h3, h4⟩

theorem OwnII.form {w : World} {B : Nat} {v : Value} {L : List (List Int)} (h : OwnII w B v L) : ∃ a cap, v = .slice a L.length cap ∧ L.length ≤ cap ∧ RdII w a L ∧ (a = none → L = [] ∧ cap = 0) := by
  obtain ⟨us, hl, ⟨_, ⟨hv, hn⟩ | ⟨g, cap, cur, hv, _, hh, hc, _, hs, ht⟩⟩, hsl⟩ := h
  · have : L = [] := List.eq_nil_of_length_eq_zero hn
    subst this
    exact ⟨none, 0, hv, Nat.le_refl _, RdII.nil _ _, fun _ => ⟨rfl, rfl⟩⟩
  · refine ⟨_, cap, hv, hc, fun _ => ⟨g, 0, rfl, fun i hi => ⟨us[i]'(by omega), ?_, (hsl i (by omega) hi).sl⟩⟩, fun h => by cases h⟩
    rw [cell_of_row w g _ _ _ _ hh, Nat.zero_add]
    have hx : us[i]? = some (us[i]'(by omega)) := List.getElem?_eq_getElem (by omega)
    rw [← hx, ← ht, Nat.mul_one, List.getElem?_take_of_lt hi]
    simp

theorem OwnII.later {w w' : World} {B : Nat} {v : Value} {L : List (List Int)} (h : OwnII w B v L) (hb : Below w.heap.size w w') : OwnII w' B v L := by
  obtain ⟨us, hl, ⟨h1, h2⟩, hsl⟩ := h
  refine ⟨us, hl, ⟨h1, ?_⟩, fun i k1 k2 => (hsl i k1 k2).later hb⟩
  rcases h2 with h2 | ⟨g, cap, cur, hv, hg, hh, hc⟩
  · exact .inl h2
  · refine .inr ⟨g, cap, cur, hv, hg, (hb.block g ?_).trans hh, hc⟩
    rcases Nat.lt_or_ge g w.heap.size with h3 | h3
    · exact h3
    · simp [Array.getElem?_eq_none h3] at hh

/-- A row of numbers is no row of slices. -/
theorem own_apart {w : World} {B C n : Nat} {u v : Value} {N : List Int} {us : List Value} (h : OwnI w B u N) (h' : w.ownsRow C 23 1 v n us) : u.ownBlock = none ∨ u.ownBlock ≠ v.ownBlock := by
  obtain ⟨_, ⟨rfl, _⟩ | ⟨g, cap, cur, rfl, _, hh, _⟩⟩ := h
  · exact .inl rfl
  · obtain ⟨_, ⟨rfl, _⟩ | ⟨g', cap', cur', rfl, _, hh', _⟩⟩ := h'
    · exact .inr (by simp [Value.ownBlock])
    · refine .inr fun e => ?_
      have e' : g = g' := by simpa [Value.ownBlock] using e
      subst e'
      rw [hh] at hh'
      simp at hh'

theorem OwnI.zero {w : World} {B : Nat} {v : Value} {N : List Int} (h : OwnI w B v N) : OwnI w 0 v N := by
  obtain ⟨h1, h2 | ⟨g, cap, cur, hv, _, hh⟩⟩ := h
  · exact ⟨h1, .inl h2⟩
  · exact ⟨h1, .inr ⟨g, cap, cur, hv, Nat.zero_le _, hh⟩⟩

/-- append(v, u): v a row of slices of the call's own, u a row of numbers of its own. -/
theorem OwnII.append {w : World} {B n ty s : Nat} {u v : Value} {L : List (List Int)} {N : List Int} (T : OwnII w B v L) (hu : OwnI w 0 u N) (hn : L.length = n) (h1 : n ≤ 65536) (hB : B ≤ w.heap.size) (hs : w.cell? ⟨s, 0, none⟩ = some u) :
    ∃ a' cap' w', (Builtin.append_ #[22, 22] ty #[v, .slice (some ⟨s, 0, none⟩) 1 1]).run Try.prog w = .ok (.slice a' (n + 1) cap') w' ∧ n + 1 ≤ cap' ∧ OwnII w' B (.slice a' (n + 1) cap') (L ++ [N]) ∧ Below B w w' := by
  subst hn
  obtain ⟨us, hl, hown, hsl⟩ := T
  obtain ⟨i0, hi, hz0, hz1, hz2⟩ := info_parts Try.infoS
  have h1c : u.oneCell' = true := by
    obtain ⟨a, cap, rfl, _⟩ := hu.form
    rfl
  obtain ⟨v', w', hrun, ho, hg, _⟩ := run_append_own (P := Try.prog) (w := w) B 22 ty 23 i0 (.slice none 0 0) 1 24 Try.underlying22 hi hz0 hz1 hz2 rfl (by decide) v L.length us hown ⟨s, 0, none⟩ 1 1 [u] rfl (fun j y hj => by
    obtain rfl : j = 0 := by
      rcases j with _ | j
      · rfl
      · simp at hj
    simp at hj
    subst hj
    rw [add_plain3]
    exact hs) (by simp [h1c]) (by unfold maxLen; omega) (by omega) hB
  have T' : OwnII w' B v' (L ++ [N]) := by
    refine ⟨us ++ [u], by simp [hl], by rw [List.length_append]; exact ho, fun i k1 k2 => ?_⟩
    by_cases hi : i < us.length
    · rw [List.getElem_append_left hi, List.getElem_append_left (by omega)]
      exact World.ownsRow.kept (hsl i hi (by omega)) hg (own_apart (hsl i hi (by omega)) hown)
    · have hi' : i = us.length := by simp at k1; omega
      subst hi'
      rw [List.getElem_append_right (Nat.le_refl _), List.getElem_append_right (by omega)]
      simp only [hl, Nat.sub_self, List.getElem_cons_zero]
      exact World.ownsRow.kept hu hg (own_apart hu hown)
  obtain ⟨a', cap', rfl, hc, _, _⟩ := T'.form
  rw [List.length_append] at hrun T' hc
  exact ⟨a', cap', w', hrun, hc, T', (Below.refl _ _).grown hg hB (fun k hk => (World.ownsRow.lt hown k hk).1)⟩

theorem cell_new (w : World) (g : Nat) (hg : w.heap.size = g) (u : Value) (t : TypeId) : (w.alloc (.cells #[u] t)).cell? ⟨g, 0, none⟩ = some u := by
  subst hg
  rw [cell_of_row (w.alloc (.cells #[u] t)) w.heap.size 0 #[u] t (0, 0) (by show (w.heap.push _)[w.heap.size]? = _; simp)]
  rfl

set_option maxHeartbeats 1000000 in
theorem twinIntRows_any (a : Option Addr) (n cap : Nat) (L : List (List Int)) (w : World) (hn : L.length = n) (hl : n ≤ 65536) (hv : ∀ v ∈ L, v.length ≤ 65536) (hr : RdII w a L) :
    Calls Try.prog 8 #[.slice a n cap] w fun e w' => ∃ a' cap', e = .returned (.slice a' n cap') ∧ n ≤ cap' ∧ RdII w' a' L ∧ (a' = none → L = [] ∧ cap' = 0) ∧ Below w.heap.size w w' := by
  have HN : Hid (L.length = n) := hn
  clear hn
  go_enter Try.func8, Try.ntmps8
  go_wp2
  go_loopw [3, 4] (fun o i wr => ∃ (k cp : Nat) (aw : Option Addr), k ≤ n ∧ i = .int .i64 k ∧ o = .slice aw k cp ∧ k ≤ cp ∧ Hid (OwnII wr w.heap.size (.slice aw k cp) (L.take k)) ∧ Hid (Below w.heap.size w wr)) (fun _ i _ => n - (RowKit.intOf i).toNat)
  case atStart => exact ⟨0, 0, none, Nat.zero_le _, rfl, rfl, Nat.le_refl _, OwnII.nought _ _, Below.refl _ _⟩
  case round =>
    obtain ⟨k, cp, aw, hk, rfl, rfl, hcp, hO, hB⟩ := hrel
    by_cases hlt : k < n
    · have hkl : k < L.length := by rw [HN.out]; exact hlt
      obtain ⟨b, off, rfl, hc⟩ := (hr.later hB.out) (by omega)
      obtain ⟨u, x0, a2, cap2, rfl, hc2, hr2, hn2⟩ := hc k hkl
      have hvl := hv _ (List.getElem_mem hkl)
      have HT : Hid (L.take (k + 1) = L.take k ++ [L[k]]) := List.take_succ_eq_append_getElem hkl
      clear hc hr
      generalize L[k] = N at *
      clear hkl
      obtain ⟨m, hm⟩ : ∃ m, N.length = m := ⟨_, rfl⟩
      rw [hm] at x0 hc2 hvl
      have HM : Hid (N.length = m) := hm
      clear hm
      go_wp2_with fail
      refine (twinInts_any a2 m cap2 N _ HM.out (by omega) hn2 hr2).mono ?_
      rintro e w1 ⟨a3, cap3, rfl, hc3, ho3, hn3, hr3, hb3⟩
      have hO2 : OwnII w1 w.heap.size (.slice aw k cp) (L.take k) := hO.out.later hb3
      obtain ⟨a', cap', w', hrun, hc', ho', hb'⟩ := OwnII.append (ty := 22) (s := w1.heap.size) (hO2.later (alloc_below w1 (.cells #[.slice a3 m cap3] 23))) (ho3.zero.later (alloc_below w1 (.cells #[.slice a3 m cap3] 23))) (n := k) (by simp [HN.out]; omega) (by omega) (Nat.le_trans hB.out.size (Nat.le_trans hb3.size (by simp))) (cell_new w1 _ rfl _ _)
      rw [← HT.out] at ho'
      have HO' : Hid _ := ho'
      have HB' : Hid (Below w.heap.size w w') := (chain hB.out (chain hb3 (alloc_below _ _))).trans hb'
      clear hO hB ho' hb' hO2 ho3 hn3 hr3 hb3 hr2 hn2 HT
      go_wp2_with (at_builtin; refine wpList_append_run rfl (.tmp 11) (.tmp 17) 22 22 rfl _ _ _ _ rfl rfl hrun ?_)
      go_roundw
      case rel => exact ⟨k + 1, cap', a', by omega, by go_num, rfl, hc', HO', HB'⟩
      case measure => simp [RowKit.intOf]; omega
    · obtain rfl : k = n := by omega
      have hT1 : L.take k = L := List.take_of_length_le (by rw [HN.out]; omega)
      rw [hT1] at hO
      go_wp2
      go_ret
      obtain ⟨a5, cap5, e5, _, hr5, hn5⟩ := hO.out.form
      rw [HN.out] at e5
      simp only [Value.slice.injEq] at e5
      obtain ⟨rfl, _, rfl⟩ := e5
      exact ⟨_, _, rfl, hcp, hr5, hn5, hB.out⟩

/-- More, or longer, than is played? -/
def heavyD (L : List (List Int)) : Bool := L.any fun v => decide (30 < v.length)

set_option maxHeartbeats 400000 in
theorem heavyD_long (a : Option Addr) (n cap : Nat) (w : World) (h : 30 < n) (hn : n ≤ 9223372036854775807) :
    Calls Try.prog 7 #[.slice a n cap] w fun e w' => e = .returned (.bool true) ∧ w' = w := by
  go_enter Try.func7, Try.ntmps7
  go_wp2
  go_ret
  exact ⟨rfl, rfl⟩

set_option maxHeartbeats 400000 in
theorem heavyD_few (a : Option Addr) (n cap : Nat) (L : List (List Int)) (w : World) (hn : L.length = n) (h : n ≤ 30) (hv : ∀ v ∈ L, v.length ≤ 9223372036854775807) (hr : RdII w a L) :
    Calls Try.prog 7 #[.slice a n cap] w fun e w' => e = .returned (.bool (heavyD L)) ∧ w' = w := by
  have HN : Hid (L.length = n) := hn
  clear hn
  go_enter Try.func7, Try.ntmps7
  go_wp2
  go_loop [3] (fun i => ∃ k : Nat, k ≤ n ∧ i = .int .i64 k ∧ Hid (heavyD (L.take k) = false)) (fun i => n - (RowKit.intOf i).toNat)
  case atStart => exact ⟨0, Nat.zero_le _, rfl, rfl⟩
  case round =>
    obtain ⟨k, hk, rfl, hT⟩ := hrel
    by_cases hlt : k < n
    · have hkl : k < L.length := by rw [HN.out]; exact hlt
      obtain ⟨b, off, rfl, hc⟩ := hr (by omega)
      obtain ⟨u, x0, a2, cap2, rfl, hc2, hz1, hz2⟩ := hc k hkl
      clear hz1 hz2
      have hvl := hv _ (List.getElem_mem hkl)
      have HS : Hid (heavyD (L.take (k + 1)) = decide (30 < L[k].length)) := by
        have h := hT.out
        unfold heavyD at h ⊢
        show _ = _
        rw [List.take_succ_eq_append_getElem hkl, List.any_append, h]
        simp
      have HX : Hid (30 < L[k].length → heavyD L = true) := fun h => by
        unfold heavyD
        rw [List.any_eq_true]
        exact ⟨_, List.getElem_mem hkl, by simpa using h⟩
      clear hc hr
      generalize L[k].length = m at *
      clear hkl
      by_cases hs : 30 < m
      · have HX' : Hid (heavyD L = true) := HX.out hs
        go_wp2
        go_ret
        exact ⟨by rw [HX'.out]; rfl, rfl⟩
      · have HS' : Hid (heavyD (L.take (k + 1)) = false) := by rw [HS.out]; show _ = _; simpa using hs
        go_wp2
        go_round
        case rel => exact ⟨k + 1, by omega, by go_num, HS'⟩
        case measure => simp [RowKit.intOf]; omega
    · have h := hT.out
      rw [List.take_of_length_le (by rw [HN.out]; omega)] at h
      have HH : Hid (heavyD L = false) := h
      clear h
      go_wp2
      go_ret
      exact ⟨by rw [HH.out]; rfl, rfl⟩

end Go.Proofs.Ytljikgjgcpheaaa
