/-
  What raddlekeep's IntRows and the document's own Least do.
-/
import Derived.Test.YtljikgjgcpheaaaRows
import Derived.Test.YtljikgjgcpheaaaDRows
import Derived.Test.YtljikgjgcpheaaaHeld
import Derived.Laws.OwnMore
namespace Go.Proofs.Ytljikgjgcpheaaa
open Go.RowKit Go.Lib
set_option linter.unusedVariables false

theorem ofHeld {W w : World} {P Q : Prop} (h : P ∧ Q ∧ Hid (Below w.heap.size w W)) : Below w.heap.size w W := h.2.2.out

theorem keepTwoV {W w w' : World} {b c o p : Nat} {x y : Value} (hb : Below w.heap.size w w')
    (h : w.cell? ⟨b, o, none⟩ = some x ∧ w.cell? ⟨c, p, none⟩ = some y ∧ Hid (Below W.heap.size W w)) :
    w'.cell? ⟨b, o, none⟩ = some x ∧ w'.cell? ⟨c, p, none⟩ = some y ∧ Hid (Below W.heap.size W w') :=
  ⟨cell_later hb h.1, cell_later hb h.2.1, chain h.2.2.out hb⟩

theorem rows_take_succ {l m : List (List Int)} {k : Nat} (h : l.take k = m.take k) (hl : k < l.length) (hm : k < m.length) (hx : l[k] = m[k]) : l.take (k + 1) = m.take (k + 1) := by
  rw [List.take_succ_eq_append_getElem hl, List.take_succ_eq_append_getElem hm, h, hx]

set_option maxHeartbeats 1000000 in
theorem intRows_any (a b : Option Addr) (n m cap dap : Nat) (l r : List (List Int)) (w : World) (hn : l.length = n) (hm : r.length = m) (hl : n ≤ 65536) (hr : m ≤ 65536) (hv : ∀ v ∈ l, v.length ≤ 65536) (hv' : ∀ v ∈ r, v.length ≤ 65536) (ha : RdII w a l) (hb : RdII w b r) :
    Calls Try.prog 15 #[.slice a n cap, .slice b m dap] w fun e w' => e = .returned (.bool (decide (l = r))) ∧ Below w.heap.size w w' := by
  by_cases hnm : n = m
  · subst hnm
    have HN : Hid (l.length = n) := hn
    have HM : Hid (r.length = n) := hm
    clear hn hm
    go_enter Try.func15, Try.ntmps15
    go_wp2
    go_loopw [5] (fun i wr => ∃ k : Nat, k ≤ n ∧ i = .int .i64 k ∧ Hid (l.take k = r.take k) ∧ Hid (Below w.heap.size w wr)) (fun i _ => n - (RowKit.intOf i).toNat)
    case atStart => exact ⟨0, Nat.zero_le _, rfl, by simp [Hid], Below.refl _ _⟩
    case round =>
      obtain ⟨k, hk, rfl, hT, hB⟩ := hrel
      by_cases hlt : k < n
      · have hkl : k < l.length := by rw [HN.out]; exact hlt
        have hkr : k < r.length := by rw [HM.out]; exact hlt
        obtain ⟨b1, o1, rfl, hc1⟩ := ha (by omega)
        obtain ⟨b2, o2, rfl, hc2⟩ := hb (by omega)
        obtain ⟨u1, x0, a1, cap1, rfl, _, hr1, _⟩ := hc1 k hkl
        obtain ⟨u2, y0, a2, cap2, rfl, _, hr2, _⟩ := hc2 k hkr
        have hv1 := hv _ (List.getElem_mem hkl)
        have hv2 := hv' _ (List.getElem_mem hkr)
        have HS := And.intro (cell_later hB.out x0) (And.intro (cell_later hB.out y0) hB)
        have HQ : Hid (l[k] = r[k] → l.take (k + 1) = r.take (k + 1)) := fun hq => rows_take_succ hT.out hkl hkr hq
        have HF : Hid (l[k] ≠ r[k] → l ≠ r) := fun hq e => by subst e; exact hq rfl
        clear hc1 hc2 ha hb hB hT x0 y0
        rename_i hz1 hz2 hz3 hz4
        clear hz1 hz2 hz3 hz4
        generalize l[k] = x at *
        generalize r[k] = y at *
        clear hkl hkr
        have HR1 : Hid (RdI .i64 w a1 x) := hr1
        have HR2 : Hid (RdI .i64 w a2 y) := hr2
        obtain ⟨p, hp⟩ : ∃ p, x.length = p := ⟨_, rfl⟩
        obtain ⟨q, hq⟩ : ∃ q, y.length = q := ⟨_, rfl⟩
        rw [hp] at hv1 HS
        rw [hq] at hv2 HS
        have HP : Hid (x.length = p) := hp
        have HQ2 : Hid (y.length = q) := hq
        clear hr1 hr2 hp hq
        have b1' : (0 : Int) ≤ (k : Int) := by omega
        have b2' : (k : Int) < (n : Int) := by omega
        by_cases hq : x = y
        · have HT' : Hid (l.take (k + 1) = r.take (k + 1)) := HQ.out hq
          have hd : decide (x = y) = true := by simpa using hq
          have C := fun (W : World) (h : Below w.heap.size w W) => keepInts_any a1 a2 p q cap1 cap2 x y W HP.out HQ2.out hv1 hv2 (HR1.out.later h) (HR2.out.later h)
          rw [hd] at C
          clear HQ HF hd hq
          go_wp2
          go_region_held3 (fun w' => w'.cell? ⟨b1, o1 + k, none⟩ = some (.slice a1 p cap1) ∧ w'.cell? ⟨b2, o2 + k, none⟩ = some (.slice a2 q cap2) ∧ Hid (Below w.heap.size w w')) (first | exact keepTwoV (by assumption) (by assumption) | exact keepTwoV (Below.refl _ _).drew (by assumption)) (first | (go_at_call 16; refine (C _ (ofHeld (by assumption))).mono ?_; rintro e w' ⟨rfl, hb⟩))
          have HS1 : w'.cell? ⟨b1, o1 + k, none⟩ = some (.slice a1 p cap1) ∧ w'.cell? ⟨b2, o2 + k, none⟩ = some (.slice a2 q cap2) ∧ Hid (Below w.heap.size w w') := by assumption
          obtain ⟨_, _, HB1⟩ := HS1
          go_wp2
          go_roundw
          case rel => exact ⟨k + 1, by omega, by go_num, HT', HB1⟩
          case measure => simp [RowKit.intOf]; omega
        · have HNE : Hid (l ≠ r) := HF.out hq
          have hd : decide (x = y) = false := by simpa using hq
          have C := fun (W : World) (h : Below w.heap.size w W) => keepInts_any a1 a2 p q cap1 cap2 x y W HP.out HQ2.out hv1 hv2 (HR1.out.later h) (HR2.out.later h)
          rw [hd] at C
          clear HQ HF hd hq
          go_wp2
          go_region_held3 (fun w' => w'.cell? ⟨b1, o1 + k, none⟩ = some (.slice a1 p cap1) ∧ w'.cell? ⟨b2, o2 + k, none⟩ = some (.slice a2 q cap2) ∧ Hid (Below w.heap.size w w')) (first | exact keepTwoV (by assumption) (by assumption) | exact keepTwoV (Below.refl _ _).drew (by assumption)) (first | (go_at_call 16; refine (C _ (ofHeld (by assumption))).mono ?_; rintro e w' ⟨rfl, hb⟩))
          have HS1 : w'.cell? ⟨b1, o1 + k, none⟩ = some (.slice a1 p cap1) ∧ w'.cell? ⟨b2, o2 + k, none⟩ = some (.slice a2 q cap2) ∧ Hid (Below w.heap.size w w') := by assumption
          obtain ⟨_, _, HB1⟩ := HS1
          go_wp2
          go_ret
          exact ⟨by rw [decide_eq_false HNE.out]; rfl, HB1.out⟩
      · have HE : Hid (l = r) := by
          have h1 := hT.out
          rw [List.take_of_length_le (by rw [HN.out]; omega), List.take_of_length_le (by rw [HM.out]; omega)] at h1
          exact h1
        go_wp2
        go_ret
        exact ⟨by rw [decide_eq_true HE.out]; rfl, hB.out⟩
  · have HNE : Hid (l ≠ r) := fun e => hnm (by rw [← hn, ← hm, e])
    have hbq : ((n : Int) != (m : Int)) = true := by simp; omega
    clear hn hm hnm
    go_enter Try.func15, Try.ntmps15
    go_wp2
    go_ret
    exact ⟨by rw [decide_eq_false HNE.out]; rfl, Below.refl _ _⟩

theorem keepRow2 {B b c o p : Nat} {W W' : World} {x y : Value} (hb : Below B W W') (h0 : b < B ∧ c < B) (h : W.cell? ⟨b, o, none⟩ = some x ∧ W.cell? ⟨c, p, none⟩ = some y) : W'.cell? ⟨b, o, none⟩ = some x ∧ W'.cell? ⟨c, p, none⟩ = some y :=
  ⟨(hb.cell (p := ⟨b, o, none⟩) h0.1).trans h.1, (hb.cell (p := ⟨c, p, none⟩) h0.2).trans h.2⟩

theorem chksD_step {L : List (List Int)} {k : Nat} (hk : k < L.length) : chksD (L.drop k) = if chkD L[k] ≠ 0 then chkD L[k] else chksD (L.drop (k + 1)) := by
  rw [List.drop_eq_getElem_cons hk, chksD]

theorem chksD_ok : ∀ {L : List (List Int)}, chksD L = 0 → ∀ v ∈ L, chkD v = 0
  | [], _, v, hv => by cases hv
  | u :: L, h, v, hv => by
    rw [chksD] at h
    by_cases hu : chkD u = 0
    · rw [if_neg (by simp [hu])] at h
      rcases List.mem_cons.1 hv with rfl | hv
      · exact hu
      · exact chksD_ok h v hv
    · rw [if_pos hu] at h
      exact absurd h hu

theorem leastD_err {L : List (List Int)} (h0 : 0 < L.length) (h : chksD L ≠ 0) : leastD L = ([], chksD L) := by
  match L, h0 with
  | v :: L, _ => simp only [leastD]; rw [if_pos h]

theorem leastD_odd {L : List (List Int)} (h0 : 0 < L.length) (h : chksD L = 0) (h2 : evenD L[0].length L = false) : leastD L = ([], 2) := by
  match L, h0 with
  | v :: L, _ =>
    simp only [List.getElem_cons_zero] at h2
    simp only [leastD]
    rw [if_neg (by simp [h]), if_neg (by simp [h2])]

theorem leastD_ok {L : List (List Int)} (h0 : 0 < L.length) (h : chksD L = 0) (h2 : evenD L[0].length L = true) : leastD L = (L.foldl minD L[0], 0) := by
  match L, h0 with
  | v :: L, _ =>
    simp only [List.getElem_cons_zero] at h2 ⊢
    simp only [leastD]
    rw [if_neg (by simp [h]), if_pos h2]

theorem evenD_at {L : List (List Int)} {n k : Nat} (h : evenD n L = true) (hk : k < L.length) : L[k].length = n := by
  unfold evenD at h
  rw [List.all_eq_true] at h
  simpa using h _ (List.getElem_mem hk)

/-- Halfway: the first k numbers are the lesser ones already. -/
def midD (P N : List Int) (k : Nat) : List Int := (minD P N).take k ++ P.drop k

theorem midD_len {P N : List Int} {k : Nat} (h : P.length = N.length) (hk : k ≤ P.length) : (midD P N k).length = P.length := by
  unfold midD
  rw [List.length_append, List.length_take, List.length_drop, minD_len h]
  omega

theorem midD_at {P N : List Int} {k : Nat} (h : P.length = N.length) (hk : k < P.length) (h2 : k < (midD P N k).length) : (midD P N k)[k] = P[k] := by
  have e : (midD P N k)[k]? = some P[k] := by
    unfold midD
    rw [List.getElem?_append_right (by rw [List.length_take, minD_len h]; omega), List.length_take, minD_len h, List.getElem?_drop, show k + (k - min k P.length) = k from by omega, List.getElem?_eq_getElem hk]
  rw [List.getElem?_eq_getElem h2] at e
  exact Option.some.inj e

theorem midD_set {P N : List Int} {k : Nat} (h : P.length = N.length) (hk : k < P.length) (hk2 : k < N.length) : (midD P N k).set k (min P[k] N[k]) = midD P N (k + 1) := by
  unfold midD
  have hl : ((minD P N).take k).length = k := by rw [List.length_take, minD_len h]; omega
  rw [List.set_append_right _ _ (by omega), hl, Nat.sub_self, List.drop_eq_getElem_cons hk, List.set_cons_zero, List.take_succ_eq_append_getElem (by rw [minD_len h]; exact hk), minD_at hk hk2]
  simp

theorem midD_end {P N : List Int} (h : P.length = N.length) : midD P N P.length = minD P N := by
  unfold midD
  rw [List.drop_length, List.append_nil, List.take_of_length_le (by rw [minD_len h]; exact Nat.le_refl _)]

theorem OwnI.at_ {w : World} {B g n cap k : Nat} {N : List Int} (h : OwnI w B (.slice (some ⟨g, 0, none⟩) n cap) N) (hn : N.length = n) (hk : k < n) : w.cell? ⟨g, k, none⟩ = some (.int .i64 (N[k]'(by omega))) ∧ w.frozen? ⟨g, k, none⟩ = false := by
  subst hn
  refine ⟨(World.ownsRow.cellAt h _ (by omega)).trans ?_, World.ownsRow.frozenAt h _⟩
  simp [cellsI, List.getElem?_eq_getElem hk]

theorem OwnI.put {w : World} {B g n cap : Nat} {N : List Int} (h : OwnI w B (.slice (some ⟨g, 0, none⟩) n cap) N) (hn : N.length = n) (k : Nat) (x : Int) :
    OwnI (w.setCell ⟨g, k, none⟩ (.int .i64 x)) B (.slice (some ⟨g, 0, none⟩) n cap) (N.set k x) ∧ Below B w (w.setCell ⟨g, k, none⟩ (.int .i64 x)) ∧ B ≤ g := by
  subst hn
  obtain ⟨h1, g1⟩ := World.ownsRow.stored h k (.int .i64 x)
  have hg : B ≤ g := (World.ownsRow.lt h g rfl).1
  refine ⟨?_, (Below.refl B w).setCell hg _, hg⟩
  unfold OwnI
  rw [List.length_set, show cellsI (N.set k x) = (cellsI N).set k (.int .i64 x) from by simp [cellsI, List.map_set]]
  exact h1

theorem OwnI.base {w : World} {B C : Nat} {v : Value} {N : List Int} (h : OwnI w B v N) (hb : C ≤ B) : OwnI w C v N := by
  obtain ⟨h1, h2 | ⟨g, cap, cur, hv, hg, hh⟩⟩ := h
  · exact ⟨h1, .inl h2⟩
  · exact ⟨h1, .inr ⟨g, cap, cur, hv, Nat.le_trans hb hg, hh⟩⟩

set_option maxHeartbeats 400000 in
theorem rLeast_none (a : Option Addr) (cap : Nat) (w : World) :
    Calls Try.prog 18 #[.slice a 0 cap] w fun e w' => GivesI w w' e ([], 2) := by
  go_enter Try.func18, Try.ntmps18
  go_wp2
  go_ret2
  exact GivesI.of_no rfl (Below.refl _ _)

set_option maxRecDepth 100000 in
set_option maxHeartbeats 4000000 in
theorem rLeast_some (b off n cap : Nat) (L : List (List Int)) (w : World) (hn : L.length = n) (h1 : 1 ≤ n) (hl : n ≤ 65536) (hv : ∀ v ∈ L, v.length ≤ 65536) (hr : RdII w (some ⟨b, off, none⟩) L) :
    Calls Try.prog 18 #[.slice (some ⟨b, off, none⟩) n cap] w fun e w' => GivesI w w' e (leastD L) := by
  have HN : Hid (L.length = n) := hn
  have HR : Hid (RdII w (some ⟨b, off, none⟩) L) := hr
  have n0 : ((n : Int) == 0) = false := by simp; omega
  have h0 : 0 < L.length := by omega
  have H0 : Hid (0 < L.length) := h0
  clear hn hr h0
  go_enter Try.func18, Try.ntmps18
  go_wp2
  go_loop [4] (fun i => ∃ k : Nat, k ≤ n ∧ i = .int .i64 k ∧ Hid (chksD L = chksD (L.drop k))) (fun i => n - (RowKit.intOf i).toNat)
  case atStart => exact ⟨0, Nat.zero_le _, rfl, rfl⟩
  case round =>
  obtain ⟨k, hk, rfl, hT⟩ := hrel
  by_cases hlt : k < n
  · have hkl : k < L.length := by rw [HN.out]; exact hlt
    obtain ⟨b', off', e', hc⟩ := HR.out H0.out
    simp only [Option.some.injEq, Addr.mk.injEq, and_true] at e'
    obtain ⟨rfl, rfl⟩ := e'
    obtain ⟨u, x0, a2, cap2, rfl, hc2, hr2, hn2⟩ := hc k hkl
    have hvl := hv _ (List.getElem_mem hkl)
    have HS : Hid (chksD L = if chkD L[k] ≠ 0 then chkD L[k] else chksD (L.drop (k + 1))) := by rw [← chksD_step hkl]; exact hT
    clear hc hn2 hT
    generalize L[k] = N at *
    clear hkl
    obtain ⟨m, hm⟩ : ∃ m, N.length = m := ⟨_, rfl⟩
    rw [hm] at x0 hc2 hvl
    have C := rVector_any a2 m cap2 N w hm (by omega) hr2
    clear hm hr2
    generalize chkD N = c at *
    by_cases hc0 : c = 0
    · subst hc0
      have HT' : Hid (chksD L = chksD (L.drop (k + 1))) := by have := HS.out; rwa [if_neg (by simp)] at this
      clear HS
      go_wp2_with fail
      refine C.mono ?_
      rintro e w1 ⟨rfl, rfl⟩
      go_wp2
      go_round
      case rel => exact ⟨k + 1, by omega, by go_num, HT'⟩
      case measure => simp [RowKit.intOf]; omega
    · have HT' : Hid (chksD L = c) := by have := HS.out; rwa [if_pos hc0] at this
      have hcn : (c != 0) = true := by simp [hc0]
      have HE : Hid (leastD L = ([], c)) := by
        have := leastD_err H0.out (by rw [HT'.out]; exact hc0)
        rw [HT'.out] at this
        exact this
      clear HS hc0
      go_wp2_with fail
      refine C.mono ?_
      rintro e w1 ⟨rfl, rfl⟩
      go_wp2
      go_ret2
      rw [HE.out]
      exact GivesI.of_no rfl (Below.refl _ _)
  have HC : Hid (chksD L = 0) := by
    have h := hT.out
    rw [List.drop_of_length_le (by rw [HN.out]; omega)] at h
    exact h
  obtain rfl : n = k := by omega
  clear hT hlt hk
  go_wp2
  go_loopw [6] (fun i wr => ∃ k : Nat, k ≤ n ∧ i = .int .i64 k ∧ Hid (evenD (L[0]'H0.out).length (L.take k) = true) ∧ Hid (Below w.heap.size w wr)) (fun i _ => n - (RowKit.intOf i).toNat)
  case atStart => exact ⟨0, Nat.zero_le _, rfl, rfl, Below.refl _ _⟩
  case round =>
  obtain ⟨k, hk, rfl, hT, hB⟩ := hrel
  obtain ⟨b', off', e', hc⟩ := (HR.out.later hB.out) H0.out
  simp only [Option.some.injEq, Addr.mk.injEq, and_true] at e'
  obtain ⟨rfl, rfl⟩ := e'
  obtain ⟨u0, x00, a0, cap0, rfl, hc0, hr0, hn0⟩ := hc 0 H0.out
  obtain ⟨m, hm⟩ : ∃ m, (L[0]'H0.out).length = m := ⟨_, rfl⟩
  have hm5 : 1 ≤ m ∧ m ≤ 5 := by
    have := chkD_ok.1 (chksD_ok HC.out _ (List.getElem_mem H0.out))
    omega
  obtain ⟨m1, m5⟩ := hm5
  rw [hm] at x00 hc0 hT
  rw [Nat.add_zero] at x00
  have HM : Hid ((L[0]'H0.out).length = m) := hm
  by_cases hlt : k < n
  · have hkl : k < L.length := by rw [HN.out]; exact hlt
    obtain ⟨u, x0, a2, cap2, rfl, hc2, hr2, hn2⟩ := hc k hkl
    have hvl := hv _ (List.getElem_mem hkl)
    have HS : Hid (evenD m (L.take (k + 1)) = decide (L[k].length = m)) := by
      have h := hT.out
      unfold evenD at h ⊢
      show _ = _
      rw [List.take_succ_eq_append_getElem hkl, List.all_append, h]
      simp
    have HX : Hid (L[k].length ≠ m → evenD m L = false) := fun h => by
      unfold evenD
      rw [List.all_eq_false]
      exact ⟨_, List.getElem_mem hkl, by simpa using h⟩
    clear hc hr2 hn2 hr0 hn0 hm
    generalize L[k].length = p at *
    clear hkl
    have z1 : (0 : Int) ≤ (k : Int) := by omega
    have z2 : (k : Int) < (n : Int) := by omega
    have z3 : 0 < n := by omega
    by_cases hpm : p = m
    · subst hpm
      have HT' : Hid (evenD (L[0]'H0.out).length (L.take (k + 1)) = true) := by rw [HM.out, HS.out]; show _ = _; simp
      clear HS HX
      go_wp2
      go_quiet (fail)
      go_wp2
      go_roundw
      case rel => exact ⟨k + 1, by omega, by go_num, HT', below_drewN hB.out _⟩
      case measure => simp [RowKit.intOf]; omega
    · have HE : Hid (leastD L = ([], 2)) := leastD_odd H0.out HC.out (by rw [HM.out]; exact HX.out hpm)
      have hpn : ((p : Int) != (m : Int)) = true := by simp; omega
      clear HS HX hpm
      go_wp2
      go_quiet (fail)
      go_wp2
      go_ret2
      rw [HE.out]
      exact GivesI.of_no rfl (below_drewN hB.out _)
  have HV : Hid (evenD m L = true) := by
    have h := hT.out
    rw [List.take_of_length_le (by rw [HN.out]; omega)] at h
    exact h
  have HE : Hid (leastD L = (L.foldl minD (L[0]'H0.out), 0)) := leastD_ok H0.out HC.out (by rw [HM.out]; exact HV.out)
  obtain ⟨wa, rfl⟩ : ∃ x, x = wr := ⟨_, rfl⟩
  obtain rfl : n = k := by omega
  clear hT hlt hk hc
  have HRa : Hid (RdII wa (some ⟨b, off, none⟩) L) := HR.out.later hB.out
  generalize L[0] = N0 at *
  go_wp2_with fail
  refine (twinInts_any a0 m cap0 N0 _ hm (by omega) hn0 hr0).mono ?_
  rintro e w1 ⟨a1, cap1, rfl, hc1, ho1, hn1, hr1, hb1⟩
  obtain ⟨g, rfl⟩ : ∃ g, a1 = some ⟨g, 0, none⟩ := by
    obtain ⟨_, ⟨hv, h0⟩ | ⟨g, c, cur, hv, _⟩⟩ := ho1
    · omega
    · simp only [Value.slice.injEq] at hv
      exact ⟨g, hv.1⟩
  have HO1 : Hid (OwnI w1 wa.heap.size (.slice (some ⟨g, 0, none⟩) m cap1) (L.take 0 |>.foldl minD N0)) := ho1
  have HB1 : Hid (Below wa.heap.size wa w1) := hb1
  have HBa : Hid (Below w.heap.size w wa) := hB.out
  clear ho1 hn1 hr1 hb1 hr0 hn0 x00 hc0 hm hB
  go_wp2
  go_loopw [8] (fun i wr => ∃ j : Nat, j ≤ n ∧ i = .int .i64 j ∧ Hid (OwnI wr wa.heap.size (.slice (some ⟨g, 0, none⟩) m cap1) ((L.take j).foldl minD N0)) ∧ Hid (Below wa.heap.size wa wr)) (fun i _ => n - (RowKit.intOf i).toNat)
  case atStart => exact ⟨0, Nat.zero_le _, rfl, HO1, HB1⟩
  case round =>
  clear HO1 HB1
  obtain ⟨j, hj, rfl, hO, hB⟩ := hrel
  by_cases hlt : j < n
  · have hjl : j < L.length := by rw [HN.out]; exact hlt
    obtain ⟨bx, ox, ex, hc⟩ := HRa.out H0.out
    simp only [Option.some.injEq, Addr.mk.injEq, and_true] at ex
    obtain ⟨rfl, rfl⟩ := ex
    obtain ⟨u, x0, aj, cj, rfl, hcj, hrj, hnj⟩ := hc j hjl
    have hmj : L[j].length = m := evenD_at HV.out hjl
    have HT : Hid ((L.take (j + 1)).foldl minD N0 = minD ((L.take j).foldl minD N0) L[j]) := by
      show _ = _
      rw [List.take_succ_eq_append_getElem hjl, List.foldl_append]
      rfl
    have hPl : ((L.take j).foldl minD N0).length = m := fold_len HM.out (by
      have h := HV.out
      unfold evenD at h ⊢
      rw [List.all_eq_true] at h ⊢
      exact fun x hx => h x (List.mem_of_mem_take hx))
    have HPl : Hid _ := hPl
    clear hc hnj hPl
    rw [hmj] at x0 hcj
    generalize (L.take j).foldl minD N0 = P at *
    generalize L[j] = N at *
    clear hjl
    have HMj : Hid (N.length = m) := hmj
    have HRj : Hid (RdI .i64 wa aj N) := hrj
    have HO1 : Hid (OwnI wr wa.heap.size (.slice (some ⟨g, 0, none⟩) m cap1) (midD P N 0)) := by
      have : midD P N 0 = P := by simp [midD]
      rw [this]
      exact hO
    clear hmj hrj hO
    obtain ⟨wb, rfl⟩ : ∃ x, x = wr := ⟨_, rfl⟩
    go_wp2
    go_loopw [9] (fun i wr => ∃ k : Nat, k ≤ m ∧ i = .int .i64 k ∧ Hid (OwnI wr wa.heap.size (.slice (some ⟨g, 0, none⟩) m cap1) (midD P N k)) ∧ Hid (Below wa.heap.size wa wr)) (fun i _ => m - (RowKit.intOf i).toNat)
    case atStart => exact ⟨0, Nat.zero_le _, rfl, HO1, hB⟩
    case round =>
    clear HO1 hB
    obtain ⟨k, hk, rfl, hO, hB⟩ := hrel
    by_cases hkm : k < m
    · have hkN : k < N.length := by rw [HMj.out]; exact hkm
      have hkP : k < P.length := by rw [HPl.out]; exact hkm
      have hPN : P.length = N.length := by rw [HPl.out, HMj.out]
      obtain ⟨bj, oj, rfl, hcj2⟩ := HRj.out (by omega)
      have yj := hcj2 k hkN
      have HLt : Hid (b < wa.heap.size ∧ bj < wa.heap.size) := ⟨World.block_lt_of_cell? _ ⟨_, _, none⟩ x0, World.block_lt_of_cell? _ ⟨_, _, none⟩ yj⟩
      have hML : (midD P N k).length = m := by rw [midD_len hPN (by omega), HPl.out]
      obtain ⟨c0, f0⟩ := hO.out.at_ hML hkm
      rw [midD_at hPN hkP] at c0
      obtain ⟨hO', hB', hG⟩ := hO.out.put hML k (min P[k] N[k])
      rw [midD_set hPN hkP hkN] at hO'
      have HS := And.intro (cell_later hB.out x0) (cell_later hB.out yj)
      have HG : Hid (wa.heap.size ≤ g) := hG
      generalize P[k] = x at *
      generalize N[k] = y at *
      have HO' : Hid _ := hO'
      have HB' : Hid _ := hB.out.trans hB'
      clear hcj2 hML hO hB hO' hB' hG hkN hkP hPN
      have z1 : (0 : Int) ≤ (k : Int) := by omega
      have z2 : (k : Int) < (m : Int) := by omega
      have z3 : (0 : Int) ≤ (j : Int) := by omega
      have z4 : (j : Int) < (n : Int) := by omega
      go_wp2
      refine wp_region_held_drew (S := (fun w' => w'.cell? ⟨b, off + j, none⟩ = some (.slice (some ⟨bj, oj, none⟩) m cj) ∧ w'.cell? ⟨bj, oj + k, none⟩ = some (.int .i64 y))) (by kernel_rfl) HS (fun hHeld => ?_)
      refine heldTake (v := ?_) 0 59 rfl rfl (by kernel_rfl) (by kernel_rfl) (by kernel_rfl) (fun _ _ _ h => h) (by rfl) (fun w hSw => ?_) (by assumption) ?_
      rotate_left
      · (try dsimp only at hSw); first | (go_simp; done) | (go_simp; with_reducible rfl)
      simp only [List.setIfInBounds_toArray, List.set_cons_zero, List.set_cons_succ]
      refine heldTake (v := ?_) 1 60 rfl rfl (by kernel_rfl) (by kernel_rfl) (by kernel_rfl) (fun _ _ _ h => h) (by rfl) (fun w hSw => ?_) (by assumption) ?_
      rotate_left
      · (try dsimp only at hSw); first | (go_simp; done) | (go_simp; with_reducible rfl)
      simp only [List.setIfInBounds_toArray, List.set_cons_zero, List.set_cons_succ]
      refine heldTake (v := ?_) 2 61 rfl rfl (by kernel_rfl) (by kernel_rfl) (by kernel_rfl) (fun _ _ _ h => h) (by rfl) (fun w hSw => ?_) (by assumption) ?_
      rotate_left
      · (try dsimp only at hSw); first | (go_simp; done) | (go_simp; with_reducible rfl)
      simp only [List.setIfInBounds_toArray, List.set_cons_zero, List.set_cons_succ]
      refine heldTake (v := ?_) 3 62 rfl rfl (by kernel_rfl) (by kernel_rfl) (by kernel_rfl) (fun _ _ _ h => h) (by rfl) (fun w hSw => ?_) (by assumption) ?_
      rotate_left
      · (try dsimp only at hSw); first | (go_simp; done) | (go_simp; with_reducible rfl)
      simp only [List.setIfInBounds_toArray, List.set_cons_zero, List.set_cons_succ]
      refine heldTake (v := ?_) 4 63 rfl rfl (by kernel_rfl) (by kernel_rfl) (by kernel_rfl) (fun _ _ _ h => h) (by rfl) (fun w hSw => ?_) (by assumption) ?_
      rotate_left
      · (try dsimp only at hSw); first | (go_simp; done) | (go_simp; with_reducible rfl)
      simp only [List.setIfInBounds_toArray, List.set_cons_zero, List.set_cons_succ]
      refine heldTake (v := ?_) 6 65 rfl rfl (by kernel_rfl) (by kernel_rfl) (by kernel_rfl) (fun _ _ _ h => h) (by rfl) (fun w hSw => ?_) (by assumption) ?_
      rotate_left
      · (try dsimp only at hSw); first | (go_simp; done) | (go_simp; with_reducible rfl)
      simp only [List.setIfInBounds_toArray, List.set_cons_zero, List.set_cons_succ]
      refine heldTake (v := ?_) 7 66 rfl rfl (by kernel_rfl) (by kernel_rfl) (by kernel_rfl) (fun _ _ _ h => h) (by rfl) (fun w hSw => ?_) (by assumption) ?_
      rotate_left
      · (try dsimp only at hSw); first | (go_simp; done) | (go_simp; with_reducible rfl)
      simp only [List.setIfInBounds_toArray, List.set_cons_zero, List.set_cons_succ]
      refine heldTake (v := ?_) 8 67 rfl rfl (by kernel_rfl) (by kernel_rfl) (by kernel_rfl) (fun _ _ _ h => h) (by rfl) (fun w hSw => ?_) (by assumption) ?_
      rotate_left
      · (try dsimp only at hSw); first | (go_simp; done) | (go_simp; with_reducible rfl)
      simp only [List.setIfInBounds_toArray, List.set_cons_zero, List.set_cons_succ]
      refine heldTake (v := ?_) 9 68 rfl rfl (by kernel_rfl) (by kernel_rfl) (by kernel_rfl) (fun _ _ _ h => h) (by rfl) (fun w hSw => ?_) (by assumption) ?_
      rotate_left
      · (try dsimp only at hSw); first | (go_simp; done) | (go_simp; with_reducible rfl)
      simp only [List.setIfInBounds_toArray, List.set_cons_zero, List.set_cons_succ]
      refine heldTake (v := ?_) 10 69 rfl rfl (by kernel_rfl) (by kernel_rfl) (by kernel_rfl) (fun _ _ _ h => h) (by rfl) (fun w hSw => ?_) (by assumption) ?_
      rotate_left
      · (try dsimp only at hSw); first | (go_simp; done) | (go_simp; with_reducible rfl)
      simp only [List.setIfInBounds_toArray, List.set_cons_zero, List.set_cons_succ]
      refine heldTake (v := ?_) 11 70 rfl rfl (by kernel_rfl) (by kernel_rfl) (by kernel_rfl) (fun _ _ _ h => h) (by rfl) (fun w hSw => ?_) (by assumption) ?_
      rotate_left
      · (try dsimp only at hSw); first | (go_simp; done) | (go_simp; with_reducible rfl)
      simp only [List.setIfInBounds_toArray, List.set_cons_zero, List.set_cons_succ]
      refine heldTake (v := ?_) 12 71 rfl rfl (by kernel_rfl) (by kernel_rfl) (by kernel_rfl) (fun _ _ _ h => h) (by rfl) (fun w hSw => ?_) (by assumption) ?_
      rotate_left
      · (try dsimp only at hSw); first | (go_simp; done) | (go_simp; with_reducible rfl)
      simp only [List.setIfInBounds_toArray, List.set_cons_zero, List.set_cons_succ]
      refine heldOne 5 rfl (by kernel_rfl) (by rfl) (fun K hK => ?_)
      go_simp
      refine hK.out _ _ ?_ (fun hHeld => ?_)
      · first | assumption | exact keepRow2 (Below.refl _ _).drew HLt.out (by assumption)
      clear hK K
      try simp only [List.setIfInBounds_toArray, List.set_cons_zero, List.set_cons_succ]
      refine heldOne 13 rfl (by kernel_rfl) (by rfl) (fun K hK => ?_)
      go_simp
      refine hK.out _ _ ?_ (fun hHeld => ?_)
      · first | assumption | exact keepRow2 (Below.refl _ _).drew HLt.out (by assumption)
      clear hK K
      try simp only [List.setIfInBounds_toArray, List.set_cons_zero, List.set_cons_succ]
      refine heldTake (v := ?_) 14 73 rfl rfl (by kernel_rfl) (by kernel_rfl) (by kernel_rfl) (fun _ _ _ h => h) (by rfl) (fun w hSw => ?_) (by assumption) ?_
      rotate_left
      · (try dsimp only at hSw); first | (go_simp; done) | (go_simp; with_reducible rfl)
      simp only [List.setIfInBounds_toArray, List.set_cons_zero, List.set_cons_succ]
      refine heldOne 15 rfl (by kernel_rfl) (by rfl) (fun K hK => ?_)
      go_simp
      refine hK.out _ _ ?_ (fun hHeld => ?_)
      · exact keepRow2 ((Below.refl _ _).setCell HG.out _) HLt.out (by assumption)
      clear hK K
      try simp only [List.setIfInBounds_toArray, List.set_cons_zero, List.set_cons_succ]
      refine wpAnyH_done (by kernel_rfl) ?_ _
      go_wp2
      go_roundw
      case rel => exact ⟨k + 1, by omega, by go_num, HO', HB'.out.drew⟩
      case measure => simp [RowKit.intOf]; omega
    obtain rfl : k = m := by omega
    have hPN : P.length = N.length := by rw [HPl.out, HMj.out]
    have hend : midD P N k = minD P N := by rw [← midD_end hPN, HPl.out]
    rw [hend, ← HT.out] at hO
    clear hPN hend
    go_wp2
    go_roundw
    case rel => exact ⟨j + 1, by omega, by go_num, hO, hB⟩
    case measure => simp [RowKit.intOf]; omega
  obtain rfl : j = n := by omega
  have hT1 : L.take j = L := List.take_of_length_le (by rw [HN.out]; omega)
  rw [hT1] at hO
  have HLf : Hid ((L.foldl minD N0).length = m) := fold_len HM.out HV.out
  go_wp2
  go_ret2
  rw [HE.out]
  obtain ⟨a5, cap5, e5, hcap5, hr5, hn5⟩ := hO.out.form
  rw [HLf.out] at e5 hcap5
  simp only [Value.slice.injEq] at e5
  obtain ⟨rfl, _, rfl⟩ := e5
  exact ⟨_, _, _, rfl, HLf.out, by omega, hcap5, hO.out.base HBa.out.size, hr5, hn5, chain HBa.out hB.out⟩

theorem rLeast_any (a : Option Addr) (n cap : Nat) (L : List (List Int)) (w : World) (hn : L.length = n) (hl : n ≤ 65536) (hv : ∀ v ∈ L, v.length ≤ 65536) (hr : RdII w a L) :
    Calls Try.prog 18 #[.slice a n cap] w fun e w' => GivesI w w' e (leastD L) := by
  rcases Nat.eq_zero_or_pos n with h0 | h0
  · subst h0
    obtain rfl := List.eq_nil_of_length_eq_zero hn
    exact rLeast_none a cap w
  · obtain ⟨b, off, rfl, _⟩ := hr (by omega)
    exact rLeast_some b off n cap L w hn h0 hl hv hr

end Go.Proofs.Ytljikgjgcpheaaa
