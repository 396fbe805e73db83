/-
  Texts of the proof of BufAll, one behind the other.
-/
import Derived.Test.YtjddkodcbpnilaaRows
import Derived.Test.YtjddkodcbpnilaaG40BufAll
import Derived.WalkKit
import Derived.Shelf.Abstract
import Derived.WalkSpells
import Derived.Test.YtjddkodcbpnilaaG18BufAll
import Derived.Test.YtjddkodcbpnilaaG34BufAll
import Derived.Test.YtjddkodcbpnilaaG33BufAll
import Derived.Test.YtjddkodcbpnilaaG32BufAll
namespace Go.Proofs.Ytjddkodcbpnilaa
open Go.RowKit Go.Lib
set_option linter.unusedVariables false

/-- The first place at which it holds, or -1. -/
def idxP (n : Nat) (p : Nat → Bool) : Int := match (List.range n).find? p with | some k => (k : Int) | none => -1

theorem find_range_none {n : Nat} {p : Nat → Bool} (h : (List.range n).find? p = none) : ∀ k, k < n → p k = false := fun k hk => by
  have := List.find?_eq_none.1 h k (List.mem_range.2 hk)
  simpa using this

theorem find_range_some {p : Nat → Bool} : ∀ {n k : Nat}, k < n → p k = true → (∀ i, i < k → p i = false) → (List.range n).find? p = some k
  | 0, k, hk, _, _ => absurd hk (by omega)
  | n + 1, k, hk, hp, hb => by
    rw [List.range_succ, List.find?_append]
    by_cases h : k < n
    · rw [find_range_some h hp hb]
      rfl
    · obtain rfl : k = n := by omega
      rw [List.find?_eq_none.2 fun i hi => by rw [hb i (List.mem_range.1 hi)]; simp]
      simp [hp]

theorem find_range_no {p : Nat → Bool} {n : Nat} (hb : ∀ i, i < n → p i = false) : (List.range n).find? p = none :=
  List.find?_eq_none.2 fun i hi => by rw [hb i (List.mem_range.1 hi)]; simp

theorem idxP_yes {p : Nat → Bool} {n k : Nat} (hk : k < n) (hp : p k = true) (hb : ∀ i, i < k → p i = false) : idxP n p = k := by
  unfold idxP
  rw [find_range_some hk hp hb]

theorem idxP_no {p : Nat → Bool} {n : Nat} (hb : ∀ i, i < n → p i = false) : idxP n p = -1 := by
  unfold idxP
  rw [find_range_no hb]

set_option maxRecDepth 100000 in
set_option maxHeartbeats 2000000 in
theorem indexFunc_any (a : Option Addr) (n cap g : Nat) (cb : Array Value) (C : List (List Value)) (p : Nat → Bool) (w : World) (hn : C.length = n) (hl : n ≤ 65536) (hd : Dozen C) (hr : RdC w a C) (eg : ∀ args w, (callFunc g args).run Try.prog w = .ok (.enter g args) w)
    (hp : ∀ k (hk : k < C.length) W, Below w.heap.size w W → Calls Try.prog g (#[.agg C[k].toArray] ++ cb) W fun e W' => e = .returned (.bool (p k)) ∧ Below W.heap.size W W') :
    Calls Try.prog 25 #[.slice a n cap, .func (.func g) #[] cb] w fun e w' => e = .returned (.int .i64 (idxP n p)) ∧ Below w.heap.size w w' := by
  have HN : Hid (C.length = n) := hn
  have HR : Hid (RdC w a C) := hr
  have HP : Hid (∀ k (hk : k < C.length) W, Below w.heap.size w W → Calls Try.prog g (#[.agg C[k].toArray] ++ cb) W fun e W' => e = .returned (.bool (p k)) ∧ Below W.heap.size W W') := hp
  clear hn hr hp
  go_enter Try.func25, Try.ntmps25
  go_wp2
  go_loopw [8] (fun i wr => ∃ k : Nat, k ≤ n ∧ i = .int .i64 k ∧ Hid (∀ j, j < k → p j = false) ∧ Hid (Below w.heap.size w wr)) (fun i _ => n - (RowKit.intOf i).toNat)
  case atStart => exact ⟨0, Nat.zero_le _, rfl, (fun j hj => absurd hj (by omega)), Below.refl _ _⟩
  case round =>
    obtain ⟨k, hk, rfl, hT, hB⟩ := hrel
    by_cases hlt : k < n
    · have hkl : k < C.length := by rw [HN.out]; exact hlt
      have CK := HP.out k hkl wr hB.out
      obtain ⟨b, off, rfl, hc⟩ := HR.out.later hB.out (by omega)
      have hck := hc k hkl
      obtain ⟨c0, c1, c2, c3, c4, c5, c6, c7, c8, c9, c10, c11, hcs⟩ := list12 (hd.at_ hkl)
      rw [hcs] at CK hck
      have x0 := hck 0 c0 rfl
      have x1 := hck 1 c1 rfl
      have x2 := hck 2 c2 rfl
      have x3 := hck 3 c3 rfl
      have x4 := hck 4 c4 rfl
      have x5 := hck 5 c5 rfl
      have x6 := hck 6 c6 rfl
      have x7 := hck 7 c7 rfl
      have x8 := hck 8 c8 rfl
      have x9 := hck 9 c9 rfl
      have x10 := hck 10 c10 rfl
      have x11 := hck 11 c11 rfl
      rw [Nat.add_zero] at x0
      have hd1 := (hd _ (List.getElem_mem hkl)).2
      rw [hcs] at hd1
      clear hc hck hcs hd HR
      have kk0 : (0 : Int) ≤ (k : Int) := by omega
      have kk1 : (k : Int) < (n : Int) := by omega
      obtain ⟨q, hq⟩ : ∃ q, p k = q := ⟨_, rfl⟩
      rw [hq] at CK
      have HQ : Hid (p k = q) := hq
      clear hq
      clear hd1
      cases q with
      | true =>
        have HI : Hid (idxP n p = k) := idxP_yes hlt HQ.out hT.out
        go_wp2_with (go_at_fn g; refine CK.mono ?_; rintro e w' ⟨rfl, hb'⟩)
        go_ret
        exact ⟨by rw [HI.out]; rfl, hB.out.trans (hb'.mono hB.out.size)⟩
      | false =>
        have hT' : Hid (∀ j, j < k + 1 → p j = false) := fun j hj => by
          by_cases e : j = k
          · subst e; exact HQ.out
          · exact hT.out j (by omega)
        go_wp2_with (go_at_fn g; refine CK.mono ?_; rintro e w' ⟨rfl, hb'⟩)
        have hB' : Hid (Below w.heap.size w w') := hB.out.trans (hb'.mono hB.out.size)
        go_roundw
        case rel => exact ⟨k + 1, by omega, by go_num, hT', hB'⟩
        case measure => simp [RowKit.intOf]; omega
    · obtain rfl : k = n := by omega
      have HI : Hid (idxP k p = -1) := idxP_no hT.out
      go_wp2
      go_ret
      exact ⟨by rw [HI.out]; rfl, hB.out⟩

set_option maxHeartbeats 1000000 in
theorem containsFunc_any (a : Option Addr) (n cap g : Nat) (cb : Array Value) (C : List (List Value)) (p : Nat → Bool) (w : World) (hn : C.length = n) (hl : n ≤ 65536) (hd : Dozen C) (hr : RdC w a C) (eg : ∀ args w, (callFunc g args).run Try.prog w = .ok (.enter g args) w)
    (hp : ∀ k (hk : k < C.length) W, Below w.heap.size w W → Calls Try.prog g (#[.agg C[k].toArray] ++ cb) W fun e W' => e = .returned (.bool (p k)) ∧ Below W.heap.size W W') :
    Calls Try.prog 14 #[.slice a n cap, .func (.func g) #[] cb] w fun e w' => e = .returned (.bool ((List.range n).any p)) ∧ Below w.heap.size w w' := by
  have CI := indexFunc_any a n cap g cb C p w hn hl hd hr eg hp
  have HE : Hid ((List.range n).any p = decide (0 ≤ idxP n p)) := by
    show _ = _
    unfold idxP
    cases h : (List.range n).find? p with
    | none =>
      have := find_range_none h
      rw [show (List.range n).any p = false from by rw [List.any_eq_false]; intro x hx; simp [this x (List.mem_range.1 hx)]]
      simp
    | some k =>
      have h1 := List.find?_some h
      have h2 := List.mem_of_find?_eq_some h
      rw [show (List.range n).any p = true from List.any_eq_true.2 ⟨k, h2, h1⟩]
      simp
  clear hn hd hr hp
  have hi : -1 ≤ idxP n p := by unfold idxP; split <;> omega
  generalize idxP n p = i at *
  go_enter Try.func14, Try.ntmps14
  go_wp2_with fail
  refine CI.mono ?_
  rintro e w1 ⟨rfl, hb⟩
  have HB : Hid (Below w.heap.size w w1) := hb
  clear CI hb
  go_wp2
  go_ret
  exact ⟨by rw [HE.out]; rfl, HB.out⟩

set_option maxHeartbeats 1000000 in
theorem deleteOps_any (r cap n i j B : Nat) (C : List (List Value)) (w : World) (hn : C.length = n) (h4 : n ≤ 4000) (hij : i ≤ j) (hj : j ≤ n) (ho : OwnC w B (.slice (some ⟨r, 0, none⟩) n cap) C) :
    Calls Try.prog 30 #[.slice (some ⟨r, 0, none⟩) n cap, .int .i64 i, .int .i64 j] w fun e w' => e = .returned (.slice (some ⟨r, 0, none⟩) (i + (n - j)) cap) ∧ OwnC w' B (.slice (some ⟨r, 0, none⟩) (i + (n - j)) cap) (C.take i ++ C.drop j) ∧ w.grownBy w' (some r) := by
  obtain ⟨L, hL⟩ : ∃ L, L = C.take i ++ C.drop j := ⟨_, rfl⟩
  rw [← hL]
  obtain ⟨hd, hown⟩ := ho
  rw [hn] at hown
  rcases hown.2 with ⟨h0, _⟩ | ⟨r', cap', cur, hv, hB, hh, hc, hm, hs, ht⟩
  · cases h0
  cases hv
  have hm' : cap ≤ 9223372036854775807 := by unfold maxLen at hm; omega
  have hnc : n ≤ cap := by omega
  by_cases heq : i = j
  · subst heq
    have R : Hid (OwnC w B (.slice (some ⟨r, 0, none⟩) n cap) L) := by
      rw [hL, List.take_append_drop]
      exact ⟨hd, by rw [hn]; exact hown⟩
    have e : i + (n - i) = n := by omega
    rw [e]
    clear hown hd hn hL hh hs ht hc e
    go_enter Try.func30, Try.ntmps30
    go_wp2
    all_goals (go_ret; first | exact ⟨rfl, R.out, World.grownBy.refl _ _⟩ | (rename_i h; subst h; exact ⟨rfl, R.out, World.grownBy.refl _ _⟩))
  · have hlt : i < j := by omega
    obtain ⟨i0, hi0, hz0, hz1, hz2⟩ := info_parts Try.infoOp
    obtain ⟨news, hnews⟩ : ∃ news, news = (C.drop j).flatten := ⟨_, rfl⟩
    obtain ⟨zs, hzs⟩ : ∃ zs, zs = (List.replicate (j - i) noC).flatten := ⟨_, rfl⟩
    have hdd : Dozen (C.drop j) := hd.sub fun c hc => List.mem_of_mem_drop hc
    have R := delete_ops (w := w.drew) hd hB hn hh hnc hm hs ht hlt hj zs
    rw [← hL, ← hnews] at R
    have s1 : Hid (news.length = (n - j) * 12) := by rw [hnews, flat_length hdd]; simp [Hid]; omega
    have s2 : Hid (∀ u ∈ news, u.oneCell' = true) := by rw [hnews]; exact flat_one hdd
    have cells : ∀ k, k < n * 12 → w.cell? ⟨r, k, none⟩ = C.flatten[k]? := fun k hk => World.ownsRow.cellAt hown k hk
    have some_ : ∀ k, k < n * 12 → (w.cell? ⟨r, k, none⟩).isSome = true := fun k hk => by
      rw [cells k hk, List.getElem?_eq_getElem (by rw [flat_length hd, hn]; exact hk)]
      rfl
    have free : ∀ k, w.frozen? ⟨r, k, none⟩ = false := fun k => World.ownsRow.frozenAt hown k
    obtain ⟨A, hA, hsrc⟩ : ∃ A : Addr, (if cap = j then some (⟨r, 0, none⟩ : Addr) else some ⟨r, j * 12, none⟩) = some A ∧ Hid (∀ t u, news[t]? = some u → w.drew.cell? (A.add t) = some u) := by
      by_cases h : cap = j
      · refine ⟨⟨r, 0, none⟩, by simp [h], fun t u hu => ?_⟩
        have h0 : news.length = 0 := by rw [s1.out]; omega
        rw [List.length_eq_zero_iff.1 h0] at hu
        simp at hu
      · refine ⟨⟨r, j * 12, none⟩, by simp [h], fun t u hu => ?_⟩
        have ht' : t < (n - j) * 12 := by
          have := (List.getElem?_eq_some_iff.1 hu).1
          rwa [s1.out] at this
        rw [hnews, ← flat_drop hd, List.getElem?_drop] at hu
        rw [Addr.add_lit]
        exact (cells (j * 12 + t) (by omega)).trans hu
    have s3 : Hid (∀ t, t < news.length → (w.drew.cell? ⟨r, 0 + i * 12 + t, none⟩).isSome = true ∧ w.drew.frozen? ⟨r, 0 + i * 12 + t, none⟩ = false) := by
      intro t ht'
      rw [s1.out] at ht'
      exact ⟨some_ (0 + i * 12 + t) (by omega), free _⟩
    obtain ⟨W1, hW1⟩ : ∃ W1, W1 = w.drew.setCells r (0 + i * 12) news := ⟨_, rfl⟩
    have hcl : ∀ ty, (Builtin.clear_ #[22] ty #[.slice (some ⟨r, (i + (n - j)) * 12, none⟩) (n - (i + (n - j))) (cap - (i + (n - j)))]).run Try.prog W1 = .ok (.tuple #[]) (W1.setCells r ((i + (n - j)) * 12) zs) := by
      intro ty
      have := run_clear_ops W1 ty r ((i + (n - j)) * 12) (n - (i + (n - j))) (cap - (i + (n - j))) (by omega) (fun t ht' => by
        rw [hW1]
        exact World.isSome_setCells' r _ _ _ _ (some_ _ (by omega))) (fun t => by
        rw [hW1, World.frozen?_setCells]
        exact free _)
      rw [show n - (i + (n - j)) = j - i by omega, ← hzs] at this
      rw [show n - (i + (n - j)) = j - i by omega]
      exact this
    have hW : Hid (W1 = w.drew.setCells r (0 + i * 12) news) := hW1
    have R' : Hid (OwnC (W1.setCells r ((i + (n - j)) * 12) zs) B (.slice (some ⟨r, 0, none⟩) (i + (n - j)) cap) L) := by
      rw [hW1, Nat.zero_add]
      exact R
    have G : Hid (w.grownBy (W1.setCells r ((i + (n - j)) * 12) zs) (some r)) := by
      have g1 := setCells_grown w.drew r news (0 + i * 12)
      rw [← hW1] at g1
      have g2 := setCells_grown W1 r zs ((i + (n - j)) * 12)
      exact ⟨g2.os.trans g1.os, g2.tape.trans g1.tape, g2.output.trans g1.output, Nat.le_trans g1.size g2.size, fun k hk hne => (g2.block k (Nat.lt_of_lt_of_le hk g1.size) hne).trans (g1.block k hk hne)⟩
    have hic : i ≤ cap := by omega
    have hjc : j ≤ cap := by omega
    clear hW1 R cells some_ free hnews hzs hh hs ht hown hd hdd hn hL hm heq hc
    go_enter Try.func30, Try.ntmps30
    go_wp2_with fail
    go_region_law (refine step_append_room rfl (.tmp 22) (.tmp 25) 22 rfl 32 i0 12 Try.underlying22 hi0 hz1 r 0 i cap (by simp [Act.eval, Act.put]) A (n - j) (cap - j) news (by simp [Act.eval, Act.put]) s1.out hsrc.out s2.out (by omega) s3.out ?_; rw [← hW.out])
    go_wp2
    go_ret
    exact ⟨rfl, R'.out, G.out⟩

end Go.Proofs.Ytjddkodcbpnilaa

namespace Go.Proofs.Ytjddkodcbpnilaa
open Go.RowKit Go.Lib
set_option linter.unusedVariables false

/-- What is left when all but the first so many are cleared. -/
theorem OwnC.cut {w : World} {B r n cap k : Nat} {C : List (List Value)} (h : OwnC w B (.slice (some ⟨r, 0, none⟩) n cap) C) (hn : C.length = n) (hk : k ≤ n) (z : List Value) : OwnC (w.setCells r (k * 12) z) B (.slice (some ⟨r, 0, none⟩) k cap) (C.take k) := by
  obtain ⟨hd, h⟩ := h
  rw [hn] at h
  rcases h.2 with ⟨h0, _⟩ | ⟨g', cap', cur, hv, hg, hh, hc, hm, hs, ht⟩
  · cases h0
  cases hv
  have hdt : Dozen (C.take k) := hd.sub fun c hc => List.mem_of_mem_take hc
  have e1 : (C.take k).length = k := by simp; omega
  refine ⟨hdt, by rw [flat_length hdt], .inr ⟨r, cap, _, by rw [e1], hg, setCells_block r _ z (k * 12) w cur hh, by rw [e1]; omega, hm, by rw [over_size, hs], ?_⟩⟩
  rw [e1, over_take _ _ _ _ (Nat.le_refl _), ← flat_take hd, ← ht, List.take_take, Nat.min_eq_left (by omega)]

theorem OwnC.grown {w w' : World} {B r n cap : Nat} {C : List (List Value)} (h : OwnC w B (.slice (some ⟨r, 0, none⟩) n cap) C) (hb : Below w.heap.size w w') : OwnC w' B (.slice (some ⟨r, 0, none⟩) n cap) C := h.later hb

theorem OwnC.slots {w : World} {B r n cap k : Nat} {C : List (List Value)} (h : OwnC w B (.slice (some ⟨r, 0, none⟩) n cap) C) (hn : C.length = n) (hk : k < n) (j : Nat) (hj : j < 12) : (∃ u, w.cell? ⟨r, k * 12 + j, none⟩ = some u) ∧ w.frozen? ⟨r, k * 12 + j, none⟩ = false := by
  obtain ⟨hd, h⟩ := h
  rw [hn] at h
  refine ⟨?_, World.ownsRow.frozenAt h _⟩
  rw [World.ownsRow.cellAt h (k * 12 + j) (by omega), flat_at hd k (by omega) j hj]
  exact ⟨_, List.getElem?_eq_getElem (by rw [hd.at_ (by omega)]; exact hj)⟩

/-- Cells that an operation may have. -/
def Shape (c : List Value) : Prop := ∃ (dp dn : Int) (da : Option Addr) (nd dc : Nat) (sp sl sq kd tb : Int) (ky : ByteArray) (cl : Int) (va : Option Addr) (nv vc : Nat) (oa : Option Addr) (no oc : Nat),
  c = [.int .i64 dp, .int .i64 dn, .slice da nd dc, .int .i64 sp, .int .i64 sl, .int .i64 sq, .int .i64 kd, .int .i64 tb, .string ky, .int .i64 cl, .slice va nv vc, .slice oa no oc]

theorem cells12 {w : World} {b : Nat} {c0 c1 c2 c3 c4 c5 c6 c7 c8 c9 c10 c11 : Value} {t : TypeId} (h : CellsAt w b #[c0, c1, c2, c3, c4, c5, c6, c7, c8, c9, c10, c11] t) :
    w.cell? ⟨b, 0, none⟩ = some c0 ∧ w.cell? ⟨b, 1, none⟩ = some c1 ∧ w.cell? ⟨b, 2, none⟩ = some c2 ∧ w.cell? ⟨b, 3, none⟩ = some c3 ∧ w.cell? ⟨b, 4, none⟩ = some c4 ∧ w.cell? ⟨b, 5, none⟩ = some c5 ∧ w.cell? ⟨b, 6, none⟩ = some c6 ∧ w.cell? ⟨b, 7, none⟩ = some c7 ∧ w.cell? ⟨b, 8, none⟩ = some c8 ∧ w.cell? ⟨b, 9, none⟩ = some c9 ∧ w.cell? ⟨b, 10, none⟩ = some c10 ∧ w.cell? ⟨b, 11, none⟩ = some c11 :=
  ⟨h.cell 0, h.cell 1, h.cell 2, h.cell 3, h.cell 4, h.cell 5, h.cell 6, h.cell 7, h.cell 8, h.cell 9, h.cell 10, h.cell 11⟩

theorem shape_one {dp dn : Int} {da : Option Addr} {nd dc : Nat} {sp sl sq kd tb : Int} {ky : ByteArray} {cl : Int} {va : Option Addr} {nv vc : Nat} {oa : Option Addr} {no oc : Nat} :
    ∀ u ∈ [Value.int .i64 dp, Value.int .i64 dn, Value.slice da nd dc, Value.int .i64 sp, Value.int .i64 sl, Value.int .i64 sq, Value.int .i64 kd, Value.int .i64 tb, Value.string ky, Value.int .i64 cl, Value.slice va nv vc, Value.slice oa no oc], u.oneCell' = true := fun u hu => by
  simp at hu
  rcases hu with rfl | rfl | rfl | rfl | rfl | rfl | rfl | rfl | rfl | rfl | rfl | rfl <;> rfl

theorem grown_below {w a b : World} {r : Option Nat} (h : w.grownBy a r) (hb : Below a.heap.size a b) : w.grownBy b r :=
  ⟨hb.os.trans h.os, hb.tape.trans h.tape, hb.output.trans h.output, Nat.le_trans h.size hb.size, fun k hk hne => (hb.block k (Nat.lt_of_lt_of_le hk h.size)).trans (h.block k hk hne)⟩

theorem grown_trans {a b c : World} {r : Option Nat} (h : a.grownBy b r) (k : b.grownBy c r) : a.grownBy c r :=
  ⟨k.os.trans h.os, k.tape.trans h.tape, k.output.trans h.output, Nat.le_trans h.size k.size, fun i hi hne => (k.block i (Nat.lt_of_lt_of_le hi h.size) hne).trans (h.block i hi hne)⟩

theorem take_set_of_lt {α : Type} {D : List α} {k : Nat} {c : α} (h : k < D.length) : (D.set k c).take (k + 1) = D.take k ++ [c] := by
  rw [List.take_succ_eq_append_getElem (by simpa using h), List.take_set_of_le (Nat.le_refl _)]
  simp

set_option maxRecDepth 100000 in
set_option maxHeartbeats 4000000 in
theorem deleteFunc_any {α : Type} (r cap n B g : Nat) (cb : Array Value) (Z : List (List Value × α)) (p : List Value × α → Bool) (w : World) (hn : Z.length = n) (h4 : n ≤ 4000) (hsh : ∀ z ∈ Z, Shape z.1) (ho : OwnC w B (.slice (some ⟨r, 0, none⟩) n cap) (Z.map (·.1))) (eg : ∀ args w, (callFunc g args).run Try.prog w = .ok (.enter g args) w)
    (hp : ∀ k (hk : k < Z.length) W, w.grownBy W (some r) → Calls Try.prog g (#[.agg (Z[k].1).toArray] ++ cb) W fun e W' => e = .returned (.bool (p Z[k])) ∧ Below W.heap.size W W') :
    Calls Try.prog 31 #[.slice (some ⟨r, 0, none⟩) n cap, .func (.func g) #[] cb] w fun e w' => e = .returned (.slice (some ⟨r, 0, none⟩) (Z.filter (fun z => !p z)).length cap) ∧ OwnC w' B (.slice (some ⟨r, 0, none⟩) (Z.filter (fun z => !p z)).length cap) ((Z.filter (fun z => !p z)).map (·.1)) ∧ w.grownBy w' (some r) := by
  have hform := ho.form
  obtain ⟨_, _, hfe, hcap, hcap', hrd, _⟩ := hform
  simp only [Value.slice.injEq, List.length_map] at hfe hcap
  obtain ⟨rfl, hx, rfl⟩ := hfe
  clear hx
  rw [hn] at hcap
  have hr' : r < w.heap.size := (World.ownsRow.lt ho.2 r rfl).2
  have CI := indexFunc_any (some ⟨r, 0, none⟩) n cap g cb (Z.map (·.1)) (fun k => (Z[k]?.map p).getD false) w (by simpa using hn) (by omega) ho.1 hrd eg (fun k hk W hb => by
    have hk' : k < Z.length := by simpa using hk
    have := hp k hk' W ⟨hb.os, hb.tape, hb.output, hb.size, fun i hi _ => hb.block i hi⟩
    simpa [List.getElem?_eq_getElem hk'] using this)
  have HP : Hid (∀ k (hk : k < Z.length) W, w.grownBy W (some r) → Calls Try.prog g (#[.agg (Z[k].1).toArray] ++ cb) W fun e W' => e = .returned (.bool (p Z[k])) ∧ Below W.heap.size W W') := hp
  have HO : Hid (OwnC w B (.slice (some ⟨r, 0, none⟩) n cap) (Z.map (·.1))) := ho
  have HN : Hid (Z.length = n) := hn
  have HSH : Hid (∀ z ∈ Z, Shape z.1) := hsh
  clear hsh
  obtain ⟨F, hF⟩ : ∃ F, F = Z.filter (fun z => !p z) := ⟨_, rfl⟩
  rw [← hF]
  have HF : Hid (F = Z.filter (fun z => !p z)) := hF
  clear hF hp ho hn hrd
  cases hi : (List.range n).find? (fun k => (Z[k]?.map p).getD false) with
  | none =>
    have e : idxP n (fun k => (Z[k]?.map p).getD false) = -1 := by unfold idxP; rw [hi]
    rw [e] at CI
    have HFZ : Hid (F = Z) := by
      rw [HF.out]
      show List.filter _ _ = _
      rw [List.filter_eq_self]
      intro z hz
      obtain ⟨k, hk, rfl⟩ := List.mem_iff_getElem.1 hz
      have := find_range_none hi k (by rw [← HN.out]; exact hk)
      rw [List.getElem?_eq_getElem hk] at this
      simpa using this
    rw [HFZ.out]
    clear hi e
    go_enter Try.func31, Try.ntmps31
    go_wp2_with fail
    refine CI.mono ?_
    rintro e w1 ⟨rfl, hb⟩
    have HB : Hid (Below w.heap.size w w1) := hb
    clear CI hb
    go_wp2
    go_ret
    exact ⟨by rw [HN.out]; rfl, by rw [HN.out]; exact HO.out.later HB.out, grown_below (World.grownBy.refl _ _) HB.out⟩
  | some k0 =>
    have hk0 : k0 < n := List.mem_range.1 (List.mem_of_find?_eq_some hi)
    have e : idxP n (fun k => (Z[k]?.map p).getD false) = k0 := by unfold idxP; rw [hi]
    rw [e] at CI
    have HP0 : Hid (p (Z[k0]'(by rw [HN.out]; exact hk0)) = true) := by
      have h := List.find?_some hi
      rw [List.getElem?_eq_getElem (show k0 < Z.length by rw [HN.out]; exact hk0)] at h
      exact h
    have HT0 : Hid (Z.take k0 = (Z.take (k0 + 1)).filter fun z => !p z) := by
      show _ = _
      rw [List.take_succ_eq_append_getElem (by rw [HN.out]; exact hk0), List.filter_append]
      have h1 : (Z.take k0).filter (fun z => !p z) = Z.take k0 := by
        rw [List.filter_eq_self]
        intro z hz
        obtain ⟨k, hk, rfl⟩ := List.mem_iff_getElem.1 hz
        rw [List.length_take] at hk
        have h2 : (List.range n).find? (fun k => (Z[k]?.map p).getD false) = some k0 := hi
        rw [List.find?_range_eq_some] at h2
        have := h2.2.2 k (by omega)
        rw [List.getElem?_eq_getElem (by omega)] at this
        simpa using this
      rw [h1]
      simp [HP0.out]
    clear hi e
    go_enter Try.func31, Try.ntmps31
    go_wp2_with fail
    refine CI.mono ?_
    rintro e w1 ⟨rfl, hb⟩
    have HO1 : Hid (OwnC w1 B (.slice (some ⟨r, 0, none⟩) n cap) (Z.map (·.1))) := HO.out.later hb
    have HG1 : Hid (w.grownBy w1 (some r)) := grown_below (World.grownBy.refl _ _) hb
    have ne1 : ((k0 : Int) == -1) = false := by rw [beq_eq_false_iff_ne]; omega
    clear CI hb
    go_wp2
    go_loopw [5, 6] (fun i j wr => ∃ (ki kj : Nat) (D : List (List Value × α)), ki < kj ∧ kj ≤ n ∧ i = .int .i64 ki ∧ j = .int .i64 kj ∧ Hid (D.length = n) ∧ Hid (OwnC wr B (.slice (some ⟨r, 0, none⟩) n cap) (D.map (·.1))) ∧ Hid (D.take ki = (Z.take kj).filter fun z => !p z) ∧ Hid (D.drop kj = Z.drop kj) ∧ Hid (w.grownBy wr (some r))) (fun _ j _ => n - (RowKit.intOf j).toNat)
    case atStart => exact ⟨k0, k0 + 1, Z, by omega, by omega, rfl, by go_num, HN.out, HO1, HT0, rfl, HG1⟩
    case round =>
      clear HO1 HG1 HT0 HP0
      obtain ⟨ki, kj, D, hij, hjn, rfl, rfl, hDn, hO, hT, hD, hG⟩ := hrel
      by_cases hlt : kj < n
      · have hkD : kj < D.length := by rw [hDn.out]; exact hlt
        have hkZ : kj < Z.length := by rw [HN.out]; exact hlt
        have hDZ : D[kj] = Z[kj] := by
          have := congrArg (fun l => l[0]?) hD.out
          simp only [List.getElem?_drop, Nat.add_zero] at this
          rw [List.getElem?_eq_getElem hkD, List.getElem?_eq_getElem hkZ] at this
          exact Option.some.inj this
        have hform := hO.out.form
        obtain ⟨_, _, hfe, _, _, hrd, _⟩ := hform
        simp only [Value.slice.injEq] at hfe
        obtain ⟨rfl, hx, hy⟩ := hfe
        clear hx hy
        obtain ⟨_, _, he, hc⟩ := hrd (by rw [List.length_map]; omega)
        simp only [Option.some.injEq, Addr.mk.injEq, and_true] at he
        obtain ⟨rfl, rfl⟩ := he
        have hck := hc kj (by rw [List.length_map]; exact hkD)
        have h12 := hO.out.1.at_ (i := kj) (by simpa using hkD)
        rw [List.getElem_map] at hck h12
        have CK := fun W hb => HP.out kj hkZ W hb
        rw [← hDZ] at CK
        have HS1 : Hid ((Z.take (kj + 1)).filter (fun z => !p z) = D.take ki ++ (if p D[kj] = true then [] else [D[kj]])) := by
          show _ = _
          rw [List.take_succ_eq_append_getElem hkZ, List.filter_append, ← hT.out, ← hDZ]
          congr 1
          cases hq : p D[kj] <;> simp [hq]
        have hDd : D.drop (kj + 1) = Z.drop (kj + 1) := by
          have := congrArg (List.drop 1) hD.out
          simpa [List.drop_drop] using this
        have HDd : Hid (D.drop (kj + 1) = Z.drop (kj + 1)) := hDd
        have hshk : Shape D[kj].1 := by rw [hDZ]; exact HSH.out _ (List.getElem_mem hkZ)
        obtain ⟨dp, dn, da, nd, dc, sp, sl, sq, kd, tb, ky, cl, va, nv, vc, oa, no, oc, hcs⟩ := hshk
        rw [hcs] at CK hck
        have x0 := hck 0 (.int .i64 dp) rfl
        have x1 := hck 1 (.int .i64 dn) rfl
        have x2 := hck 2 (.slice da nd dc) rfl
        have x3 := hck 3 (.int .i64 sp) rfl
        have x4 := hck 4 (.int .i64 sl) rfl
        have x5 := hck 5 (.int .i64 sq) rfl
        have x6 := hck 6 (.int .i64 kd) rfl
        have x7 := hck 7 (.int .i64 tb) rfl
        have x8 := hck 8 (.string ky) rfl
        have x9 := hck 9 (.int .i64 cl) rfl
        have x10 := hck 10 (.slice va nv vc) rfl
        have x11 := hck 11 (.slice oa no oc) rfl
        simp only [Nat.zero_add, Nat.add_zero] at x0 x1 x2 x3 x4 x5 x6 x7 x8 x9 x10 x11
        have HCS : Hid (D[kj].1 = [.int .i64 dp, .int .i64 dn, .slice da nd dc, .int .i64 sp, .int .i64 sl, .int .i64 sq, .int .i64 kd, .int .i64 tb, .string ky, .int .i64 cl, .slice va nv vc, .slice oa no oc]) := hcs
        clear hc hck hcs h12 hDd hrd
        have kk0 : (0 : Int) ≤ (kj : Int) := by omega
        have kk1 : (kj : Int) < (n : Int) := by omega
        obtain ⟨q, hq⟩ : ∃ q, p D[kj] = q := ⟨_, rfl⟩
        rw [hq] at CK HS1
        clear hq hDZ
        have CK' := CK (wr.alloc (.cells #[.int .i64 dp, .int .i64 dn, .slice da nd dc, .int .i64 sp, .int .i64 sl, .int .i64 sq, .int .i64 kd, .int .i64 tb, .string ky, .int .i64 cl, .slice va nv vc, .slice oa no oc] 32)) (grown_below hG.out (alloc_below _ _))
        have HOa : Hid (OwnC (wr.alloc (.cells #[.int .i64 dp, .int .i64 dn, .slice da nd dc, .int .i64 sp, .int .i64 sl, .int .i64 sq, .int .i64 kd, .int .i64 tb, .string ky, .int .i64 cl, .slice va nv vc, .slice oa no oc] 32)) B (.slice (some ⟨r, 0, none⟩) n cap) (D.map (·.1))) := hO.out.later (alloc_below _ _)
        have HGa : Hid (w.grownBy (wr.alloc (.cells #[.int .i64 dp, .int .i64 dn, .slice da nd dc, .int .i64 sp, .int .i64 sl, .int .i64 sq, .int .i64 kd, .int .i64 tb, .string ky, .int .i64 cl, .slice va nv vc, .slice oa no oc] 32)) (some r)) := grown_below hG.out (alloc_below _ _)
        have HKa : Hid (CellsAt (wr.alloc (.cells #[.int .i64 dp, .int .i64 dn, .slice da nd dc, .int .i64 sp, .int .i64 sl, .int .i64 sq, .int .i64 kd, .int .i64 tb, .string ky, .int .i64 cl, .slice va nv vc, .slice oa no oc] 32)) wr.heap.size #[.int .i64 dp, .int .i64 dn, .slice da nd dc, .int .i64 sp, .int .i64 sl, .int .i64 sq, .int .i64 kd, .int .i64 tb, .string ky, .int .i64 cl, .slice va nv vc, .slice oa no oc] 32) := CellsAt.made rfl
        have HDm : Hid ((D.map (·.1)).length = n) := by show _ = _; rw [List.length_map]; exact hDn.out
        have HKI : Hid (ki < n) := by show _ < _; omega
        clear CK hO hG
        cases q with
        | true =>
          have HT' : Hid (D.take ki = (Z.take (kj + 1)).filter fun z => !p z) := by show _ = _; rw [HS1.out]; simp
          go_wp2_with fail
          refine CK'.mono ?_
          rintro e w' ⟨rfl, hb'⟩
          have HO' : Hid (OwnC w' B (.slice (some ⟨r, 0, none⟩) n cap) (D.map (·.1))) := HOa.out.later hb'
          have HG' : Hid (w.grownBy w' (some r)) := grown_below HGa.out hb'
          clear hb'
          go_wp2
          go_roundw
          case rel => exact ⟨ki, kj + 1, D, by omega, by omega, rfl, by go_num, hDn, HO', HT', HDd, HG'⟩
          case measure => simp [RowKit.intOf]; omega
        | false =>
          go_wp2_with fail
          refine CK'.mono ?_
          rintro e w' ⟨rfl, hb'⟩
          have HO' : Hid (OwnC w' B (.slice (some ⟨r, 0, none⟩) n cap) (D.map (·.1))) := HOa.out.later hb'
          have HG' : Hid (w.grownBy w' (some r)) := grown_below HGa.out hb'
          have HKb : Hid (CellsAt w' wr.heap.size #[.int .i64 dp, .int .i64 dn, .slice da nd dc, .int .i64 sp, .int .i64 sl, .int .i64 sq, .int .i64 kd, .int .i64 tb, .string ky, .int .i64 cl, .slice va nv vc, .slice oa no oc] 32) := HKa.out.later hb'
          obtain ⟨y0, y1, y2, y3, y4, y5, y6, y7, y8, y9, y10, y11⟩ := cells12 HKb.out
          obtain ⟨⟨z0, p0⟩, f0⟩ := HO'.out.slots HDm.out HKI.out 0 (by omega)
          obtain ⟨⟨z1, p1⟩, f1⟩ := HO'.out.slots HDm.out HKI.out 1 (by omega)
          obtain ⟨⟨z2, p2⟩, f2⟩ := HO'.out.slots HDm.out HKI.out 2 (by omega)
          obtain ⟨⟨z3, p3⟩, f3⟩ := HO'.out.slots HDm.out HKI.out 3 (by omega)
          obtain ⟨⟨z4, p4⟩, f4⟩ := HO'.out.slots HDm.out HKI.out 4 (by omega)
          obtain ⟨⟨z5, p5⟩, f5⟩ := HO'.out.slots HDm.out HKI.out 5 (by omega)
          obtain ⟨⟨z6, p6⟩, f6⟩ := HO'.out.slots HDm.out HKI.out 6 (by omega)
          obtain ⟨⟨z7, p7⟩, f7⟩ := HO'.out.slots HDm.out HKI.out 7 (by omega)
          obtain ⟨⟨z8, p8⟩, f8⟩ := HO'.out.slots HDm.out HKI.out 8 (by omega)
          obtain ⟨⟨z9, p9⟩, f9⟩ := HO'.out.slots HDm.out HKI.out 9 (by omega)
          obtain ⟨⟨z10, p10⟩, f10⟩ := HO'.out.slots HDm.out HKI.out 10 (by omega)
          obtain ⟨⟨z11, p11⟩, f11⟩ := HO'.out.slots HDm.out HKI.out 11 (by omega)
          rw [Nat.add_zero] at p0 f0
          have HO2 : Hid (OwnC ((((((((((((w'.setCell ⟨r, ki * 12, none⟩ (.int .i64 dp)).setCell ⟨r, ki * 12 + 1, none⟩ (.int .i64 dn)).setCell ⟨r, ki * 12 + 2, none⟩ (.slice da nd dc)).setCell ⟨r, ki * 12 + 3, none⟩ (.int .i64 sp)).setCell ⟨r, ki * 12 + 4, none⟩ (.int .i64 sl)).setCell ⟨r, ki * 12 + 5, none⟩ (.int .i64 sq)).setCell ⟨r, ki * 12 + 6, none⟩ (.int .i64 kd)).setCell ⟨r, ki * 12 + 7, none⟩ (.int .i64 tb)).setCell ⟨r, ki * 12 + 8, none⟩ (.string ky)).setCell ⟨r, ki * 12 + 9, none⟩ (.int .i64 cl)).setCell ⟨r, ki * 12 + 10, none⟩ (.slice va nv vc)).setCell ⟨r, ki * 12 + 11, none⟩ (.slice oa no oc)) B (.slice (some ⟨r, 0, none⟩) n cap) ((D.set ki D[kj]).map (·.1))) := by
            have := HO'.out.put (c := [.int .i64 dp, .int .i64 dn, .slice da nd dc, .int .i64 sp, .int .i64 sl, .int .i64 sq, .int .i64 kd, .int .i64 tb, .string ky, .int .i64 cl, .slice va nv vc, .slice oa no oc]) ⟨rfl, shape_one⟩ ki (by rw [HDm.out]; exact HKI.out)
            show OwnC _ _ _ _
            rw [List.map_set, HCS.out]
            exact this
          have HG2 : Hid (w.grownBy ((((((((((((w'.setCell ⟨r, ki * 12, none⟩ (.int .i64 dp)).setCell ⟨r, ki * 12 + 1, none⟩ (.int .i64 dn)).setCell ⟨r, ki * 12 + 2, none⟩ (.slice da nd dc)).setCell ⟨r, ki * 12 + 3, none⟩ (.int .i64 sp)).setCell ⟨r, ki * 12 + 4, none⟩ (.int .i64 sl)).setCell ⟨r, ki * 12 + 5, none⟩ (.int .i64 sq)).setCell ⟨r, ki * 12 + 6, none⟩ (.int .i64 kd)).setCell ⟨r, ki * 12 + 7, none⟩ (.int .i64 tb)).setCell ⟨r, ki * 12 + 8, none⟩ (.string ky)).setCell ⟨r, ki * 12 + 9, none⟩ (.int .i64 cl)).setCell ⟨r, ki * 12 + 10, none⟩ (.slice va nv vc)).setCell ⟨r, ki * 12 + 11, none⟩ (.slice oa no oc)) (some r)) := grown_trans HG'.out (setCells_grown w' r [.int .i64 dp, .int .i64 dn, .slice da nd dc, .int .i64 sp, .int .i64 sl, .int .i64 sq, .int .i64 kd, .int .i64 tb, .string ky, .int .i64 cl, .slice va nv vc, .slice oa no oc] (ki * 12))
          have HT' : Hid ((D.set ki D[kj]).take (ki + 1) = (Z.take (kj + 1)).filter fun z => !p z) := by show _ = _; rw [HS1.out, take_set_of_lt (by omega)]; simp
          have HD' : Hid ((D.set ki D[kj]).drop (kj + 1) = Z.drop (kj + 1)) := by show _ = _; rw [List.drop_set_of_lt (by omega)]; exact HDd.out
          have HDn' : Hid ((D.set ki D[kj]).length = n) := by show _ = _; rw [List.length_set]; exact hDn.out
          have kki0 : (0 : Int) ≤ (ki : Int) := by omega
          have kki1 : (ki : Int) < (n : Int) := by omega
          clear hb' HKb HO' HG' HOa HGa HKa
          go_wp2
          go_roundw
          case rel => exact ⟨ki + 1, kj + 1, _, by omega, by omega, by go_num, by go_num, HDn', HO2, HT', HD', HG2⟩
          case measure => simp [RowKit.intOf]; omega
      · obtain rfl : kj = n := by omega
        have HFk : Hid (D.take ki = F) := by
          show _ = _
          rw [hT.out, HF.out, List.take_of_length_le (by rw [HN.out]; omega)]
        have HL : Hid (F.length = ki) := by show _ = _; rw [← HFk.out, List.length_take, hDn.out]; omega
        have HDm : (D.map (·.1)).length = kj := by rw [List.length_map]; exact hDn.out
        have hcl : ∀ ty, (Builtin.clear_ #[22] ty #[.slice (some ⟨r, ki * 12, none⟩) (kj - ki) (cap - ki)]).run Try.prog wr = .ok (.tuple #[]) (wr.setCells r (ki * 12) (List.replicate (kj - ki) noC).flatten) := fun ty =>
          run_clear_ops wr ty r (ki * 12) (kj - ki) (cap - ki) (by omega) (fun t ht => by
            obtain ⟨⟨u, hu⟩, _⟩ := hO.out.slots HDm (k := ki + t / 12) (by omega) (t % 12) (by omega)
            rw [show ki * 12 + t = (ki + t / 12) * 12 + t % 12 by omega, hu]
            rfl) (fun t => by have h := hO.out.2; rw [HDm] at h; exact World.ownsRow.frozenAt h _)
        have HR : Hid (OwnC (wr.setCells r (ki * 12) (List.replicate (kj - ki) noC).flatten) B (.slice (some ⟨r, 0, none⟩) ki cap) (F.map (·.1))) := by
          have := hO.out.cut HDm (k := ki) (by omega) (List.replicate (kj - ki) noC).flatten
          rw [← List.map_take, HFk.out] at this
          exact this
        have HG' : Hid (w.grownBy (wr.setCells r (ki * 12) (List.replicate (kj - ki) noC).flatten) (some r)) := grown_trans hG.out (setCells_grown wr r _ _)
        have kki0 : (0 : Int) ≤ (ki : Int) := by omega
        have kki1 : (ki : Int) ≤ (kj : Int) := by omega
        have kki2 : ki ≤ cap := by omega
        have kki3 : (cap = ki) = False := by simp; omega
        clear hO hG HDm
        go_wp2
        go_ret
        exact ⟨by rw [HL.out]; rfl, by rw [HL.out]; exact HR.out, HG'.out⟩

end Go.Proofs.Ytjddkodcbpnilaa

namespace Go.Proofs.Ytjddkodcbpnilaa
open Go.RowKit Go.Lib
set_option linter.unusedVariables false

set_option maxHeartbeats 1000000 in
theorem cloneI_any (a : Option Addr) (n cap : Nat) (N : List Int) (w : World) (hn : N.length = n) (h : n ≤ 65536) (hnil : a = none → N = [] ∧ cap = 0) (hr : RdI .i64 w a N) :
    Calls Try.prog 28 #[.slice a n cap] w fun e w' => ∃ a' cap', e = .returned (.slice a' n cap') ∧ n ≤ cap' ∧ OwnI w' w.heap.size (.slice a' n cap') N ∧ (a' = none → N = [] ∧ cap' = 0) ∧ Below w.heap.size w w' := by
  have q := fun (w : World) (a : Option Addr) (n c n' c' : Nat) => Lib.run_eql_slice_nil (P := Try.prog) w 26 3 a n c n' c' Try.underlying26
  cases a with
  | none =>
    obtain ⟨rfl, rfl⟩ := hnil rfl
    simp only [List.length_nil] at hn
    subst hn
    clear hr hnil h
    go_enter Try.func28, Try.ntmps28
    go_wp2
    go_ret
    exact ⟨none, 0, rfl, Nat.le_refl _, OwnI.nought _ _, by simp, Below.refl _ _⟩
  | some ad =>
    have hO : OwnI (w.alloc (.cells #[] 3)) w.heap.size (.slice (some ⟨w.heap.size, 0, none⟩) 0 0) [] := World.ownsRow_made w #[] 0 (Nat.le_refl _) (by unfold maxLen; omega) rfl
    obtain ⟨a', cap', w', hrun, hc, ho, hrd, hnl, _, hb⟩ := run_append_ints (ty := 26) (cap := cap) hO (n := 0) rfl hn (hr.later (alloc_below w _)) (fun h => by cases h) (by omega) h (by simp)
    rw [Nat.zero_add, List.nil_append] at *
    have HO : Hid (OwnI w' w.heap.size (.slice a' n cap') N) := ho
    have HB : Hid (Below w.heap.size w w') := (alloc_below w _).trans hb
    have HNL : Hid (a' = none → N = [] ∧ cap' = 0) := hnl
    clear hn hr hO ho hrd hnl hb hnil
    go_enter Try.func28, Try.ntmps28
    go_wp2_with (at_builtin; refine wpList_append_run rfl _ _ 26 26 rfl _ _ _ _ rfl rfl hrun ?_)
    go_ret
    exact ⟨a', cap', rfl, hc, HO.out, HNL.out, HB.out⟩

set_option maxHeartbeats 1000000 in
theorem cloneV_any (a : Option Addr) (n cap : Nat) (N : List PV) (w : World) (hn : N.length = n) (h : n ≤ 65536) (hnil : a = none → N = [] ∧ cap = 0) (hr : RdV w a N) :
    Calls Try.prog 34 #[.slice a n cap] w fun e w' => ∃ a' cap', e = .returned (.slice a' n cap') ∧ n ≤ cap' ∧ OwnV w' w.heap.size (.slice a' n cap') N ∧ (a' = none → N = [] ∧ cap' = 0) ∧ Below w.heap.size w w' := by
  have q := fun (w : World) (a : Option Addr) (n c n' c' : Nat) => Lib.run_eql_slice_nil (P := Try.prog) w 29 64 a n c n' c' Try.underlying29
  cases a with
  | none =>
    obtain ⟨rfl, rfl⟩ := hnil rfl
    simp only [List.length_nil] at hn
    subst hn
    clear hr hnil h
    go_enter Try.func34, Try.ntmps34
    go_wp2
    go_ret
    exact ⟨none, 0, rfl, Nat.le_refl _, OwnV.nought _ _, by simp, Below.refl _ _⟩
  | some ad =>
    have hO : OwnV (w.alloc (.cells #[] 64)) w.heap.size (.slice (some ⟨w.heap.size, 0, none⟩) 0 0) [] := World.ownsRow_made w #[] 0 (Nat.le_refl _) (by unfold maxLen; omega) rfl
    obtain ⟨a', cap', w', hrun, hc, ho, hrd, hnl, _, hb⟩ := run_append_vals (ty := 29) (cap := cap) hO (n := 0) rfl hn (hr.later (alloc_below w _)) (fun h => by cases h) (by omega) h (by simp)
    rw [Nat.zero_add, List.nil_append] at *
    have HO : Hid (OwnV w' w.heap.size (.slice a' n cap') N) := ho
    have HB : Hid (Below w.heap.size w w') := (alloc_below w _).trans hb
    have HNL : Hid (a' = none → N = [] ∧ cap' = 0) := hnl
    clear hn hr hO ho hrd hnl hb hnil
    go_enter Try.func34, Try.ntmps34
    go_wp2_with (at_builtin; refine wpList_append_run rfl _ _ 29 29 rfl _ _ _ _ rfl rfl hrun ?_)
    go_ret
    exact ⟨a', cap', rfl, hc, HO.out, HNL.out, HB.out⟩

set_option maxHeartbeats 1000000 in
theorem cloneD_any (a : Option Addr) (n cap : Nat) (N : List (Int × Int)) (w : World) (hn : N.length = n) (h : n ≤ 65536) (hnil : a = none → N = [] ∧ cap = 0) (hr : RdD w a N) :
    Calls Try.prog 35 #[.slice a n cap] w fun e w' => ∃ a' cap', e = .returned (.slice a' n cap') ∧ n ≤ cap' ∧ OwnD w' w.heap.size (.slice a' n cap') N ∧ (a' = none → N = [] ∧ cap' = 0) ∧ Below w.heap.size w w' := by
  have q := fun (w : World) (a : Option Addr) (n c n' c' : Nat) => Lib.run_eql_slice_nil (P := Try.prog) w 30 25 a n c n' c' Try.underlying30
  cases a with
  | none =>
    obtain ⟨rfl, rfl⟩ := hnil rfl
    simp only [List.length_nil] at hn
    subst hn
    clear hr hnil h
    go_enter Try.func35, Try.ntmps35
    go_wp2
    go_ret
    exact ⟨none, 0, rfl, Nat.le_refl _, World.ownsRow_nil _ _ _ _, by simp, Below.refl _ _⟩
  | some ad =>
    have hO : OwnD (w.alloc (.cells #[] 25)) w.heap.size (.slice (some ⟨w.heap.size, 0, none⟩) 0 0) [] := World.ownsRow_made w #[] 0 (Nat.le_refl _) (by unfold maxLen; omega) rfl
    obtain ⟨a', cap', w', hrun, hc, ho, hrd, hnl, _, hb⟩ := run_append_dots (ty := 30) (cap := cap) hO (n := 0) rfl hn (hr.later (alloc_below w _)) (fun h => by cases h) (by omega) h (by simp)
    rw [Nat.zero_add, List.nil_append] at *
    have HO : Hid (OwnD w' w.heap.size (.slice a' n cap') N) := ho
    have HB : Hid (Below w.heap.size w w') := (alloc_below w _).trans hb
    have HNL : Hid (a' = none → N = [] ∧ cap' = 0) := hnl
    clear hn hr hO ho hrd hnl hb hnil
    go_enter Try.func35, Try.ntmps35
    go_wp2_with (at_builtin; refine wpList_append_run rfl _ _ 30 30 rfl _ _ _ _ rfl rfl hrun ?_)
    go_ret
    exact ⟨a', cap', rfl, hc, HO.out, HNL.out, HB.out⟩

end Go.Proofs.Ytjddkodcbpnilaa

namespace Go.Proofs.Ytjddkodcbpnilaa
open Go.RowKit Go.Lib
set_option linter.unusedVariables false

theorem own_base {w : World} {B C t k n : Nat} {v : Value} {xs : List Value} (h : w.ownsRow B t k v n xs) (hb : C ≤ B) : w.ownsRow C t k v n xs := by
  refine ⟨h.1, ?_⟩
  rcases h.2 with h0 | ⟨g, cap, cur, hv, hg, rest⟩
  · exact .inl h0
  · exact .inr ⟨g, cap, cur, hv, Nat.le_trans hb hg, rest⟩

theorem own_far {w : World} {B t k n m cap : Nat} {a : Option Addr} {xs : List Value} (h : w.ownsRow B t k (.slice a m cap) n xs) : ∀ b o s, a = some ⟨b, o, s⟩ → B ≤ b := by
  intro b o s e
  subst e
  exact (World.ownsRow.lt h b rfl).1

/-- An operation's lists lie from block B on. -/
structure FarO (B : Nat) (da va oa : Option Addr) : Prop where
  d : ∀ b o s, da = some ⟨b, o, s⟩ → B ≤ b
  v : ∀ b o s, va = some ⟨b, o, s⟩ → B ≤ b
  o : ∀ b o s, oa = some ⟨b, o, s⟩ → B ≤ b

theorem lies_of {w : World} {B : Nat} {x : PO} {a1 a2 a3 : Option Addr} {c1 c2 c3 : Nat} (h1 : OwnI w B (.slice a1 x.deps.length c1) x.deps) (h2 : OwnV w B (.slice a2 x.vals.length c2) x.vals) (h3 : OwnD w B (.slice a3 x.dots.length c3) x.dots)
    (l1 : x.deps.length ≤ 65536) (l2 : x.vals.length ≤ 65536) (l3 : x.dots.length ≤ 65536) (hk : x.key.size ≤ 9223372036854775807)
    (e1 : x.deps.length ≤ c1 ∧ (a1 = none → x.deps = [] ∧ c1 = 0)) (e2 : x.vals.length ≤ c2 ∧ (a2 = none → x.vals = [] ∧ c2 = 0)) (e3 : x.dots.length ≤ c3 ∧ (a3 = none → x.dots = [] ∧ c3 = 0)) :
    LiesO w x a1 a2 a3 c1 c2 c3 ∧ FarO B a1 a2 a3 := by
  obtain ⟨_, _, f1, _, r1, _⟩ := h1.form
  obtain ⟨_, _, f2, _, r2, _⟩ := h2.form
  obtain ⟨_, _, f3, _, r3, _⟩ := h3.form
  cases f1
  cases f2
  cases f3
  exact ⟨⟨r1, r2, r3, l1, l2, l3, e1.1, e2.1, e3.1, e1.2, e2.2, e3.2, hk⟩, ⟨own_far h1, own_far h2, own_far h3⟩⟩

set_option maxRecDepth 100000 in
set_option maxHeartbeats 4000000 in
theorem opClone_any (x : PO) (da va oa : Option Addr) (dc vc oc : Nat) (w : World) (h : LiesO w x da va oa dc vc oc) :
    Calls Try.prog 20 #[.agg (cellsO x da va oa dc vc oc)] w fun e w' => ∃ da' va' oa' dc' vc' oc', e = .returned (.agg (cellsO x da' va' oa' dc' vc' oc')) ∧ LiesO w' x da' va' oa' dc' vc' oc' ∧ FarO (w.heap.size + 2) da' va' oa' ∧ Below w.heap.size w w' := by
  have C1 := fun V (hb : Below w.heap.size w V) => cloneI_any da x.deps.length dc x.deps V rfl h.ld h.nd (h.deps.later hb)
  have C2 := fun V (hb : Below w.heap.size w V) => cloneV_any va x.vals.length vc x.vals V rfl h.lv h.nv (h.vals.later hb)
  have C3 := fun V (hb : Below w.heap.size w V) => cloneD_any oa x.dots.length oc x.dots V rfl h.lo h.no (h.dots.later hb)
  have HLF := fun (V : World) (a1 a2 a3 : Option Addr) (c1 c2 c3 : Nat) (h1 : OwnI V (w.heap.size + 2) (.slice a1 x.deps.length c1) x.deps) (h2 : OwnV V (w.heap.size + 2) (.slice a2 x.vals.length c2) x.vals) (h3 : OwnD V (w.heap.size + 2) (.slice a3 x.dots.length c3) x.dots) => lies_of h1 h2 h3 h.ld h.lv h.lo h.key
  have HLX : Hid (∀ (V : World) (a1 a2 a3 : Option Addr) (c1 c2 c3 : Nat) (h1 : OwnI V (w.heap.size + 2) (.slice a1 x.deps.length c1) x.deps) (h2 : OwnV V (w.heap.size + 2) (.slice a2 x.vals.length c2) x.vals) (h3 : OwnD V (w.heap.size + 2) (.slice a3 x.dots.length c3) x.dots), _) := HLF
  clear HLF h
  obtain ⟨dp, dn, deps, sp, sl, sq, kind, table, key, col, vals, dots⟩ := x
  simp only [cellsO] at *
  generalize deps.length = m at *
  generalize vals.length = nv at *
  generalize dots.length = no at *
  have HB : Hid (Below w.heap.size w (((w.alloc (.cells #[.int .i64 dp, .int .i64 dn, .slice da m dc, .int .i64 sp, .int .i64 sl, .int .i64 sq, .int .i64 kind, .int .i64 table, .string key, .int .i64 col, .slice va nv vc, .slice oa no oc] 32)).alloc (.cells #[.int .i64 0, .int .i64 0, .slice none 0 0, .int .i64 0, .int .i64 0, .int .i64 0, .int .i64 0, .int .i64 0, .string ⟨#[]⟩, .int .i64 0, .slice none 0 0, .slice none 0 0] 32)).drew)) := chain (alloc_below _ _) (chain (alloc_below _ _) (Below.refl _ _).drew)
  have HK : Hid (CellsAt (((w.alloc (.cells #[.int .i64 dp, .int .i64 dn, .slice da m dc, .int .i64 sp, .int .i64 sl, .int .i64 sq, .int .i64 kind, .int .i64 table, .string key, .int .i64 col, .slice va nv vc, .slice oa no oc] 32)).alloc (.cells #[.int .i64 0, .int .i64 0, .slice none 0 0, .int .i64 0, .int .i64 0, .int .i64 0, .int .i64 0, .int .i64 0, .string ⟨#[]⟩, .int .i64 0, .slice none 0 0, .slice none 0 0] 32)).drew) w.heap.size #[.int .i64 dp, .int .i64 dn, .slice da m dc, .int .i64 sp, .int .i64 sl, .int .i64 sq, .int .i64 kind, .int .i64 table, .string key, .int .i64 col, .slice va nv vc, .slice oa no oc] 32) := (CellsAt.made rfl).later (chain (alloc_below _ _) (Below.refl _ _).drew)
  have HZ : Hid (CellsAt (((w.alloc (.cells #[.int .i64 dp, .int .i64 dn, .slice da m dc, .int .i64 sp, .int .i64 sl, .int .i64 sq, .int .i64 kind, .int .i64 table, .string key, .int .i64 col, .slice va nv vc, .slice oa no oc] 32)).alloc (.cells #[.int .i64 0, .int .i64 0, .slice none 0 0, .int .i64 0, .int .i64 0, .int .i64 0, .int .i64 0, .int .i64 0, .string ⟨#[]⟩, .int .i64 0, .slice none 0 0, .slice none 0 0] 32)).drew) (w.heap.size + 1) #[.int .i64 0, .int .i64 0, .slice none 0 0, .int .i64 0, .int .i64 0, .int .i64 0, .int .i64 0, .int .i64 0, .string ⟨#[]⟩, .int .i64 0, .slice none 0 0, .slice none 0 0] 32) := (CellsAt.made (by simp)).later (Below.refl _ _).drew
  have HL : Hid (w.heap.size + 2 ≤ (((w.alloc (.cells #[.int .i64 dp, .int .i64 dn, .slice da m dc, .int .i64 sp, .int .i64 sl, .int .i64 sq, .int .i64 kind, .int .i64 table, .string key, .int .i64 col, .slice va nv vc, .slice oa no oc] 32)).alloc (.cells #[.int .i64 0, .int .i64 0, .slice none 0 0, .int .i64 0, .int .i64 0, .int .i64 0, .int .i64 0, .int .i64 0, .string ⟨#[]⟩, .int .i64 0, .slice none 0 0, .slice none 0 0] 32)).drew).heap.size) := by show _ ≤ _; simp [World.drew]
  go_enter Try.func20, Try.ntmps20
  go_wp2_with fail
  refine region_S (S := (fun w' => w'.cell? ⟨w.heap.size, 2, none⟩ = some (.slice da m dc) ∧ w'.cell? ⟨w.heap.size, 10, none⟩ = some (.slice va nv vc) ∧ w'.cell? ⟨w.heap.size, 11, none⟩ = some (.slice oa no oc))) 10 (by kernel_rfl) (by obtain ⟨k0, k1, k2, k3, k4, k5, k6, k7, k8, k9, k10, k11⟩ := cells12 HK.out; exact ⟨k2, k10, k11⟩) (fun hHeld => ?_)
  generalize ((w.alloc (.cells #[.int .i64 dp, .int .i64 dn, .slice da m dc, .int .i64 sp, .int .i64 sl, .int .i64 sq, .int .i64 kind, .int .i64 table, .string key, .int .i64 col, .slice va nv vc, .slice oa no oc] 32)).alloc (.cells #[.int .i64 0, .int .i64 0, .slice none 0 0, .int .i64 0, .int .i64 0, .int .i64 0, .int .i64 0, .int .i64 0, .string ⟨#[]⟩, .int .i64 0, .slice none 0 0, .slice none 0 0] 32)).drew = wq0 at *
  refine sPure (v := ?_) 0 3 rfl rfl (by kernel_rfl) (by kernel_rfl) (by kernel_rfl) (by decide) (fun _ _ _ h => h) (by rfl) (fun w => ?_) (.inr (by assumption)) ?_
  rotate_left
  · first | (go_simp; done) | (go_simp; with_reducible rfl)
  simp only [List.setIfInBounds_toArray, List.set_cons_zero, List.set_cons_succ]
  refine sTake (v := ?_) 1 4 rfl rfl (by kernel_rfl) (by kernel_rfl) (by kernel_rfl) (by kernel_rfl) (by kernel_rfl) (fun _ _ _ h => h) (by rfl) (fun w hSw => ?_) (by assumption) ?_
  rotate_left
  · (try dsimp only at hSw); first | (go_simp; done) | (go_simp; with_reducible rfl)
  simp only [List.setIfInBounds_toArray, List.set_cons_zero, List.set_cons_succ]
  refine sPure (v := ?_) 3 6 rfl rfl (by kernel_rfl) (by kernel_rfl) (by kernel_rfl) (by decide) (fun _ _ _ h => h) (by rfl) (fun w => ?_) (.inr (by assumption)) ?_
  rotate_left
  · first | (go_simp; done) | (go_simp; with_reducible rfl)
  simp only [List.setIfInBounds_toArray, List.set_cons_zero, List.set_cons_succ]
  refine sTake (v := ?_) 4 7 rfl rfl (by kernel_rfl) (by kernel_rfl) (by kernel_rfl) (by kernel_rfl) (by kernel_rfl) (fun _ _ _ h => h) (by rfl) (fun w hSw => ?_) (by assumption) ?_
  rotate_left
  · (try dsimp only at hSw); first | (go_simp; done) | (go_simp; with_reducible rfl)
  simp only [List.setIfInBounds_toArray, List.set_cons_zero, List.set_cons_succ]
  refine sPure (v := ?_) 6 9 rfl rfl (by kernel_rfl) (by kernel_rfl) (by kernel_rfl) (by decide) (fun _ _ _ h => h) (by rfl) (fun w => ?_) (.inr (by assumption)) ?_
  rotate_left
  · first | (go_simp; done) | (go_simp; with_reducible rfl)
  simp only [List.setIfInBounds_toArray, List.set_cons_zero, List.set_cons_succ]
  refine sTake (v := ?_) 7 10 rfl rfl (by kernel_rfl) (by kernel_rfl) (by kernel_rfl) (by kernel_rfl) (by kernel_rfl) (fun _ _ _ h => h) (by rfl) (fun w hSw => ?_) (by assumption) ?_
  rotate_left
  · (try dsimp only at hSw); first | (go_simp; done) | (go_simp; with_reducible rfl)
  simp only [List.setIfInBounds_toArray, List.set_cons_zero, List.set_cons_succ]
  refine sOne 2 rfl (by kernel_rfl) (by rfl) (fun K2 hK => ?_)
  go_simp
  refine (C1 _ HB.out).mono ?_
  rintro e wq1 ⟨a1, c1, rfl, hc1, ho1, hn1, hb⟩
  have HO1 : Hid (OwnI wq1 (w.heap.size + 2) (.slice a1 m c1) deps) := (own_base ho1 HL.out : OwnI wq1 (w.heap.size + 2) (.slice a1 m c1) deps)
  have HE1 : Hid (_ ∧ _) := ⟨hc1, hn1⟩
  clear ho1 hc1 hn1
  replace HB := (show Hid (Below w.heap.size w wq1) from chain HB.out hb)
  replace HK := (show Hid (CellsAt wq1 w.heap.size #[.int .i64 dp, .int .i64 dn, .slice da m dc, .int .i64 sp, .int .i64 sl, .int .i64 sq, .int .i64 kind, .int .i64 table, .string key, .int .i64 col, .slice va nv vc, .slice oa no oc] 32) from HK.out.later hb)
  replace HZ := (show Hid (CellsAt wq1 (w.heap.size + 1) #[.int .i64 0, .int .i64 0, .slice none 0 0, .int .i64 0, .int .i64 0, .int .i64 0, .int .i64 0, .int .i64 0, .string ⟨#[]⟩, .int .i64 0, .slice none 0 0, .slice none 0 0] 32) from HZ.out.later hb)
  replace HL := (show Hid (w.heap.size + 2 ≤ wq1.heap.size) from Nat.le_trans HL.out hb.size)
  clear hb
  simp only []
  refine hK.out _ _ ?_ (fun hHeld => ?_)
  · exact .inr ((by obtain ⟨k0, k1, k2, k3, k4, k5, k6, k7, k8, k9, k10, k11⟩ := cells12 HK.out; exact ⟨k2, k10, k11⟩))
  clear hK K2
  replace hHeld := hHeld.resolve_left (by decide)
  try simp only [List.setIfInBounds_toArray, List.set_cons_zero, List.set_cons_succ]
  refine sPure (v := ?_) 9 12 rfl rfl (by kernel_rfl) (by kernel_rfl) (by kernel_rfl) (by decide) (fun _ _ _ h => h) (by rfl) (fun w => ?_) (.inr (by assumption)) ?_
  rotate_left
  · first | (go_simp; done) | (go_simp; with_reducible rfl)
  simp only [List.setIfInBounds_toArray, List.set_cons_zero, List.set_cons_succ]
  refine sOne 5 rfl (by kernel_rfl) (by rfl) (fun K2 hK => ?_)
  go_simp
  refine (C2 _ HB.out).mono ?_
  rintro e wq2 ⟨a2, c2, rfl, hc2, ho2, hn2, hb⟩
  have HO2 : Hid (OwnV wq2 (w.heap.size + 2) (.slice a2 nv c2) vals) := (own_base ho2 HL.out : OwnV wq2 (w.heap.size + 2) (.slice a2 nv c2) vals)
  have HE2 : Hid (_ ∧ _) := ⟨hc2, hn2⟩
  clear ho2 hc2 hn2
  replace HB := (show Hid (Below w.heap.size w wq2) from chain HB.out hb)
  replace HK := (show Hid (CellsAt wq2 w.heap.size #[.int .i64 dp, .int .i64 dn, .slice da m dc, .int .i64 sp, .int .i64 sl, .int .i64 sq, .int .i64 kind, .int .i64 table, .string key, .int .i64 col, .slice va nv vc, .slice oa no oc] 32) from HK.out.later hb)
  replace HZ := (show Hid (CellsAt wq2 (w.heap.size + 1) #[.int .i64 0, .int .i64 0, .slice none 0 0, .int .i64 0, .int .i64 0, .int .i64 0, .int .i64 0, .int .i64 0, .string ⟨#[]⟩, .int .i64 0, .slice none 0 0, .slice none 0 0] 32) from HZ.out.later hb)
  replace HL := (show Hid (w.heap.size + 2 ≤ wq2.heap.size) from Nat.le_trans HL.out hb.size)
  replace HO1 : Hid (OwnI wq2 (w.heap.size + 2) (.slice a1 m c1) deps) := HO1.out.aside (Aside.of_below hb : Aside w.heap.size wq1 _) (by omega)
  clear hb
  simp only []
  refine hK.out _ _ ?_ (fun hHeld => ?_)
  · exact .inr ((by obtain ⟨k0, k1, k2, k3, k4, k5, k6, k7, k8, k9, k10, k11⟩ := cells12 HK.out; exact ⟨k2, k10, k11⟩))
  clear hK K2
  replace hHeld := hHeld.resolve_left (by decide)
  try simp only [List.setIfInBounds_toArray, List.set_cons_zero, List.set_cons_succ]
  refine sOne 8 rfl (by kernel_rfl) (by rfl) (fun K2 hK => ?_)
  go_simp
  refine (C3 _ HB.out).mono ?_
  rintro e wq3 ⟨a3, c3, rfl, hc3, ho3, hn3, hb⟩
  have HO3 : Hid (OwnD wq3 (w.heap.size + 2) (.slice a3 no c3) dots) := (own_base ho3 HL.out : OwnD wq3 (w.heap.size + 2) (.slice a3 no c3) dots)
  have HE3 : Hid (_ ∧ _) := ⟨hc3, hn3⟩
  clear ho3 hc3 hn3
  replace HB := (show Hid (Below w.heap.size w wq3) from chain HB.out hb)
  replace HK := (show Hid (CellsAt wq3 w.heap.size #[.int .i64 dp, .int .i64 dn, .slice da m dc, .int .i64 sp, .int .i64 sl, .int .i64 sq, .int .i64 kind, .int .i64 table, .string key, .int .i64 col, .slice va nv vc, .slice oa no oc] 32) from HK.out.later hb)
  replace HZ := (show Hid (CellsAt wq3 (w.heap.size + 1) #[.int .i64 0, .int .i64 0, .slice none 0 0, .int .i64 0, .int .i64 0, .int .i64 0, .int .i64 0, .int .i64 0, .string ⟨#[]⟩, .int .i64 0, .slice none 0 0, .slice none 0 0] 32) from HZ.out.later hb)
  replace HL := (show Hid (w.heap.size + 2 ≤ wq3.heap.size) from Nat.le_trans HL.out hb.size)
  replace HO1 : Hid (OwnI wq3 (w.heap.size + 2) (.slice a1 m c1) deps) := HO1.out.aside (Aside.of_below hb : Aside w.heap.size wq2 _) (by omega)
  replace HO2 : Hid (OwnV wq3 (w.heap.size + 2) (.slice a2 nv c2) vals) := HO2.out.aside (Aside.of_below hb : Aside w.heap.size wq2 _) (by omega)
  clear hb
  simp only []
  refine hK.out _ _ ?_ (fun hHeld => ?_)
  · exact .inr ((by obtain ⟨k0, k1, k2, k3, k4, k5, k6, k7, k8, k9, k10, k11⟩ := cells12 HK.out; exact ⟨k2, k10, k11⟩))
  clear hK K2
  replace hHeld := hHeld.resolve_left (by decide)
  try simp only [List.setIfInBounds_toArray, List.set_cons_zero, List.set_cons_succ]
  refine sOne 10 rfl (by kernel_rfl) (by rfl) (fun K2 hK => ?_)
  obtain ⟨k0, k1, k2, k3, k4, k5, k6, k7, k8, k9, k10, k11⟩ := cells12 HK.out
  have fr := HK.out.free 2
  go_simp
  clear k0 k1 k2 k3 k4 k5 k6 k7 k8 k9 k10 k11 fr
  obtain ⟨wq4, hwq⟩ : ∃ x, x = World.setCell wq3 ⟨w.heap.size, 2, none⟩ (.slice a1 m c1) := ⟨_, rfl⟩
  rw [← hwq]
  have ha : Aside w.heap.size wq3 wq4 := by rw [hwq]; exact (Aside.refl _ wq3).setCell (p := ⟨w.heap.size, 2, none⟩) (fun k => k.1 rfl) _
  replace HK := (show Hid (CellsAt wq4 w.heap.size #[.int .i64 dp, .int .i64 dn, .slice a1 m c1, .int .i64 sp, .int .i64 sl, .int .i64 sq, .int .i64 kind, .int .i64 table, .string key, .int .i64 col, .slice va nv vc, .slice oa no oc] 32) from by rw [hwq]; exact HK.out.set 2 _)
  replace HZ := (show Hid (CellsAt wq4 (w.heap.size + 1) #[.int .i64 0, .int .i64 0, .slice none 0 0, .int .i64 0, .int .i64 0, .int .i64 0, .int .i64 0, .int .i64 0, .string ⟨#[]⟩, .int .i64 0, .slice none 0 0, .slice none 0 0] 32) from HZ.out.aside ha (by omega))
  replace HL := (show Hid (w.heap.size + 2 ≤ wq4.heap.size) from Nat.le_trans HL.out ha.size)
  replace HB := (show Hid (Below w.heap.size w wq4) from ha.below_from HB.out (Nat.le_refl _))
  replace HO1 : Hid (OwnI wq4 (w.heap.size + 2) (.slice a1 m c1) deps) := HO1.out.aside ha (by omega)
  replace HO2 : Hid (OwnV wq4 (w.heap.size + 2) (.slice a2 nv c2) vals) := HO2.out.aside ha (by omega)
  replace HO3 : Hid (OwnD wq4 (w.heap.size + 2) (.slice a3 no c3) dots) := HO3.out.aside ha (by omega)
  clear hwq ha
  refine hK.out _ _ ?_ (fun hHeld => ?_)
  · exact .inl (by rfl)
  clear hK K2 hHeld
  try simp only [List.setIfInBounds_toArray, List.set_cons_zero, List.set_cons_succ]
  refine sPure (v := ?_) 11 13 rfl rfl (by kernel_rfl) (by kernel_rfl) (by kernel_rfl) (by decide) (fun _ _ _ h => h) (by rfl) (fun w => ?_) (.inl (by rfl)) ?_
  rotate_left
  · first | (go_simp; done) | (go_simp; with_reducible rfl)
  simp only [List.setIfInBounds_toArray, List.set_cons_zero, List.set_cons_succ]
  refine sOne 12 rfl (by kernel_rfl) (by rfl) (fun K2 hK => ?_)
  obtain ⟨k0, k1, k2, k3, k4, k5, k6, k7, k8, k9, k10, k11⟩ := cells12 HK.out
  have fr := HK.out.free 10
  go_simp
  clear k0 k1 k2 k3 k4 k5 k6 k7 k8 k9 k10 k11 fr
  obtain ⟨wq5, hwq⟩ : ∃ x, x = World.setCell wq4 ⟨w.heap.size, 10, none⟩ (.slice a2 nv c2) := ⟨_, rfl⟩
  rw [← hwq]
  have ha : Aside w.heap.size wq4 wq5 := by rw [hwq]; exact (Aside.refl _ wq4).setCell (p := ⟨w.heap.size, 10, none⟩) (fun k => k.1 rfl) _
  replace HK := (show Hid (CellsAt wq5 w.heap.size #[.int .i64 dp, .int .i64 dn, .slice a1 m c1, .int .i64 sp, .int .i64 sl, .int .i64 sq, .int .i64 kind, .int .i64 table, .string key, .int .i64 col, .slice a2 nv c2, .slice oa no oc] 32) from by rw [hwq]; exact HK.out.set 10 _)
  replace HZ := (show Hid (CellsAt wq5 (w.heap.size + 1) #[.int .i64 0, .int .i64 0, .slice none 0 0, .int .i64 0, .int .i64 0, .int .i64 0, .int .i64 0, .int .i64 0, .string ⟨#[]⟩, .int .i64 0, .slice none 0 0, .slice none 0 0] 32) from HZ.out.aside ha (by omega))
  replace HL := (show Hid (w.heap.size + 2 ≤ wq5.heap.size) from Nat.le_trans HL.out ha.size)
  replace HB := (show Hid (Below w.heap.size w wq5) from ha.below_from HB.out (Nat.le_refl _))
  replace HO1 : Hid (OwnI wq5 (w.heap.size + 2) (.slice a1 m c1) deps) := HO1.out.aside ha (by omega)
  replace HO2 : Hid (OwnV wq5 (w.heap.size + 2) (.slice a2 nv c2) vals) := HO2.out.aside ha (by omega)
  replace HO3 : Hid (OwnD wq5 (w.heap.size + 2) (.slice a3 no c3) dots) := HO3.out.aside ha (by omega)
  clear hwq ha
  refine hK.out _ _ ?_ (fun hHeld => ?_)
  · exact .inl (by rfl)
  clear hK K2 hHeld
  try simp only [List.setIfInBounds_toArray, List.set_cons_zero, List.set_cons_succ]
  refine sPure (v := ?_) 13 14 rfl rfl (by kernel_rfl) (by kernel_rfl) (by kernel_rfl) (by decide) (fun _ _ _ h => h) (by rfl) (fun w => ?_) (.inl (by rfl)) ?_
  rotate_left
  · first | (go_simp; done) | (go_simp; with_reducible rfl)
  simp only [List.setIfInBounds_toArray, List.set_cons_zero, List.set_cons_succ]
  refine sOne 14 rfl (by kernel_rfl) (by rfl) (fun K2 hK => ?_)
  obtain ⟨k0, k1, k2, k3, k4, k5, k6, k7, k8, k9, k10, k11⟩ := cells12 HK.out
  have fr := HK.out.free 11
  go_simp
  clear k0 k1 k2 k3 k4 k5 k6 k7 k8 k9 k10 k11 fr
  obtain ⟨wq6, hwq⟩ : ∃ x, x = World.setCell wq5 ⟨w.heap.size, 11, none⟩ (.slice a3 no c3) := ⟨_, rfl⟩
  rw [← hwq]
  have ha : Aside w.heap.size wq5 wq6 := by rw [hwq]; exact (Aside.refl _ wq5).setCell (p := ⟨w.heap.size, 11, none⟩) (fun k => k.1 rfl) _
  replace HK := (show Hid (CellsAt wq6 w.heap.size #[.int .i64 dp, .int .i64 dn, .slice a1 m c1, .int .i64 sp, .int .i64 sl, .int .i64 sq, .int .i64 kind, .int .i64 table, .string key, .int .i64 col, .slice a2 nv c2, .slice a3 no c3] 32) from by rw [hwq]; exact HK.out.set 11 _)
  replace HZ := (show Hid (CellsAt wq6 (w.heap.size + 1) #[.int .i64 0, .int .i64 0, .slice none 0 0, .int .i64 0, .int .i64 0, .int .i64 0, .int .i64 0, .int .i64 0, .string ⟨#[]⟩, .int .i64 0, .slice none 0 0, .slice none 0 0] 32) from HZ.out.aside ha (by omega))
  replace HL := (show Hid (w.heap.size + 2 ≤ wq6.heap.size) from Nat.le_trans HL.out ha.size)
  replace HB := (show Hid (Below w.heap.size w wq6) from ha.below_from HB.out (Nat.le_refl _))
  replace HO1 : Hid (OwnI wq6 (w.heap.size + 2) (.slice a1 m c1) deps) := HO1.out.aside ha (by omega)
  replace HO2 : Hid (OwnV wq6 (w.heap.size + 2) (.slice a2 nv c2) vals) := HO2.out.aside ha (by omega)
  replace HO3 : Hid (OwnD wq6 (w.heap.size + 2) (.slice a3 no c3) dots) := HO3.out.aside ha (by omega)
  clear hwq ha
  refine hK.out _ _ ?_ (fun hHeld => ?_)
  · exact .inl (by rfl)
  clear hK K2 hHeld
  try simp only [List.setIfInBounds_toArray, List.set_cons_zero, List.set_cons_succ]
  refine sDone (by kernel_rfl) ?_ _
  obtain ⟨k0, k1, k2, k3, k4, k5, k6, k7, k8, k9, k10, k11⟩ := cells12 HK.out
  obtain ⟨z0, z1, z2, z3, z4, z5, z6, z7, z8, z9, z10, z11⟩ := cells12 HZ.out
  have fz0 := HZ.out.free 0
  have fz1 := HZ.out.free 1
  have fz2 := HZ.out.free 2
  have fz3 := HZ.out.free 3
  have fz4 := HZ.out.free 4
  have fz5 := HZ.out.free 5
  have fz6 := HZ.out.free 6
  have fz7 := HZ.out.free 7
  have fz8 := HZ.out.free 8
  have fz9 := HZ.out.free 9
  have fz10 := HZ.out.free 10
  have fz11 := HZ.out.free 11
  have HA : Hid (Aside (w.heap.size + 1) wq6 ((((((((((((wq6.setCell ⟨w.heap.size + 1, 0, none⟩ (.int .i64 dp)).setCell ⟨w.heap.size + 1, 1, none⟩ (.int .i64 dn)).setCell ⟨w.heap.size + 1, 2, none⟩ (.slice a1 m c1)).setCell ⟨w.heap.size + 1, 3, none⟩ (.int .i64 sp)).setCell ⟨w.heap.size + 1, 4, none⟩ (.int .i64 sl)).setCell ⟨w.heap.size + 1, 5, none⟩ (.int .i64 sq)).setCell ⟨w.heap.size + 1, 6, none⟩ (.int .i64 kind)).setCell ⟨w.heap.size + 1, 7, none⟩ (.int .i64 table)).setCell ⟨w.heap.size + 1, 8, none⟩ (.string key)).setCell ⟨w.heap.size + 1, 9, none⟩ (.int .i64 col)).setCell ⟨w.heap.size + 1, 10, none⟩ (.slice a2 nv c2)).setCell ⟨w.heap.size + 1, 11, none⟩ (.slice a3 no c3))) := by
    show Aside _ _ _
    iterate 12 refine Stay.setCell ?_ (fun k => k.1 rfl) _
    exact Aside.refl _ _
  have HX := HLX.out _ a1 a2 a3 c1 c2 c3 (HO1.out.aside HA.out (by omega)) (HO2.out.aside HA.out (by omega)) (HO3.out.aside HA.out (by omega)) HE1.out HE2.out HE3.out
  have HY : Hid (_ ∧ _) := HX
  have HBF : Hid (Below w.heap.size w ((((((((((((wq6.setCell ⟨w.heap.size + 1, 0, none⟩ (.int .i64 dp)).setCell ⟨w.heap.size + 1, 1, none⟩ (.int .i64 dn)).setCell ⟨w.heap.size + 1, 2, none⟩ (.slice a1 m c1)).setCell ⟨w.heap.size + 1, 3, none⟩ (.int .i64 sp)).setCell ⟨w.heap.size + 1, 4, none⟩ (.int .i64 sl)).setCell ⟨w.heap.size + 1, 5, none⟩ (.int .i64 sq)).setCell ⟨w.heap.size + 1, 6, none⟩ (.int .i64 kind)).setCell ⟨w.heap.size + 1, 7, none⟩ (.int .i64 table)).setCell ⟨w.heap.size + 1, 8, none⟩ (.string key)).setCell ⟨w.heap.size + 1, 9, none⟩ (.int .i64 col)).setCell ⟨w.heap.size + 1, 10, none⟩ (.slice a2 nv c2)).setCell ⟨w.heap.size + 1, 11, none⟩ (.slice a3 no c3))) := HA.out.below_from HB.out (by omega)
  have HZF : CellsAt ((((((((((((wq6.setCell ⟨w.heap.size + 1, 0, none⟩ (.int .i64 dp)).setCell ⟨w.heap.size + 1, 1, none⟩ (.int .i64 dn)).setCell ⟨w.heap.size + 1, 2, none⟩ (.slice a1 m c1)).setCell ⟨w.heap.size + 1, 3, none⟩ (.int .i64 sp)).setCell ⟨w.heap.size + 1, 4, none⟩ (.int .i64 sl)).setCell ⟨w.heap.size + 1, 5, none⟩ (.int .i64 sq)).setCell ⟨w.heap.size + 1, 6, none⟩ (.int .i64 kind)).setCell ⟨w.heap.size + 1, 7, none⟩ (.int .i64 table)).setCell ⟨w.heap.size + 1, 8, none⟩ (.string key)).setCell ⟨w.heap.size + 1, 9, none⟩ (.int .i64 col)).setCell ⟨w.heap.size + 1, 10, none⟩ (.slice a2 nv c2)).setCell ⟨w.heap.size + 1, 11, none⟩ (.slice a3 no c3)) (w.heap.size + 1) #[.int .i64 dp, .int .i64 dn, .slice a1 m c1, .int .i64 sp, .int .i64 sl, .int .i64 sq, .int .i64 kind, .int .i64 table, .string key, .int .i64 col, .slice a2 nv c2, .slice a3 no c3] 32 := by
    have := ((((((((((((HZ.out.set 0 (.int .i64 dp)).set 1 (.int .i64 dn)).set 2 (.slice a1 m c1)).set 3 (.int .i64 sp)).set 4 (.int .i64 sl)).set 5 (.int .i64 sq)).set 6 (.int .i64 kind)).set 7 (.int .i64 table)).set 8 (.string key)).set 9 (.int .i64 col)).set 10 (.slice a2 nv c2)).set 11 (.slice a3 no c3))
    simpa using this
  obtain ⟨y0, y1, y2, y3, y4, y5, y6, y7, y8, y9, y10, y11⟩ := cells12 HZF
  clear HZF
  clear HX HA HB HO1 HO2 HO3 HE1 HE2 HE3 HLX C1 C2 C3 HK HZ HL
  go_wp2
  refine bodyPost_ret (by simp [results, Try.results20, go_sem, y0, y1, y2, y3, y4, y5, y6, y7, y8, y9, y10, y11]; rfl) rfl ?_
  exact ⟨a1, a2, a3, c1, c2, c3, rfl, HY.out.1, HY.out.2, HBF.out⟩

end Go.Proofs.Ytjddkodcbpnilaa

namespace Go.Proofs.Ytjddkodcbpnilaa
open Go.RowKit Go.Lib
set_option linter.unusedVariables false

/-- All blocks stay but those that E names. -/
def Sv (E : Nat → Prop) (w w' : World) : Prop := Stay (fun b => b < w.heap.size ∧ ¬ E b) w w'

theorem Sv.refl (E : Nat → Prop) (w : World) : Sv E w w := Stay.refl _ _

theorem Sv.trans {E : Nat → Prop} {a b c : World} (h : Sv E a b) (k : Sv E b c) : Sv E a c :=
  Stay.trans h (Stay.mono k fun i hi => ⟨Nat.lt_of_lt_of_le hi.1 h.size, hi.2⟩)

theorem Sv.of_below {E : Nat → Prop} {w w' : World} (h : Below w.heap.size w w') : Sv E w w' := Stay.of_below h fun b hb => hb.1

theorem Sv.of_grown {E : Nat → Prop} {w w' : World} {r : Nat} (h : w.grownBy w' (some r)) (hr : E r) : Sv E w w' :=
  ⟨h.os, h.tape, h.output, h.size, fun b hb => h.block b hb.1 (fun e => hb.2 (by cases e; exact hr))⟩

theorem Sv.mono {E E' : Nat → Prop} {w w' : World} (h : Sv E w w') (hE : ∀ b, E b → E' b) : Sv E' w w' := Stay.mono h fun b hb => ⟨hb.1, fun k => hb.2 (hE b k)⟩

theorem Sv.setCell {E : Nat → Prop} {a w : World} (h : Sv E a w) {b i : Nat} (hb : E b) (u : Value) : Sv E a (w.setCell ⟨b, i, none⟩ u) := Stay.setCell h (p := ⟨b, i, none⟩) (fun k => k.2 hb) u

theorem Sv.cell {E : Nat → Prop} {w w' : World} (h : Sv E w w') {b o : Nat} {v : Value} (hc : w.cell? ⟨b, o, none⟩ = some v) (hb : ¬ E b) : w'.cell? ⟨b, o, none⟩ = some v := by
  have hl : b < w.heap.size := cellO_lt hc
  rw [World.cell?_of_block (h.block b ⟨hl, hb⟩)]
  exact hc

/-- Twelve cells, and the operation that they are: its lists lie in no block that E names. -/
def LiesX (E : Nat → Prop) (w : World) (c : List Value) (x : PO) : Prop :=
  ∃ da va oa dc vc oc, c = (cellsO x da va oa dc vc oc).toList ∧ LiesO w x da va oa dc vc oc ∧ I64O x ∧ (0 < x.deps.length → ∀ b o s, da = some ⟨b, o, s⟩ → ¬ E b) ∧ (0 < x.vals.length → ∀ b o s, va = some ⟨b, o, s⟩ → ¬ E b) ∧ (0 < x.dots.length → ∀ b o s, oa = some ⟨b, o, s⟩ → ¬ E b)

theorem LiesX.sv {E : Nat → Prop} {w w' : World} {c : List Value} {x : PO} (h : LiesX E w c x) (hs : Sv E w w') : LiesX E w' c x := by
  obtain ⟨da, va, oa, dc, vc, oc, hc, hl, hi, h1, h2, h3⟩ := h
  refine ⟨da, va, oa, dc, vc, oc, hc, { hl with deps := fun h0 => ?_, vals := fun h0 => ?_, dots := fun h0 => ?_ }, hi, h1, h2, h3⟩
  · obtain ⟨b, off, e, hk⟩ := hl.deps h0
    exact ⟨b, off, e, fun i hi => hs.cell (hk i hi) (h1 h0 _ _ _ e)⟩
  · obtain ⟨b, off, e, hk⟩ := hl.vals h0
    exact ⟨b, off, e, fun i hi => ⟨hs.cell (hk i hi).1 (h2 h0 _ _ _ e), hs.cell (hk i hi).2.1 (h2 h0 _ _ _ e), hs.cell (hk i hi).2.2 (h2 h0 _ _ _ e)⟩⟩
  · obtain ⟨b, off, e, hk⟩ := hl.dots h0
    exact ⟨b, off, e, fun i hi => ⟨hs.cell (hk i hi).1 (h3 h0 _ _ _ e), hs.cell (hk i hi).2 (h3 h0 _ _ _ e)⟩⟩

theorem LiesX.later {E : Nat → Prop} {w w' : World} {c : List Value} {x : PO} (h : LiesX E w c x) (hs : Below w.heap.size w w') : LiesX E w' c x := h.sv (Sv.of_below hs)

theorem LiesX.less {E E' : Nat → Prop} {w : World} {c : List Value} {x : PO} (h : LiesX E w c x) (hE : ∀ b, E' b → E b) : LiesX E' w c x := by
  obtain ⟨da, va, oa, dc, vc, oc, hc, hl, hi, h1, h2, h3⟩ := h
  exact ⟨da, va, oa, dc, vc, oc, hc, hl, hi, fun h0 b o s e k => h1 h0 b o s e (hE b k), fun h0 b o s e k => h2 h0 b o s e (hE b k), fun h0 b o s e k => h3 h0 b o s e (hE b k)⟩

/-- .. nor in one that is not there yet. -/
theorem LiesX.now {E : Nat → Prop} {w : World} {c : List Value} {x : PO} (h : LiesX E w c x) : LiesX (fun b => E b ∨ w.heap.size ≤ b) w c x := by
  obtain ⟨da, va, oa, dc, vc, oc, hc, hl, hi, h1, h2, h3⟩ := h
  refine ⟨da, va, oa, dc, vc, oc, hc, hl, hi, fun h0 b o s e k => ?_, fun h0 b o s e k => ?_, fun h0 b o s e k => ?_⟩
  · rcases k with k | k
    · exact h1 h0 b o s e k
    · obtain ⟨b', o', e', hk⟩ := hl.deps h0
      rw [e] at e'
      cases e'
      have := cellO_lt (hk 0 h0)
      omega
  · rcases k with k | k
    · exact h2 h0 b o s e k
    · obtain ⟨b', o', e', hk⟩ := hl.vals h0
      rw [e] at e'
      cases e'
      have := cellO_lt (hk 0 h0).1
      omega
  · rcases k with k | k
    · exact h3 h0 b o s e k
    · obtain ⟨b', o', e', hk⟩ := hl.dots h0
      rw [e] at e'
      cases e'
      have := cellO_lt (hk 0 h0).1
      omega

theorem LiesX.far {w : World} {x : PO} {B : Nat} {E : Nat → Prop} {da va oa : Option Addr} {dc vc oc : Nat} (h : LiesO w x da va oa dc vc oc) (hi : I64O x) (hf : FarO B da va oa) (hE : ∀ b, B ≤ b → ¬ E b) : LiesX E w (cellsO x da va oa dc vc oc).toList x :=
  ⟨da, va, oa, dc, vc, oc, rfl, h, hi, fun _ b o s e => hE b (hf.d b o s e), fun _ b o s e => hE b (hf.v b o s e), fun _ b o s e => hE b (hf.o b o s e)⟩

theorem LiesX.shape {E : Nat → Prop} {w : World} {c : List Value} {x : PO} (h : LiesX E w c x) : Shape c := by
  obtain ⟨da, va, oa, dc, vc, oc, hc, _⟩ := h
  exact ⟨_, _, _, _, _, _, _, _, _, _, _, _, _, _, _, _, _, _, hc⟩

theorem Shape.dozen {c : List Value} (h : Shape c) : c.length = 12 ∧ ∀ u ∈ c, u.oneCell' = true := by
  obtain ⟨_, _, _, _, _, _, _, _, _, _, _, _, _, _, _, _, _, _, rfl⟩ := h
  exact ⟨rfl, shape_one⟩

theorem LiesX.dozen {E : Nat → Prop} {w : World} {Z : List (List Value × PO)} (h : ∀ z ∈ Z, LiesX E w z.1 z.2) : Dozen (Z.map (·.1)) := fun c hc => by
  obtain ⟨z, hz, rfl⟩ := List.mem_map.1 hc
  exact (h z hz).shape.dozen

/-- A slice's beginning, and the operations that are read from there on. -/
def RdL (w : World) (a : Option Addr) (X : List PO) : Prop := ∃ Z : List (List Value × PO), Z.map (·.2) = X ∧ RdC w a (Z.map (·.1)) ∧ ∀ z ∈ Z, LiesX (fun _ => False) w z.1 z.2

theorem RdL.later {w w' : World} {a : Option Addr} {X : List PO} (h : RdL w a X) (hb : Below w.heap.size w w') : RdL w' a X := by
  obtain ⟨Z, h1, h2, h3⟩ := h
  exact ⟨Z, h1, h2.later hb, fun z hz => (h3 z hz).later hb⟩

theorem RdL.nil (w : World) (a : Option Addr) : RdL w a [] := ⟨[], rfl, RdC.nil _ _, fun z hz => by cases hz⟩

/-- Can it be had? -/
def canP (H : List Int) (x : PO) : Bool := nextD H x.dp x.dn && leD x.deps H

set_option maxRecDepth 100000 in
set_option maxHeartbeats 2000000 in
theorem can_any (ah : Option Addr) (nh ch : Nat) (H : List Int) (x : PO) (da va oa : Option Addr) (dc vc oc : Nat) (w : World) (hn : H.length = nh) (hl : nh ≤ 65536) (h64 : All64 H) (hr : RdI .i64 w ah H) (h : LiesO w x da va oa dc vc oc) (hx : I64O x) :
    Calls Try.prog 16 #[.slice ah nh ch, .agg (cellsO x da va oa dc vc oc)] w fun e w' => e = .returned (.bool (canP H x)) ∧ Below w.heap.size w w' := by
  have B1 := alloc_below w (.cells (cellsO x da va oa dc vc oc) 32)
  have C1 := dotNext ah nh ch x.dp x.dn H (w.alloc (.cells (cellsO x da va oa dc vc oc) 32)) hn hl h64 hx.dp hx.dn (hr.later B1)
  have C2 := fun V (hb : Below w.heap.size w V) => dotLe da ah x.deps.length nh dc ch x.deps H V rfl hn h.ld hl hx.deps h64 (h.deps.later hb) (hr.later hb)
  have HE : Hid (canP H x = (nextD H x.dp x.dn && leD x.deps H)) := rfl
  clear hn hl h64 hr h hx
  obtain ⟨dp, dn, deps, sp, sl, sq, kind, table, key, col, vals, dots⟩ := x
  simp only [cellsO] at *
  have HK : Hid (CellsAt (w.alloc (.cells #[.int .i64 dp, .int .i64 dn, .slice da deps.length dc, .int .i64 sp, .int .i64 sl, .int .i64 sq, .int .i64 kind, .int .i64 table, .string key, .int .i64 col, .slice va vals.length vc, .slice oa dots.length oc] 32)) w.heap.size #[.int .i64 dp, .int .i64 dn, .slice da deps.length dc, .int .i64 sp, .int .i64 sl, .int .i64 sq, .int .i64 kind, .int .i64 table, .string key, .int .i64 col, .slice va vals.length vc, .slice oa dots.length oc] 32) := CellsAt.made rfl
  have HB : Hid (Below w.heap.size w (w.alloc (.cells #[.int .i64 dp, .int .i64 dn, .slice da deps.length dc, .int .i64 sp, .int .i64 sl, .int .i64 sq, .int .i64 kind, .int .i64 table, .string key, .int .i64 col, .slice va vals.length vc, .slice oa dots.length oc] 32))) := B1
  clear B1
  generalize deps.length = m at *
  generalize vals.length = nv at *
  generalize dots.length = no at *
  generalize nextD H dp dn = q1 at *
  generalize leD deps H = q2 at *
  generalize canP H _ = res at *
  cases q1 with
  | false =>
    go_enter Try.func16, Try.ntmps16
    go_wp2_with fail
    refine C1.mono ?_
    rintro e w1 ⟨rfl, hb⟩
    have HB1 : Hid (Below w.heap.size w w1) := chain HB.out hb
    clear C1 C2 hb
    go_wp2
    go_ret
    exact ⟨by rw [HE.out]; rfl, HB1.out⟩
  | true =>
    go_enter Try.func16, Try.ntmps16
    go_wp2_with fail
    refine C1.mono ?_
    rintro e w1 ⟨rfl, hb⟩
    have HB1 : Hid (Below w.heap.size w w1) := chain HB.out hb
    obtain ⟨k0, k1, k2, k3, k4, k5, k6, k7, k8, k9, k10, k11⟩ := cells12 (HK.out.later hb)
    clear C1 hb
    go_wp2_with fail
    refine (C2 _ HB1.out).mono ?_
    rintro e w2 ⟨rfl, hb⟩
    have HB2 : Hid (Below w.heap.size w w2) := chain HB1.out hb
    clear C2 hb
    go_wp2
    go_ret
    exact ⟨by rw [HE.out]; rfl, HB2.out⟩

end Go.Proofs.Ytjddkodcbpnilaa

namespace Go.Proofs.Ytjddkodcbpnilaa
open Go.RowKit Go.Lib
set_option linter.unusedVariables false

theorem enters (f : FuncId) {fn : Func} {c : Code} (hf : Try.prog.funcs[f]? = some fn) (hname : (fn.name == "runtime.NumGoroutine") = false) (hb : fn.body = some c) : ∀ (args : Array Value) (w : World), (callFunc f args).run Try.prog w = .ok (.enter f args) w := Go.Proofs.enters_of hf hname hb

set_option maxRecDepth 100000 in
set_option maxHeartbeats 2000000 in
theorem first1_any (g : Nat) (ah : Option Addr) (nh ch : Nat) (H : List Int) (c : List Value) (x : PO) (w : World) (hn : H.length = nh) (hl : nh ≤ 65536) (h64 : All64 H) (hr : RdI .i64 w ah H) (hg : w.cell? ⟨g, 0, none⟩ = some (.slice ah nh ch)) (h : LiesX (fun _ => False) w c x) :
    Calls Try.prog 36 (#[.agg c.toArray] ++ #[.pointer (some ⟨g, 0, none⟩)]) w fun e w' => e = .returned (.bool (canP H x)) ∧ Below w.heap.size w w' := by
  obtain ⟨da, va, oa, dc, vc, oc, rfl, hlo, hi, _⟩ := h
  have B1 := alloc_below w (.cells (cellsO x da va oa dc vc oc) 32)
  have C1 := can_any ah nh ch H x da va oa dc vc oc (w.alloc (.cells (cellsO x da va oa dc vc oc) 32)) hn hl h64 (hr.later B1) (hlo.later B1) hi
  have y0 := cell_later B1 hg
  have HB : Hid (Below w.heap.size w (w.alloc (.cells (cellsO x da va oa dc vc oc) 32))) := B1
  clear B1 hn hl h64 hr hlo hi
  generalize canP H x = res at *
  obtain ⟨dp, dn, deps, sp, sl, sq, kind, table, key, col, vals, dots⟩ := x
  simp only [cellsO] at *
  generalize deps.length = m at *
  generalize vals.length = nv at *
  generalize dots.length = no at *
  show Calls Try.prog 36 #[.agg #[.int .i64 dp, .int .i64 dn, .slice da m dc, .int .i64 sp, .int .i64 sl, .int .i64 sq, .int .i64 kind, .int .i64 table, .string key, .int .i64 col, .slice va nv vc, .slice oa no oc], .pointer (some ⟨g, 0, none⟩)] w _
  go_enter Try.func36, Try.ntmps36
  go_wp2_with fail
  refine C1.mono ?_
  rintro e w1 ⟨rfl, hb⟩
  have HB1 : Hid (Below w.heap.size w w1) := chain HB.out hb
  clear C1 hb
  go_wp2
  go_ret
  exact ⟨rfl, HB1.out⟩

/-- The first that can be had, or -1. -/
def firstP (H : List Int) (X : List PO) : Int := idxP X.length fun k => (X[k]?.map (canP H)).getD false

set_option maxRecDepth 100000 in
set_option maxHeartbeats 2000000 in
theorem first_any (ah a : Option Addr) (nh ch n cap : Nat) (H : List Int) (Z : List (List Value × PO)) (w : World) (hn : H.length = nh) (hl : nh ≤ 65536) (h64 : All64 H) (hr : RdI .i64 w ah H) (hz : Z.length = n) (h4 : n ≤ 4000) (hc : RdC w a (Z.map (·.1))) (h : ∀ z ∈ Z, LiesX (fun _ => False) w z.1 z.2) :
    Calls Try.prog 29 #[.slice ah nh ch, .slice a n cap] w fun e w' => e = .returned (.int .i64 (firstP H (Z.map (·.2)))) ∧ Below w.heap.size w w' := by
  have B1 := alloc_below w (.cells #[.slice ah nh ch] 26)
  have HK : CellsAt (w.alloc (.cells #[.slice ah nh ch] 26)) w.heap.size #[.slice ah nh ch] 26 := CellsAt.made rfl
  have hp : firstP H (Z.map (·.2)) = idxP n (fun k => (Z[k]?.map fun z => canP H z.2).getD false) := by
    unfold firstP
    rw [List.length_map, hz]
    congr 1
    funext k
    rw [List.getElem?_map, Option.map_map]
    rfl
  have CI := indexFunc_any a n cap 36 #[.pointer (some ⟨w.heap.size, 0, none⟩)] (Z.map (·.1)) (fun k => (Z[k]?.map fun z => canP H z.2).getD false) (w.alloc (.cells #[.slice ah nh ch] 26)) (by rw [List.length_map]; exact hz) (by omega) (LiesX.dozen h) (hc.later B1) (enters 36 Try.func36 (by kernel_rfl) rfl) (fun k hk V hb => by
    have hk' : k < Z.length := by rw [List.length_map] at hk; exact hk
    have hbV := chain B1 hb
    have := first1_any w.heap.size ah nh ch H Z[k].1 Z[k].2 V hn hl h64 (hr.later hbV) (by rw [(HK.later hb).cell 0]; rfl) ((h _ (List.getElem_mem hk')).later hbV)
    rw [List.getElem_map, List.getElem?_eq_getElem hk']
    exact this)
  rw [← hp] at CI
  have HB : Hid (Below w.heap.size w (w.alloc (.cells #[.slice ah nh ch] 26))) := B1
  clear hp B1 HK hr hc h h64
  generalize firstP H (Z.map (·.2)) = i at *
  go_enter Try.func29, Try.ntmps29
  go_wp2_with fail
  refine CI.mono ?_
  rintro e w1 ⟨rfl, hb⟩
  have HB1 : Hid (Below w.heap.size w w1) := chain HB.out hb
  clear CI hb
  go_wp2
  go_ret
  exact ⟨rfl, HB1.out⟩

end Go.Proofs.Ytjddkodcbpnilaa

namespace Go.Proofs.Ytjddkodcbpnilaa
open Go.RowKit Go.Lib
set_option linter.unusedVariables false

theorem set_append_rep {α : Type} {A : List α} {k n : Nat} {z c : α} (hA : A.length = k) (h : k < n) : (A ++ List.replicate (n - k) z).set k c = (A ++ [c]) ++ List.replicate (n - (k + 1)) z := by
  rw [List.set_append_right _ _ (by omega), hA, Nat.sub_self, show n - k = (n - (k + 1)) + 1 by omega, List.replicate_succ]
  simp

set_option maxRecDepth 100000 in
set_option maxHeartbeats 4000000 in
theorem cloneAll_any (a : Option Addr) (n cap : Nat) (Z : List (List Value × PO)) (w : World) (hz : Z.length = n) (h4 : n ≤ 4000) (hc : RdC w a (Z.map (·.1))) (h : ∀ z ∈ Z, LiesX (fun _ => False) w z.1 z.2) :
    Calls Try.prog 19 #[.slice a n cap] w fun e w' => e = .returned (.slice (some ⟨w.heap.size, 0, none⟩) n n) ∧ Below w.heap.size w w' ∧ ∃ Y : List (List Value × PO), Y.map (·.2) = Z.map (·.2) ∧ OwnC w' w.heap.size (.slice (some ⟨w.heap.size, 0, none⟩) n n) (Y.map (·.1)) ∧ ∀ z ∈ Y, LiesX (fun b => b ≤ w.heap.size) w' z.1 z.2 := by
  obtain ⟨w0, hmake, hO0, hB0⟩ := run_make_ops w n (by omega)
  have HZ : Hid (Z.length = n) := hz
  have HC : Hid (RdC w a (Z.map (·.1))) := hc
  have HX : Hid (∀ z ∈ Z, LiesX (fun _ => False) w z.1 z.2) := h
  have HO : Hid (OwnC w0 w.heap.size (.slice (some ⟨w.heap.size, 0, none⟩) n n) (List.replicate n noC)) := hO0
  have HB : Hid (Below w.heap.size w w0) := hB0
  have HR : Hid (w.heap.size < w0.heap.size) := (World.ownsRow.lt hO0.2 _ rfl).2
  clear hz hc h hO0 hB0
  go_enter Try.func19, Try.ntmps19
  go_wp2
  go_loopw [11] (fun i wr => ∃ (k : Nat) (Y : List (List Value × PO)), k ≤ n ∧ i = .int .i64 k ∧ Hid (Y.map (·.2) = (Z.take k).map (·.2)) ∧ Hid (OwnC wr w.heap.size (.slice (some ⟨w.heap.size, 0, none⟩) n n) (Y.map (·.1) ++ List.replicate (n - k) noC)) ∧ Hid (∀ z ∈ Y, LiesX (fun b => b ≤ w.heap.size) wr z.1 z.2) ∧ Hid (Below w.heap.size w wr) ∧ Hid (w.heap.size < wr.heap.size)) (fun i _ => n - (RowKit.intOf i).toNat)
  case atStart => exact ⟨0, [], Nat.zero_le _, rfl, rfl, HO, (fun z hz => by cases hz), HB, HR⟩
  case round =>
    clear HO HB HR
    obtain ⟨k, Y, hk, rfl, hY, hO, hX, hB, hR⟩ := hrel
    by_cases hlt : k < n
    · have hkZ : k < Z.length := by rw [HZ.out]; exact hlt
      obtain ⟨b, off, rfl, hcc⟩ := (HC.out.later hB.out) (by rw [List.length_map]; omega)
      have hck := hcc k (by rw [List.length_map]; exact hkZ)
      rw [List.getElem_map] at hck
      obtain ⟨da, va, oa, dc, vc, oc, hcs, hlo, hi, _⟩ := HX.out _ (List.getElem_mem hkZ)
      rw [hcs] at hck
      have HT : Hid ((Z.take (k + 1)).map (·.2) = (Z.take k).map (·.2) ++ [Z[k].2]) := by
        show _ = _
        rw [List.take_succ_eq_append_getElem hkZ, List.map_append]
        rfl
      have HYl : Hid (Y.length = k) := by
        have := congrArg List.length hY.out
        simp only [List.length_map, List.length_take] at this
        show _ = _
        omega
      clear hcc hcs
      generalize Z[k].2 = x at *
      have x0 := hck 0 _ rfl
      have x1 := hck 1 _ rfl
      have x2 := hck 2 _ rfl
      have x3 := hck 3 _ rfl
      have x4 := hck 4 _ rfl
      have x5 := hck 5 _ rfl
      have x6 := hck 6 _ rfl
      have x7 := hck 7 _ rfl
      have x8 := hck 8 _ rfl
      have x9 := hck 9 _ rfl
      have x10 := hck 10 _ rfl
      have x11 := hck 11 _ rfl
      rw [Nat.add_zero] at x0
      clear hck
      have B1 := alloc_below wr (.cells (cellsO x da va oa dc vc oc) 32)
      have HB1 : Hid (Below w.heap.size w (wr.alloc (.cells (cellsO x da va oa dc vc oc) 32))) := chain hB.out B1
      have CK := opClone_any x da va oa dc vc oc (wr.alloc (.cells (cellsO x da va oa dc vc oc) 32)) (hlo.later HB1.out)
      have HO1 : Hid (OwnC (wr.alloc (.cells (cellsO x da va oa dc vc oc) 32)) w.heap.size (.slice (some ⟨w.heap.size, 0, none⟩) n n) (Y.map (·.1) ++ List.replicate (n - k) noC)) := hO.out.later B1
      have HX1 : Hid (∀ z ∈ Y, LiesX (fun b => b ≤ w.heap.size) (wr.alloc (.cells (cellsO x da va oa dc vc oc) 32)) z.1 z.2) := fun z hz => (hX.out z hz).later B1
      have HR1 : Hid (w.heap.size + 1 < (wr.alloc (.cells (cellsO x da va oa dc vc oc) 32)).heap.size) := by show _ < _; have := hR.out; simp; omega
      have HI : Hid (I64O x) := hi
      clear hO hX hB hR hlo hi B1
      have kk0 : (0 : Int) ≤ (k : Int) := by omega
      have kk1 : (k : Int) < (n : Int) := by omega
      obtain ⟨x', hx'⟩ : ∃ x', x' = x := ⟨_, rfl⟩
      rw [← hx'] at HI HT
      have HX' : Hid (x' = x) := hx'
      clear hx'
      obtain ⟨dp, dn, deps, sp, sl, sq, kind, table, key, col, vals, dots⟩ := x
      simp only [cellsO] at *
      generalize hnd : deps.length = m at *
      generalize hnv : vals.length = nv at *
      generalize hno : dots.length = no at *
      have HN3 : Hid (deps.length = m ∧ vals.length = nv ∧ dots.length = no) := ⟨hnd, hnv, hno⟩
      clear hnd hnv hno
      go_wp2_with fail
      refine CK.mono ?_
      rintro e w1 ⟨da', va', oa', dc', vc', oc', rfl, hlo', hfar, hb⟩
      have HO2 : Hid (OwnC w1 w.heap.size (.slice (some ⟨w.heap.size, 0, none⟩) n n) (Y.map (·.1) ++ List.replicate (n - k) noC)) := HO1.out.later hb
      have HX2 : Hid (∀ z ∈ Y, LiesX (fun b => b ≤ w.heap.size) w1 z.1 z.2) := fun z hz => (HX1.out z hz).later hb
      have HB2 : Hid (Below w.heap.size w w1) := chain HB1.out hb
      have HR2 : Hid (w.heap.size < w1.heap.size) := by show _ < _; have := HR1.out; have := hb.size; omega
      have hlen : (Y.map (·.1) ++ List.replicate (n - k) noC).length = n := by rw [List.length_append, List.length_map, HYl.out, List.length_replicate]; omega
      obtain ⟨c', hc'⟩ : ∃ c' : List Value, c' = [.int .i64 dp, .int .i64 dn, .slice da' m dc', .int .i64 sp, .int .i64 sl, .int .i64 sq, .int .i64 kind, .int .i64 table, .string key, .int .i64 col, .slice va' nv vc', .slice oa' no oc'] := ⟨_, rfl⟩
      have hlx : LiesX (fun b => b ≤ w.heap.size) w1 c' x' := by
        have := LiesX.far (E := fun b => b ≤ w.heap.size) hlo' (by rw [← HX'.out]; exact HI.out) hfar (fun b hb1 hb2 => by have := HR1.out; omega)
        rw [HX'.out, hc']
        simp only [HN3.out.1, HN3.out.2.1, HN3.out.2.2] at this
        exact this
      have hput := HO2.out.put hlx.shape.dozen k (by rw [hlen]; exact hlt)
      rw [set_append_rep (by rw [List.length_map]; exact HYl.out) hlt, hc'] at hput
      have HPUT : Hid _ := hput
      have hg := setCells_grown w1 w.heap.size [.int .i64 dp, .int .i64 dn, .slice da' m dc', .int .i64 sp, .int .i64 sl, .int .i64 sq, .int .i64 kind, .int .i64 table, .string key, .int .i64 col, .slice va' nv vc', .slice oa' no oc'] (k * 12)
      have HG : Hid _ := hg
      have HLX : Hid (LiesX (fun b => b ≤ w.heap.size) w1 c' x') := hlx
      have HC' : Hid (c' = _) := hc'
      obtain ⟨⟨z0, p0⟩, f0⟩ := HO2.out.slots hlen hlt 0 (by omega)
      obtain ⟨⟨z1, p1⟩, f1⟩ := HO2.out.slots hlen hlt 1 (by omega)
      obtain ⟨⟨z2, p2⟩, f2⟩ := HO2.out.slots hlen hlt 2 (by omega)
      obtain ⟨⟨z3, p3⟩, f3⟩ := HO2.out.slots hlen hlt 3 (by omega)
      obtain ⟨⟨z4, p4⟩, f4⟩ := HO2.out.slots hlen hlt 4 (by omega)
      obtain ⟨⟨z5, p5⟩, f5⟩ := HO2.out.slots hlen hlt 5 (by omega)
      obtain ⟨⟨z6, p6⟩, f6⟩ := HO2.out.slots hlen hlt 6 (by omega)
      obtain ⟨⟨z7, p7⟩, f7⟩ := HO2.out.slots hlen hlt 7 (by omega)
      obtain ⟨⟨z8, p8⟩, f8⟩ := HO2.out.slots hlen hlt 8 (by omega)
      obtain ⟨⟨z9, p9⟩, f9⟩ := HO2.out.slots hlen hlt 9 (by omega)
      obtain ⟨⟨z10, p10⟩, f10⟩ := HO2.out.slots hlen hlt 10 (by omega)
      obtain ⟨⟨z11, p11⟩, f11⟩ := HO2.out.slots hlen hlt 11 (by omega)
      rw [Nat.add_zero] at p0 f0
      have hsv := Sv.of_grown (E := fun b => b ≤ w.heap.size) hg (Nat.le_refl _)
      have HXF : Hid (∀ z ∈ Y ++ [(c', x')], LiesX (fun b => b ≤ w.heap.size) (w1.setCells w.heap.size (k * 12) [.int .i64 dp, .int .i64 dn, .slice da' m dc', .int .i64 sp, .int .i64 sl, .int .i64 sq, .int .i64 kind, .int .i64 table, .string key, .int .i64 col, .slice va' nv vc', .slice oa' no oc']) z.1 z.2) := fun z hz => by
        rcases List.mem_append.1 hz with hz | hz
        · exact (HX2.out z hz).sv hsv
        · simp only [List.mem_singleton] at hz
          subst hz
          exact HLX.out.sv hsv
      have HOF : Hid (OwnC (w1.setCells w.heap.size (k * 12) [.int .i64 dp, .int .i64 dn, .slice da' m dc', .int .i64 sp, .int .i64 sl, .int .i64 sq, .int .i64 kind, .int .i64 table, .string key, .int .i64 col, .slice va' nv vc', .slice oa' no oc']) w.heap.size (.slice (some ⟨w.heap.size, 0, none⟩) n n) ((Y ++ [(c', x')]).map (·.1) ++ List.replicate (n - (k + 1)) noC)) := by
        have h1 := HPUT.out
        rw [List.map_append, HC'.out]
        exact h1
      have HYF : Hid ((Y ++ [(c', x')]).map (·.2) = (Z.take (k + 1)).map (·.2)) := by
        show _ = _
        rw [List.map_append, hY.out, HT.out]
        rfl
      have HBF : Hid (Below w.heap.size w (w1.setCells w.heap.size (k * 12) [.int .i64 dp, .int .i64 dn, .slice da' m dc', .int .i64 sp, .int .i64 sl, .int .i64 sq, .int .i64 kind, .int .i64 table, .string key, .int .i64 col, .slice va' nv vc', .slice oa' no oc'])) := HB2.out.grown hg (Nat.le_of_lt HR2.out) (fun j hj => by cases hj; exact Nat.le_refl _)
      have HRF : Hid (w.heap.size < (w1.setCells w.heap.size (k * 12) [.int .i64 dp, .int .i64 dn, .slice da' m dc', .int .i64 sp, .int .i64 sl, .int .i64 sq, .int .i64 kind, .int .i64 table, .string key, .int .i64 col, .slice va' nv vc', .slice oa' no oc']).heap.size) := by show _ < _; rw [setCells_size]; exact HR2.out
      clear hput hg hlx hlen hb hlo' hfar CK HO1 HX1 HB1 HR1 HO2 hsv HG HPUT HLX HX2 HB2 HR2
      clear HC' hc'
      go_wp2
      go_roundw
      case rel => exact ⟨k + 1, _, by omega, by go_num, HYF, HOF, HXF, HBF, HRF⟩
      case measure => simp [RowKit.intOf]; omega
    · obtain rfl : k = n := by omega
      have HY2 : Hid (Y.map (·.2) = Z.map (·.2)) := by
        show _ = _
        rw [hY.out, List.take_of_length_le (by rw [HZ.out]; omega)]
      rw [Nat.sub_self, List.replicate_zero, List.append_nil] at hO
      go_wp2
      go_ret
      exact ⟨rfl, hB.out, Y, HY2.out, hO.out, fun a b h => hX.out (a, b) h⟩

end Go.Proofs.Ytjddkodcbpnilaa

namespace Go.Proofs.Ytjddkodcbpnilaa
open Go.RowKit Go.Lib
set_option linter.unusedVariables false

/-- What is taken of X, one by one, as long as one can be had; and what is had, what is left then. -/
def tkL : Nat → List Int → List PO → List PO × List Int × List PO
  | 0, H, X => ([], H, X)
  | m + 1, H, X => match (List.range X.length).find? (fun k => (X[k]?.map (canP H)).getD false) with
    | none => ([], H, X)
    | some k => match X[k]? with
      | none => ([], H, X)
      | some x => (x :: (tkL m (H.set x.dp.toNat x.dn) (X.take k ++ X.drop (k + 1))).1, (tkL m (H.set x.dp.toNat x.dn) (X.take k ++ X.drop (k + 1))).2)

/-- take. -/
def takeF (H : List Int) (X : List PO) : List PO × List PO := ((tkL X.length H X).1, (tkL X.length H X).2.2.filter fun x => !hasD (tkL X.length H X).2.1 x.dp x.dn)

theorem idxP_cases (n : Nat) (p : Nat → Bool) : (idxP n p = -1 ∧ (List.range n).find? p = none) ∨ ∃ k, k < n ∧ idxP n p = k ∧ p k = true ∧ (List.range n).find? p = some k := by
  unfold idxP
  cases h : (List.range n).find? p with
  | none => exact .inl ⟨rfl, rfl⟩
  | some k => exact .inr ⟨k, List.mem_range.1 (List.mem_of_find?_eq_some h), rfl, List.find?_some h, rfl⟩

theorem firstP_cases (H : List Int) (X : List PO) : (firstP H X = -1 ∧ ∀ m, tkL m H X = ([], H, X)) ∨ ∃ k, ∃ hk : k < X.length, firstP H X = k ∧ canP H X[k] = true ∧ tkL X.length H X = (X[k] :: (tkL (X.length - 1) (H.set X[k].dp.toNat X[k].dn) (X.take k ++ X.drop (k + 1))).1, (tkL (X.length - 1) (H.set X[k].dp.toNat X[k].dn) (X.take k ++ X.drop (k + 1))).2) := by
  unfold firstP
  rcases idxP_cases X.length (fun k => (X[k]?.map (canP H)).getD false) with ⟨h1, h2⟩ | ⟨k, hk, h1, h2, h3⟩
  · refine .inl ⟨h1, fun m => ?_⟩
    cases m with
    | zero => rfl
    | succ m => rw [tkL, h2]
  · refine .inr ⟨k, hk, h1, ?_, ?_⟩
    · rw [List.getElem?_eq_getElem hk] at h2
      simpa using h2
    · obtain ⟨m, hm⟩ : ∃ m, X.length = m + 1 := ⟨X.length - 1, by omega⟩
      have e : X.length - 1 = m := by omega
      rw [e]
      conv => lhs; rw [hm, tkL]
      rw [h3]
      simp only [List.getElem?_eq_getElem hk]

theorem own_same {w w' : World} {B t k n : Nat} {v : Value} {xs : List Value} (h : w.ownsRow B t k v n xs) (hb : ∀ b, v.ownBlock = some b → w'.heap[b]? = w.heap[b]?) : w'.ownsRow B t k v n xs := by
  refine ⟨h.1, ?_⟩
  rcases h.2 with h0 | ⟨g, cap, cur, hv, hg, hh, hc⟩
  · exact .inl h0
  · exact .inr ⟨g, cap, cur, hv, hg, (hb g (by rw [hv]; rfl)).trans hh, hc⟩

structure TakeSt (w : World) (g0 h r N nh ch n : Nat) (vr : Value) (R Y : List (List Value × PO)) (H : List Int) (W : World) : Prop where
  box : CellsAt W g0 #[.slice (some ⟨h, 0, none⟩) nh ch] 26
  have_ : OwnI W w.heap.size (.slice (some ⟨h, 0, none⟩) nh ch) H
  left : OwnC W w.heap.size (.slice (some ⟨r, 0, none⟩) Y.length n) (Y.map (·.1))
  ready : OwnC W N vr (R.map (·.1))
  lists : ∀ z ∈ R ++ Y, LiesX (fun b => b ≤ r ∨ N ≤ b) W z.1 z.2
  below : Below w.heap.size w W
  size : N ≤ W.heap.size
  a0 : w.heap.size ≤ g0
  a1 : g0 < h
  a2 : h < r
  a3 : r < N
  len : H.length = nh
  all : All64 H

theorem TakeSt.later {w : World} {g0 h r N nh ch n : Nat} {vr : Value} {R Y : List (List Value × PO)} {H : List Int} {W W' : World} (s : TakeSt w g0 h r N nh ch n vr R Y H W) (hb : Below W.heap.size W W') : TakeSt w g0 h r N nh ch n vr R Y H W' :=
  { s with box := s.box.later hb, have_ := s.have_.later hb, left := s.left.later hb, ready := s.ready.later hb, lists := fun z hz => (s.lists z hz).later hb, below := chain s.below hb, size := Nat.le_trans s.size hb.size }

theorem TakeSt.append {w : World} {g0 h r N nh ch n : Nat} {vr vr' : Value} {R Y : List (List Value × PO)} {H : List Int} {W W' : World} (s : TakeSt w g0 h r N nh ch n vr R Y H W) (z : List Value × PO) (hz : z ∈ Y) (hg : W.grownBy W' vr.ownBlock) (ho : OwnC W' N vr' ((R ++ [z]).map (·.1))) : TakeSt w g0 h r N nh ch n vr' (R ++ [z]) Y H W' := by
  have hN : ∀ b, vr.ownBlock = some b → N ≤ b := fun b e => (World.ownsRow.lt s.ready.2 b e).1
  have a1 := s.a1
  have a2 := s.a2
  have a3 := s.a3
  have hs := s.size
  have keep : ∀ b, b < N → W'.heap[b]? = W.heap[b]? := fun b hb => hg.block b (by omega) (fun e => by have := hN b e.symm; omega)
  have hsv : Sv (fun b => b ≤ r ∨ N ≤ b) W W' := ⟨hg.os, hg.tape, hg.output, hg.size, fun b hb => hg.block b hb.1 (fun e => hb.2 (.inr (hN b e.symm)))⟩
  refine { s with box := (keep g0 (by omega)).trans s.box, have_ := own_same s.have_ (fun b e => by cases e; exact keep h (by omega)), left := s.left.same (fun b e => by cases e; exact keep r a3), ready := ho, lists := fun y hy => ?_, below := ?_, size := Nat.le_trans hs hg.size }
  · simp only [List.append_assoc, List.mem_append, List.mem_singleton] at hy
    rcases hy with hy | rfl | hy
    · exact (s.lists y (List.mem_append_left _ hy)).sv hsv
    · exact (s.lists y (List.mem_append_right _ hz)).sv hsv
    · exact (s.lists y (List.mem_append_right _ hy)).sv hsv
  · exact ⟨hg.os.trans s.below.os, hg.tape.trans s.below.tape, hg.output.trans s.below.output, Nat.le_trans s.below.size hg.size, fun b hb => (keep b (by have := s.a0; omega)).trans (s.below.block b hb)⟩

theorem TakeSt.less {w : World} {g0 h r N nh ch n m : Nat} {vr : Value} {R Y Y' : List (List Value × PO)} {H : List Int} {W W' : World} (s : TakeSt w g0 h r N nh ch n vr R Y H W) (hY : ∀ z ∈ Y', z ∈ Y) (hm : Y'.length = m) (hg : W.grownBy W' (some r)) (ho : OwnC W' w.heap.size (.slice (some ⟨r, 0, none⟩) m n) (Y'.map (·.1))) : TakeSt w g0 h r N nh ch n vr R Y' H W' := by
  have a0 := s.a0
  have a1 := s.a1
  have a2 := s.a2
  have a3 := s.a3
  have hs := s.size
  have keep : ∀ b, b < W.heap.size → b ≠ r → W'.heap[b]? = W.heap[b]? := fun b hb hne => hg.block b hb (fun e => hne (by cases e; rfl))
  have hsv : Sv (fun b => b ≤ r ∨ N ≤ b) W W' := Sv.of_grown hg (.inl (Nat.le_refl _))
  refine { s with box := (keep g0 (by omega) (by omega)).trans s.box, have_ := own_same s.have_ (fun b e => by cases e; exact keep h (by omega) (by omega)), left := by rw [hm]; exact ho, ready := s.ready.same (fun b e => ?_), lists := fun y hy => ?_, below := ?_, size := Nat.le_trans hs hg.size }
  · have := World.ownsRow.lt s.ready.2 b e
    exact keep b this.2 (by omega)
  · rcases List.mem_append.1 hy with hy | hy
    · exact (s.lists y (List.mem_append_left _ hy)).sv hsv
    · exact (s.lists y (List.mem_append_right _ (hY y hy))).sv hsv
  · exact ⟨hg.os.trans s.below.os, hg.tape.trans s.below.tape, hg.output.trans s.below.output, Nat.le_trans s.below.size hg.size, fun b hb => (keep b (by omega) (by omega)).trans (s.below.block b hb)⟩

theorem TakeSt.put {w : World} {g0 h r N nh ch n : Nat} {vr : Value} {R Y : List (List Value × PO)} {H : List Int} {W : World} (s : TakeSt w g0 h r N nh ch n vr R Y H W) (q : Nat) (d : Int) (hd : In64 d) : TakeSt w g0 h r N nh ch n vr R Y (H.set q d) (W.setCell ⟨h, q, none⟩ (.int .i64 d)) := by
  have a0 := s.a0
  have a1 := s.a1
  have a2 := s.a2
  have a3 := s.a3
  have keep : ∀ b, b ≠ h → (W.setCell ⟨h, q, none⟩ (.int .i64 d)).heap[b]? = W.heap[b]? := fun b hb => Below.heap_setCell W ⟨h, q, none⟩ _ b hb
  have hsv : Sv (fun b => b ≤ r ∨ N ≤ b) W (W.setCell ⟨h, q, none⟩ (.int .i64 d)) := (Sv.refl _ _).setCell (.inl (Nat.le_of_lt a2)) _
  refine { s with box := (keep g0 (by omega)).trans s.box, have_ := (s.have_.put s.len q d).1, left := s.left.same (fun b e => by cases e; exact keep r (by omega)), ready := s.ready.same (fun b e => keep b (by have := World.ownsRow.lt s.ready.2 b e; omega)), lists := fun y hy => (s.lists y hy).sv hsv, below := ?_, size := by simpa [World.setCell] using s.size, len := by rw [List.length_set]; exact s.len, all := fun x hx => ?_ }
  · exact ⟨s.below.os, s.below.tape, s.below.output, by simpa [World.setCell] using s.below.size, fun b hb => (keep b (by omega)).trans (s.below.block b hb)⟩
  · rcases List.mem_or_eq_of_mem_set hx with hx | rfl
    · exact s.all x hx
    · exact hd

end Go.Proofs.Ytjddkodcbpnilaa

namespace Go.Proofs.Ytjddkodcbpnilaa
open Go.RowKit Go.Lib
set_option linter.unusedVariables false

/-- A slice's length. -/
def lenV : Value → Nat
  | .slice _ n _ => n
  | _ => 0

set_option maxRecDepth 100000 in
set_option maxHeartbeats 1000000 in
theorem take1_any (g : Nat) (ah : Option Addr) (nh ch : Nat) (H : List Int) (c : List Value) (x : PO) (w : World) (hn : H.length = nh) (hl : nh ≤ 65536) (h64 : All64 H) (hr : RdI .i64 w ah H) (hg : w.cell? ⟨g, 0, none⟩ = some (.slice ah nh ch)) {E : Nat → Prop} (h : LiesX E w c x) :
    Calls Try.prog 32 (#[.agg c.toArray] ++ #[.pointer (some ⟨g, 0, none⟩)]) w fun e w' => e = .returned (.bool (hasD H x.dp x.dn)) ∧ Below w.heap.size w w' := by
  obtain ⟨da, va, oa, dc, vc, oc, rfl, hlo, hi, _⟩ := h
  have B1 := alloc_below w (.cells (cellsO x da va oa dc vc oc) 32)
  have C1 := dotHas ah nh ch x.dp x.dn H (w.alloc (.cells (cellsO x da va oa dc vc oc) 32)) hn hl h64 hi.dp hi.dn (hr.later B1)
  have y0 := cell_later B1 hg
  have HB : Hid (Below w.heap.size w (w.alloc (.cells (cellsO x da va oa dc vc oc) 32))) := B1
  clear B1 hn hl h64 hr hlo hi
  obtain ⟨dp, dn, deps, sp, sl, sq, kind, table, key, col, vals, dots⟩ := x
  simp only [cellsO] at *
  generalize hasD H dp dn = res at *
  generalize deps.length = m at *
  generalize vals.length = nv at *
  generalize dots.length = no at *
  show Calls Try.prog 32 #[.agg #[.int .i64 dp, .int .i64 dn, .slice da m dc, .int .i64 sp, .int .i64 sl, .int .i64 sq, .int .i64 kind, .int .i64 table, .string key, .int .i64 col, .slice va nv vc, .slice oa no oc], .pointer (some ⟨g, 0, none⟩)] w _
  go_enter Try.func32, Try.ntmps32
  go_wp2_with fail
  refine C1.mono ?_
  rintro e w1 ⟨rfl, hb⟩
  have HB1 : Hid (Below w.heap.size w w1) := chain HB.out hb
  clear C1 hb
  go_wp2
  go_ret
  exact ⟨rfl, HB1.out⟩

theorem canP_at {H : List Int} {x : PO} (h : canP H x = true) : ∃ q : Nat, q < H.length ∧ x.dp = q := nextD_at (Bool.and_eq_true_iff.1 h).1

/-- .. all of it in blocks from B on. -/
def RdF (B : Nat) (w : World) (a : Option Addr) (X : List PO) : Prop := ∃ Z : List (List Value × PO), Z.map (·.2) = X ∧ RdC w a (Z.map (·.1)) ∧ (∀ b o s, a = some ⟨b, o, s⟩ → B ≤ b) ∧ ∀ z ∈ Z, LiesX (fun b => b < B) w z.1 z.2

theorem RdF.rdL {B : Nat} {w : World} {a : Option Addr} {X : List PO} (h : RdF B w a X) : RdL w a X := by
  obtain ⟨Z, h1, h2, _, h3⟩ := h
  exact ⟨Z, h1, h2, fun z hz => (h3 z hz).less (fun _ k => k.elim)⟩

theorem RdF.later {B : Nat} {w w' : World} {a : Option Addr} {X : List PO} (h : RdF B w a X) (hb : Below w.heap.size w w') : RdF B w' a X := by
  obtain ⟨Z, h1, h2, h4, h3⟩ := h
  exact ⟨Z, h1, h2.later hb, h4, fun z hz => (h3 z hz).later hb⟩

theorem RdF.mono {B C : Nat} {w : World} {a : Option Addr} {X : List PO} (h : RdF B w a X) (hb : C ≤ B) : RdF C w a X := by
  obtain ⟨Z, h1, h2, h4, h3⟩ := h
  exact ⟨Z, h1, h2, fun b o s e => Nat.le_trans hb (h4 b o s e), fun z hz => (h3 z hz).less (fun _ k => Nat.lt_of_lt_of_le k hb)⟩

theorem RdF.nil (B : Nat) (w : World) : RdF B w none [] := ⟨[], rfl, RdC.nil _ _, (fun b o s e => by cases e), fun z hz => by cases hz⟩

theorem RdF.set {B g i : Nat} {w : World} {a : Option Addr} {X : List PO} (h : RdF B w a X) (hg : g < B) (v : Value) : RdF B (w.setCell ⟨g, i, none⟩ v) a X := by
  obtain ⟨Z, h1, h2, h4, h3⟩ := h
  have hsv : Sv (fun b => b < B) w (w.setCell ⟨g, i, none⟩ v) := Sv.setCell (E := fun b => b < B) (Sv.refl _ _) hg v
  refine ⟨Z, h1, fun h0 => ?_, h4, fun z hz => (h3 z hz).sv hsv⟩
  obtain ⟨b, off, e, hc⟩ := h2 h0
  exact ⟨b, off, e, fun i hi j v hj => hsv.cell (hc i hi j v hj) (by have := h4 _ _ _ e; omega)⟩

theorem own_rdF {w : World} {B : Nat} {v : Value} {E : Nat → Prop} {a : Option Addr} {n cap : Nat} {Z : List (List Value × PO)} {X : List PO} (ho : OwnC w B v (Z.map (·.1))) (e : v = .slice a n cap) (hc : RdC w a (Z.map (·.1))) (h : ∀ z ∈ Z, LiesX E w z.1 z.2) (hE : ∀ b, b < B → E b) (hX : Z.map (·.2) = X) : RdF B w a X :=
  ⟨Z, hX, hc, fun b o s ea => (World.ownsRow.lt ho.2 b (by rw [e, ea]; rfl)).1, fun z hz => (h z hz).less hE⟩

/-- What take answers. -/
def GivesT (w w' : World) (e : Ending) (r : List PO × List PO) : Prop :=
  ∃ a1 n1 c1 a2 n2 c2, e = .returned (.tuple #[.slice a1 n1 c1, .slice a2 n2 c2]) ∧ r.1.length = n1 ∧ r.2.length = n2 ∧ n1 ≤ c1 ∧ n2 ≤ c2 ∧ (a1 = none → r.1 = [] ∧ c1 = 0) ∧ (a2 = none → r.2 = [] ∧ c2 = 0) ∧ RdF w.heap.size w' a1 r.1 ∧ RdF w.heap.size w' a2 r.2 ∧ Below w.heap.size w w'

theorem lists_rdL {w : World} {E : Nat → Prop} {a : Option Addr} {Z : List (List Value × PO)} {X : List PO} (hc : RdC w a (Z.map (·.1))) (h : ∀ z ∈ Z, LiesX E w z.1 z.2) (hX : Z.map (·.2) = X) : RdL w a X := ⟨Z, hX, hc, fun z hz => (h z hz).less (fun _ k => k.elim)⟩

theorem TakeSt.first {w : World} {g0 h r N nh ch n : Nat} {vr : Value} {R Y : List (List Value × PO)} {H : List Int} {W : World} (s : TakeSt w g0 h r N nh ch n vr R Y H W) (hY : Y.length ≤ 4000) (hnh : nh ≤ 65536) :
    Calls Try.prog 29 #[.slice (some ⟨h, 0, none⟩) nh ch, .slice (some ⟨r, 0, none⟩) Y.length n] W fun e w' => e = .returned (.int .i64 (firstP H (Y.map (·.2)))) ∧ Below W.heap.size W w' := by
  obtain ⟨_, _, e1, _, r1, _⟩ := s.have_.form
  obtain ⟨_, _, e2, _, _, r2, _⟩ := s.left.form
  rw [List.length_map] at e2
  cases e1
  cases e2
  exact first_any _ _ _ _ _ _ H Y W s.len hnh s.all r1 rfl hY r2 (fun z hz => (s.lists z (List.mem_append_right _ hz)).less fun _ k => k.elim)

theorem TakeSt.had {w : World} {g0 h r N nh ch n : Nat} {vr : Value} {R Y : List (List Value × PO)} {H : List Int} {W : World} (s : TakeSt w g0 h r N nh ch n vr R Y H W) (hnh : nh ≤ 65536) (z : List Value × PO) (hz : z ∈ Y) (W' : World) (hg : W.grownBy W' (some r)) :
    Calls Try.prog 32 (#[.agg z.1.toArray] ++ #[.pointer (some ⟨g0, 0, none⟩)]) W' fun e w' => e = .returned (.bool (hasD H z.2.dp z.2.dn)) ∧ Below W'.heap.size W' w' := by
  have s' := s.less (Y' := Y) (m := Y.length) (W' := W) (fun z h => h) rfl (World.grownBy.refl _ _) s.left
  have a0 := s.a0
  have a1 := s.a1
  have a2 := s.a2
  have a3 := s.a3
  have hs := s.size
  have keep : ∀ b, b < W.heap.size → b ≠ r → W'.heap[b]? = W.heap[b]? := fun b hb hne => hg.block b hb (fun e => hne (by cases e; rfl))
  have hI : OwnI W' w.heap.size (.slice (some ⟨h, 0, none⟩) nh ch) H := own_same s.have_ (fun b e => by cases e; exact keep h (by omega) (by omega))
  obtain ⟨_, _, e1, _, r1, _⟩ := hI.form
  cases e1
  have hK : CellsAt W' g0 #[.slice (some ⟨h, 0, none⟩) H.length ch] 26 := (keep g0 (by omega) (by omega)).trans s.box
  exact take1_any g0 _ _ _ H z.1 z.2 W' rfl hnh s.all r1 (by rw [hK.cell 0]; rfl) ((s.lists z (List.mem_append_right _ hz)).sv (Sv.of_grown hg (.inl (Nat.le_refl _))))

theorem filter_map_snd {p : PO → Bool} (Y : List (List Value × PO)) : (Y.map (·.2)).filter p = (Y.filter fun z => p z.2).map (·.2) := by
  rw [List.filter_map]
  rfl

/-- The end: what is left is what is not had. -/
theorem TakeSt.done {w : World} {g0 h r N nh ch n : Nat} {vr : Value} {R Y : List (List Value × PO)} {H H0 : List Int} {X : List PO} {W W' : World} (s : TakeSt w g0 h r N nh ch n vr R Y H W) (hX : X.length = n) (htk : tkL n H0 X = (R.map (·.2), H, Y.map (·.2))) (hg : W.grownBy W' (some r))
    (ho : OwnC W' w.heap.size (.slice (some ⟨r, 0, none⟩) (Y.filter fun z => !hasD H z.2.dp z.2.dn).length n) ((Y.filter fun z => !hasD H z.2.dp z.2.dn).map (·.1))) :
    ∃ a1 c1, vr = .slice a1 R.length c1 ∧ GivesT w W' (.returned (.tuple #[.slice a1 R.length c1, .slice (some ⟨r, 0, none⟩) (Y.filter fun z => !hasD H z.2.dp z.2.dn).length n])) (takeF H0 X) := by
  have s' := s.less (fun z hz => (List.mem_filter.1 hz).1) rfl hg ho
  obtain ⟨a1, c1, e1, h1, _, r1, n1⟩ := s'.ready.form
  obtain ⟨a2, c2, e2, h2, _, r2, n2⟩ := s'.left.form
  rw [List.length_map] at e1 e2 h1 h2
  cases e2
  have e : takeF H0 X = (R.map (·.2), (Y.filter fun z => !hasD H z.2.dp z.2.dn).map (·.2)) := by
    unfold takeF
    rw [hX, htk, filter_map_snd]
  refine ⟨a1, c1, e1, a1, _, c1, _, _, n, rfl, ?_, ?_, h1, h2, ?_, (fun h => by cases h), ?_, ?_, s'.below⟩
  · rw [e, List.length_map]
  · rw [e, List.length_map]
  · rw [e]
    intro h
    obtain ⟨h1, h2⟩ := n1 h
    exact ⟨by rw [List.map_eq_nil_iff] at h1 ⊢; exact h1, h2⟩
  · rw [e]
    have ho' : OwnC W' w.heap.size vr (R.map (·.1)) := s'.ready.base (by have := s.a0; have := s.a1; have := s.a2; have := s.a3; omega)
    exact own_rdF ho' e1 r1 (fun z hz => s'.lists z (List.mem_append_left _ hz)) (fun b hb => .inl (by have := s.a0; have := s.a1; have := s.a2; omega)) rfl
  · rw [e]
    exact own_rdF s'.left rfl r2 (fun z hz => s'.lists z (List.mem_append_right _ hz)) (fun b hb => .inl (by have := s.a0; have := s.a1; have := s.a2; omega)) rfl

set_option maxRecDepth 100000 in
set_option maxHeartbeats 8000000 in
theorem take_any (ah a : Option Addr) (nh ch n cap : Nat) (H : List Int) (Z : List (List Value × PO)) (w : World) (hn : H.length = nh) (h1 : 1 ≤ nh) (hl : nh ≤ 5) (h64 : All64 H) (hr : RdI .i64 w ah H) (hnil : ah = none → H = [] ∧ ch = 0) (hz : Z.length = n) (h4 : n ≤ 1000) (hc : RdC w a (Z.map (·.1))) (h : ∀ z ∈ Z, LiesX (fun _ => False) w z.1 z.2) :
    Calls Try.prog 17 #[.slice ah nh ch, .slice a n cap] w fun e w' => GivesT w w' e (takeF H (Z.map (·.2))) := by
  have B1 := alloc_below w (.cells #[.slice ah nh ch] 26)
  have HK : Hid (CellsAt (w.alloc (.cells #[.slice ah nh ch] 26)) w.heap.size #[.slice ah nh ch] 26) := CellsAt.made rfl
  have C1 := cloneI_any ah nh ch H (w.alloc (.cells #[.slice ah nh ch] 26)) hn (by omega) hnil (hr.later B1)
  have C2 := fun V (hb : Below w.heap.size w V) => cloneAll_any a n cap Z V hz (by omega) (hc.later hb) (fun z hz => (h z hz).later hb)
  have HB : Hid (Below w.heap.size w (w.alloc (.cells #[.slice ah nh ch] 26))) := B1
  have HS : Hid ((w.alloc (.cells #[.slice ah nh ch] 26)).heap.size = w.heap.size + 1) := by show _ = _; simp
  have HN : Hid (H.length = nh) := hn
  have HA : Hid (All64 H) := h64
  have HZ : Hid (Z.length = n) := hz
  have HXl : Hid ((Z.map (·.2)).length = n) := by show _ = _; rw [List.length_map, hz]
  generalize Z.map (·.2) = X at *
  clear B1 hr hc h h64 hn hz hnil
  go_enter Try.func17, Try.ntmps17
  go_wp2_with fail
  refine C1.mono ?_
  rintro e w1 ⟨a1, c1, rfl, hc1, ho1, hx1, hb1⟩
  obtain ⟨h, rfl, hh⟩ : ∃ h, a1 = some ⟨h, 0, none⟩ ∧ w.heap.size + 1 ≤ h := by
    rcases ho1.2 with ⟨_, h0⟩ | ⟨g, c, cur, hv, hg, _⟩
    · rw [HN.out] at h0; omega
    · simp only [Value.slice.injEq] at hv
      rw [HS.out] at hg
      exact ⟨g, hv.1, hg⟩
  have HO1 : Hid (OwnI w1 w.heap.size (.slice (some ⟨h, 0, none⟩) nh c1) H) := own_base ho1 (by rw [HS.out]; omega)
  have HH : Hid (w.heap.size < h ∧ h < w1.heap.size) := ⟨by omega, (World.ownsRow.lt ho1 h rfl).2⟩
  have HB1 : Hid (Below w.heap.size w w1) := chain HB.out hb1
  have HK1 : Hid (CellsAt w1 w.heap.size #[.slice ah nh ch] 26) := HK.out.later hb1
  clear C1 ho1 hb1 hc1 hh HK HB HS hx1
  go_wp2_with fail
  refine (C2 _ HB1.out).mono ?_
  rintro e w2 ⟨rfl, hb2, Y, hY, hOY, hLY⟩
  have hK2 := HK1.out.later hb2
  have y0 := hK2.cell 0
  have z0 := hK2.free 0
  simp at y0
  have HYl : Hid (Y.length = n) := by
    have := congrArg List.length hY
    rw [List.length_map] at this
    show _ = _
    rw [this, HXl.out]
  have HST : Hid (TakeSt w w.heap.size h w1.heap.size w2.heap.size nh c1 n (.slice none 0 0) [] Y H (w2.setCell ⟨w.heap.size, 0, none⟩ (.slice (some ⟨h, 0, none⟩) nh c1))) := by
    have hr2 := World.ownsRow.lt hOY.2 _ rfl
    have hsv : Sv (fun b => b ≤ w1.heap.size ∨ w2.heap.size ≤ b) w2 (w2.setCell ⟨w.heap.size, 0, none⟩ (.slice (some ⟨h, 0, none⟩) nh c1)) := (Sv.refl _ _).setCell (.inl (by have := HH.out; omega)) _
    have keep : ∀ b, b ≠ w.heap.size → (w2.setCell ⟨w.heap.size, 0, none⟩ (.slice (some ⟨h, 0, none⟩) nh c1)).heap[b]? = w2.heap[b]? := fun b hb => Below.heap_setCell w2 ⟨w.heap.size, 0, none⟩ _ b hb
    have hh := HH.out
    refine { box := ?_, have_ := own_same (HO1.out.later hb2) (fun b e => by cases e; exact keep h (by omega)), left := ?_, ready := OwnC.nought _ _, lists := fun z hz => ((hLY z (by simpa using hz)).now).sv hsv, below := ?_, size := by simp [World.setCell], a0 := Nat.le_refl _, a1 := hh.1, a2 := hh.2, a3 := hr2.2, len := HN.out, all := HA.out }
    · exact hK2.set 0 _
    · rw [HYl.out]
      exact (hOY.base (Nat.le_trans HB1.out.size (Nat.le_refl _))).same (fun b e => by cases e; exact keep w1.heap.size (by have := HB1.out.size; omega))
    · have hbb := chain HB1.out hb2
      exact ⟨hbb.os, hbb.tape, hbb.output, by simpa [World.setCell] using hbb.size, fun b hb => (keep b (by omega)).trans (hbb.block b hb)⟩
  have HYX : Hid (Y.map (·.2) = X) := hY
  have HTK : Hid (tkL n H X = (([] : List (List Value × PO)).map (·.2) ++ (tkL Y.length H (Y.map (·.2))).1, (tkL Y.length H (Y.map (·.2))).2)) := by
    show _ = _
    rw [HYl.out, HYX.out]
    rfl
  clear C2 hb2 hK2 hOY hLY hY HO1 HK1 HB1
  have CF := HST.out.first (by rw [HYl.out]; omega) (by omega)
  rw [HYl.out] at CF
  go_wp2_with fail
  refine CF.mono ?_
  rintro e w3 ⟨rfl, hb3⟩
  replace HST := (show Hid (TakeSt w w.heap.size h w1.heap.size w2.heap.size nh c1 n (.slice none 0 0) [] Y H w3) from HST.out.later hb3)
  clear CF hb3
  clear y0 z0
  obtain ⟨r, hr⟩ : ∃ r, w1.heap.size = r := ⟨_, rfl⟩
  obtain ⟨N, hN⟩ : ∃ N, w2.heap.size = N := ⟨_, rfl⟩
  rw [hr] at HST
  rw [hN] at HST
  rw [hr]
  clear HH
  go_wp2
  go_loopw [4, 5, 6] (fun v4 v5 v6 wr => ∃ (R Y : List (List Value × PO)) (H' : List Int) (a4 : Option Addr) (c4 : Nat), v4 = .slice a4 R.length c4 ∧ v5 = .slice (some ⟨r, 0, none⟩) Y.length n ∧ v6 = .int .i64 (firstP H' (Y.map (·.2))) ∧ Hid (R.length + Y.length = n) ∧ Hid (TakeSt w w.heap.size h r N nh c1 n (.slice a4 R.length c4) R Y H' wr) ∧ Hid (tkL n H X = (R.map (·.2) ++ (tkL Y.length H' (Y.map (·.2))).1, (tkL Y.length H' (Y.map (·.2))).2))) (fun _ v5 _ _ => lenV v5)
  case atStart => exact ⟨[], Y, H, none, 0, rfl, by rw [HYl.out], by rw [HYX.out], by show _ = _; simp [HYl.out], HST, HTK⟩
  case round =>
    clear HST HTK HYX HYl hr hN
    obtain ⟨R, Y, H', a4, c4, rfl, rfl, rfl, hRY, hS, hT⟩ := hrel
    have hY1 : Y.length ≤ n := by have := hRY.out; omega
    rcases firstP_cases H' (Y.map (·.2)) with ⟨hf, ht⟩ | ⟨k, hk, hf, hcan, ht⟩
    · rw [hf]
      have HTT : Hid (tkL n H X = (R.map (·.2), H', Y.map (·.2))) := by show _ = _; rw [hT.out, ht]; simp
      have CD := deleteFunc_any r n Y.length w.heap.size 32 #[.pointer (some ⟨w.heap.size, 0, none⟩)] Y (fun z => hasD H' z.2.dp z.2.dn) wr rfl (by omega) (fun z hz => (hS.out.lists z (List.mem_append_right _ hz)).shape) hS.out.left (enters 32 Try.func32 (by kernel_rfl) rfl) (fun k hk V hg => hS.out.had (by omega) _ (List.getElem_mem hk) V hg)
      have HF : Hid (∀ V, _) := fun V h1 h2 => hS.out.done (W' := V) HXl.out HTT.out h1 h2
      clear hf ht hT
      go_wp2_with fail
      refine CD.mono ?_
      rintro e w9 ⟨rfl, ho9, hg9⟩
      obtain ⟨a1, c1', e1, hgt⟩ := HF.out _ hg9 ho9
      cases e1
      have HG : Hid _ := hgt
      clear CD ho9 hg9 HF hgt hS HTT
      go_wp2
      go_ret2
      exact HG.out
    · have hkY : k < Y.length := by rw [List.length_map] at hk; exact hk
      have hcan2 : canP H' Y[k].2 = true := by rw [List.getElem_map] at hcan; exact hcan
      have hT2 : tkL n H X = ((R ++ [Y[k]]).map (·.2) ++ (tkL (Y.take k ++ Y.drop (k + 1)).length (H'.set Y[k].2.dp.toNat Y[k].2.dn) ((Y.take k ++ Y.drop (k + 1)).map (·.2))).1, (tkL (Y.take k ++ Y.drop (k + 1)).length (H'.set Y[k].2.dp.toNat Y[k].2.dn) ((Y.take k ++ Y.drop (k + 1)).map (·.2))).2) := by
        rw [List.length_map] at ht
        rw [hT.out, ht]
        have e1 : (Y.take k ++ Y.drop (k + 1)).length = Y.length - 1 := by simp; omega
        rw [e1, List.map_append, List.map_append, List.getElem_map, List.map_take, List.map_drop]
        simp
      have HYm : Hid ((Y.take k ++ Y.drop (k + 1)).length = k + (Y.length - (k + 1))) := by show _ = _; simp; omega
      have HYs : Hid (∀ z ∈ Y.take k ++ Y.drop (k + 1), z ∈ Y) := fun z hz => by
        rcases List.mem_append.1 hz with hz | hz
        · exact List.mem_of_mem_take hz
        · exact List.mem_of_mem_drop hz
      have HYp : Hid ((Y.take k ++ Y.drop (k + 1)).map (·.1) = (Y.map (·.1)).take k ++ (Y.map (·.1)).drop (k + 1)) := by show _ = _; rw [List.map_append, List.map_take, List.map_drop]
      have hR1 : R.length ≤ n := by have := hRY.out; omega
      have hmem : Y[k] ∈ Y := List.getElem_mem hkY
      obtain ⟨q, hq, hdp⟩ := canP_at hcan2
      obtain ⟨_, _, e2, _, _, hrd, _⟩ := hS.out.left.form
      rw [List.length_map] at e2
      cases e2
      obtain ⟨_, _, he, hc⟩ := hrd (by rw [List.length_map]; omega)
      simp only [Option.some.injEq, Addr.mk.injEq, and_true] at he
      obtain ⟨rfl, rfl⟩ := he
      have hck := hc k (by rw [List.length_map]; exact hkY)
      rw [List.getElem_map] at hck
      obtain ⟨da, va, oa, dc, vc, oc, hcs, hlo, hi, _⟩ := hS.out.lists _ (List.mem_append_right _ hmem)
      have hdn := hi.dn
      rw [hcs] at hck
      obtain ⟨z, hz⟩ : ∃ z, z = Y[k] := ⟨_, rfl⟩
      rw [← hz] at hT2 hmem hdp hck hcs hdn hlo
      clear hz hc hrd hlo hi hcan hcan2 ht hT hk
      obtain ⟨c, x⟩ := z
      simp only at hT2 hmem hdp hck hcs hdn
      obtain ⟨dp, dn, deps, sp, sl, sq, kind, table, key, col, vals, dots⟩ := x
      simp only at hck hcs hdp hdn hT2
      generalize deps.length = m at *
      generalize vals.length = nv at *
      generalize dots.length = no at *
      subst hdp
      have x0 := hck 0 _ rfl
      have x1 := hck 1 _ rfl
      have x2 := hck 2 _ rfl
      have x3 := hck 3 _ rfl
      have x4 := hck 4 _ rfl
      have x5 := hck 5 _ rfl
      have x6 := hck 6 _ rfl
      have x7 := hck 7 _ rfl
      have x8 := hck 8 _ rfl
      have x9 := hck 9 _ rfl
      have x10 := hck 10 _ rfl
      have x11 := hck 11 _ rfl
      simp only [Nat.zero_add, Nat.add_zero] at x0 x1 x2 x3 x4 x5 x6 x7 x8 x9 x10 x11
      clear hck
      have hb1 := alloc_below wr (.cells #[.int .i64 (q : Int), .int .i64 dn, .slice da m dc, .int .i64 sp, .int .i64 sl, .int .i64 sq, .int .i64 kind, .int .i64 table, .string key, .int .i64 col, .slice va nv vc, .slice oa no oc] 32)
      have hb2 := chain hb1 (alloc_below (wr.alloc (.cells #[.int .i64 (q : Int), .int .i64 dn, .slice da m dc, .int .i64 sp, .int .i64 sl, .int .i64 sq, .int .i64 kind, .int .i64 table, .string key, .int .i64 col, .slice va nv vc, .slice oa no oc] 32)) (.cells #[.int .i64 (q : Int), .int .i64 dn, .slice da m dc, .int .i64 sp, .int .i64 sl, .int .i64 sq, .int .i64 kind, .int .i64 table, .string key, .int .i64 col, .slice va nv vc, .slice oa no oc] 32))
      have SB := hS.out.later hb2
      have hrc : RdC ((wr.alloc (.cells #[.int .i64 (q : Int), .int .i64 dn, .slice da m dc, .int .i64 sp, .int .i64 sl, .int .i64 sq, .int .i64 kind, .int .i64 table, .string key, .int .i64 col, .slice va nv vc, .slice oa no oc] 32)).alloc (.cells #[.int .i64 (q : Int), .int .i64 dn, .slice da m dc, .int .i64 sp, .int .i64 sl, .int .i64 sq, .int .i64 kind, .int .i64 table, .string key, .int .i64 col, .slice va nv vc, .slice oa no oc] 32)) (some ⟨wr.heap.size + 1, 0, none⟩) [c] := fun _ => ⟨wr.heap.size + 1, 0, rfl, fun i hi j v hj => by
        have hi0 : i = 0 := by simpa using hi
        subst hi0
        have hK2 : CellsAt ((wr.alloc (.cells #[.int .i64 (q : Int), .int .i64 dn, .slice da m dc, .int .i64 sp, .int .i64 sl, .int .i64 sq, .int .i64 kind, .int .i64 table, .string key, .int .i64 col, .slice va nv vc, .slice oa no oc] 32)).alloc (.cells #[.int .i64 (q : Int), .int .i64 dn, .slice da m dc, .int .i64 sp, .int .i64 sl, .int .i64 sq, .int .i64 kind, .int .i64 table, .string key, .int .i64 col, .slice va nv vc, .slice oa no oc] 32)) (wr.heap.size + 1) #[.int .i64 (q : Int), .int .i64 dn, .slice da m dc, .int .i64 sp, .int .i64 sl, .int .i64 sq, .int .i64 kind, .int .i64 table, .string key, .int .i64 col, .slice va nv vc, .slice oa no oc] 32 := CellsAt.made (by simp)
        simp only [List.getElem_cons_zero] at hj
        rw [hcs] at hj
        rw [Nat.zero_mul, Nat.add_zero, Nat.zero_add, hK2.cell j]
        simpa using hj⟩
      have hdz : Dozen [c] := fun u hu => by
        simp only [List.mem_singleton] at hu
        subst hu
        exact (hS.out.lists _ (List.mem_append_right _ hmem)).shape.dozen
      obtain ⟨v5, w7, hrun, ho7, hg7, _⟩ := run_append_ops (ty := 22) (cap := 1) SB.ready (n := R.length) (by rw [List.length_map]) (m := 1) rfl hdz hrc (fun h => by cases h) (by omega) (by omega) SB.size
      have S7 := SB.append _ hmem hg7 (by rw [List.map_append]; exact ho7)
      obtain ⟨a5, c5, e5, _, _, _, _⟩ := S7.ready.form
      rw [List.length_map, List.length_append, List.length_singleton] at e5
      subst e5
      have HBX : Hid (CellsAt w7 wr.heap.size #[.int .i64 (q : Int), .int .i64 dn, .slice da m dc, .int .i64 sp, .int .i64 sl, .int .i64 sq, .int .i64 kind, .int .i64 table, .string key, .int .i64 col, .slice va nv vc, .slice oa no oc] 32) := by
        have hk1 : CellsAt ((wr.alloc (.cells #[.int .i64 (q : Int), .int .i64 dn, .slice da m dc, .int .i64 sp, .int .i64 sl, .int .i64 sq, .int .i64 kind, .int .i64 table, .string key, .int .i64 col, .slice va nv vc, .slice oa no oc] 32)).alloc (.cells #[.int .i64 (q : Int), .int .i64 dn, .slice da m dc, .int .i64 sp, .int .i64 sl, .int .i64 sq, .int .i64 kind, .int .i64 table, .string key, .int .i64 col, .slice va nv vc, .slice oa no oc] 32)) wr.heap.size #[.int .i64 (q : Int), .int .i64 dn, .slice da m dc, .int .i64 sp, .int .i64 sl, .int .i64 sq, .int .i64 kind, .int .i64 table, .string key, .int .i64 col, .slice va nv vc, .slice oa no oc] 32 := (CellsAt.made rfl).later (alloc_below _ _)
        exact (hg7.block _ hk1.lt (fun e => by have := World.ownsRow.lt hS.out.ready.2 _ e.symm; omega)).trans hk1
      have CD := deleteOps_any r n Y.length k (k + 1) w.heap.size (Y.map (·.1)) w7 (by rw [List.length_map]) (by omega) (by omega) (by omega) S7.left
      have HS7 : Hid (TakeSt w w.heap.size h r N nh c1 n (.slice a5 (R.length + 1) c5) (R ++ [_]) Y H' w7) := S7
      have HT2 : Hid (tkL n H X = _) := hT2
      have HBXr : Hid (wr.heap.size ≠ r) := by show _ ≠ _; have := hS.out.a3; have := hS.out.size; omega
      have HRY : Hid ((R ++ [(c, (⟨q, dn, deps, sp, sl, sq, kind, table, key, col, vals, dots⟩ : PO))]).length + (Y.take k ++ Y.drop (k + 1)).length = n) := by show _ = _; rw [HYm.out, List.length_append, List.length_singleton]; have := hRY.out; omega
      have HRl : Hid ((R ++ [(c, (⟨q, dn, deps, sp, sl, sq, kind, table, key, col, vals, dots⟩ : PO))]).length = R.length + 1) := by show _ = _; rw [List.length_append, List.length_singleton]
      have hqn : q < nh := by have := hS.out.len; omega
      have HDN : Hid (In64 dn) := hdn
      clear hb1 hb2 SB hrc hdz ho7 hg7 S7 hT2 hRY hS hmem hdn hq hcs
      rw [hf]
      have kk0 : (0 : Int) ≤ (k : Int) := by omega
      have kk1 : (k : Int) < (Y.length : Int) := by omega
      have ek : ((k + 1 : Nat) : Int) = (k : Int) + 1 := by omega
      rw [ek, ← HYm.out, ← HYp.out] at CD
      simp only [Int.toNat_natCast] at HT2
      have HYL : Hid ((Y.take k ++ Y.drop (k + 1)).length < Y.length) := by show _ < _; rw [HYm.out]; omega
      generalize Y.take k ++ Y.drop (k + 1) = Y' at *
      clear ek HYm HYp
      go_wp2_with (at_builtin; refine wpList_append_run rfl _ _ 22 22 rfl _ _ _ _ rfl rfl hrun ?_)
      refine CD.mono ?_
      rintro e w8 ⟨rfl, ho8, hg8⟩
      have S8 := HS7.out.less (Y' := Y') HYs.out rfl hg8 ho8
      have HBX8 : Hid (CellsAt w8 wr.heap.size #[.int .i64 (q : Int), .int .i64 dn, .slice da m dc, .int .i64 sp, .int .i64 sl, .int .i64 sq, .int .i64 kind, .int .i64 table, .string key, .int .i64 col, .slice va nv vc, .slice oa no oc] 32) := (hg8.block _ HBX.out.lt (fun e => HBXr.out (by cases e; rfl))).trans HBX.out
      obtain ⟨y0, y1, y2, y3, y4, y5, y6, y7, y8, y9, y10, y11⟩ := cells12 HBX8.out
      have z0 := S8.box.cell 0
      simp only [List.getElem?_toArray, List.getElem?_cons_zero] at z0
      obtain ⟨⟨hv, u0⟩, fu0⟩ : (∃ hv, w8.cell? ⟨h, q, none⟩ = some hv) ∧ w8.frozen? ⟨h, q, none⟩ = false := ⟨⟨_, (S8.have_.at_ S8.len hqn).1⟩, (S8.have_.at_ S8.len hqn).2⟩
      have qq0 : (0 : Int) ≤ (q : Int) := by omega
      have qq1 : (q : Int) < (nh : Int) := by omega
      have S9 := S8.put q dn HDN.out
      have CF := S9.first (by have := HYL.out; omega) (by omega)
      have HS9 : Hid (TakeSt w w.heap.size h r N nh c1 n (.slice a5 (R.length + 1) c5) (R ++ [_]) Y' (H'.set q dn) _) := S9
      have z1 := S9.box.cell 0
      simp only [List.getElem?_toArray, List.getElem?_cons_zero] at z1
      clear CD ho8 hg8 S8 S9 HBX8 hrun HS7 HBX
      go_wp2_with fail
      refine CF.mono ?_
      rintro e w10 ⟨rfl, hb10⟩
      have HS10 : Hid (TakeSt w w.heap.size h r N nh c1 n (.slice a5 (R.length + 1) c5) (R ++ [_]) Y' (H'.set q dn) w10) := HS9.out.later hb10
      clear CF hb10 HS9 y0 y1 y2 y3 y4 y5 y6 y7 y8 y9 y10 y11 z0 z1 u0 fu0
      go_wp2
      go_roundw
      case rel => exact ⟨_, Y', H'.set q dn, a5, c5, by rw [HRl.out], rfl, rfl, HRY, by rw [HRl.out]; exact HS10, HT2⟩
      case measure => simp only [lenV]; exact HYL.out

end Go.Proofs.Ytjddkodcbpnilaa
