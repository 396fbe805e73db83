/-
  Texts of the proof of OpReads, one behind the other.
-/
import Derived.Test.YtmcbdfmajciklaaRows
import Derived.Test.YtmcbdfmajciklaaG34OpReads
import Derived.Test.YtmcbdfmajciklaaG33OpReads
import Derived.Test.YtmcbdfmajciklaaG31OpReads
import Derived.Test.YtmcbdfmajciklaaG19OpReads
namespace Go.Proofs.Ytmcbdfmajciklaa
open Go.RowKit Go.Lib
set_option linter.unusedVariables false

theorem k4V {W w w' : World} {b0 b1 b2 b3 o0 o1 o2 o3 : Nat} {x0 x1 x2 x3 : Value} (hb : Below w.heap.size w w')
    (h : w.cell? ⟨b0, o0, none⟩ = some x0 ∧ w.cell? ⟨b1, o1, none⟩ = some x1 ∧ w.cell? ⟨b2, o2, none⟩ = some x2 ∧ w.cell? ⟨b3, o3, none⟩ = some x3 ∧ Hid (Below W.heap.size W w)) :
    w'.cell? ⟨b0, o0, none⟩ = some x0 ∧ w'.cell? ⟨b1, o1, none⟩ = some x1 ∧ w'.cell? ⟨b2, o2, none⟩ = some x2 ∧ w'.cell? ⟨b3, o3, none⟩ = some x3 ∧ Hid (Below W.heap.size W w') :=
  ⟨cell_later hb h.1, cell_later hb h.2.1, cell_later hb h.2.2.1, cell_later hb h.2.2.2.1, chain h.2.2.2.2.out hb⟩

theorem o4V {W w : World} {P Q R S : Prop} (h : P ∧ Q ∧ R ∧ S ∧ Hid (Below w.heap.size w W)) : Below w.heap.size w W := h.2.2.2.2.out

theorem k2V {W w w' : World} {b0 b1 o0 o1 : Nat} {x0 x1 : Value} (hb : Below w.heap.size w w')
    (h : w.cell? ⟨b0, o0, none⟩ = some x0 ∧ w.cell? ⟨b1, o1, none⟩ = some x1 ∧ Hid (Below W.heap.size W w)) :
    w'.cell? ⟨b0, o0, none⟩ = some x0 ∧ w'.cell? ⟨b1, o1, none⟩ = some x1 ∧ Hid (Below W.heap.size W w') :=
  ⟨cell_later hb h.1, cell_later hb h.2.1, chain h.2.2.out hb⟩

theorem o2V {W w : World} {P Q : Prop} (h : P ∧ Q ∧ Hid (Below w.heap.size w W)) : Below w.heap.size w W := h.2.2.out

/-- A place of so many. -/
def placeF (count at_ : Int) : Bool := decide (0 ≤ at_ ∧ at_ < count)

theorem opPlace_any (count at_ : Int) (w : World) :
    Calls Try.prog 85 #[.int .i64 count, .int .i64 at_] w fun e w' => e = .returned (.bool (placeF count at_)) ∧ w' = w := by
  unfold placeF
  by_cases h1 : 0 ≤ at_
  · by_cases h2 : at_ < count
    · rw [decide_eq_true ⟨h1, h2⟩]
      go_enter Try.func85, Try.ntmps85
      go_wp2
      go_ret
      exact ⟨by first | (simp; done) | (simp; omega), rfl⟩
    · rw [decide_eq_false (by omega)]
      go_enter Try.func85, Try.ntmps85
      go_wp2
      go_ret
      exact ⟨by first | (simp; done) | (simp; omega), rfl⟩
  · rw [decide_eq_false (by omega)]
    go_enter Try.func85, Try.ntmps85
    go_wp2
    go_ret
    exact ⟨by first | (simp; done) | (simp; omega), rfl⟩

/-- May these be put into columns of these types? -/
def putF (vs : List PV) (ts : List Int) : Bool := fitsR vs ts && vs.all smallV

set_option maxRecDepth 100000 in
set_option maxHeartbeats 4000000 in
theorem opPut_any (a b : Option Addr) (n m cap dap : Nat) (vs : List PV) (ts : List Int) (w : World) (hn : vs.length = n) (hm : ts.length = m) (hl : n ≤ 65536) (hl' : m ≤ 65536) (ha : RdV w a vs) (hb : RdI .i64 w b ts) :
    Calls Try.prog 86 #[.slice a n cap, .slice b m dap] w fun e w' => e = .returned (.bool (putF vs ts)) ∧ Below w.heap.size w w' := by
  have HN : Hid (vs.length = n) := hn
  have HA : Hid (RdV w a vs) := ha
  have C := rowFitsC a b n m cap dap vs ts w hn hm hl hl' ha hb
  have HP : Hid (putF vs ts = (fitsR vs ts && vs.all smallV)) := rfl
  clear hn hm ha hb
  generalize fitsR vs ts = f at *
  cases f with
  | false =>
    go_enter Try.func86, Try.ntmps86
    go_wp2_with fail
    refine C.mono ?_
    rintro e w1 ⟨rfl, hb1⟩
    go_wp2
    go_ret
    exact ⟨by rw [HP.out]; rfl, hb1⟩
  | true =>
    go_enter Try.func86, Try.ntmps86
    go_wp2_with fail
    refine C.mono ?_
    rintro e w1 ⟨rfl, hb1⟩
    have HB1 : Hid (Below w.heap.size w w1) := hb1
    clear hb1 C
    go_wp2
    go_loopw [13] (fun i wr => ∃ k : Nat, k ≤ n ∧ i = .int .i64 k ∧ Hid ((vs.take k).all smallV = true) ∧ Hid (Below w.heap.size w wr)) (fun i _ => n - (RowKit.intOf i).toNat)
    case atStart => exact ⟨0, Nat.zero_le _, rfl, rfl, HB1⟩
    case round =>
    clear HB1
    obtain ⟨k, hk, rfl, hT, hB⟩ := hrel
    by_cases hlt : k < n
    · have hkl : k < vs.length := by rw [HN.out]; exact hlt
      obtain ⟨b1, o1, rfl, hc⟩ := (HA.out.later hB.out) (by omega)
      obtain ⟨x0, x1, x2⟩ := hc k hkl
      have HS : Hid ((vs.take (k + 1)).all smallV = smallV vs[k]) := allP_take hkl hT.out
      have HX : Hid (smallV vs[k] = false → vs.all smallV = false) := fun h => allP_no hkl h
      clear hc
      generalize vs[k] = v at *
      clear hkl
      obtain ⟨vk, vi, vs'⟩ := v
      simp only at x0 x1 x2
      have C2 := valueSmall vk vi vs' (wr.alloc (.cells #[.int .i64 vk, .int .i64 vi, .string vs'] 102))
      generalize smallV ⟨vk, vi, vs'⟩ = c at *
      cases c with
      | true =>
        go_wp2_with fail
        refine C2.mono ?_
        rintro e w5 ⟨rfl, hb5⟩
        have HB5 : Hid (Below w.heap.size w w5) := chain hB.out (chain (alloc_below _ _) hb5)
        clear hb5 C2
        go_wp2
        go_roundw
        case rel => exact ⟨k + 1, by omega, by go_num, HS, HB5⟩
        case measure => simp [RowKit.intOf]; omega
      | false =>
        have HXX : Hid (vs.all smallV = false) := HX.out rfl
        go_wp2_with fail
        refine C2.mono ?_
        rintro e w5 ⟨rfl, hb5⟩
        have HB5 : Hid (Below w.heap.size w w5) := chain hB.out (chain (alloc_below _ _) hb5)
        clear hb5 C2
        go_wp2
        go_ret
        exact ⟨by rw [HP.out, HXX.out]; rfl, HB5.out⟩
    have HQ : Hid (vs.all smallV = true) := by
      have h := hT.out
      rw [List.take_of_length_le (by rw [HN.out]; omega)] at h
      exact h
    go_wp2
    go_ret
    exact ⟨by rw [HP.out, HQ.out]; rfl, hB.out⟩

/-- May these be removed by one that had these? -/
def stepF (deps : List Int) (ds : List (Int × Int)) (i : Nat) : Bool :=
  hasD deps (ds[i]?.getD (0, 0)).1 (ds[i]?.getD (0, 0)).2 && (i == 0 || lessD (ds[i - 1]?.getD (0, 0)).1 (ds[i - 1]?.getD (0, 0)).2 (ds[i]?.getD (0, 0)).1 (ds[i]?.getD (0, 0)).2)

def remF (deps : List Int) (ds : List (Int × Int)) : Bool := decide (1 ≤ ds.length ∧ ds.length ≤ 64) && (List.range ds.length).all (stepF deps ds)

theorem range_step {P : Nat → Bool} {k : Nat} (h : (List.range k).all P = true) : (List.range (k + 1)).all P = P k := by
  rw [List.range_succ, List.all_append, h]
  simp

theorem range_no {P : Nat → Bool} {k n : Nat} (hk : k < n) (h : P k = false) : (List.range n).all P = false := by
  rw [List.all_eq_false]
  exact ⟨k, by simpa using hk, by simpa using h⟩

set_option maxHeartbeats 400000 in
theorem opRem_len (a b : Option Addr) (n m cap dap : Nat) (w : World) (h : n < 1 ∨ 64 < n) (hl : n ≤ 65536) :
    Calls Try.prog 87 #[.slice a n cap, .slice b m dap] w fun e w' => e = .returned (.bool false) ∧ Below w.heap.size w w' := by
  rcases h with h | h
  · obtain rfl : n = 0 := by omega
    go_enter Try.func87, Try.ntmps87
    go_wp2
    go_ret
    exact ⟨rfl, Below.refl _ _⟩
  · go_enter Try.func87, Try.ntmps87
    go_wp2
    go_ret
    exact ⟨rfl, Below.refl _ _⟩

set_option maxRecDepth 100000 in
set_option maxHeartbeats 20000000 in
theorem opRem_few (b1 o1 : Nat) (b : Option Addr) (n m cap dap : Nat) (ds : List (Int × Int)) (deps : List Int) (w : World) (hn : ds.length = n) (h1 : 1 ≤ n) (h64 : n ≤ 64) (hm : deps.length = m) (hl' : m ≤ 65536) (ha : RdD w (some ⟨b1, o1, none⟩) ds) (hb : RdI .i64 w b deps) (hdp : All64 deps) (hds : ∀ d ∈ ds, In64 d.1 ∧ In64 d.2) :
    Calls Try.prog 87 #[.slice (some ⟨b1, o1, none⟩) n cap, .slice b m dap] w fun e w' => e = .returned (.bool (remF deps ds)) ∧ Below w.heap.size w w' := by
  have HN : Hid (ds.length = n) := hn
  have HM : Hid (deps.length = m) := hm
  have HA : Hid (RdD w (some ⟨b1, o1, none⟩) ds) := ha
  have HB : Hid (RdI .i64 w b deps) := hb
  have HD : Hid (remF deps ds = (List.range n).all (stepF deps ds)) := by
    show _ = _
    unfold remF
    rw [hn, decide_eq_true ⟨h1, h64⟩, Bool.true_and]
  clear hn hm ha hb
  go_enter Try.func87, Try.ntmps87
  go_wp2
  go_loopw [17] (fun i wr => ∃ k : Nat, k ≤ n ∧ i = .int .i64 k ∧ Hid ((List.range k).all (stepF deps ds) = true) ∧ Hid (Below w.heap.size w wr)) (fun i _ => n - (RowKit.intOf i).toNat)
  case atStart => exact ⟨0, Nat.zero_le _, rfl, rfl, Below.refl _ _⟩
  case round =>
  obtain ⟨k, hk, rfl, hT, hB⟩ := hrel
  by_cases hlt : k < n
  · have hkl : k < ds.length := by rw [HN.out]; exact hlt
    obtain ⟨b', o', e', hc⟩ := (HA.out.later hB.out) (by omega)
    simp only [Option.some.injEq, Addr.mk.injEq, and_true] at e'
    obtain ⟨rfl, rfl⟩ := e'
    obtain ⟨x0, x1⟩ := hc k hkl
    have HS : Hid ((List.range (k + 1)).all (stepF deps ds) = stepF deps ds k) := range_step hT.out
    have HX : Hid (stepF deps ds k = false → remF deps ds = false) := fun h => by rw [HD.out]; exact range_no hlt h
    have hi := hds _ (List.getElem_mem hkl)
    have eK : ds[k]?.getD (0, 0) = ds[k] := by rw [List.getElem?_eq_getElem hkl]; rfl
    have HST : Hid (stepF deps ds k = (hasD deps ds[k].1 ds[k].2 && (k == 0 || lessD (ds[k - 1]?.getD (0, 0)).1 (ds[k - 1]?.getD (0, 0)).2 ds[k].1 ds[k].2))) := by
      show _ = _
      unfold stepF
      rw [eK]
    obtain ⟨i0, i1⟩ := hi
    have Hc : Hid (∀ i (hi : i < ds.length), wr.cell? ⟨b1, o1 + i * 2, none⟩ = some (.int .i64 ds[i].1) ∧ wr.cell? ⟨b1, o1 + i * 2 + 1, none⟩ = some (.int .i64 ds[i].2)) := hc
    clear hc eK
    generalize ds[k] = d at *
    clear hkl
    obtain ⟨p, q⟩ := d
    simp only at x0 x1 i0 i1 HST
    have bx := box2 wr wr.heap.size rfl (.int .i64 p) (.int .i64 q) 25
    have HB1 : Hid (Below w.heap.size w (wr.alloc (.cells #[.int .i64 p, .int .i64 q] 25))) := chain hB.out (alloc_below _ _)
    have k0 : (0 : Int) ≤ (k : Int) := by omega
    have k1 : (k : Int) < (n : Int) := by omega
    cases hh : hasD deps p q with
    | false =>
      have HF : Hid (remF deps ds = false) := HX.out (by rw [HST.out, hh]; rfl)
      go_wp2
      generalize hW : wr.alloc (.cells #[.int .i64 p, .int .i64 q] 25) = W at *
      obtain ⟨g0, g1⟩ := bx
      have HS3 := And.intro g0 (And.intro g1 (show Hid (Below W.heap.size W W.drew) from (Below.refl _ _).drew))
      have D1 := fun (V : World) (h : Below W.heap.size W V) => dotHas b m dap p q deps V HM.out hl' hdp i0 i1 (HB.out.later (chain HB1.out h))
      rw [hh] at D1
      refine wp_region_held_drew (S := (fun w' => w'.cell? ⟨wr.heap.size, 0, none⟩ = some (.int .i64 p) ∧ w'.cell? ⟨wr.heap.size, 1, none⟩ = some (.int .i64 q) ∧ Hid (Below W.heap.size W w'))) (by kernel_rfl) HS3 (fun hHeld => ?_)
      refine heldTake (v := ?_) 0 22 rfl rfl (by kernel_rfl) (by kernel_rfl) (by kernel_rfl) (fun _ _ _ h => h) (by rfl) (fun w hSw => ?_) (by assumption) ?_
      rotate_left
      · (try dsimp only at hSw); first | (go_simp; done) | (go_simp; with_reducible rfl)
      simp only [List.setIfInBounds_toArray, List.set_cons_zero, List.set_cons_succ]
      refine heldTake (v := ?_) 1 23 rfl rfl (by kernel_rfl) (by kernel_rfl) (by kernel_rfl) (fun _ _ _ h => h) (by rfl) (fun w hSw => ?_) (by assumption) ?_
      rotate_left
      · (try dsimp only at hSw); first | (go_simp; done) | (go_simp; with_reducible rfl)
      simp only [List.setIfInBounds_toArray, List.set_cons_zero, List.set_cons_succ]
      refine heldOne 2 rfl (by kernel_rfl) (by rfl) (fun K2 hK => ?_)
      go_simp
      refine (D1 _ (o2V (by assumption))).mono ?_
      rintro e wz ⟨rfl, hb⟩
      simp only []
      refine hK.out _ _ ?_ (fun hHeld => ?_)
      · exact k2V hb (by assumption)
      clear hK K2
      try simp only [List.setIfInBounds_toArray, List.set_cons_zero, List.set_cons_succ]
      refine heldTake (v := ?_) 3 25 rfl rfl (by kernel_rfl) (by kernel_rfl) (by kernel_rfl) (fun _ _ _ h => h) (by rfl) (fun w hSw => ?_) (by assumption) ?_
      rotate_left
      · (try dsimp only at hSw); first | (go_simp; done) | (go_simp; with_reducible rfl)
      simp only [List.setIfInBounds_toArray, List.set_cons_zero, List.set_cons_succ]
      refine heldTake (v := ?_) 4 26 rfl rfl (by kernel_rfl) (by kernel_rfl) (by kernel_rfl) (fun _ _ _ h => h) (by rfl) (fun w hSw => ?_) (by assumption) ?_
      rotate_left
      · (try dsimp only at hSw); first | (go_simp; done) | (go_simp; with_reducible rfl)
      simp only [List.setIfInBounds_toArray, List.set_cons_zero, List.set_cons_succ]
      refine heldSkip 5 27 rfl rfl (by kernel_rfl) (by kernel_rfl) (by kernel_rfl) (fun _ _ _ h => h) (by rfl) (by assumption) ?_
      simp only [List.setIfInBounds_toArray, List.set_cons_zero, List.set_cons_succ]
      refine heldSkip 6 28 rfl rfl (by kernel_rfl) (by kernel_rfl) (by kernel_rfl) (fun _ _ _ h => h) (by rfl) (by assumption) ?_
      simp only [List.setIfInBounds_toArray, List.set_cons_zero, List.set_cons_succ]
      refine heldSkip 7 29 rfl rfl (by kernel_rfl) (by kernel_rfl) (by kernel_rfl) (fun _ _ _ h => h) (by rfl) (by assumption) ?_
      simp only [List.setIfInBounds_toArray, List.set_cons_zero, List.set_cons_succ]
      refine heldSkip 8 30 rfl rfl (by kernel_rfl) (by kernel_rfl) (by kernel_rfl) (fun _ _ _ h => h) (by rfl) (by assumption) ?_
      simp only [List.setIfInBounds_toArray, List.set_cons_zero, List.set_cons_succ]
      refine heldSkip 9 31 rfl rfl (by kernel_rfl) (by kernel_rfl) (by kernel_rfl) (fun _ _ _ h => h) (by rfl) (by assumption) ?_
      simp only [List.setIfInBounds_toArray, List.set_cons_zero, List.set_cons_succ]
      refine heldSkip 10 32 rfl rfl (by kernel_rfl) (by kernel_rfl) (by kernel_rfl) (fun _ _ _ h => h) (by rfl) (by assumption) ?_
      simp only [List.setIfInBounds_toArray, List.set_cons_zero, List.set_cons_succ]
      refine heldSkip 11 33 rfl rfl (by kernel_rfl) (by kernel_rfl) (by kernel_rfl) (fun _ _ _ h => h) (by rfl) (by assumption) ?_
      simp only [List.setIfInBounds_toArray, List.set_cons_zero, List.set_cons_succ]
      refine heldSkip 12 34 rfl rfl (by kernel_rfl) (by kernel_rfl) (by kernel_rfl) (fun _ _ _ h => h) (by rfl) (by assumption) ?_
      simp only [List.setIfInBounds_toArray, List.set_cons_zero, List.set_cons_succ]
      refine heldSkip 13 35 rfl rfl (by kernel_rfl) (by kernel_rfl) (by kernel_rfl) (fun _ _ _ h => h) (by rfl) (by assumption) ?_
      simp only [List.setIfInBounds_toArray, List.set_cons_zero, List.set_cons_succ]
      refine heldSkip 14 36 rfl rfl (by kernel_rfl) (by kernel_rfl) (by kernel_rfl) (fun _ _ _ h => h) (by rfl) (by assumption) ?_
      simp only [List.setIfInBounds_toArray, List.set_cons_zero, List.set_cons_succ]
      refine heldSkip 15 37 rfl rfl (by kernel_rfl) (by kernel_rfl) (by kernel_rfl) (fun _ _ _ h => h) (by rfl) (by assumption) ?_
      simp only [List.setIfInBounds_toArray, List.set_cons_zero, List.set_cons_succ]
      refine heldSkip 16 38 rfl rfl (by kernel_rfl) (by kernel_rfl) (by kernel_rfl) (fun _ _ _ h => h) (by rfl) (by assumption) ?_
      simp only [List.setIfInBounds_toArray, List.set_cons_zero, List.set_cons_succ]
      refine heldTake (v := ?_) 17 39 rfl rfl (by kernel_rfl) (by kernel_rfl) (by kernel_rfl) (fun _ _ _ h => h) (by rfl) (fun w hSw => ?_) (by assumption) ?_
      rotate_left
      · (try dsimp only at hSw); first | (go_simp; done) | (go_simp; with_reducible rfl)
      simp only [List.setIfInBounds_toArray, List.set_cons_zero, List.set_cons_succ]
      refine wpAnyH_done (by kernel_rfl) ?_ _
      have HB9 : Hid (Below w.heap.size w _) := chain HB1.out hHeld.2.2.out
      clear hHeld
      go_wp2
      go_ret
      exact ⟨by rw [HF.out]; rfl, HB9.out⟩
    | true =>
      rcases Nat.eq_zero_or_pos k with hk0 | hk0
      · subst hk0
        simp only [Nat.zero_mul, Nat.add_zero] at x0 x1
        have HT' : Hid ((List.range (0 + 1)).all (stepF deps ds) = true) := by rw [HS.out, HST.out, hh]; rfl
        go_wp2
        generalize hW : wr.alloc (.cells #[.int .i64 p, .int .i64 q] 25) = W at *
        obtain ⟨g0, g1⟩ := bx
        have HS3 := And.intro g0 (And.intro g1 (show Hid (Below W.heap.size W W.drew) from (Below.refl _ _).drew))
        have D1 := fun (V : World) (h : Below W.heap.size W V) => dotHas b m dap p q deps V HM.out hl' hdp i0 i1 (HB.out.later (chain HB1.out h))
        rw [hh] at D1
        refine wp_region_held_drew (S := (fun w' => w'.cell? ⟨wr.heap.size, 0, none⟩ = some (.int .i64 p) ∧ w'.cell? ⟨wr.heap.size, 1, none⟩ = some (.int .i64 q) ∧ Hid (Below W.heap.size W w'))) (by kernel_rfl) HS3 (fun hHeld => ?_)
        refine heldTake (v := ?_) 0 22 rfl rfl (by kernel_rfl) (by kernel_rfl) (by kernel_rfl) (fun _ _ _ h => h) (by rfl) (fun w hSw => ?_) (by assumption) ?_
        rotate_left
        · (try dsimp only at hSw); first | (go_simp; done) | (go_simp; with_reducible rfl)
        simp only [List.setIfInBounds_toArray, List.set_cons_zero, List.set_cons_succ]
        refine heldTake (v := ?_) 1 23 rfl rfl (by kernel_rfl) (by kernel_rfl) (by kernel_rfl) (fun _ _ _ h => h) (by rfl) (fun w hSw => ?_) (by assumption) ?_
        rotate_left
        · (try dsimp only at hSw); first | (go_simp; done) | (go_simp; with_reducible rfl)
        simp only [List.setIfInBounds_toArray, List.set_cons_zero, List.set_cons_succ]
        refine heldOne 2 rfl (by kernel_rfl) (by rfl) (fun K2 hK => ?_)
        go_simp
        refine (D1 _ (o2V (by assumption))).mono ?_
        rintro e wz ⟨rfl, hb⟩
        simp only []
        refine hK.out _ _ ?_ (fun hHeld => ?_)
        · exact k2V hb (by assumption)
        clear hK K2
        try simp only [List.setIfInBounds_toArray, List.set_cons_zero, List.set_cons_succ]
        refine heldTake (v := ?_) 3 25 rfl rfl (by kernel_rfl) (by kernel_rfl) (by kernel_rfl) (fun _ _ _ h => h) (by rfl) (fun w hSw => ?_) (by assumption) ?_
        rotate_left
        · (try dsimp only at hSw); first | (go_simp; done) | (go_simp; with_reducible rfl)
        simp only [List.setIfInBounds_toArray, List.set_cons_zero, List.set_cons_succ]
        refine heldTake (v := ?_) 4 26 rfl rfl (by kernel_rfl) (by kernel_rfl) (by kernel_rfl) (fun _ _ _ h => h) (by rfl) (fun w hSw => ?_) (by assumption) ?_
        rotate_left
        · (try dsimp only at hSw); first | (go_simp; done) | (go_simp; with_reducible rfl)
        simp only [List.setIfInBounds_toArray, List.set_cons_zero, List.set_cons_succ]
        refine heldTake (v := ?_) 5 27 rfl rfl (by kernel_rfl) (by kernel_rfl) (by kernel_rfl) (fun _ _ _ h => h) (by rfl) (fun w hSw => ?_) (by assumption) ?_
        rotate_left
        · (try dsimp only at hSw); first | (go_simp; done) | (go_simp; with_reducible rfl)
        simp only [List.setIfInBounds_toArray, List.set_cons_zero, List.set_cons_succ]
        refine heldTake (v := ?_) 6 28 rfl rfl (by kernel_rfl) (by kernel_rfl) (by kernel_rfl) (fun _ _ _ h => h) (by rfl) (fun w hSw => ?_) (by assumption) ?_
        rotate_left
        · (try dsimp only at hSw); first | (go_simp; done) | (go_simp; with_reducible rfl)
        simp only [List.setIfInBounds_toArray, List.set_cons_zero, List.set_cons_succ]
        refine heldTake (v := ?_) 7 29 rfl rfl (by kernel_rfl) (by kernel_rfl) (by kernel_rfl) (fun _ _ _ h => h) (by rfl) (fun w hSw => ?_) (by assumption) ?_
        rotate_left
        · (try dsimp only at hSw); first | (go_simp; done) | (go_simp; with_reducible rfl)
        simp only [List.setIfInBounds_toArray, List.set_cons_zero, List.set_cons_succ]
        refine heldSkip 8 30 rfl rfl (by kernel_rfl) (by kernel_rfl) (by kernel_rfl) (fun _ _ _ h => h) (by rfl) (by assumption) ?_
        simp only [List.setIfInBounds_toArray, List.set_cons_zero, List.set_cons_succ]
        refine heldSkip 9 31 rfl rfl (by kernel_rfl) (by kernel_rfl) (by kernel_rfl) (fun _ _ _ h => h) (by rfl) (by assumption) ?_
        simp only [List.setIfInBounds_toArray, List.set_cons_zero, List.set_cons_succ]
        refine heldSkip 10 32 rfl rfl (by kernel_rfl) (by kernel_rfl) (by kernel_rfl) (fun _ _ _ h => h) (by rfl) (by assumption) ?_
        simp only [List.setIfInBounds_toArray, List.set_cons_zero, List.set_cons_succ]
        refine heldSkip 11 33 rfl rfl (by kernel_rfl) (by kernel_rfl) (by kernel_rfl) (fun _ _ _ h => h) (by rfl) (by assumption) ?_
        simp only [List.setIfInBounds_toArray, List.set_cons_zero, List.set_cons_succ]
        refine heldSkip 12 34 rfl rfl (by kernel_rfl) (by kernel_rfl) (by kernel_rfl) (fun _ _ _ h => h) (by rfl) (by assumption) ?_
        simp only [List.setIfInBounds_toArray, List.set_cons_zero, List.set_cons_succ]
        refine heldSkip 13 35 rfl rfl (by kernel_rfl) (by kernel_rfl) (by kernel_rfl) (fun _ _ _ h => h) (by rfl) (by assumption) ?_
        simp only [List.setIfInBounds_toArray, List.set_cons_zero, List.set_cons_succ]
        refine heldSkip 14 36 rfl rfl (by kernel_rfl) (by kernel_rfl) (by kernel_rfl) (fun _ _ _ h => h) (by rfl) (by assumption) ?_
        simp only [List.setIfInBounds_toArray, List.set_cons_zero, List.set_cons_succ]
        refine heldSkip 15 37 rfl rfl (by kernel_rfl) (by kernel_rfl) (by kernel_rfl) (fun _ _ _ h => h) (by rfl) (by assumption) ?_
        simp only [List.setIfInBounds_toArray, List.set_cons_zero, List.set_cons_succ]
        refine heldTake (v := ?_) 16 38 rfl rfl (by kernel_rfl) (by kernel_rfl) (by kernel_rfl) (fun _ _ _ h => h) (by rfl) (fun w hSw => ?_) (by assumption) ?_
        rotate_left
        · (try dsimp only at hSw); first | (go_simp; done) | (go_simp; with_reducible rfl)
        simp only [List.setIfInBounds_toArray, List.set_cons_zero, List.set_cons_succ]
        refine heldTake (v := ?_) 17 39 rfl rfl (by kernel_rfl) (by kernel_rfl) (by kernel_rfl) (fun _ _ _ h => h) (by rfl) (fun w hSw => ?_) (by assumption) ?_
        rotate_left
        · (try dsimp only at hSw); first | (go_simp; done) | (go_simp; with_reducible rfl)
        simp only [List.setIfInBounds_toArray, List.set_cons_zero, List.set_cons_succ]
        refine wpAnyH_done (by kernel_rfl) ?_ _
        have HB9 : Hid (Below w.heap.size w _) := chain HB1.out hHeld.2.2.out
        clear hHeld
        go_wp2
        go_roundw
        case rel => exact ⟨0 + 1, by omega, by go_num, HT', HB9⟩
        case measure => simp [RowKit.intOf]; omega
      · obtain ⟨j, rfl⟩ : ∃ j, k = j + 1 := ⟨k - 1, by omega⟩
        have hjl : j < ds.length := by rw [HN.out]; omega
        have hj := hds _ (List.getElem_mem hjl)
        have hcj := Hc.out j hjl
        have eJ : ds[j + 1 - 1]?.getD (0, 0) = ds[j] := by rw [Nat.add_sub_cancel, List.getElem?_eq_getElem hjl]; rfl
        have HST2 : Hid (stepF deps ds (j + 1) = lessD ds[j].1 ds[j].2 p q) := by
          show _ = _
          rw [HST.out, hh, eJ]
          simp
        clear HST Hc eJ
        generalize ds[j] = d' at *
        clear hjl
        obtain ⟨p', q'⟩ := d'
        simp only at hj hcj HST2
        obtain ⟨j0, j1⟩ := hj
        obtain ⟨y0, y1⟩ := hcj
        replace y0 := cell_later (alloc_below wr (.cells #[.int .i64 p, .int .i64 q] 25)) y0
        replace y1 := cell_later (alloc_below wr (.cells #[.int .i64 p, .int .i64 q] 25)) y1
        have jw : IntKind.i64.wrap (((j + 1 : Nat) : Int) - 1) = (j : Int) := by rw [IntKind.wrap_i64]; omega
        have jw' : IntKind.i64.wrap ((j : Int) + 1 - 1) = (j : Int) := by rw [IntKind.wrap_i64]; omega
        have jw2 : IntKind.i64.wrap (j : Int) = (j : Int) := by rw [IntKind.wrap_i64]; omega
        have jz : (0 : Int) ≤ (j : Int) := by omega
        have jn : (j : Int) < (n : Int) := by omega
        have jp : (0 : Int) < (j : Int) + 1 := by omega
        go_wp2
        generalize hW : wr.alloc (.cells #[.int .i64 p, .int .i64 q] 25) = W at *
        obtain ⟨g0, g1⟩ := bx
        have HS3 := And.intro g0 (And.intro g1 (And.intro y0 (And.intro y1 (show Hid (Below W.heap.size W W.drew) from (Below.refl _ _).drew))))
        have D1 := fun (V : World) (h : Below W.heap.size W V) => dotHas b m dap p q deps V HM.out hl' hdp i0 i1 (HB.out.later (chain HB1.out h))
        rw [hh] at D1
        have D2 := fun (V : World) => dotLess p' q' p q V j0 j1 i0 i1
        cases hls : lessD p' q' p q with
        | true =>
          rw [hls] at D2
          have HT' : Hid ((List.range (j + 1 + 1)).all (stepF deps ds) = true) := by rw [HS.out, HST2.out, hls]; rfl
          refine wp_region_held_drew (S := (fun w' => w'.cell? ⟨wr.heap.size, 0, none⟩ = some (.int .i64 p) ∧ w'.cell? ⟨wr.heap.size, 1, none⟩ = some (.int .i64 q) ∧ w'.cell? ⟨b1, o1 + j * 2, none⟩ = some (.int .i64 p') ∧ w'.cell? ⟨b1, o1 + j * 2 + 1, none⟩ = some (.int .i64 q') ∧ Hid (Below W.heap.size W w'))) (by kernel_rfl) HS3 (fun hHeld => ?_)
          refine heldTake (v := ?_) 0 22 rfl rfl (by kernel_rfl) (by kernel_rfl) (by kernel_rfl) (fun _ _ _ h => h) (by rfl) (fun w hSw => ?_) (by assumption) ?_
          rotate_left
          · (try dsimp only at hSw); first | (go_simp; done) | (go_simp; with_reducible rfl)
          simp only [List.setIfInBounds_toArray, List.set_cons_zero, List.set_cons_succ]
          refine heldTake (v := ?_) 1 23 rfl rfl (by kernel_rfl) (by kernel_rfl) (by kernel_rfl) (fun _ _ _ h => h) (by rfl) (fun w hSw => ?_) (by assumption) ?_
          rotate_left
          · (try dsimp only at hSw); first | (go_simp; done) | (go_simp; with_reducible rfl)
          simp only [List.setIfInBounds_toArray, List.set_cons_zero, List.set_cons_succ]
          refine heldOne 2 rfl (by kernel_rfl) (by rfl) (fun K2 hK => ?_)
          go_simp
          refine (D1 _ (o4V (by assumption))).mono ?_
          rintro e wz ⟨rfl, hb⟩
          simp only []
          refine hK.out _ _ ?_ (fun hHeld => ?_)
          · exact k4V hb (by assumption)
          clear hK K2
          try simp only [List.setIfInBounds_toArray, List.set_cons_zero, List.set_cons_succ]
          refine heldTake (v := ?_) 3 25 rfl rfl (by kernel_rfl) (by kernel_rfl) (by kernel_rfl) (fun _ _ _ h => h) (by rfl) (fun w hSw => ?_) (by assumption) ?_
          rotate_left
          · (try dsimp only at hSw); first | (go_simp; done) | (go_simp; with_reducible rfl)
          simp only [List.setIfInBounds_toArray, List.set_cons_zero, List.set_cons_succ]
          refine heldTake (v := ?_) 4 26 rfl rfl (by kernel_rfl) (by kernel_rfl) (by kernel_rfl) (fun _ _ _ h => h) (by rfl) (fun w hSw => ?_) (by assumption) ?_
          rotate_left
          · (try dsimp only at hSw); first | (go_simp; done) | (go_simp; with_reducible rfl)
          simp only [List.setIfInBounds_toArray, List.set_cons_zero, List.set_cons_succ]
          refine heldTake (v := ?_) 5 27 rfl rfl (by kernel_rfl) (by kernel_rfl) (by kernel_rfl) (fun _ _ _ h => h) (by rfl) (fun w hSw => ?_) (by assumption) ?_
          rotate_left
          · (try dsimp only at hSw); first | (go_simp; done) | (go_simp; with_reducible rfl)
          simp only [List.setIfInBounds_toArray, List.set_cons_zero, List.set_cons_succ]
          refine heldTake (v := ?_) 6 28 rfl rfl (by kernel_rfl) (by kernel_rfl) (by kernel_rfl) (fun _ _ _ h => h) (by rfl) (fun w hSw => ?_) (by assumption) ?_
          rotate_left
          · (try dsimp only at hSw); first | (go_simp; done) | (go_simp; with_reducible rfl)
          simp only [List.setIfInBounds_toArray, List.set_cons_zero, List.set_cons_succ]
          refine heldTake (v := ?_) 7 29 rfl rfl (by kernel_rfl) (by kernel_rfl) (by kernel_rfl) (fun _ _ _ h => h) (by rfl) (fun w hSw => ?_) (by assumption) ?_
          rotate_left
          · (try dsimp only at hSw); first | (go_simp; done) | (go_simp; with_reducible rfl)
          simp only [List.setIfInBounds_toArray, List.set_cons_zero, List.set_cons_succ]
          refine heldTake (v := ?_) 8 30 rfl rfl (by kernel_rfl) (by kernel_rfl) (by kernel_rfl) (fun _ _ _ h => h) (by rfl) (fun w hSw => ?_) (by assumption) ?_
          rotate_left
          · (try dsimp only at hSw); first | (go_simp; done) | (go_simp; with_reducible rfl)
          simp only [List.setIfInBounds_toArray, List.set_cons_zero, List.set_cons_succ]
          refine heldTake (v := ?_) 9 31 rfl rfl (by kernel_rfl) (by kernel_rfl) (by kernel_rfl) (fun _ _ _ h => h) (by rfl) (fun w hSw => ?_) (by assumption) ?_
          rotate_left
          · (try dsimp only at hSw); first | (go_simp; done) | (go_simp; with_reducible rfl)
          simp only [List.setIfInBounds_toArray, List.set_cons_zero, List.set_cons_succ]
          refine heldTake (v := ?_) 10 32 rfl rfl (by kernel_rfl) (by kernel_rfl) (by kernel_rfl) (fun _ _ _ h => h) (by rfl) (fun w hSw => ?_) (by assumption) ?_
          rotate_left
          · (try dsimp only at hSw); first | (go_simp; done) | (go_simp; with_reducible rfl)
          simp only [List.setIfInBounds_toArray, List.set_cons_zero, List.set_cons_succ]
          refine heldTake (v := ?_) 11 33 rfl rfl (by kernel_rfl) (by kernel_rfl) (by kernel_rfl) (fun _ _ _ h => h) (by rfl) (fun w hSw => ?_) (by assumption) ?_
          rotate_left
          · (try dsimp only at hSw); first | (go_simp; done) | (go_simp; with_reducible rfl)
          simp only [List.setIfInBounds_toArray, List.set_cons_zero, List.set_cons_succ]
          refine heldTake (v := ?_) 12 34 rfl rfl (by kernel_rfl) (by kernel_rfl) (by kernel_rfl) (fun _ _ _ h => h) (by rfl) (fun w hSw => ?_) (by assumption) ?_
          rotate_left
          · (try dsimp only at hSw); first | (go_simp; done) | (go_simp; with_reducible rfl)
          simp only [List.setIfInBounds_toArray, List.set_cons_zero, List.set_cons_succ]
          refine heldTake (v := ?_) 13 35 rfl rfl (by kernel_rfl) (by kernel_rfl) (by kernel_rfl) (fun _ _ _ h => h) (by rfl) (fun w hSw => ?_) (by assumption) ?_
          rotate_left
          · (try dsimp only at hSw); first | (go_simp; done) | (go_simp; with_reducible rfl)
          simp only [List.setIfInBounds_toArray, List.set_cons_zero, List.set_cons_succ]
          refine heldOne 14 rfl (by kernel_rfl) (by rfl) (fun K2 hK => ?_)
          go_simp
          refine (D2 _).mono ?_
          rintro e wz ⟨rfl, hb⟩
          simp only []
          refine hK.out _ _ ?_ (fun hHeld => ?_)
          · exact k4V hb (by assumption)
          clear hK K2
          try simp only [List.setIfInBounds_toArray, List.set_cons_zero, List.set_cons_succ]
          refine heldTake (v := ?_) 15 37 rfl rfl (by kernel_rfl) (by kernel_rfl) (by kernel_rfl) (fun _ _ _ h => h) (by rfl) (fun w hSw => ?_) (by assumption) ?_
          rotate_left
          · (try dsimp only at hSw); first | (go_simp; done) | (go_simp; with_reducible rfl)
          simp only [List.setIfInBounds_toArray, List.set_cons_zero, List.set_cons_succ]
          refine heldTake (v := ?_) 16 38 rfl rfl (by kernel_rfl) (by kernel_rfl) (by kernel_rfl) (fun _ _ _ h => h) (by rfl) (fun w hSw => ?_) (by assumption) ?_
          rotate_left
          · (try dsimp only at hSw); first | (go_simp; done) | (go_simp; with_reducible rfl)
          simp only [List.setIfInBounds_toArray, List.set_cons_zero, List.set_cons_succ]
          refine heldTake (v := ?_) 17 39 rfl rfl (by kernel_rfl) (by kernel_rfl) (by kernel_rfl) (fun _ _ _ h => h) (by rfl) (fun w hSw => ?_) (by assumption) ?_
          rotate_left
          · (try dsimp only at hSw); first | (go_simp; done) | (go_simp; with_reducible rfl)
          simp only [List.setIfInBounds_toArray, List.set_cons_zero, List.set_cons_succ]
          refine wpAnyH_done (by kernel_rfl) ?_ _
          have HB9 : Hid (Below w.heap.size w _) := chain HB1.out hHeld.2.2.2.2.out
          clear hHeld
          go_wp2
          go_roundw
          case rel => exact ⟨j + 1 + 1, by omega, by go_num, HT', HB9⟩
          case measure => simp [RowKit.intOf]; omega
        | false =>
          rw [hls] at D2
          have HF : Hid (remF deps ds = false) := HX.out (by rw [HST2.out, hls])
          refine wp_region_held_drew (S := (fun w' => w'.cell? ⟨wr.heap.size, 0, none⟩ = some (.int .i64 p) ∧ w'.cell? ⟨wr.heap.size, 1, none⟩ = some (.int .i64 q) ∧ w'.cell? ⟨b1, o1 + j * 2, none⟩ = some (.int .i64 p') ∧ w'.cell? ⟨b1, o1 + j * 2 + 1, none⟩ = some (.int .i64 q') ∧ Hid (Below W.heap.size W w'))) (by kernel_rfl) HS3 (fun hHeld => ?_)
          refine heldTake (v := ?_) 0 22 rfl rfl (by kernel_rfl) (by kernel_rfl) (by kernel_rfl) (fun _ _ _ h => h) (by rfl) (fun w hSw => ?_) (by assumption) ?_
          rotate_left
          · (try dsimp only at hSw); first | (go_simp; done) | (go_simp; with_reducible rfl)
          simp only [List.setIfInBounds_toArray, List.set_cons_zero, List.set_cons_succ]
          refine heldTake (v := ?_) 1 23 rfl rfl (by kernel_rfl) (by kernel_rfl) (by kernel_rfl) (fun _ _ _ h => h) (by rfl) (fun w hSw => ?_) (by assumption) ?_
          rotate_left
          · (try dsimp only at hSw); first | (go_simp; done) | (go_simp; with_reducible rfl)
          simp only [List.setIfInBounds_toArray, List.set_cons_zero, List.set_cons_succ]
          refine heldOne 2 rfl (by kernel_rfl) (by rfl) (fun K2 hK => ?_)
          go_simp
          refine (D1 _ (o4V (by assumption))).mono ?_
          rintro e wz ⟨rfl, hb⟩
          simp only []
          refine hK.out _ _ ?_ (fun hHeld => ?_)
          · exact k4V hb (by assumption)
          clear hK K2
          try simp only [List.setIfInBounds_toArray, List.set_cons_zero, List.set_cons_succ]
          refine heldTake (v := ?_) 3 25 rfl rfl (by kernel_rfl) (by kernel_rfl) (by kernel_rfl) (fun _ _ _ h => h) (by rfl) (fun w hSw => ?_) (by assumption) ?_
          rotate_left
          · (try dsimp only at hSw); first | (go_simp; done) | (go_simp; with_reducible rfl)
          simp only [List.setIfInBounds_toArray, List.set_cons_zero, List.set_cons_succ]
          refine heldTake (v := ?_) 4 26 rfl rfl (by kernel_rfl) (by kernel_rfl) (by kernel_rfl) (fun _ _ _ h => h) (by rfl) (fun w hSw => ?_) (by assumption) ?_
          rotate_left
          · (try dsimp only at hSw); first | (go_simp; done) | (go_simp; with_reducible rfl)
          simp only [List.setIfInBounds_toArray, List.set_cons_zero, List.set_cons_succ]
          refine heldTake (v := ?_) 5 27 rfl rfl (by kernel_rfl) (by kernel_rfl) (by kernel_rfl) (fun _ _ _ h => h) (by rfl) (fun w hSw => ?_) (by assumption) ?_
          rotate_left
          · (try dsimp only at hSw); first | (go_simp; done) | (go_simp; with_reducible rfl)
          simp only [List.setIfInBounds_toArray, List.set_cons_zero, List.set_cons_succ]
          refine heldTake (v := ?_) 6 28 rfl rfl (by kernel_rfl) (by kernel_rfl) (by kernel_rfl) (fun _ _ _ h => h) (by rfl) (fun w hSw => ?_) (by assumption) ?_
          rotate_left
          · (try dsimp only at hSw); first | (go_simp; done) | (go_simp; with_reducible rfl)
          simp only [List.setIfInBounds_toArray, List.set_cons_zero, List.set_cons_succ]
          refine heldTake (v := ?_) 7 29 rfl rfl (by kernel_rfl) (by kernel_rfl) (by kernel_rfl) (fun _ _ _ h => h) (by rfl) (fun w hSw => ?_) (by assumption) ?_
          rotate_left
          · (try dsimp only at hSw); first | (go_simp; done) | (go_simp; with_reducible rfl)
          simp only [List.setIfInBounds_toArray, List.set_cons_zero, List.set_cons_succ]
          refine heldTake (v := ?_) 8 30 rfl rfl (by kernel_rfl) (by kernel_rfl) (by kernel_rfl) (fun _ _ _ h => h) (by rfl) (fun w hSw => ?_) (by assumption) ?_
          rotate_left
          · (try dsimp only at hSw); first | (go_simp; done) | (go_simp; with_reducible rfl)
          simp only [List.setIfInBounds_toArray, List.set_cons_zero, List.set_cons_succ]
          refine heldTake (v := ?_) 9 31 rfl rfl (by kernel_rfl) (by kernel_rfl) (by kernel_rfl) (fun _ _ _ h => h) (by rfl) (fun w hSw => ?_) (by assumption) ?_
          rotate_left
          · (try dsimp only at hSw); first | (go_simp; done) | (go_simp; with_reducible rfl)
          simp only [List.setIfInBounds_toArray, List.set_cons_zero, List.set_cons_succ]
          refine heldTake (v := ?_) 10 32 rfl rfl (by kernel_rfl) (by kernel_rfl) (by kernel_rfl) (fun _ _ _ h => h) (by rfl) (fun w hSw => ?_) (by assumption) ?_
          rotate_left
          · (try dsimp only at hSw); first | (go_simp; done) | (go_simp; with_reducible rfl)
          simp only [List.setIfInBounds_toArray, List.set_cons_zero, List.set_cons_succ]
          refine heldTake (v := ?_) 11 33 rfl rfl (by kernel_rfl) (by kernel_rfl) (by kernel_rfl) (fun _ _ _ h => h) (by rfl) (fun w hSw => ?_) (by assumption) ?_
          rotate_left
          · (try dsimp only at hSw); first | (go_simp; done) | (go_simp; with_reducible rfl)
          simp only [List.setIfInBounds_toArray, List.set_cons_zero, List.set_cons_succ]
          refine heldTake (v := ?_) 12 34 rfl rfl (by kernel_rfl) (by kernel_rfl) (by kernel_rfl) (fun _ _ _ h => h) (by rfl) (fun w hSw => ?_) (by assumption) ?_
          rotate_left
          · (try dsimp only at hSw); first | (go_simp; done) | (go_simp; with_reducible rfl)
          simp only [List.setIfInBounds_toArray, List.set_cons_zero, List.set_cons_succ]
          refine heldTake (v := ?_) 13 35 rfl rfl (by kernel_rfl) (by kernel_rfl) (by kernel_rfl) (fun _ _ _ h => h) (by rfl) (fun w hSw => ?_) (by assumption) ?_
          rotate_left
          · (try dsimp only at hSw); first | (go_simp; done) | (go_simp; with_reducible rfl)
          simp only [List.setIfInBounds_toArray, List.set_cons_zero, List.set_cons_succ]
          refine heldOne 14 rfl (by kernel_rfl) (by rfl) (fun K2 hK => ?_)
          go_simp
          refine (D2 _).mono ?_
          rintro e wz ⟨rfl, hb⟩
          simp only []
          refine hK.out _ _ ?_ (fun hHeld => ?_)
          · exact k4V hb (by assumption)
          clear hK K2
          try simp only [List.setIfInBounds_toArray, List.set_cons_zero, List.set_cons_succ]
          refine heldTake (v := ?_) 15 37 rfl rfl (by kernel_rfl) (by kernel_rfl) (by kernel_rfl) (fun _ _ _ h => h) (by rfl) (fun w hSw => ?_) (by assumption) ?_
          rotate_left
          · (try dsimp only at hSw); first | (go_simp; done) | (go_simp; with_reducible rfl)
          simp only [List.setIfInBounds_toArray, List.set_cons_zero, List.set_cons_succ]
          refine heldTake (v := ?_) 16 38 rfl rfl (by kernel_rfl) (by kernel_rfl) (by kernel_rfl) (fun _ _ _ h => h) (by rfl) (fun w hSw => ?_) (by assumption) ?_
          rotate_left
          · (try dsimp only at hSw); first | (go_simp; done) | (go_simp; with_reducible rfl)
          simp only [List.setIfInBounds_toArray, List.set_cons_zero, List.set_cons_succ]
          refine heldTake (v := ?_) 17 39 rfl rfl (by kernel_rfl) (by kernel_rfl) (by kernel_rfl) (fun _ _ _ h => h) (by rfl) (fun w hSw => ?_) (by assumption) ?_
          rotate_left
          · (try dsimp only at hSw); first | (go_simp; done) | (go_simp; with_reducible rfl)
          simp only [List.setIfInBounds_toArray, List.set_cons_zero, List.set_cons_succ]
          refine wpAnyH_done (by kernel_rfl) ?_ _
          have HB9 : Hid (Below w.heap.size w _) := chain HB1.out hHeld.2.2.2.2.out
          clear hHeld
          go_wp2
          go_ret
          exact ⟨by rw [HF.out]; rfl, HB9.out⟩
  obtain rfl : k = n := by omega
  go_wp2
  go_ret
  exact ⟨by rw [HD.out, hT.out]; rfl, hB.out⟩

theorem opRem_any (a b : Option Addr) (n m cap dap : Nat) (ds : List (Int × Int)) (deps : List Int) (w : World) (hn : ds.length = n) (hl : n ≤ 65536) (hm : deps.length = m) (hl' : m ≤ 65536) (ha : RdD w a ds) (hb : RdI .i64 w b deps) (hdp : All64 deps) (hds : ∀ d ∈ ds, In64 d.1 ∧ In64 d.2) :
    Calls Try.prog 87 #[.slice a n cap, .slice b m dap] w fun e w' => e = .returned (.bool (remF deps ds)) ∧ Below w.heap.size w w' := by
  by_cases h : n < 1 ∨ 64 < n
  · have e : remF deps ds = false := by unfold remF; rw [hn, decide_eq_false (by omega)]; rfl
    rw [e]
    exact opRem_len a b n m cap dap w h hl
  · obtain ⟨b1, o1, rfl, _⟩ := ha (by omega)
    exact opRem_few b1 o1 b n m cap dap ds deps w hn (by omega) (by omega) hm hl' ha hb hdp hds

end Go.Proofs.Ytmcbdfmajciklaa

namespace Go.Proofs.Ytmcbdfmajciklaa
open Go.RowKit Go.Lib
set_option linter.unusedVariables false

theorem pairs_take {l r : List (Int × Int)} {k : Nat} (h : l.take k = r.take k) (hl : k < l.length) (hr : k < r.length) (hx : l[k] = r[k]) : l.take (k + 1) = r.take (k + 1) := by
  rw [List.take_succ_eq_append_getElem hl, List.take_succ_eq_append_getElem hr, h, hx]

set_option maxRecDepth 100000 in
set_option maxHeartbeats 4000000 in
theorem keepDots_any (a b : Option Addr) (n m cap dap : Nat) (l r : List (Int × Int)) (w : World) (hn : l.length = n) (hm : r.length = m) (hl : n ≤ 65536) (hr : m ≤ 65536) (ha : RdD w a l) (hb : RdD w b r) :
    Calls Try.prog 38 #[.slice a n cap, .slice b m dap] w fun e w' => e = .returned (.bool (decide (l = r))) ∧ Below w.heap.size w w' := by
  by_cases hnm : n = m
  case neg =>
    have HNE : Hid (l ≠ r) := fun e => hnm (by rw [← hn, ← hm, e])
    have hbq : ((n : Int) != (m : Int)) = true := by simp; omega
    clear hn hm hnm
    go_enter Try.func38, Try.ntmps38
    go_wp2
    go_ret
    exact ⟨by rw [decide_eq_false HNE.out]; rfl, Below.refl _ _⟩
  subst hnm
  have HN : Hid (l.length = n) := hn
  have HM : Hid (r.length = n) := hm
  have HA : Hid (RdD w a l) := ha
  have HB : Hid (RdD w b r) := hb
  clear hn hm ha hb
  go_enter Try.func38, Try.ntmps38
  go_wp2
  go_loopw [5] (fun i wr => ∃ k : Nat, k ≤ n ∧ i = .int .i64 k ∧ Hid (l.take k = r.take k) ∧ Hid (Below w.heap.size w wr)) (fun i _ => n - (RowKit.intOf i).toNat)
  case atStart => exact ⟨0, Nat.zero_le _, rfl, rfl, Below.refl _ _⟩
  case round =>
  obtain ⟨k, hk, rfl, hT, hB⟩ := hrel
  by_cases hlt : k < n
  · have hkl : k < l.length := by rw [HN.out]; exact hlt
    have hkr : k < r.length := by rw [HM.out]; exact hlt
    obtain ⟨b1, o1, rfl, hc1⟩ := (HA.out.later hB.out) (by omega)
    obtain ⟨b2, o2, rfl, hc2⟩ := (HB.out.later hB.out) (by omega)
    obtain ⟨x0, x1⟩ := hc1 k hkl
    obtain ⟨y0, y1⟩ := hc2 k hkr
    have HQ : Hid (l[k] = r[k] → l.take (k + 1) = r.take (k + 1)) := fun h => pairs_take hT.out hkl hkr h
    have HF : Hid (l[k] ≠ r[k] → l ≠ r) := fun h e => h (by subst e; rfl)
    clear hc1 hc2
    generalize l[k] = d at *
    generalize r[k] = d' at *
    clear hkl hkr
    obtain ⟨p, q⟩ := d
    obtain ⟨p', q'⟩ := d'
    simp only [Prod.mk.injEq, ne_eq] at x0 x1 y0 y1 HQ HF
    have k0 : (0 : Int) ≤ (k : Int) := by omega
    have k1 : (k : Int) < (n : Int) := by omega
    have HS3 := And.intro x0 (And.intro x1 (And.intro y0 (And.intro y1 (show Hid (Below wr.heap.size wr wr.drew) from (Below.refl _ _).drew))))
    have D1 := fun (V : World) => keepDot_any p q p' q' V
    by_cases he : p = p' ∧ q = q'
    · rw [show (decide (p = p') && decide (q = q')) = true from by simpa using he] at D1
      have HT' : Hid (l.take (k + 1) = r.take (k + 1)) := HQ.out he
      clear HQ HF he x0 x1 y0 y1
      go_wp2
      refine wp_region_held_drew (S := (fun w' => w'.cell? ⟨b1, o1 + k * 2, none⟩ = some (.int .i64 p) ∧ w'.cell? ⟨b1, o1 + k * 2 + 1, none⟩ = some (.int .i64 q) ∧ w'.cell? ⟨b2, o2 + k * 2, none⟩ = some (.int .i64 p') ∧ w'.cell? ⟨b2, o2 + k * 2 + 1, none⟩ = some (.int .i64 q') ∧ Hid (Below wr.heap.size wr w'))) (by kernel_rfl) HS3 (fun hHeld => ?_)
      refine heldTake (v := ?_) 0 17 rfl rfl (by kernel_rfl) (by kernel_rfl) (by kernel_rfl) (fun _ _ _ h => h) (by rfl) (fun w hSw => ?_) (by assumption) ?_
      rotate_left
      · (try dsimp only at hSw); first | (go_simp; done) | (go_simp; with_reducible rfl)
      simp only [List.setIfInBounds_toArray, List.set_cons_zero, List.set_cons_succ]
      refine heldTake (v := ?_) 1 18 rfl rfl (by kernel_rfl) (by kernel_rfl) (by kernel_rfl) (fun _ _ _ h => h) (by rfl) (fun w hSw => ?_) (by assumption) ?_
      rotate_left
      · (try dsimp only at hSw); first | (go_simp; done) | (go_simp; with_reducible rfl)
      simp only [List.setIfInBounds_toArray, List.set_cons_zero, List.set_cons_succ]
      refine heldTake (v := ?_) 2 19 rfl rfl (by kernel_rfl) (by kernel_rfl) (by kernel_rfl) (fun _ _ _ h => h) (by rfl) (fun w hSw => ?_) (by assumption) ?_
      rotate_left
      · (try dsimp only at hSw); first | (go_simp; done) | (go_simp; with_reducible rfl)
      simp only [List.setIfInBounds_toArray, List.set_cons_zero, List.set_cons_succ]
      refine heldTake (v := ?_) 3 20 rfl rfl (by kernel_rfl) (by kernel_rfl) (by kernel_rfl) (fun _ _ _ h => h) (by rfl) (fun w hSw => ?_) (by assumption) ?_
      rotate_left
      · (try dsimp only at hSw); first | (go_simp; done) | (go_simp; with_reducible rfl)
      simp only [List.setIfInBounds_toArray, List.set_cons_zero, List.set_cons_succ]
      refine heldTake (v := ?_) 4 21 rfl rfl (by kernel_rfl) (by kernel_rfl) (by kernel_rfl) (fun _ _ _ h => h) (by rfl) (fun w hSw => ?_) (by assumption) ?_
      rotate_left
      · (try dsimp only at hSw); first | (go_simp; done) | (go_simp; with_reducible rfl)
      simp only [List.setIfInBounds_toArray, List.set_cons_zero, List.set_cons_succ]
      refine heldTake (v := ?_) 5 22 rfl rfl (by kernel_rfl) (by kernel_rfl) (by kernel_rfl) (fun _ _ _ h => h) (by rfl) (fun w hSw => ?_) (by assumption) ?_
      rotate_left
      · (try dsimp only at hSw); first | (go_simp; done) | (go_simp; with_reducible rfl)
      simp only [List.setIfInBounds_toArray, List.set_cons_zero, List.set_cons_succ]
      refine heldTake (v := ?_) 6 23 rfl rfl (by kernel_rfl) (by kernel_rfl) (by kernel_rfl) (fun _ _ _ h => h) (by rfl) (fun w hSw => ?_) (by assumption) ?_
      rotate_left
      · (try dsimp only at hSw); first | (go_simp; done) | (go_simp; with_reducible rfl)
      simp only [List.setIfInBounds_toArray, List.set_cons_zero, List.set_cons_succ]
      refine heldTake (v := ?_) 7 24 rfl rfl (by kernel_rfl) (by kernel_rfl) (by kernel_rfl) (fun _ _ _ h => h) (by rfl) (fun w hSw => ?_) (by assumption) ?_
      rotate_left
      · (try dsimp only at hSw); first | (go_simp; done) | (go_simp; with_reducible rfl)
      simp only [List.setIfInBounds_toArray, List.set_cons_zero, List.set_cons_succ]
      refine heldOne 8 rfl (by kernel_rfl) (by rfl) (fun K2 hK => ?_)
      go_simp
      refine (D1 _).mono ?_
      rintro e wz ⟨rfl, hb⟩
      simp only []
      refine hK.out _ _ ?_ (fun hHeld => ?_)
      · exact k4V hb (by assumption)
      clear hK K2
      try simp only [List.setIfInBounds_toArray, List.set_cons_zero, List.set_cons_succ]
      refine heldTake (v := ?_) 9 26 rfl rfl (by kernel_rfl) (by kernel_rfl) (by kernel_rfl) (fun _ _ _ h => h) (by rfl) (fun w hSw => ?_) (by assumption) ?_
      rotate_left
      · (try dsimp only at hSw); first | (go_simp; done) | (go_simp; with_reducible rfl)
      simp only [List.setIfInBounds_toArray, List.set_cons_zero, List.set_cons_succ]
      refine wpAnyH_done (by kernel_rfl) ?_ _
      have HB9 : Hid (Below w.heap.size w _) := chain hB.out hHeld.2.2.2.2.out
      clear hHeld
      go_wp2
      go_roundw
      case rel => exact ⟨k + 1, by omega, by go_num, HT', HB9⟩
      case measure => simp [RowKit.intOf]; omega
    · rw [show (decide (p = p') && decide (q = q')) = false from by simpa using he] at D1
      have HNE : Hid (l ≠ r) := HF.out he
      clear HQ HF he x0 x1 y0 y1
      go_wp2
      refine wp_region_held_drew (S := (fun w' => w'.cell? ⟨b1, o1 + k * 2, none⟩ = some (.int .i64 p) ∧ w'.cell? ⟨b1, o1 + k * 2 + 1, none⟩ = some (.int .i64 q) ∧ w'.cell? ⟨b2, o2 + k * 2, none⟩ = some (.int .i64 p') ∧ w'.cell? ⟨b2, o2 + k * 2 + 1, none⟩ = some (.int .i64 q') ∧ Hid (Below wr.heap.size wr w'))) (by kernel_rfl) HS3 (fun hHeld => ?_)
      refine heldTake (v := ?_) 0 17 rfl rfl (by kernel_rfl) (by kernel_rfl) (by kernel_rfl) (fun _ _ _ h => h) (by rfl) (fun w hSw => ?_) (by assumption) ?_
      rotate_left
      · (try dsimp only at hSw); first | (go_simp; done) | (go_simp; with_reducible rfl)
      simp only [List.setIfInBounds_toArray, List.set_cons_zero, List.set_cons_succ]
      refine heldTake (v := ?_) 1 18 rfl rfl (by kernel_rfl) (by kernel_rfl) (by kernel_rfl) (fun _ _ _ h => h) (by rfl) (fun w hSw => ?_) (by assumption) ?_
      rotate_left
      · (try dsimp only at hSw); first | (go_simp; done) | (go_simp; with_reducible rfl)
      simp only [List.setIfInBounds_toArray, List.set_cons_zero, List.set_cons_succ]
      refine heldTake (v := ?_) 2 19 rfl rfl (by kernel_rfl) (by kernel_rfl) (by kernel_rfl) (fun _ _ _ h => h) (by rfl) (fun w hSw => ?_) (by assumption) ?_
      rotate_left
      · (try dsimp only at hSw); first | (go_simp; done) | (go_simp; with_reducible rfl)
      simp only [List.setIfInBounds_toArray, List.set_cons_zero, List.set_cons_succ]
      refine heldTake (v := ?_) 3 20 rfl rfl (by kernel_rfl) (by kernel_rfl) (by kernel_rfl) (fun _ _ _ h => h) (by rfl) (fun w hSw => ?_) (by assumption) ?_
      rotate_left
      · (try dsimp only at hSw); first | (go_simp; done) | (go_simp; with_reducible rfl)
      simp only [List.setIfInBounds_toArray, List.set_cons_zero, List.set_cons_succ]
      refine heldTake (v := ?_) 4 21 rfl rfl (by kernel_rfl) (by kernel_rfl) (by kernel_rfl) (fun _ _ _ h => h) (by rfl) (fun w hSw => ?_) (by assumption) ?_
      rotate_left
      · (try dsimp only at hSw); first | (go_simp; done) | (go_simp; with_reducible rfl)
      simp only [List.setIfInBounds_toArray, List.set_cons_zero, List.set_cons_succ]
      refine heldTake (v := ?_) 5 22 rfl rfl (by kernel_rfl) (by kernel_rfl) (by kernel_rfl) (fun _ _ _ h => h) (by rfl) (fun w hSw => ?_) (by assumption) ?_
      rotate_left
      · (try dsimp only at hSw); first | (go_simp; done) | (go_simp; with_reducible rfl)
      simp only [List.setIfInBounds_toArray, List.set_cons_zero, List.set_cons_succ]
      refine heldTake (v := ?_) 6 23 rfl rfl (by kernel_rfl) (by kernel_rfl) (by kernel_rfl) (fun _ _ _ h => h) (by rfl) (fun w hSw => ?_) (by assumption) ?_
      rotate_left
      · (try dsimp only at hSw); first | (go_simp; done) | (go_simp; with_reducible rfl)
      simp only [List.setIfInBounds_toArray, List.set_cons_zero, List.set_cons_succ]
      refine heldTake (v := ?_) 7 24 rfl rfl (by kernel_rfl) (by kernel_rfl) (by kernel_rfl) (fun _ _ _ h => h) (by rfl) (fun w hSw => ?_) (by assumption) ?_
      rotate_left
      · (try dsimp only at hSw); first | (go_simp; done) | (go_simp; with_reducible rfl)
      simp only [List.setIfInBounds_toArray, List.set_cons_zero, List.set_cons_succ]
      refine heldOne 8 rfl (by kernel_rfl) (by rfl) (fun K2 hK => ?_)
      go_simp
      refine (D1 _).mono ?_
      rintro e wz ⟨rfl, hb⟩
      simp only []
      refine hK.out _ _ ?_ (fun hHeld => ?_)
      · exact k4V hb (by assumption)
      clear hK K2
      try simp only [List.setIfInBounds_toArray, List.set_cons_zero, List.set_cons_succ]
      refine heldTake (v := ?_) 9 26 rfl rfl (by kernel_rfl) (by kernel_rfl) (by kernel_rfl) (fun _ _ _ h => h) (by rfl) (fun w hSw => ?_) (by assumption) ?_
      rotate_left
      · (try dsimp only at hSw); first | (go_simp; done) | (go_simp; with_reducible rfl)
      simp only [List.setIfInBounds_toArray, List.set_cons_zero, List.set_cons_succ]
      refine wpAnyH_done (by kernel_rfl) ?_ _
      have HB9 : Hid (Below w.heap.size w _) := chain hB.out hHeld.2.2.2.2.out
      clear hHeld
      go_wp2
      go_ret
      exact ⟨by rw [decide_eq_false HNE.out]; rfl, HB9.out⟩
  have HE : Hid (l = r) := by
    have h1 := hT.out
    rw [List.take_of_length_le (by rw [HN.out]; omega), List.take_of_length_le (by rw [HM.out]; omega)] at h1
    exact h1
  go_wp2
  go_ret
  exact ⟨by rw [decide_eq_true HE.out]; rfl, hB.out⟩

theorem sameVs_self (l : List PV) : sameVs l l = true := (sameVs_iff l l).2 rfl

set_option maxRecDepth 100000 in
set_option maxHeartbeats 4000000 in
theorem keepOp_same (x : PO) (da va oa da' va' oa' : Option Addr) (dc vc oc dc' vc' oc' : Nat) (w : World) (h : LiesO w x da va oa dc vc oc) (h' : LiesO w x da' va' oa' dc' vc' oc') :
    Calls Try.prog 11 #[.agg (cellsO x da va oa dc vc oc), .agg (cellsO x da' va' oa' dc' vc' oc')] w fun e w' => e = .returned (.bool true) ∧ Below w.heap.size w w' := by
  have HX : Hid (LiesO w x da va oa dc vc oc) := h
  have HY : Hid (LiesO w x da' va' oa' dc' vc' oc') := h'
  clear h h'
  obtain ⟨B, hBB⟩ : ∃ B : World, B = (w.alloc (.cells (cellsO x da va oa dc vc oc) 32)).alloc (.cells (cellsO x da' va' oa' dc' vc' oc') 32) := ⟨_, rfl⟩
  have HB0 : Hid (Below w.heap.size w B) := by rw [hBB]; exact below_two _ _ _
  have HK : Hid (CellsAt B w.heap.size (cellsO x da va oa dc vc oc) 32) := by rw [hBB]; exact (CellsAt.made rfl).later (alloc_below _ _)
  have HK' : Hid (CellsAt B (w.heap.size + 1) (cellsO x da' va' oa' dc' vc' oc') 32) := by rw [hBB]; exact CellsAt.made (by simp)
  have HC : Hid (∀ W, Below B.heap.size B W → W.cell? ⟨w.heap.size, 0, none⟩ = some (.int .i64 x.dp) ∧ W.cell? ⟨w.heap.size, 1, none⟩ = some (.int .i64 x.dn) ∧ W.cell? ⟨w.heap.size, 2, none⟩ = some (.slice da x.deps.length dc) ∧ W.cell? ⟨w.heap.size, 3, none⟩ = some (.int .i64 x.sp) ∧ W.cell? ⟨w.heap.size, 4, none⟩ = some (.int .i64 x.sl) ∧ W.cell? ⟨w.heap.size, 5, none⟩ = some (.int .i64 x.sq) ∧ W.cell? ⟨w.heap.size, 6, none⟩ = some (.int .i64 x.kind) ∧ W.cell? ⟨w.heap.size, 7, none⟩ = some (.int .i64 x.table) ∧ W.cell? ⟨w.heap.size, 8, none⟩ = some (.string x.key) ∧ W.cell? ⟨w.heap.size, 9, none⟩ = some (.int .i64 x.col) ∧ W.cell? ⟨w.heap.size, 10, none⟩ = some (.slice va x.vals.length vc) ∧ W.cell? ⟨w.heap.size, 11, none⟩ = some (.slice oa x.dots.length oc)) := fun W hb => by
    have k := HK.out.later hb
    exact ⟨k.cell 0, k.cell 1, k.cell 2, k.cell 3, k.cell 4, k.cell 5, k.cell 6, k.cell 7, k.cell 8, k.cell 9, k.cell 10, k.cell 11⟩
  have HD : Hid (∀ W, Below B.heap.size B W → W.cell? ⟨w.heap.size + 1, 0, none⟩ = some (.int .i64 x.dp) ∧ W.cell? ⟨w.heap.size + 1, 1, none⟩ = some (.int .i64 x.dn) ∧ W.cell? ⟨w.heap.size + 1, 2, none⟩ = some (.slice da' x.deps.length dc') ∧ W.cell? ⟨w.heap.size + 1, 3, none⟩ = some (.int .i64 x.sp) ∧ W.cell? ⟨w.heap.size + 1, 4, none⟩ = some (.int .i64 x.sl) ∧ W.cell? ⟨w.heap.size + 1, 5, none⟩ = some (.int .i64 x.sq) ∧ W.cell? ⟨w.heap.size + 1, 6, none⟩ = some (.int .i64 x.kind) ∧ W.cell? ⟨w.heap.size + 1, 7, none⟩ = some (.int .i64 x.table) ∧ W.cell? ⟨w.heap.size + 1, 8, none⟩ = some (.string x.key) ∧ W.cell? ⟨w.heap.size + 1, 9, none⟩ = some (.int .i64 x.col) ∧ W.cell? ⟨w.heap.size + 1, 10, none⟩ = some (.slice va' x.vals.length vc') ∧ W.cell? ⟨w.heap.size + 1, 11, none⟩ = some (.slice oa' x.dots.length oc')) := fun W hb => by
    have k := HK'.out.later hb
    exact ⟨k.cell 0, k.cell 1, k.cell 2, k.cell 3, k.cell 4, k.cell 5, k.cell 6, k.cell 7, k.cell 8, k.cell 9, k.cell 10, k.cell 11⟩
  have HBB : Hid (B = (w.alloc (.cells (cellsO x da va oa dc vc oc) 32)).alloc (.cells (cellsO x da' va' oa' dc' vc' oc') 32)) := hBB
  clear HK HK' hBB
  have C1 := fun W => keepDot_any x.dp x.dn x.dp x.dn W
  simp only [decide_true, Bool.and_self] at C1
  have C2 := fun (W : World) (hb : Below w.heap.size w W) => keepInts_any da da' x.deps.length x.deps.length dc dc' x.deps x.deps W rfl rfl HX.out.ld HX.out.ld (HX.out.deps.later hb) (HY.out.deps.later hb)
  simp only [decide_true] at C2
  have C3 := fun W => keepStamp_any x.sp x.sl x.sq x.sp x.sl x.sq W
  simp only [decide_true] at C3
  have C4 := fun (W : World) (hb : Below w.heap.size w W) => keepRow_any va va' x.vals.length x.vals.length vc vc' x.vals x.vals W rfl rfl HX.out.lv HX.out.lv (HX.out.vals.later hb) (HY.out.vals.later hb)
  simp only [sameVs_self] at C4
  have C5 := fun (W : World) (hb : Below w.heap.size w W) => keepDots_any oa oa' x.dots.length x.dots.length oc oc' x.dots x.dots W rfl rfl HX.out.lo HX.out.lo (HX.out.dots.later hb) (HY.out.dots.later hb)
  simp only [decide_true] at C5
  go_enter Try.func11, Try.ntmps11
  go_wp2_with fail
  rw [← HBB.out]
  refine (C1 _).mono ?_
  rintro e w1 ⟨rfl, hb1⟩
  have HB1 : Hid (Below B.heap.size B w1) := hb1
  obtain ⟨f0, f1, f2, f3, f4, f5, f6, f7, f8, f9, f10, f11⟩ := HC.out w1 HB1.out
  obtain ⟨g0, g1, g2, g3, g4, g5, g6, g7, g8, g9, g10, g11⟩ := HD.out w1 HB1.out
  clear hb1
  go_wp2_with fail
  refine (C2 _ (chain HB0.out HB1.out)).mono ?_
  rintro e w2 ⟨rfl, hb2⟩
  have HB2 : Hid (Below B.heap.size B w2) := chain HB1.out hb2
  clear hb2 f0 f1 f2 f3 f4 f5 f6 f7 f8 f9 f10 f11 g0 g1 g2 g3 g4 g5 g6 g7 g8 g9 g10 g11
  obtain ⟨f0, f1, f2, f3, f4, f5, f6, f7, f8, f9, f10, f11⟩ := HC.out w2 HB2.out
  obtain ⟨g0, g1, g2, g3, g4, g5, g6, g7, g8, g9, g10, g11⟩ := HD.out w2 HB2.out
  go_wp2_with fail
  refine (C3 _).mono ?_
  rintro e w3 ⟨rfl, hb3⟩
  have HB3 : Hid (Below B.heap.size B w3) := chain HB2.out hb3
  clear hb3 f0 f1 f2 f3 f4 f5 f6 f7 f8 f9 f10 f11 g0 g1 g2 g3 g4 g5 g6 g7 g8 g9 g10 g11
  obtain ⟨f0, f1, f2, f3, f4, f5, f6, f7, f8, f9, f10, f11⟩ := HC.out w3 HB3.out
  obtain ⟨g0, g1, g2, g3, g4, g5, g6, g7, g8, g9, g10, g11⟩ := HD.out w3 HB3.out
  go_wp2_with fail
  refine (C4 _ (chain HB0.out HB3.out)).mono ?_
  rintro e w4 ⟨rfl, hb4⟩
  have HB4 : Hid (Below B.heap.size B w4) := chain HB3.out hb4
  clear hb4 f0 f1 f2 f3 f4 f5 f6 f7 f8 f9 f10 f11 g0 g1 g2 g3 g4 g5 g6 g7 g8 g9 g10 g11
  obtain ⟨f0, f1, f2, f3, f4, f5, f6, f7, f8, f9, f10, f11⟩ := HC.out w4 HB4.out
  obtain ⟨g0, g1, g2, g3, g4, g5, g6, g7, g8, g9, g10, g11⟩ := HD.out w4 HB4.out
  go_wp2_with fail
  refine (C5 _ (chain HB0.out HB4.out)).mono ?_
  rintro e w5 ⟨rfl, hb5⟩
  have HB5 : Hid (Below w.heap.size w w5) := chain HB0.out (chain HB4.out hb5)
  clear hb5
  go_wp2
  go_ret
  exact ⟨rfl, HB5.out⟩

end Go.Proofs.Ytmcbdfmajciklaa

namespace Go.Proofs.Ytmcbdfmajciklaa
open Go.RowKit Go.Lib
set_option linter.unusedVariables false

/-- The numbers of an operation are ints. -/
structure I64O (x : PO) : Prop where
  deps : All64 x.deps
  dp : In64 x.dp
  dn : In64 x.dn
  st : S64 ⟨x.sp, x.sl, x.sq⟩
  dots : ∀ d ∈ x.dots, In64 d.1 ∧ In64 d.2
  col : In64 x.col
  table : In64 x.table

/-- May it be its peer's next one? -/
def issuedF (n : Int) (x : PO) : Bool :=
  decide ((x.deps.length : Int) = n) && decide (chkD x.deps = 0) && nextD x.deps x.dp x.dn && decide (x.dn ≤ 1073741824) && decide (chkS ⟨x.sp, x.sl, x.sq⟩ = 0) && decide (x.sq = x.dp)

set_option maxRecDepth 100000 in
set_option maxHeartbeats 4000000 in
theorem opIssued_any (n : Int) (x : PO) (da va oa : Option Addr) (dc vc oc : Nat) (w : World) (h : LiesO w x da va oa dc vc oc) (hx : I64O x) :
    Calls Try.prog 50 #[.int .i64 n, .agg (cellsO x da va oa dc vc oc)] w fun e w' => e = .returned (.bool (issuedF n x)) ∧ Below w.heap.size w w' := by
  obtain ⟨dp, dn, deps, sp, sl, sq, kind, table, key, col, vals, dots⟩ := x
  have HR : Hid (RdI .i64 w da deps) := h.deps
  have hld : deps.length ≤ 65536 := h.ld
  have C1 := fun (W : World) (hb : Below w.heap.size w W) => dCheck_any da deps.length dc deps W rfl hld (HR.out.later hb)
  have C2 := fun (W : World) (hb : Below w.heap.size w W) => dotNext da deps.length dc dp dn deps W rfl hld hx.deps hx.dp hx.dn (HR.out.later hb)
  have C3 := fun (W : World) => hlcCheck sp sl sq W hx.st
  have HI : Hid (issuedF n ⟨dp, dn, deps, sp, sl, sq, kind, table, key, col, vals, dots⟩ = (decide ((deps.length : Int) = n) && decide (chkD deps = 0) && nextD deps dp dn && decide (dn ≤ 1073741824) && decide (chkS ⟨sp, sl, sq⟩ = 0) && decide (sq = dp))) := rfl
  generalize issuedF n ⟨dp, dn, deps, sp, sl, sq, kind, table, key, col, vals, dots⟩ = res at *
  generalize chkD deps = cd at *
  generalize nextD deps dp dn = nx at *
  generalize chkS ⟨sp, sl, sq⟩ = cs at *
  clear h hx HR
  simp only [cellsO]
  generalize deps.length = m at *
  generalize vals.length = nv at *
  generalize dots.length = no at *
  have HK : Hid (CellsAt (w.alloc (.cells #[.int .i64 dp, .int .i64 dn, .slice da m dc, .int .i64 sp, .int .i64 sl, .int .i64 sq, .int .i64 kind, .int .i64 table, .string key, .int .i64 col, .slice va nv vc, .slice oa no oc] 32)) w.heap.size #[.int .i64 dp, .int .i64 dn, .slice da m dc, .int .i64 sp, .int .i64 sl, .int .i64 sq, .int .i64 kind, .int .i64 table, .string key, .int .i64 col, .slice va nv vc, .slice oa no oc] 32) := CellsAt.made rfl
  have HB0 : Hid (Below w.heap.size w (w.alloc (.cells #[.int .i64 dp, .int .i64 dn, .slice da m dc, .int .i64 sp, .int .i64 sl, .int .i64 sq, .int .i64 kind, .int .i64 table, .string key, .int .i64 col, .slice va nv vc, .slice oa no oc] 32))) := alloc_below _ _
  have HC : Hid (∀ W, Below (w.alloc (.cells #[.int .i64 dp, .int .i64 dn, .slice da m dc, .int .i64 sp, .int .i64 sl, .int .i64 sq, .int .i64 kind, .int .i64 table, .string key, .int .i64 col, .slice va nv vc, .slice oa no oc] 32)).heap.size (w.alloc (.cells #[.int .i64 dp, .int .i64 dn, .slice da m dc, .int .i64 sp, .int .i64 sl, .int .i64 sq, .int .i64 kind, .int .i64 table, .string key, .int .i64 col, .slice va nv vc, .slice oa no oc] 32)) W → W.cell? ⟨w.heap.size, 0, none⟩ = some (.int .i64 dp) ∧ W.cell? ⟨w.heap.size, 1, none⟩ = some (.int .i64 dn) ∧ W.cell? ⟨w.heap.size, 2, none⟩ = some (.slice da m dc) ∧ W.cell? ⟨w.heap.size, 3, none⟩ = some (.int .i64 sp) ∧ W.cell? ⟨w.heap.size, 4, none⟩ = some (.int .i64 sl) ∧ W.cell? ⟨w.heap.size, 5, none⟩ = some (.int .i64 sq)) := fun W hb => by
    have k := HK.out.later hb
    exact ⟨k.cell 0, k.cell 1, k.cell 2, k.cell 3, k.cell 4, k.cell 5⟩
  clear HK
  by_cases h1 : (m : Int) = n
  case neg =>
    have q1 : ((m : Int) != n) = true := by simp [h1]
    have HF : Hid (res = false) := by rw [HI.out, decide_eq_false h1]; rfl
    clear C1 C2 C3
    go_enter Try.func50, Try.ntmps50
    go_wp2
    go_ret
    exact ⟨by rw [HF.out]; rfl, HB0.out⟩
  have q1 : ((m : Int) != n) = false := by simp [h1]
  by_cases h2 : cd = 0
  case neg =>
    have q2 : (cd != 0) = true := by simp [h2]
    have HF : Hid (res = false) := by show _ = _; rw [HI.out]; simp [h2]
    go_enter Try.func50, Try.ntmps50
    go_wp2_with fail
    refine (C1 _ HB0.out).mono ?_
    rintro e w1 ⟨rfl, hw⟩
    subst w1
    go_wp2
    go_ret
    exact ⟨by rw [HF.out]; rfl, HB0.out⟩
  subst h2
  cases nx with
  | false =>
    have HF : Hid (res = false) := by show _ = _; rw [HI.out]; simp
    go_enter Try.func50, Try.ntmps50
    go_wp2_with fail
    refine (C1 _ HB0.out).mono ?_
    rintro e w1 ⟨rfl, hw⟩
    subst w1
    go_wp2_with fail
    refine (C2 _ HB0.out).mono ?_
    rintro e w1 ⟨rfl, hb1⟩
    have HB1 : Hid (Below w.heap.size w w1) := chain HB0.out hb1
    clear hb1
    go_wp2
    go_ret
    exact ⟨by rw [HF.out]; rfl, HB1.out⟩
  | true =>
    by_cases h3 : dn ≤ 1073741824
    case neg =>
      have q3 : 1073741824 < dn := by omega
      have HF : Hid (res = false) := by show _ = _; rw [HI.out]; simp [h3]
      go_enter Try.func50, Try.ntmps50
      go_wp2_with fail
      refine (C1 _ HB0.out).mono ?_
      rintro e w1 ⟨rfl, hw⟩
      subst w1
      go_wp2_with fail
      refine (C2 _ HB0.out).mono ?_
      rintro e w1 ⟨rfl, hb1⟩
      obtain ⟨f0, f1, f2, f3, f4, f5⟩ := HC.out w1 hb1
      have HB1 : Hid (Below w.heap.size w w1) := chain HB0.out hb1
      clear hb1
      go_wp2
      go_ret
      exact ⟨by rw [HF.out]; rfl, HB1.out⟩
    by_cases h4 : cs = 0
    case neg =>
      have q4 : (cs == 0) = false := by simp [h4]
      have HF : Hid (res = false) := by show _ = _; rw [HI.out]; simp [h4]
      go_enter Try.func50, Try.ntmps50
      go_wp2_with fail
      refine (C1 _ HB0.out).mono ?_
      rintro e w1 ⟨rfl, hw⟩
      subst w1
      go_wp2_with fail
      refine (C2 _ HB0.out).mono ?_
      rintro e w1 ⟨rfl, hb1⟩
      obtain ⟨f0, f1, f2, f3, f4, f5⟩ := HC.out w1 hb1
      have HB1 : Hid (Below w.heap.size w w1) := chain HB0.out hb1
      clear hb1
      go_wp2_with fail
      refine (C3 _).mono ?_
      rintro e w2 ⟨rfl, hb2⟩
      have HB2 : Hid (Below w.heap.size w w2) := chain HB1.out hb2
      go_wp2
      go_ret
      exact ⟨by rw [HF.out]; rfl, HB2.out⟩
    subst h4
    have HF : Hid (res = decide (sq = dp)) := by show _ = _; rw [HI.out]; simp [h1, h3]
    go_enter Try.func50, Try.ntmps50
    go_wp2_with fail
    refine (C1 _ HB0.out).mono ?_
    rintro e w1 ⟨rfl, hw⟩
    subst w1
    go_wp2_with fail
    refine (C2 _ HB0.out).mono ?_
    rintro e w1 ⟨rfl, hb1⟩
    obtain ⟨f0, f1, f2, f3, f4, f5⟩ := HC.out w1 hb1
    have HB1 : Hid (Below w.heap.size w w1) := chain HB0.out hb1
    have HBo : Hid (Below (w.alloc (.cells #[.int .i64 dp, .int .i64 dn, .slice da m dc, .int .i64 sp, .int .i64 sl, .int .i64 sq, .int .i64 kind, .int .i64 table, .string key, .int .i64 col, .slice va nv vc, .slice oa no oc] 32)).heap.size (w.alloc (.cells #[.int .i64 dp, .int .i64 dn, .slice da m dc, .int .i64 sp, .int .i64 sl, .int .i64 sq, .int .i64 kind, .int .i64 table, .string key, .int .i64 col, .slice va nv vc, .slice oa no oc] 32)) w1) := hb1
    clear hb1
    go_wp2_with fail
    refine (C3 _).mono ?_
    rintro e w2 ⟨rfl, hb2⟩
    obtain ⟨g0, g1, g2, g3, g4, g5⟩ := HC.out w2 (chain HBo.out hb2)
    have HB2 : Hid (Below w.heap.size w w2) := chain HB1.out hb2
    clear hb2
    by_cases h5 : sq = dp
    · subst h5
      go_wp2
      go_ret
      exact ⟨by rw [HF.out]; simp, HB2.out⟩
    · have q5 : (sq == dp) = false := by simp [h5]
      go_wp2
      go_ret
      exact ⟨by rw [HF.out, decide_eq_false h5]; rfl, HB2.out⟩

end Go.Proofs.Ytmcbdfmajciklaa

namespace Go.Proofs.Ytmcbdfmajciklaa
open Go.RowKit Go.Lib
set_option linter.unusedVariables false

set_option maxRecDepth 100000 in
set_option maxHeartbeats 4000000 in
theorem opWithin_out (dp dn sp sl sq kind table col : Int) (key : ByteArray) (da va oa : Option Addr) (m nv no dc vc oc : Nat) (af : Option Addr) (nf fcap : Nat) (w : World) (hk : key.size ≤ 9223372036854775807) (h : (placeF nf table && keyF key) = false) :
    Calls Try.prog 51 #[.slice af nf fcap, .agg #[.int .i64 dp, .int .i64 dn, .slice da m dc, .int .i64 sp, .int .i64 sl, .int .i64 sq, .int .i64 kind, .int .i64 table, .string key, .int .i64 col, .slice va nv vc, .slice oa no oc]] w fun e w' => e = .returned (.bool false) ∧ Below w.heap.size w w' := by
  have HK : Hid (CellsAt (w.alloc (.cells #[.int .i64 dp, .int .i64 dn, .slice da m dc, .int .i64 sp, .int .i64 sl, .int .i64 sq, .int .i64 kind, .int .i64 table, .string key, .int .i64 col, .slice va nv vc, .slice oa no oc] 32)) w.heap.size #[.int .i64 dp, .int .i64 dn, .slice da m dc, .int .i64 sp, .int .i64 sl, .int .i64 sq, .int .i64 kind, .int .i64 table, .string key, .int .i64 col, .slice va nv vc, .slice oa no oc] 32) := CellsAt.made rfl
  have HB0 : Hid (Below w.heap.size w (w.alloc (.cells #[.int .i64 dp, .int .i64 dn, .slice da m dc, .int .i64 sp, .int .i64 sl, .int .i64 sq, .int .i64 kind, .int .i64 table, .string key, .int .i64 col, .slice va nv vc, .slice oa no oc] 32))) := alloc_below _ _
  have HC : Hid (∀ W, Below (w.alloc (.cells #[.int .i64 dp, .int .i64 dn, .slice da m dc, .int .i64 sp, .int .i64 sl, .int .i64 sq, .int .i64 kind, .int .i64 table, .string key, .int .i64 col, .slice va nv vc, .slice oa no oc] 32)).heap.size (w.alloc (.cells #[.int .i64 dp, .int .i64 dn, .slice da m dc, .int .i64 sp, .int .i64 sl, .int .i64 sq, .int .i64 kind, .int .i64 table, .string key, .int .i64 col, .slice va nv vc, .slice oa no oc] 32)) W → W.cell? ⟨w.heap.size, 0, none⟩ = some (.int .i64 dp) ∧ W.cell? ⟨w.heap.size, 1, none⟩ = some (.int .i64 dn) ∧ W.cell? ⟨w.heap.size, 2, none⟩ = some (.slice da m dc) ∧ W.cell? ⟨w.heap.size, 3, none⟩ = some (.int .i64 sp) ∧ W.cell? ⟨w.heap.size, 4, none⟩ = some (.int .i64 sl) ∧ W.cell? ⟨w.heap.size, 5, none⟩ = some (.int .i64 sq) ∧ W.cell? ⟨w.heap.size, 6, none⟩ = some (.int .i64 kind) ∧ W.cell? ⟨w.heap.size, 7, none⟩ = some (.int .i64 table) ∧ W.cell? ⟨w.heap.size, 8, none⟩ = some (.string key) ∧ W.cell? ⟨w.heap.size, 9, none⟩ = some (.int .i64 col) ∧ W.cell? ⟨w.heap.size, 10, none⟩ = some (.slice va nv vc) ∧ W.cell? ⟨w.heap.size, 11, none⟩ = some (.slice oa no oc)) := fun W hb => by
    have k := HK.out.later hb
    exact ⟨k.cell 0, k.cell 1, k.cell 2, k.cell 3, k.cell 4, k.cell 5, k.cell 6, k.cell 7, k.cell 8, k.cell 9, k.cell 10, k.cell 11⟩
  clear HK
  have C1 := fun W => opPlace_any (nf : Int) table W
  have C2 := fun W => opKey_any key W hk
  generalize placeF nf table = p1 at *
  generalize keyF key = p2 at *
  cases p1 with
  | false =>
    clear h C2
    go_enter Try.func51, Try.ntmps51
    go_wp2_with fail
    refine (C1 _).mono ?_
    rintro e w1 ⟨rfl, hw⟩
    subst w1
    go_wp2
    go_ret
    exact ⟨rfl, HB0.out⟩
  | true =>
    obtain rfl : p2 = false := by simpa using h
    clear h
    go_enter Try.func51, Try.ntmps51
    go_wp2_with fail
    refine (C1 _).mono ?_
    rintro e w1 ⟨rfl, hw⟩
    subst w1
    go_wp2_with fail
    refine (C2 _).mono ?_
    rintro e w1 ⟨rfl, hw⟩
    subst w1
    go_wp2
    go_ret
    exact ⟨rfl, HB0.out⟩

set_option maxRecDepth 100000 in
set_option maxHeartbeats 4000000 in
theorem opWithin_del (dp dn sp sl sq kind table col : Int) (key : ByteArray) (da va oa : Option Addr) (m nv no dc vc oc : Nat) (bf of_ nf fcap z : Nat) (ac : Option Addr) (nc cc : Nat) (rem : Bool) (w : World) (hk : key.size ≤ 9223372036854775807) (hkey : keyF key = true) (htab : table = z) (hz : z < nf) (hnf : nf ≤ 65536) (hkind : kind = 3)
    (hcol : w.cell? ⟨bf, of_ + z, none⟩ = some (.slice ac nc cc))
    (C : ∀ W, Below w.heap.size w W → Calls Try.prog 87 #[.slice oa no oc, .slice da m dc] W fun e w' => e = .returned (.bool rem) ∧ Below W.heap.size W w') :
    Calls Try.prog 51 #[.slice (some ⟨bf, of_, none⟩) nf fcap, .agg #[.int .i64 dp, .int .i64 dn, .slice da m dc, .int .i64 sp, .int .i64 sl, .int .i64 sq, .int .i64 kind, .int .i64 table, .string key, .int .i64 col, .slice va nv vc, .slice oa no oc]] w fun e w' => e = .returned (.bool (rem && decide (col = 0) && decide (nv = 0))) ∧ Below w.heap.size w w' := by
  subst htab hkind
  have HK : Hid (CellsAt (w.alloc (.cells #[.int .i64 dp, .int .i64 dn, .slice da m dc, .int .i64 sp, .int .i64 sl, .int .i64 sq, .int .i64 3, .int .i64 (z : Int), .string key, .int .i64 col, .slice va nv vc, .slice oa no oc] 32)) w.heap.size #[.int .i64 dp, .int .i64 dn, .slice da m dc, .int .i64 sp, .int .i64 sl, .int .i64 sq, .int .i64 3, .int .i64 (z : Int), .string key, .int .i64 col, .slice va nv vc, .slice oa no oc] 32) := CellsAt.made rfl
  have HB0 : Hid (Below w.heap.size w (w.alloc (.cells #[.int .i64 dp, .int .i64 dn, .slice da m dc, .int .i64 sp, .int .i64 sl, .int .i64 sq, .int .i64 3, .int .i64 (z : Int), .string key, .int .i64 col, .slice va nv vc, .slice oa no oc] 32))) := alloc_below _ _
  have HC : Hid (∀ W, Below (w.alloc (.cells #[.int .i64 dp, .int .i64 dn, .slice da m dc, .int .i64 sp, .int .i64 sl, .int .i64 sq, .int .i64 3, .int .i64 (z : Int), .string key, .int .i64 col, .slice va nv vc, .slice oa no oc] 32)).heap.size (w.alloc (.cells #[.int .i64 dp, .int .i64 dn, .slice da m dc, .int .i64 sp, .int .i64 sl, .int .i64 sq, .int .i64 3, .int .i64 (z : Int), .string key, .int .i64 col, .slice va nv vc, .slice oa no oc] 32)) W → W.cell? ⟨w.heap.size, 0, none⟩ = some (.int .i64 dp) ∧ W.cell? ⟨w.heap.size, 1, none⟩ = some (.int .i64 dn) ∧ W.cell? ⟨w.heap.size, 2, none⟩ = some (.slice da m dc) ∧ W.cell? ⟨w.heap.size, 3, none⟩ = some (.int .i64 sp) ∧ W.cell? ⟨w.heap.size, 4, none⟩ = some (.int .i64 sl) ∧ W.cell? ⟨w.heap.size, 5, none⟩ = some (.int .i64 sq) ∧ W.cell? ⟨w.heap.size, 6, none⟩ = some (.int .i64 3) ∧ W.cell? ⟨w.heap.size, 7, none⟩ = some (.int .i64 (z : Int)) ∧ W.cell? ⟨w.heap.size, 8, none⟩ = some (.string key) ∧ W.cell? ⟨w.heap.size, 9, none⟩ = some (.int .i64 col) ∧ W.cell? ⟨w.heap.size, 10, none⟩ = some (.slice va nv vc) ∧ W.cell? ⟨w.heap.size, 11, none⟩ = some (.slice oa no oc)) := fun W hb => by
    have k := HK.out.later hb
    exact ⟨k.cell 0, k.cell 1, k.cell 2, k.cell 3, k.cell 4, k.cell 5, k.cell 6, k.cell 7, k.cell 8, k.cell 9, k.cell 10, k.cell 11⟩
  clear HK
  have C1 := fun W => opPlace_any (nf : Int) (z : Int) W
  rw [show placeF nf z = true from by simp [placeF]; omega] at C1
  have C2 := fun W => opKey_any key W hk
  rw [hkey] at C2
  have x0 := cell_later HB0.out hcol
  have z0 : (0 : Int) ≤ (z : Int) := by omega
  have z1 : (z : Int) < (nf : Int) := by omega
  clear hcol
  cases rem with
  | false =>
    go_enter Try.func51, Try.ntmps51
    go_wp2_with fail
    refine (C1 _).mono ?_
    rintro e w1 ⟨rfl, hw⟩
    subst w1
    go_wp2_with fail
    refine (C2 _).mono ?_
    rintro e w1 ⟨rfl, hw⟩
    subst w1
    go_wp2_with fail
    refine (C _ HB0.out).mono ?_
    rintro e w1 ⟨rfl, hb1⟩
    have HB1 : Hid (Below w.heap.size w w1) := chain HB0.out hb1
    clear hb1
    go_wp2
    go_ret
    exact ⟨rfl, HB1.out⟩
  | true =>
    go_enter Try.func51, Try.ntmps51
    go_wp2_with fail
    refine (C1 _).mono ?_
    rintro e w1 ⟨rfl, hw⟩
    subst w1
    go_wp2_with fail
    refine (C2 _).mono ?_
    rintro e w1 ⟨rfl, hw⟩
    subst w1
    go_wp2_with fail
    refine (C _ HB0.out).mono ?_
    rintro e w1 ⟨rfl, hb1⟩
    obtain ⟨f0, f1, f2, f3, f4, f5, f6, f7, f8, f9, f10, f11⟩ := HC.out w1 hb1
    have HB1 : Hid (Below w.heap.size w w1) := chain HB0.out hb1
    clear hb1
    by_cases h1 : col = 0
    · subst h1
      by_cases h2 : nv = 0
      · subst h2
        go_wp2
        go_ret
        exact ⟨by first | rfl | simp, HB1.out⟩
      · have q2 : ((nv : Int) == 0) = false := by simp; omega
        go_wp2
        go_ret
        exact ⟨by simp, HB1.out⟩
    · have q1 : (col == 0) = false := by simp [h1]
      go_wp2
      go_ret
      exact ⟨by simp [h1], HB1.out⟩

set_option maxRecDepth 100000 in
set_option maxHeartbeats 4000000 in
theorem opWithin_ins (dp dn sp sl sq kind table col : Int) (key : ByteArray) (da va oa : Option Addr) (m nv no dc vc oc : Nat) (bf of_ nf fcap z : Nat) (ac : Option Addr) (nc cc : Nat) (put : Bool) (w : World) (hk : key.size ≤ 9223372036854775807) (hkey : keyF key = true) (htab : table = z) (hz : z < nf) (hnf : nf ≤ 65536) (hkind : kind = 1)
    (hcol : w.cell? ⟨bf, of_ + z, none⟩ = some (.slice ac nc cc))
    (C : ∀ W, Below w.heap.size w W → Calls Try.prog 86 #[.slice va nv vc, .slice ac nc cc] W fun e w' => e = .returned (.bool put) ∧ Below W.heap.size W w') :
    Calls Try.prog 51 #[.slice (some ⟨bf, of_, none⟩) nf fcap, .agg #[.int .i64 dp, .int .i64 dn, .slice da m dc, .int .i64 sp, .int .i64 sl, .int .i64 sq, .int .i64 kind, .int .i64 table, .string key, .int .i64 col, .slice va nv vc, .slice oa no oc]] w fun e w' => e = .returned (.bool (put && decide (col = 0) && decide (no = 0))) ∧ Below w.heap.size w w' := by
  subst htab hkind
  have HK : Hid (CellsAt (w.alloc (.cells #[.int .i64 dp, .int .i64 dn, .slice da m dc, .int .i64 sp, .int .i64 sl, .int .i64 sq, .int .i64 1, .int .i64 (z : Int), .string key, .int .i64 col, .slice va nv vc, .slice oa no oc] 32)) w.heap.size #[.int .i64 dp, .int .i64 dn, .slice da m dc, .int .i64 sp, .int .i64 sl, .int .i64 sq, .int .i64 1, .int .i64 (z : Int), .string key, .int .i64 col, .slice va nv vc, .slice oa no oc] 32) := CellsAt.made rfl
  have HB0 : Hid (Below w.heap.size w (w.alloc (.cells #[.int .i64 dp, .int .i64 dn, .slice da m dc, .int .i64 sp, .int .i64 sl, .int .i64 sq, .int .i64 1, .int .i64 (z : Int), .string key, .int .i64 col, .slice va nv vc, .slice oa no oc] 32))) := alloc_below _ _
  have HC : Hid (∀ W, Below (w.alloc (.cells #[.int .i64 dp, .int .i64 dn, .slice da m dc, .int .i64 sp, .int .i64 sl, .int .i64 sq, .int .i64 1, .int .i64 (z : Int), .string key, .int .i64 col, .slice va nv vc, .slice oa no oc] 32)).heap.size (w.alloc (.cells #[.int .i64 dp, .int .i64 dn, .slice da m dc, .int .i64 sp, .int .i64 sl, .int .i64 sq, .int .i64 1, .int .i64 (z : Int), .string key, .int .i64 col, .slice va nv vc, .slice oa no oc] 32)) W → W.cell? ⟨w.heap.size, 0, none⟩ = some (.int .i64 dp) ∧ W.cell? ⟨w.heap.size, 1, none⟩ = some (.int .i64 dn) ∧ W.cell? ⟨w.heap.size, 2, none⟩ = some (.slice da m dc) ∧ W.cell? ⟨w.heap.size, 3, none⟩ = some (.int .i64 sp) ∧ W.cell? ⟨w.heap.size, 4, none⟩ = some (.int .i64 sl) ∧ W.cell? ⟨w.heap.size, 5, none⟩ = some (.int .i64 sq) ∧ W.cell? ⟨w.heap.size, 6, none⟩ = some (.int .i64 1) ∧ W.cell? ⟨w.heap.size, 7, none⟩ = some (.int .i64 (z : Int)) ∧ W.cell? ⟨w.heap.size, 8, none⟩ = some (.string key) ∧ W.cell? ⟨w.heap.size, 9, none⟩ = some (.int .i64 col) ∧ W.cell? ⟨w.heap.size, 10, none⟩ = some (.slice va nv vc) ∧ W.cell? ⟨w.heap.size, 11, none⟩ = some (.slice oa no oc)) := fun W hb => by
    have k := HK.out.later hb
    exact ⟨k.cell 0, k.cell 1, k.cell 2, k.cell 3, k.cell 4, k.cell 5, k.cell 6, k.cell 7, k.cell 8, k.cell 9, k.cell 10, k.cell 11⟩
  clear HK
  have C1 := fun W => opPlace_any (nf : Int) (z : Int) W
  rw [show placeF nf z = true from by simp [placeF]; omega] at C1
  have C2 := fun W => opKey_any key W hk
  rw [hkey] at C2
  have x0 := cell_later HB0.out hcol
  have z0 : (0 : Int) ≤ (z : Int) := by omega
  have z1 : (z : Int) < (nf : Int) := by omega
  clear hcol
  cases put with
  | false =>
    go_enter Try.func51, Try.ntmps51
    go_wp2_with fail
    refine (C1 _).mono ?_
    rintro e w1 ⟨rfl, hw⟩
    subst w1
    go_wp2_with fail
    refine (C2 _).mono ?_
    rintro e w1 ⟨rfl, hw⟩
    subst w1
    go_wp2_with fail
    refine (C _ HB0.out).mono ?_
    rintro e w1 ⟨rfl, hb1⟩
    have HB1 : Hid (Below w.heap.size w w1) := chain HB0.out hb1
    clear hb1
    go_wp2
    go_ret
    exact ⟨rfl, HB1.out⟩
  | true =>
    go_enter Try.func51, Try.ntmps51
    go_wp2_with fail
    refine (C1 _).mono ?_
    rintro e w1 ⟨rfl, hw⟩
    subst w1
    go_wp2_with fail
    refine (C2 _).mono ?_
    rintro e w1 ⟨rfl, hw⟩
    subst w1
    go_wp2_with fail
    refine (C _ HB0.out).mono ?_
    rintro e w1 ⟨rfl, hb1⟩
    obtain ⟨f0, f1, f2, f3, f4, f5, f6, f7, f8, f9, f10, f11⟩ := HC.out w1 hb1
    have HB1 : Hid (Below w.heap.size w w1) := chain HB0.out hb1
    clear hb1
    by_cases h1 : col = 0
    · subst h1
      by_cases h2 : no = 0
      · subst h2
        go_wp2
        go_ret
        exact ⟨by first | rfl | simp, HB1.out⟩
      · have q2 : ((no : Int) == 0) = false := by simp; omega
        go_wp2
        go_ret
        exact ⟨by simp, HB1.out⟩
    · have q1 : (col == 0) = false := by simp [h1]
      go_wp2
      go_ret
      exact ⟨by simp [h1], HB1.out⟩

set_option maxRecDepth 100000 in
set_option maxHeartbeats 4000000 in
theorem opWithin_none (dp dn sp sl sq kind table col : Int) (key : ByteArray) (da va oa : Option Addr) (m nv no dc vc oc : Nat) (bf of_ nf fcap z : Nat) (ac : Option Addr) (nc cc : Nat) (w : World) (hk : key.size ≤ 9223372036854775807) (hkey : keyF key = true) (htab : table = z) (hz : z < nf) (hnf : nf ≤ 65536) (hkind : kind ≠ 1 ∧ kind ≠ 2 ∧ kind ≠ 3)
    (hcol : w.cell? ⟨bf, of_ + z, none⟩ = some (.slice ac nc cc)) :
    Calls Try.prog 51 #[.slice (some ⟨bf, of_, none⟩) nf fcap, .agg #[.int .i64 dp, .int .i64 dn, .slice da m dc, .int .i64 sp, .int .i64 sl, .int .i64 sq, .int .i64 kind, .int .i64 table, .string key, .int .i64 col, .slice va nv vc, .slice oa no oc]] w fun e w' => e = .returned (.bool false) ∧ Below w.heap.size w w' := by
  subst htab
  have HK : Hid (CellsAt (w.alloc (.cells #[.int .i64 dp, .int .i64 dn, .slice da m dc, .int .i64 sp, .int .i64 sl, .int .i64 sq, .int .i64 kind, .int .i64 (z : Int), .string key, .int .i64 col, .slice va nv vc, .slice oa no oc] 32)) w.heap.size #[.int .i64 dp, .int .i64 dn, .slice da m dc, .int .i64 sp, .int .i64 sl, .int .i64 sq, .int .i64 kind, .int .i64 (z : Int), .string key, .int .i64 col, .slice va nv vc, .slice oa no oc] 32) := CellsAt.made rfl
  have HB0 : Hid (Below w.heap.size w (w.alloc (.cells #[.int .i64 dp, .int .i64 dn, .slice da m dc, .int .i64 sp, .int .i64 sl, .int .i64 sq, .int .i64 kind, .int .i64 (z : Int), .string key, .int .i64 col, .slice va nv vc, .slice oa no oc] 32))) := alloc_below _ _
  have HC : Hid (∀ W, Below (w.alloc (.cells #[.int .i64 dp, .int .i64 dn, .slice da m dc, .int .i64 sp, .int .i64 sl, .int .i64 sq, .int .i64 kind, .int .i64 (z : Int), .string key, .int .i64 col, .slice va nv vc, .slice oa no oc] 32)).heap.size (w.alloc (.cells #[.int .i64 dp, .int .i64 dn, .slice da m dc, .int .i64 sp, .int .i64 sl, .int .i64 sq, .int .i64 kind, .int .i64 (z : Int), .string key, .int .i64 col, .slice va nv vc, .slice oa no oc] 32)) W → W.cell? ⟨w.heap.size, 0, none⟩ = some (.int .i64 dp) ∧ W.cell? ⟨w.heap.size, 1, none⟩ = some (.int .i64 dn) ∧ W.cell? ⟨w.heap.size, 2, none⟩ = some (.slice da m dc) ∧ W.cell? ⟨w.heap.size, 3, none⟩ = some (.int .i64 sp) ∧ W.cell? ⟨w.heap.size, 4, none⟩ = some (.int .i64 sl) ∧ W.cell? ⟨w.heap.size, 5, none⟩ = some (.int .i64 sq) ∧ W.cell? ⟨w.heap.size, 6, none⟩ = some (.int .i64 kind) ∧ W.cell? ⟨w.heap.size, 7, none⟩ = some (.int .i64 (z : Int)) ∧ W.cell? ⟨w.heap.size, 8, none⟩ = some (.string key) ∧ W.cell? ⟨w.heap.size, 9, none⟩ = some (.int .i64 col) ∧ W.cell? ⟨w.heap.size, 10, none⟩ = some (.slice va nv vc) ∧ W.cell? ⟨w.heap.size, 11, none⟩ = some (.slice oa no oc)) := fun W hb => by
    have k := HK.out.later hb
    exact ⟨k.cell 0, k.cell 1, k.cell 2, k.cell 3, k.cell 4, k.cell 5, k.cell 6, k.cell 7, k.cell 8, k.cell 9, k.cell 10, k.cell 11⟩
  clear HK
  have C1 := fun W => opPlace_any (nf : Int) (z : Int) W
  rw [show placeF nf z = true from by simp [placeF]; omega] at C1
  have C2 := fun W => opKey_any key W hk
  rw [hkey] at C2
  have x0 := cell_later HB0.out hcol
  have z0 : (0 : Int) ≤ (z : Int) := by omega
  have z1 : (z : Int) < (nf : Int) := by omega
  obtain ⟨k1, k2, k3⟩ := hkind
  have k1' : (kind == 1) = false := by simp [k1]
  have k2' : (kind == 2) = false := by simp [k2]
  have k3' : (kind == 3) = false := by simp [k3]
  clear hcol
  go_enter Try.func51, Try.ntmps51
  go_wp2_with fail
  refine (C1 _).mono ?_
  rintro e w1 ⟨rfl, hw⟩
  subst w1
  go_wp2_with fail
  refine (C2 _).mono ?_
  rintro e w1 ⟨rfl, hw⟩
  subst w1
  go_wp2
  go_ret
  exact ⟨rfl, HB0.out⟩

set_option maxRecDepth 100000 in
set_option maxHeartbeats 4000000 in
/-- op.Check, whatever its parts answer. -/
theorem opCheck_of (dp dn sp sl sq kind table col : Int) (key : ByteArray) (da va oa : Option Addr) (m nv no dc vc oc : Nat) (n : Int) (af : Option Addr) (nf fcap : Nat) (cf : Int) (b1 b2 : Bool) (w : World)
    (C1 : ∀ W, Below w.heap.size w W → Calls Try.prog 49 #[.slice af nf fcap] W fun e w' => e = .returned (.int .i64 cf) ∧ Below W.heap.size W w')
    (C2 : ∀ W, Below w.heap.size w W → Calls Try.prog 50 #[.int .i64 n, .agg #[.int .i64 dp, .int .i64 dn, .slice da m dc, .int .i64 sp, .int .i64 sl, .int .i64 sq, .int .i64 kind, .int .i64 table, .string key, .int .i64 col, .slice va nv vc, .slice oa no oc]] W fun e w' => e = .returned (.bool b1) ∧ Below W.heap.size W w')
    (C3 : ∀ W, Below w.heap.size w W → Calls Try.prog 51 #[.slice af nf fcap, .agg #[.int .i64 dp, .int .i64 dn, .slice da m dc, .int .i64 sp, .int .i64 sl, .int .i64 sq, .int .i64 kind, .int .i64 table, .string key, .int .i64 col, .slice va nv vc, .slice oa no oc]] W fun e w' => e = .returned (.bool b2) ∧ Below W.heap.size W w') :
    Calls Try.prog 17 #[.int .i64 n, .slice af nf fcap, .agg #[.int .i64 dp, .int .i64 dn, .slice da m dc, .int .i64 sp, .int .i64 sl, .int .i64 sq, .int .i64 kind, .int .i64 table, .string key, .int .i64 col, .slice va nv vc, .slice oa no oc]] w fun e w' => e = .returned (.int .i64 (if cf ≠ 0 then cf else if (decide (1 ≤ n ∧ n ≤ 5) && b1 && b2) = true then 0 else 1)) ∧ Below w.heap.size w w' := by
  have HK : Hid (CellsAt (w.alloc (.cells #[.int .i64 dp, .int .i64 dn, .slice da m dc, .int .i64 sp, .int .i64 sl, .int .i64 sq, .int .i64 kind, .int .i64 table, .string key, .int .i64 col, .slice va nv vc, .slice oa no oc] 32)) w.heap.size #[.int .i64 dp, .int .i64 dn, .slice da m dc, .int .i64 sp, .int .i64 sl, .int .i64 sq, .int .i64 kind, .int .i64 table, .string key, .int .i64 col, .slice va nv vc, .slice oa no oc] 32) := CellsAt.made rfl
  have HB0 : Hid (Below w.heap.size w (w.alloc (.cells #[.int .i64 dp, .int .i64 dn, .slice da m dc, .int .i64 sp, .int .i64 sl, .int .i64 sq, .int .i64 kind, .int .i64 table, .string key, .int .i64 col, .slice va nv vc, .slice oa no oc] 32))) := alloc_below _ _
  have HC : Hid (∀ W, Below (w.alloc (.cells #[.int .i64 dp, .int .i64 dn, .slice da m dc, .int .i64 sp, .int .i64 sl, .int .i64 sq, .int .i64 kind, .int .i64 table, .string key, .int .i64 col, .slice va nv vc, .slice oa no oc] 32)).heap.size (w.alloc (.cells #[.int .i64 dp, .int .i64 dn, .slice da m dc, .int .i64 sp, .int .i64 sl, .int .i64 sq, .int .i64 kind, .int .i64 table, .string key, .int .i64 col, .slice va nv vc, .slice oa no oc] 32)) W → W.cell? ⟨w.heap.size, 0, none⟩ = some (.int .i64 dp) ∧ W.cell? ⟨w.heap.size, 1, none⟩ = some (.int .i64 dn) ∧ W.cell? ⟨w.heap.size, 2, none⟩ = some (.slice da m dc) ∧ W.cell? ⟨w.heap.size, 3, none⟩ = some (.int .i64 sp) ∧ W.cell? ⟨w.heap.size, 4, none⟩ = some (.int .i64 sl) ∧ W.cell? ⟨w.heap.size, 5, none⟩ = some (.int .i64 sq) ∧ W.cell? ⟨w.heap.size, 6, none⟩ = some (.int .i64 kind) ∧ W.cell? ⟨w.heap.size, 7, none⟩ = some (.int .i64 table) ∧ W.cell? ⟨w.heap.size, 8, none⟩ = some (.string key) ∧ W.cell? ⟨w.heap.size, 9, none⟩ = some (.int .i64 col) ∧ W.cell? ⟨w.heap.size, 10, none⟩ = some (.slice va nv vc) ∧ W.cell? ⟨w.heap.size, 11, none⟩ = some (.slice oa no oc)) := fun W hb => by
    have k := HK.out.later hb
    exact ⟨k.cell 0, k.cell 1, k.cell 2, k.cell 3, k.cell 4, k.cell 5, k.cell 6, k.cell 7, k.cell 8, k.cell 9, k.cell 10, k.cell 11⟩
  clear HK
  by_cases hc : cf = 0
  case neg =>
    rw [if_pos hc]
    have q0 : (cf != 0) = true := by simp [hc]
    go_enter Try.func17, Try.ntmps17
    go_wp2_with fail
    refine (C1 _ HB0.out).mono ?_
    rintro e w1 ⟨rfl, hb1⟩
    have HB1 : Hid (Below w.heap.size w w1) := chain HB0.out hb1
    clear hb1
    go_wp2
    go_ret
    exact ⟨rfl, HB1.out⟩
  subst hc
  rw [if_neg (by simp)]
  by_cases h1 : n < 1
  case pos =>
    rw [show decide (1 ≤ n ∧ n ≤ 5) = false from by simp; omega]
    go_enter Try.func17, Try.ntmps17
    go_wp2_with fail
    refine (C1 _ HB0.out).mono ?_
    rintro e w1 ⟨rfl, hb1⟩
    have HB1 : Hid (Below w.heap.size w w1) := chain HB0.out hb1
    clear hb1
    go_wp2
    go_ret
    exact ⟨rfl, HB1.out⟩
  by_cases h5 : 5 < n
  case pos =>
    rw [show decide (1 ≤ n ∧ n ≤ 5) = false from by simp; omega]
    go_enter Try.func17, Try.ntmps17
    go_wp2_with fail
    refine (C1 _ HB0.out).mono ?_
    rintro e w1 ⟨rfl, hb1⟩
    have HB1 : Hid (Below w.heap.size w w1) := chain HB0.out hb1
    clear hb1
    go_wp2
    go_ret
    exact ⟨rfl, HB1.out⟩
  rw [show decide (1 ≤ n ∧ n ≤ 5) = true from by simp; omega]
  cases b1 with
  | false =>
    go_enter Try.func17, Try.ntmps17
    go_wp2_with fail
    refine (C1 _ HB0.out).mono ?_
    rintro e w1 ⟨rfl, hb1⟩
    obtain ⟨f0, f1, f2, f3, f4, f5, f6, f7, f8, f9, f10, f11⟩ := HC.out w1 hb1
    have HB1 : Hid (Below w.heap.size w w1) := chain HB0.out hb1
    clear hb1
    go_wp2_with fail
    refine (C2 _ HB1.out).mono ?_
    rintro e w2 ⟨rfl, hb2⟩
    have HB2 : Hid (Below w.heap.size w w2) := chain HB1.out hb2
    clear hb2
    go_wp2
    go_ret
    exact ⟨by cases b2 <;> rfl, HB2.out⟩
  | true =>
    go_enter Try.func17, Try.ntmps17
    go_wp2_with fail
    refine (C1 _ HB0.out).mono ?_
    rintro e w1 ⟨rfl, hb1⟩
    have HBo : Hid (Below (w.alloc (.cells #[.int .i64 dp, .int .i64 dn, .slice da m dc, .int .i64 sp, .int .i64 sl, .int .i64 sq, .int .i64 kind, .int .i64 table, .string key, .int .i64 col, .slice va nv vc, .slice oa no oc] 32)).heap.size (w.alloc (.cells #[.int .i64 dp, .int .i64 dn, .slice da m dc, .int .i64 sp, .int .i64 sl, .int .i64 sq, .int .i64 kind, .int .i64 table, .string key, .int .i64 col, .slice va nv vc, .slice oa no oc] 32)) w1) := hb1
    obtain ⟨f0, f1, f2, f3, f4, f5, f6, f7, f8, f9, f10, f11⟩ := HC.out w1 hb1
    have HB1 : Hid (Below w.heap.size w w1) := chain HB0.out hb1
    clear hb1
    go_wp2_with fail
    refine (C2 _ HB1.out).mono ?_
    rintro e w2 ⟨rfl, hb2⟩
    obtain ⟨g0, g1, g2, g3, g4, g5, g6, g7, g8, g9, g10, g11⟩ := HC.out w2 (chain HBo.out hb2)
    have HB2 : Hid (Below w.heap.size w w2) := chain HB1.out hb2
    clear hb2
    go_wp2_with fail
    refine (C3 _ HB2.out).mono ?_
    rintro e w3 ⟨rfl, hb3⟩
    have HB3 : Hid (Below w.heap.size w w3) := chain HB2.out hb3
    clear hb3
    cases b2 with
    | true =>
      go_wp2
      go_ret
      exact ⟨rfl, HB3.out⟩
    | false =>
      go_wp2
      go_ret
      exact ⟨rfl, HB3.out⟩

end Go.Proofs.Ytmcbdfmajciklaa

namespace Go.Proofs.Ytmcbdfmajciklaa
open Go.RowKit Go.Lib
set_option linter.unusedVariables false

/-- The operation that wakes has. -/
def xW : PO := ⟨0, 2, [1], 0, 0, 0, 3, 0, ⟨#[107]⟩, 0, [], [(0, 1)]⟩

def lW : List UInt8 := [3, 0, 0, 0, 0, 2, 1, 0, 0, 0, 1, 0, 0, 0, 0, 0, 0, 0, 0, 0, 0, 0, 1, 107, 0, 0, 1, 0, 0, 0, 0, 1]

theorem putW : putO xW = (lW, 0) := by kernel_rfl

theorem readW : readO lW 0 = (xW, 32, 0) := by kernel_rfl

theorem cell_lt {w : World} {b o : Nat} {v : Value} (h : w.cell? ⟨b, o, none⟩ = some v) : b < w.heap.size := by
  rcases Nat.lt_or_ge b w.heap.size with h1 | h1
  · exact h1
  · simp [World.cell?, Array.getElem?_eq_none h1] at h

theorem Rd.lt {w : World} {a : Option Addr} {l : List UInt8} (h : Rd w a l) (h0 : 0 < l.length) : ∀ b o, a = some ⟨b, o, none⟩ → b < w.heap.size := by
  intro b o e
  obtain ⟨b', o', e', hc⟩ := h h0
  rw [e] at e'
  simp only [Option.some.injEq, Addr.mk.injEq, and_true] at e'
  obtain ⟨rfl, rfl⟩ := e'
  exact cell_lt (hc 0 h0)

/-- The world in which wakes' operation lies, and its lists. -/
abbrev w0W (w : World) : World := (w.alloc (.cells #[.int .i64 1] 3)).alloc (.cells #[.int .i64 0, .int .i64 1] 25)

theorem liesW (w : World) : LiesO (w0W w) xW (some ⟨w.heap.size, 0, none⟩) none (some ⟨w.heap.size + 1, 0, none⟩) 1 0 1 := by
  have c0 : (w0W w).cell? ⟨w.heap.size, 0, none⟩ = some (.int .i64 1) := cell_later (alloc_below _ _) (cell_new w _ rfl _ _)
  have c1 := box2 (w.alloc (.cells #[.int .i64 1] 3)) (w.heap.size + 1) (by simp) (.int .i64 0) (.int .i64 1) 25
  refine ⟨rdI_of c0, (fun h => absurd h (by decide)), fun _ => ⟨_, 0, rfl, fun i hi => ?_⟩, by decide, by decide, by decide, by decide, by decide, by decide, (fun h => by cases h), (fun _ => ⟨rfl, rfl⟩), (fun h => by cases h), by decide⟩
  · obtain rfl : i = 0 := by have : i < 1 := hi; omega
    exact c1

theorem LiesO.later {w w' : World} {x : PO} {da va oa : Option Addr} {dc vc oc : Nat} (h : LiesO w x da va oa dc vc oc) (hb : Below w.heap.size w w') : LiesO w' x da va oa dc vc oc :=
  ⟨h.deps.later hb, h.vals.later hb, h.dots.later hb, h.ld, h.lv, h.lo, h.cd, h.cv, h.co, h.nd, h.nv, h.no, h.key⟩

theorem i64W : I64O xW := by
  have two : ∀ x y : Int, (-4294967296 ≤ x ∧ x ≤ 4294967296) → (-4294967296 ≤ y ∧ y ≤ 4294967296) → In64 x ∧ In64 y := fun x y hx hy => ⟨in64 hx, in64 hy⟩
  refine ⟨fun v hv => ?_, in64 (by decide), in64 (by decide), ⟨in64 (by decide), in64 (by decide), in64 (by decide)⟩, fun d hd => ?_, in64 (by decide), in64 (by decide)⟩
  · have : v = 1 := by simpa [xW] using hv
    rw [this]
    exact in64 (by decide)
  · have : d = (0, 1) := by simpa [xW] using hd
    rw [this]
    exact two 0 1 (by decide) (by decide)

/-- Forms of one table with one column. -/
theorem rowsW (w : World) : RdII ((w.alloc (.cells #[.int .i64 3] 3)).alloc (.cells #[.slice (some ⟨w.heap.size, 0, none⟩) 1 1] 51)) (some ⟨w.heap.size + 1, 0, none⟩) [[3]] := by
  refine fun _ => ⟨_, 0, rfl, fun i hi => ?_⟩
  obtain rfl : i = 0 := by have : i < 1 := hi; omega
  refine ⟨_, cell_new _ _ (by simp) _ _, some ⟨w.heap.size, 0, none⟩, 1, rfl, Nat.le_refl _, ?_, fun h => by cases h⟩
  exact rdI_of (cell_later (alloc_below _ _) (cell_new w _ rfl _ _))

set_option maxRecDepth 100000 in
set_option maxHeartbeats 4000000 in
theorem owakes_any (w : World) :
    Calls Try.prog 13 #[] w fun e w' => e = .returned (.bool true) ∧ Below w.heap.size w w' := by
  obtain ⟨B, hBB⟩ : ∃ B : World, B = (w0W w).alloc (.cells #[.int .i64 0, .int .i64 2, .slice (some ⟨w.heap.size, 0, none⟩) 1 1, .int .i64 0, .int .i64 0, .int .i64 0, .int .i64 3, .int .i64 0, .string ⟨#[107]⟩, .int .i64 0, .slice none 0 0, .slice (some ⟨w.heap.size + 1, 0, none⟩) 1 1] 32) := ⟨_, rfl⟩
  have HBB : Hid (B = (w0W w).alloc (.cells #[.int .i64 0, .int .i64 2, .slice (some ⟨w.heap.size, 0, none⟩) 1 1, .int .i64 0, .int .i64 0, .int .i64 0, .int .i64 3, .int .i64 0, .string ⟨#[107]⟩, .int .i64 0, .slice none 0 0, .slice (some ⟨w.heap.size + 1, 0, none⟩) 1 1] 32)) := hBB
  have HB0 : Hid (Below w.heap.size w B) := by rw [hBB]; exact chain (below_two _ _ _) (alloc_below _ _)
  have HX : Hid (LiesO B xW (some ⟨w.heap.size, 0, none⟩) none (some ⟨w.heap.size + 1, 0, none⟩) 1 0 1) := by rw [hBB]; exact (liesW w).later (alloc_below _ _)
  have HK : Hid (CellsAt B (w.heap.size + 1 + 1) #[.int .i64 0, .int .i64 2, .slice (some ⟨w.heap.size, 0, none⟩) 1 1, .int .i64 0, .int .i64 0, .int .i64 0, .int .i64 3, .int .i64 0, .string ⟨#[107]⟩, .int .i64 0, .slice none 0 0, .slice (some ⟨w.heap.size + 1, 0, none⟩) 1 1] 32) := by rw [hBB]; exact CellsAt.made (by simp [w0W])
  have HC : Hid (∀ W, Below B.heap.size B W → W.cell? ⟨w.heap.size + 1 + 1, 0, none⟩ = some (.int .i64 0) ∧ W.cell? ⟨w.heap.size + 1 + 1, 1, none⟩ = some (.int .i64 2) ∧ W.cell? ⟨w.heap.size + 1 + 1, 2, none⟩ = some (.slice (some ⟨w.heap.size, 0, none⟩) 1 1) ∧ W.cell? ⟨w.heap.size + 1 + 1, 3, none⟩ = some (.int .i64 0) ∧ W.cell? ⟨w.heap.size + 1 + 1, 4, none⟩ = some (.int .i64 0) ∧ W.cell? ⟨w.heap.size + 1 + 1, 5, none⟩ = some (.int .i64 0) ∧ W.cell? ⟨w.heap.size + 1 + 1, 6, none⟩ = some (.int .i64 3) ∧ W.cell? ⟨w.heap.size + 1 + 1, 7, none⟩ = some (.int .i64 0) ∧ W.cell? ⟨w.heap.size + 1 + 1, 8, none⟩ = some (.string ⟨#[107]⟩) ∧ W.cell? ⟨w.heap.size + 1 + 1, 9, none⟩ = some (.int .i64 0) ∧ W.cell? ⟨w.heap.size + 1 + 1, 10, none⟩ = some (.slice none 0 0) ∧ W.cell? ⟨w.heap.size + 1 + 1, 11, none⟩ = some (.slice (some ⟨w.heap.size + 1, 0, none⟩) 1 1)) := fun W hb => by
    have k := HK.out.later hb
    exact ⟨k.cell 0, k.cell 1, k.cell 2, k.cell 3, k.cell 4, k.cell 5, k.cell 6, k.cell 7, k.cell 8, k.cell 9, k.cell 10, k.cell 11⟩
  clear hBB HK
  have C1 := opBytes_any xW _ _ _ _ _ _ B HX.out
  rw [putW] at C1
  go_enter Try.func13, Try.ntmps13
  go_wp2_with fail
  have hBB := HBB.out
  simp only [w0W] at hBB
  rw [← hBB]
  clear hBB HBB
  refine C1.mono ?_
  rintro e w1 ⟨a1, n1, c1, rfl, hn1, hl1, hc1, hr1, hnl1, hb1⟩
  simp only at hn1 hr1 hnl1 ⊢
  obtain rfl : n1 = 32 := by rw [← hn1]; rfl
  have HR1 : Hid (Rd w1 a1 lW) := hr1
  have HB1 : Hid (Below B.heap.size B w1) := hb1
  clear hn1 hr1 hnl1 hb1 C1
  have C2 := opRead_any a1 32 c1 lW 0 w1 HR1.out (HR1.out.lt (by decide)) rfl (by omega) hc1
  rw [readW] at C2
  go_wp2_with fail
  refine C2.mono ?_
  rintro e w2 ⟨da2, va2, oa2, dc2, vc2, oc2, rfl, hL2, hb2⟩
  simp only [cellsO, xW, List.length_cons, List.length_nil, Nat.zero_add]
  have HY2 : Hid (LiesO w2 xW da2 va2 oa2 dc2 vc2 oc2) := hL2
  have HB2 : Hid (Below B.heap.size B w2) := chain HB1.out hb2
  clear hL2 hb2 C2 HR1 HB1
  have HB3 : Hid (Below B.heap.size B (w2.alloc (.cells #[.int .i64 0, .int .i64 2, .slice da2 1 dc2, .int .i64 0, .int .i64 0, .int .i64 0, .int .i64 3, .int .i64 0, .string ⟨#[107]⟩, .int .i64 0, .slice va2 0 vc2, .slice oa2 1 oc2] 32))) := chain HB2.out (alloc_below _ _)
  have HY3 : Hid (LiesO (w2.alloc (.cells #[.int .i64 0, .int .i64 2, .slice da2 1 dc2, .int .i64 0, .int .i64 0, .int .i64 0, .int .i64 3, .int .i64 0, .string ⟨#[107]⟩, .int .i64 0, .slice va2 0 vc2, .slice oa2 1 oc2] 32)) xW da2 va2 oa2 dc2 vc2 oc2) := HY2.out.later (alloc_below _ _)
  obtain ⟨f0, f1, f2, f3, f4, f5, f6, f7, f8, f9, f10, f11⟩ := HC.out _ HB3.out
  have C3 := keepOp_same xW _ _ _ _ _ _ _ _ _ _ _ _ (w2.alloc (.cells #[.int .i64 0, .int .i64 2, .slice da2 1 dc2, .int .i64 0, .int .i64 0, .int .i64 0, .int .i64 3, .int .i64 0, .string ⟨#[107]⟩, .int .i64 0, .slice va2 0 vc2, .slice oa2 1 oc2] 32)) (HX.out.later HB3.out) HY3.out
  simp only [cellsO, xW, List.length_cons, List.length_nil, Nat.zero_add] at C3
  go_wp2_with fail
  refine C3.mono ?_
  rintro e w4 ⟨rfl, hb4⟩
  have HB4 : Hid (Below B.heap.size B w4) := chain HB3.out hb4
  clear hb4 C3 HY2 HY3 HB2 HB3 f0 f1 f2 f3 f4 f5 f6 f7 f8 f9 f10 f11
  have HB5 : Hid (Below B.heap.size B ((w4.alloc (.cells #[.int .i64 3] 3)).alloc (.cells #[.slice (some ⟨w4.heap.size, 0, none⟩) 1 1] 51))) := chain HB4.out (below_two _ _ _)
  have HF5 : Hid (RdII ((w4.alloc (.cells #[.int .i64 3] 3)).alloc (.cells #[.slice (some ⟨w4.heap.size, 0, none⟩) 1 1] 51)) (some ⟨w4.heap.size + 1, 0, none⟩) [[3]]) := rowsW w4
  obtain ⟨f0, f1, f2, f3, f4, f5, f6, f7, f8, f9, f10, f11⟩ := HC.out _ HB5.out
  have D1 := fun (W : World) (hb : Below ((w4.alloc (.cells #[.int .i64 3] 3)).alloc (.cells #[.slice (some ⟨w4.heap.size, 0, none⟩) 1 1] 51)).heap.size ((w4.alloc (.cells #[.int .i64 3] 3)).alloc (.cells #[.slice (some ⟨w4.heap.size, 0, none⟩) 1 1] 51)) W) => opForms_any (some ⟨w4.heap.size + 1, 0, none⟩) 1 1 [[3]] W rfl (by omega) (fun v hv => by simp at hv; subst hv; decide) (HF5.out.later hb)
  rw [show formsF [[3]] = 0 from by decide] at D1
  have D2 := fun (W : World) (hb : Below ((w4.alloc (.cells #[.int .i64 3] 3)).alloc (.cells #[.slice (some ⟨w4.heap.size, 0, none⟩) 1 1] 51)).heap.size ((w4.alloc (.cells #[.int .i64 3] 3)).alloc (.cells #[.slice (some ⟨w4.heap.size, 0, none⟩) 1 1] 51)) W) => opIssued_any 1 xW _ _ _ _ _ _ W (HX.out.later (chain HB5.out hb)) i64W
  rw [show issuedF 1 xW = true from by decide] at D2
  simp only [cellsO, xW, List.length_cons, List.length_nil, Nat.zero_add] at D2
  have D3 := fun (W : World) (hb : Below ((w4.alloc (.cells #[.int .i64 3] 3)).alloc (.cells #[.slice (some ⟨w4.heap.size, 0, none⟩) 1 1] 51)).heap.size ((w4.alloc (.cells #[.int .i64 3] 3)).alloc (.cells #[.slice (some ⟨w4.heap.size, 0, none⟩) 1 1] 51)) W) => opWithin_del 0 2 0 0 0 3 0 0 ⟨#[107]⟩ (some ⟨w.heap.size, 0, none⟩) none (some ⟨w.heap.size + 1, 0, none⟩) 1 0 1 1 0 1 (w4.heap.size + 1) 0 1 1 0 (some ⟨w4.heap.size, 0, none⟩) 1 1 true W (by decide) (by decide) rfl (by omega) (by omega) rfl (cell_later hb (cell_new _ _ (by simp) _ _)) (fun V hV => by
    have := opRem_any (some ⟨w.heap.size + 1, 0, none⟩) (some ⟨w.heap.size, 0, none⟩) 1 1 1 1 [(0, 1)] [1] V rfl (by omega) rfl (by omega) (HX.out.later (chain HB5.out (chain hb hV))).dots (HX.out.later (chain HB5.out (chain hb hV))).deps i64W.deps i64W.dots
    rwa [show remF [1] [(0, 1)] = true from by decide] at this)
  have D4 := opCheck_of 0 2 0 0 0 3 0 0 ⟨#[107]⟩ (some ⟨w.heap.size, 0, none⟩) none (some ⟨w.heap.size + 1, 0, none⟩) 1 0 1 1 0 1 1 (some ⟨w4.heap.size + 1, 0, none⟩) 1 1 0 true true _ D1 D2 D3
  rw [if_neg (by decide), if_pos (by decide)] at D4
  clear D1 D2 D3
  go_wp2_with fail
  refine D4.mono ?_
  rintro e w6 ⟨rfl, hb6⟩
  have HB6 : Hid (Below w.heap.size w w6) := chain HB0.out (chain HB5.out hb6)
  clear hb6 D4
  have D5 := opKey_any ⟨#[107]⟩ w6 (by decide)
  rw [show keyF ⟨#[107]⟩ = true from by decide] at D5
  go_wp2_with fail
  refine D5.mono ?_
  rintro e w7 ⟨rfl, hw⟩
  subst w7
  go_wp2
  go_ret
  exact ⟨rfl, HB6.out⟩

end Go.Proofs.Ytmcbdfmajciklaa

namespace Go.Proofs.Ytmcbdfmajciklaa
open Go.RowKit Go.Lib
set_option linter.unusedVariables false

theorem rGetText_none {l : List UInt8} {p : Int} (h : (rGetText l p).2.2 ≠ 0) : (rGetText l p).1 = [] := by
  unfold rGetText at h ⊢
  split
  · rfl
  · split
    · rfl
    · split
      · rfl
      · rename_i h1 h2 h3
        rw [if_neg h1, if_neg h2, if_neg h3] at h
        exact absurd rfl h

theorem readR_none {l : List UInt8} {p : Int} (h : (readR l p).2.2 ≠ 0) : (readR l p).1 = [] := by
  unfold readR at h ⊢
  split
  · rfl
  · split
    · rfl
    · split
      · rfl
      · rename_i h1 h2 h3
        rw [if_neg h1, if_neg h2, if_neg h3] at h
        split
        · rfl
        · rename_i r hr
          rw [hr] at h
          exact absurd rfl h

/-- All but the box, then all below. -/
theorem aside_below {g : Nat} {w w1 w2 : World} (h : Aside g w w1) (hb : Below w.heap.size w1 w2) : Aside g w w2 := Stay.trans h (Stay.of_below hb fun b hb' => hb'.2)

theorem CAt.below {w w' : World} {g B : Nat} {a : Option Addr} {len cap : Nat} {l : List UInt8} {t : Int × Int} (h : CAt w g a len cap l t) (hb : Below B w w') (hg : g < B) (hs : ∀ x k, a = some ⟨x, k, none⟩ → 0 < len → x < B) : CAt w' g a len cap l t := by
  obtain ⟨p, bad, h1, h2⟩ := h.box
  refine ⟨⟨p, bad, (hb.block g hg).trans h1, h2⟩, ?_, fun b o e h0 => ⟨(h.src b o e h0).1, Nat.lt_of_lt_of_le (h.src b o e h0).2 hb.size⟩, h.hlen, h.hl, h.hcap⟩
  intro h0
  obtain ⟨b, off, rfl, hcl⟩ := h.rd h0
  have h00 : 0 < len := by rw [← h.hlen]; exact h0
  exact ⟨b, off, rfl, fun j hj => (World.cell?_of_block (w := w) (a := ⟨b, _, none⟩) (hb.block b (hs b off rfl h00))).trans (hcl j hj)⟩

theorem OwnV.base {w : World} {B C : Nat} {v : Value} {vs : List PV} (h : OwnV w B v vs) (hb : C ≤ B) : OwnV w C v vs := by
  refine ⟨h.1, ?_⟩
  rcases h.2 with h2 | ⟨x, cap, cur, hv, hx, hh, hc⟩
  · exact .inl h2
  · exact .inr ⟨x, cap, cur, hv, Nat.le_trans hb hx, hh, hc⟩

theorem OwnV.aside {w w' : World} {g B : Nat} {v : Value} {vs : List PV} (h : OwnV w B v vs) (hs : Aside g w w') (hg : g < B) : OwnV w' B v vs := by
  refine ⟨h.1, ?_⟩
  rcases h.2 with h2 | ⟨x, cap, cur, hv, hx, hh, hc⟩
  · exact .inl h2
  · exact .inr ⟨x, cap, cur, hv, hx, (hs.block x ⟨by omega, heap_lt hh⟩).trans hh, hc⟩

set_option maxRecDepth 100000 in
set_option maxHeartbeats 2000000 in
theorem cText_any (g : Nat) (a : Option Addr) (len cap : Nat) (l : List UInt8) (t : Int × Int) (w : World) (h : CAt w g a len cap l t) :
    Calls Try.prog 74 #[.pointer (some ⟨g, 0, none⟩)] w fun e w' => e = .returned (.string (takeT l t).1) ∧ CAt w' g a len cap l (takeT l t).2 ∧ Aside g w w' := by
  rcases h.cases with ⟨p, hp, rfl, hb⟩ | ⟨p, ht, hb⟩
  · obtain ⟨c0, c1, c2⟩ := cellsC_at hb
    have f1 := hb.free 1
    have f2 := hb.free 2
    have hfine := lawT.fine l ((p : Int), 0) (.inl ⟨rfl, by simp only; omega, by simp only; rw [h.hlen]; omega⟩)
    have C := fun (n : Nat) => rgetText_any a len cap p l (w.drewN n) h.hlen h.hl h.hcap h.rd
    have e : takeT l ((p : Int), 0) = (⟨(rGetText l p).1.toArray⟩, ((rGetText l p).2.1, (rGetText l p).2.2)) := if_pos rfl
    rw [e] at hfine ⊢
    simp only at hfine ⊢
    have hnone := rGetText_none (l := l) (p := p)
    generalize rGetText l p = r at *
    obtain ⟨s, n, er⟩ := r
    simp only at C hfine hnone ⊢
    have hlen := h.hlen
    by_cases h0 : er = 0
    · subst h0
      have hn : 0 ≤ n ∧ n ≤ (len : Int) := by
        rcases hfine with h1 | h1
        · rw [← hlen]; exact ⟨h1.2.1, h1.2.2⟩
        · exact absurd h1 (show ¬ ((0 : Int) = 3) by decide)
      have HC : Hid (∀ m, CAt ((w.drewN m).setCell ⟨g, 1, none⟩ (.int .i64 n)) g a len cap l (n, 0) ∧ Aside g w ((w.drewN m).setCell ⟨g, 1, none⟩ (.int .i64 n))) := fun m => by
        obtain ⟨hC, hA⟩ := (h.drewN m).move (hb.later (below_drewN (Below.refl _ w) m)) n hn
        exact ⟨hC, (Aside.drewN m).trans hA⟩
      clear h hb hfine hnone hlen e
      go_enter Try.func74, Try.ntmps74
      go_wp2_with fail
      go_quiet ((go_at_call 109; exact Calls.quiet_of_same (C _)))
      go_wp2
      go_ret
      exact ⟨rfl, (HC.out _).1, (HC.out _).2⟩
    · have hs := hnone h0
      subst hs
      have d0 : (er != 0) = true := by simpa using h0
      have HC : Hid (∀ m, CAt ((w.drewN m).setCell ⟨g, 2, none⟩ (.bool true)) g a len cap l (n, er) ∧ Aside g w ((w.drewN m).setCell ⟨g, 2, none⟩ (.bool true))) := fun m => by
        obtain ⟨hC, hA⟩ := (h.drewN m).bad (t' := (n, er)) h0
        exact ⟨hC, (Aside.drewN m).trans hA⟩
      clear h hb hfine hnone hlen e
      go_enter Try.func74, Try.ntmps74
      go_wp2_with fail
      go_quiet ((go_at_call 109; exact Calls.quiet_of_same (C _)))
      go_wp2
      go_ret
      exact ⟨rfl, (HC.out _).1, (HC.out _).2⟩
  · obtain ⟨c0, c1, c2⟩ := cellsC_at hb
    have e : takeT l t = (ByteArray.empty, t) := if_neg ht
    rw [e]
    have HC : Hid (CAt w g a len cap l t) := h
    clear h hb e
    go_enter Try.func74, Try.ntmps74
    go_wp2
    go_ret
    exact ⟨rfl, HC.out, Aside.refl _ _⟩

/-- The box' cells stay. -/
theorem keepC {W w w' : World} {g : Nat} {v : Value} {p : Int} {bad : Bool} (hb : Below w.heap.size w w')
    (h : w.cell? ⟨g, 0, none⟩ = some v ∧ w.cell? ⟨g, 1, none⟩ = some (.int .i64 p) ∧ w.cell? ⟨g, 2, none⟩ = some (.bool bad) ∧ Hid (Below W.heap.size W w)) :
    w'.cell? ⟨g, 0, none⟩ = some v ∧ w'.cell? ⟨g, 1, none⟩ = some (.int .i64 p) ∧ w'.cell? ⟨g, 2, none⟩ = some (.bool bad) ∧ Hid (Below W.heap.size W w') := by
  obtain ⟨h0, h1, h2, h9⟩ := h
  exact ⟨cell_later hb h0, cell_later hb h1, cell_later hb h2, chain h9.out hb⟩

set_option maxRecDepth 100000 in
set_option maxHeartbeats 2000000 in
theorem cRow_any (g : Nat) (a : Option Addr) (len cap : Nat) (l : List UInt8) (t : Int × Int) (w : World) (h : CAt w g a len cap l t) :
    Calls Try.prog 75 #[.pointer (some ⟨g, 0, none⟩)] w fun e w' => ∃ ra rn rc, e = .returned (.slice ra rn rc) ∧ (takeR l t).1.length = rn ∧ rn ≤ 65536 ∧ rn ≤ rc ∧ OwnV w' w.heap.size (.slice ra rn rc) (takeR l t).1 ∧ CAt w' g a len cap l (takeR l t).2 ∧ Aside g w w' := by
  have hg := h.lt
  rcases h.cases with ⟨p, hp, rfl, hb⟩ | ⟨p, ht, hb⟩
  · obtain ⟨c0, c1, c2⟩ := cellsC_at hb
    have hfine := lawR.fine l ((p : Int), 0) (.inl ⟨rfl, by simp only; omega, by simp only; rw [h.hlen]; omega⟩)
    have C := fun (V : World) (hV : V.cell? ⟨g, 0, none⟩ = some (.slice a len cap) ∧ V.cell? ⟨g, 1, none⟩ = some (.int .i64 (p : Int)) ∧ V.cell? ⟨g, 2, none⟩ = some (.bool false) ∧ Hid (Below w.heap.size w V)) => (rReadRow_any a len cap p l V h.hlen h.hl h.hcap (h.rd.later hV.2.2.2.out)).mono (R' := fun e w' => ∃ ra rn rc, e = .returned (.tuple #[.slice ra rn rc, .int .i64 (readR l p).2.1, .int .i64 (readR l p).2.2]) ∧ Hid ((readR l p).1.length = rn ∧ rn ≤ 65536 ∧ rn ≤ rc ∧ OwnV w' w.heap.size (.slice ra rn rc) (readR l p).1) ∧ Below V.heap.size V w') (fun e w' ⟨ra, rn, rc, he, h1, h2, h3, h4, _, _, hb⟩ => ⟨ra, rn, rc, he, ⟨h1, h2, h3, h4.base hV.2.2.2.out.size⟩, hb⟩)
    have e : takeR l ((p : Int), 0) = ((readR l p).1, ((readR l p).2.1, (readR l p).2.2)) := if_pos rfl
    rw [e] at hfine ⊢
    simp only at hfine ⊢
    have hnone := readR_none (l := l) (p := p)
    generalize readR l p = r at *
    obtain ⟨vs, n, er⟩ := r
    simp only at C hfine hnone ⊢
    have hlen := h.hlen
    have HP : Hid (CAt w g a len cap l ((p : Int), 0)) := h
    have HBX : Hid (CellsAt w g #[.slice a len cap, .int .i64 (p : Int), .bool false] 70) := hb
    have HS := And.intro c0 (And.intro c1 (And.intro c2 (show Hid (Below w.heap.size w w) from Below.refl _ _)))
    by_cases h0 : er = 0
    · subst h0
      have hn : 0 ≤ n ∧ n ≤ (len : Int) := by
        rcases hfine with h1 | h1
        · rw [← hlen]; exact ⟨h1.2.1, h1.2.2⟩
        · exact absurd h1 (show ¬ ((0 : Int) = 3) by decide)
      clear h hb hfine hnone hlen e
      go_enter Try.func75, Try.ntmps75
      go_wp2_with fail
      go_region_held3 (fun w' => w'.cell? ⟨g, 0, none⟩ = some (.slice a len cap) ∧ w'.cell? ⟨g, 1, none⟩ = some (.int .i64 (p : Int)) ∧ w'.cell? ⟨g, 2, none⟩ = some (.bool false) ∧ Hid (Below w.heap.size w w')) (first | exact keepC (by assumption) (by assumption) | exact keepC (Below.refl _ _).drew (by assumption)) (first | (go_at_call 110; refine (C _ (by assumption)).mono ?_; rintro e w' ⟨ra, rn, rc, rfl, HV, hb⟩))
      have HS1 : w'.cell? ⟨g, 0, none⟩ = some (.slice a len cap) ∧ w'.cell? ⟨g, 1, none⟩ = some (.int .i64 (p : Int)) ∧ w'.cell? ⟨g, 2, none⟩ = some (.bool false) ∧ Hid (Below w.heap.size w w') := by assumption
      obtain ⟨d0, d1, d2, HB1⟩ := HS1
      have hbx := HBX.out.later HB1.out
      have f1 := hbx.free 1
      obtain ⟨hC, hA⟩ := (HP.out.later HB1.out).move hbx n hn
      have HC : Hid (CAt (w'.setCell ⟨g, 1, none⟩ (.int .i64 n)) g a len cap l (n, 0)) := hC
      have hA2 : Aside g w (w'.setCell ⟨g, 1, none⟩ (.int .i64 n)) := (Aside.of_below HB1.out).trans hA
      have HV2 : Hid (OwnV (w'.setCell ⟨g, 1, none⟩ (.int .i64 n)) w.heap.size (.slice ra rn rc) vs) := HV.out.2.2.2.aside hA hg
      clear hC hA hbx HBX HP C c0 c1 c2 HS hb
      go_wp2
      go_ret
      exact ⟨_, _, _, rfl, HV.out.1, HV.out.2.1, HV.out.2.2.1, HV2.out, HC.out, hA2⟩
    · have hs := hnone h0
      subst hs
      have d0 : (er != 0) = true := by simpa using h0
      clear h hb hfine hnone hlen e
      go_enter Try.func75, Try.ntmps75
      go_wp2_with fail
      go_region_held3 (fun w' => w'.cell? ⟨g, 0, none⟩ = some (.slice a len cap) ∧ w'.cell? ⟨g, 1, none⟩ = some (.int .i64 (p : Int)) ∧ w'.cell? ⟨g, 2, none⟩ = some (.bool false) ∧ Hid (Below w.heap.size w w')) (first | exact keepC (by assumption) (by assumption) | exact keepC (Below.refl _ _).drew (by assumption)) (first | (go_at_call 110; refine (C _ (by assumption)).mono ?_; rintro e w' ⟨ra, rn, rc, rfl, HV, hb⟩))
      have HS1 : w'.cell? ⟨g, 0, none⟩ = some (.slice a len cap) ∧ w'.cell? ⟨g, 1, none⟩ = some (.int .i64 (p : Int)) ∧ w'.cell? ⟨g, 2, none⟩ = some (.bool false) ∧ Hid (Below w.heap.size w w') := by assumption
      obtain ⟨d0', d1', d2', HB1⟩ := HS1
      have f2 := (HBX.out.later HB1.out).free 2
      obtain ⟨hC, hA⟩ := (HP.out.later HB1.out).bad (t' := (n, er)) h0
      have HC : Hid (CAt (w'.setCell ⟨g, 2, none⟩ (.bool true)) g a len cap l (n, er)) := hC
      have hA2 : Aside g w (w'.setCell ⟨g, 2, none⟩ (.bool true)) := (Aside.of_below HB1.out).trans hA
      clear hC hA HBX HP C c0 c1 c2 HS hb HV
      go_wp2
      go_ret
      exact ⟨none, 0, 0, rfl, rfl, by omega, Nat.le_refl _, OwnV.nought _ _, HC.out, hA2⟩
  · obtain ⟨c0, c1, c2⟩ := cellsC_at hb
    have e : takeR l t = ([], t) := if_neg ht
    rw [e]
    have HC : Hid (CAt w g a len cap l t) := h
    clear h hb e
    go_enter Try.func75, Try.ntmps75
    go_wp2
    go_ret
    exact ⟨none, 0, 0, rfl, rfl, by omega, Nat.le_refl _, OwnV.nought _ _, HC.out, Aside.refl _ _⟩

theorem takeN_stuck {l : List UInt8} {t : Int × Int} {s : Int} (h : (takeN l t s).2.2 = 0) : t.2 = 0 := by
  by_cases h0 : t.2 = 0
  · exact h0
  · rw [takeN_bad h0] at h
    exact absurd h h0

theorem takeNs_stuck {l : List UInt8} : ∀ {n : Nat} {t : Int × Int}, (takeNs l n t).2.2 = 0 → t.2 = 0
  | 0, _, h => h
  | n + 1, t, h => takeN_stuck (takeNs_stuck (n := n) h)

set_option maxRecDepth 100000 in
set_option maxHeartbeats 4000000 in
theorem cVector_any (g : Nat) (a : Option Addr) (len cap : Nat) (l : List UInt8) (t : Int × Int) (w : World) (h : CAt w g a len cap l t) :
    Calls Try.prog 72 #[.pointer (some ⟨g, 0, none⟩)] w fun e w' => ∃ ra rn rc N, e = .returned (.slice ra rn rc) ∧ N.length = rn ∧ rn ≤ 5 ∧ rn ≤ rc ∧ OwnI w' w.heap.size (.slice ra rn rc) N ∧ ((takeV l t).2.2 = 0 → N = (takeV l t).1) ∧ CAt w' g a len cap l (takeV l t).2 ∧ Aside g w w' := by
  have hg := h.lt
  have C1 := cNum_any g a len cap l t 1 w (by omega) (by omega) h
  have HSRC : Hid (∀ x k, a = some ⟨x, k, none⟩ → 0 < len → x < w.heap.size) := fun x k e h0 => (h.src x k e h0).2
  obtain ⟨m, hm⟩ : ∃ m : Nat, (takeN l t ((1 : Nat) : Int)).1 = m := ⟨(takeN l t ((1 : Nat) : Int)).1.toNat, by have := takeN_nat l t ((1 : Nat) : Int); omega⟩
  have hm255 : m ≤ 255 := by
    by_cases h0 : (takeN l t ((1 : Nat) : Int)).2.2 = 0
    · have := (lawN 1 (by omega) (by omega)).inv l t h0
      obtain ⟨_, _, _, ok, _⟩ := this
      have := of_decide_eq_true ok
      simp only [hm] at this
      omega
    · have : (takeN l t ((1 : Nat) : Int)).1 = 0 := by
        unfold takeN at h0 ⊢
        by_cases h2 : t.2 = 0
        · rw [if_pos h2] at h0 ⊢
          unfold rGet at h0 ⊢
          split
          · rfl
          · split
            · rfl
            · rename_i q1 q2
              rw [if_neg q1, if_neg q2] at h0
              exact absurd rfl h0
        · rw [if_neg h2]
      omega
  have hV : takeV l t = takeNs l (takeC l t 1 5).1.toNat (takeC l t 1 5).2 := rfl
  have hC : takeC l t 1 5 = if 5 < (takeN l t ((1 : Nat) : Int)).1 then (0, ((takeN l t ((1 : Nat) : Int)).2.1, 3)) else takeN l t ((1 : Nat) : Int) := rfl
  rw [hC] at hV
  generalize takeV l t = VV at *
  generalize takeN l t ((1 : Nat) : Int) = r1 at *
  obtain ⟨v1, t1⟩ := r1
  simp only at hm C1 hV
  subst hm
  have HVm : Hid (5 < m → VV.2.2 ≠ 0) := fun h5 h0 => by
    rw [hV, if_pos (by omega)] at h0
    exact absurd (takeNs_stuck h0) (show ¬ ((3 : Int) = 0) by decide)
  have HVt : Hid (t1.2 ≠ 0 → VV.2.2 ≠ 0) := fun ht h0 => by
    rw [hV] at h0
    split at h0
    · exact absurd (takeNs_stuck h0) (show ¬ ((3 : Int) = 0) by decide)
    · exact ht (takeNs_stuck h0)
  have HVk : Hid (m ≤ 5 → VV = takeNs l m t1) := fun h5 => by
    rw [hV, if_neg (by omega)]
    simp
  clear hV hC h
  go_enter Try.func72, Try.ntmps72
  go_wp2_with fail
  refine C1.mono ?_
  rintro e w1 ⟨rfl, hc1, hs1⟩
  have HS1 : Hid (Aside g w w1) := hs1
  clear C1 hs1
  have d5 : decide ((5 : Int) < (m : Int)) = decide (5 < m) := by
    by_cases c : 5 < m
    · rw [decide_eq_true c, decide_eq_true (by omega)]
    · rw [decide_eq_false c, decide_eq_false (by omega)]
  rcases hc1.cases with ⟨p, hp, rfl, hb⟩ | ⟨p, ht, hb⟩
  · obtain ⟨c0, c1, c2⟩ := cellsC_at hb
    have f2 := hb.free 2
    by_cases h5 : 5 < m
    · rw [decide_eq_true h5] at d5
      obtain ⟨hC, hA⟩ := hc1.bad (t' := VV.2) (HVm.out h5)
      have HC : Hid (CAt (w1.setCell ⟨g, 2, none⟩ (.bool true)) g a len cap l VV.2) := hC
      have HA : Hid (Aside g w (w1.setCell ⟨g, 2, none⟩ (.bool true))) := HS1.out.trans hA
      have HX : Hid (CellsAt (w1.setCell ⟨g, 2, none⟩ (.bool true)) g #[.slice a len cap, .int .i64 (p : Int), .bool true] 70) := hb.set 2 (.bool true)
      clear hC hA hb hc1 HS1
      go_wp2
      go_loopw [4, 5] (fun u i wr => u = .slice none 0 0 ∧ i = .int .i64 0 ∧ Hid (CAt wr g a len cap l VV.2) ∧ Hid (Aside g w wr) ∧ Hid (wr.cell? ⟨g, 2, none⟩ = some (.bool true))) (fun _ _ _ => 0)
      case atStart => exact ⟨rfl, rfl, HC, HA, (cellsC_at HX.out).2.2⟩
      case round =>
      obtain ⟨rfl, rfl, hP, hS, hx⟩ := hrel
      have y2 := hx.out
      by_cases hm0 : 0 < m
      · go_wp2
        go_ret
        exact ⟨none, 0, 0, [], rfl, rfl, by omega, Nat.le_refl _, OwnI.nought _ _, fun h0 => absurd h0 (HVm.out h5), hP.out, hS.out⟩
      · obtain rfl : m = 0 := by omega
        go_wp2
        go_ret
        exact ⟨none, 0, 0, [], rfl, rfl, by omega, Nat.le_refl _, OwnI.nought _ _, fun h0 => absurd h0 (HVm.out h5), hP.out, hS.out⟩
    · rw [decide_eq_false h5] at d5
      have hA : Aside g w1 (w1.setCell ⟨g, 2, none⟩ (.bool false)) := Stay.setCell (p := ⟨g, 2, none⟩) (Stay.refl _ w1) (fun h => h.1 rfl) _
      have HC : Hid (CAt (w1.setCell ⟨g, 2, none⟩ (.bool false)) g a len cap l ((p : Int), 0)) := hc1.to hA (hb.set 2 (.bool false)) (.inl ⟨rfl, rfl, by omega, by omega⟩)
      have HA : Hid (Aside g w (w1.setCell ⟨g, 2, none⟩ (.bool false))) := HS1.out.trans hA
      have HVE : Hid (VV = takeNs l m ((p : Int), 0)) := HVk.out (by omega)
      clear hA hb hc1 HS1 HVk HVt HVm
      go_wp2
      go_loopw [4, 5] (fun u i wr => ∃ (k : Nat) (sk : Int × Int) (done : List Int) (ra : Option Addr) (rc : Nat), k ≤ m ∧ i = .int .i64 k ∧ u = .slice ra k rc ∧ k ≤ rc ∧ Hid (done.length = k) ∧ Hid (VV = (done ++ (takeNs l (m - k) sk).1, (takeNs l (m - k) sk).2)) ∧ Hid (OwnI wr w.heap.size (.slice ra k rc) done) ∧ Hid (CAt wr g a len cap l sk) ∧ Hid (Aside g w wr)) (fun _ i _ => m - (RowKit.intOf i).toNat)
      case atStart => exact ⟨0, ((p : Int), 0), [], none, 0, Nat.zero_le _, rfl, rfl, Nat.le_refl _, rfl, HVE.out, OwnI.nought _ _, HC, HA⟩
      case round =>
      clear HC HA HVE c0 c1 c2 f2 d5
      obtain ⟨k, sk, done, ra, rc, hk, rfl, rfl, hkc, hD, hE, hO, hP, hS⟩ := hrel
      by_cases hlt : k < m
      · rcases hP.out.cases with ⟨q, hq, hsk, hb⟩ | ⟨q, ht, hb⟩
        · obtain ⟨c0, c1, c2⟩ := cellsC_at hb
          have C := cNum_any g a len cap l sk 4 _ (by omega) (by omega) hP.out
          have HE : Hid (VV = (done ++ [(takeN l sk ((4 : Nat) : Int)).1] ++ (takeNs l (m - (k + 1)) (takeN l sk ((4 : Nat) : Int)).2).1, (takeNs l (m - (k + 1)) (takeN l sk ((4 : Nat) : Int)).2).2)) := by
            have h := hE.out
            rw [show m - k = m - (k + 1) + 1 from by omega] at h
            refine h.trans ?_
            rw [takeNs]
            simp
          generalize takeN l sk ((4 : Nat) : Int) = r at C HE
          obtain ⟨v, s2⟩ := r
          simp only at C HE
          clear hE hb hP
          go_wp2_with fail
          refine C.mono ?_
          rintro e w2 ⟨rfl, hp2, hs2⟩
          obtain ⟨a', cap', w', hrun, hc', ho', hb'⟩ := run_append_intC w2.heap.size rfl v (hO.out.aside hs2 hg) hD.out (by omega) (by have := hS.out.size; have := hs2.size; omega)
          have HO3 : Hid (OwnI w' w.heap.size (.slice a' (k + 1) cap') (done ++ [v])) := ho'
          have HP3 : Hid (CAt w' g a len cap l s2) := hp2.below hb' hg HSRC.out
          have HS3 : Hid (Aside g w w') := aside_below (hS.out.trans hs2) hb'
          have HD3 : Hid ((done ++ [v]).length = k + 1) := by
            have := hD.out
            show _ = _
            simp
            omega
          clear ho' hb' hp2 hs2 hO hS hD C c0 c1 c2
          go_wp2_with (at_builtin; refine wpList_append_run rfl _ _ 26 26 rfl _ _ _ _ rfl rfl hrun ?_)
          go_roundw
          case rel => exact ⟨k + 1, s2, done ++ [v], a', cap', by omega, by go_num, rfl, hc', HD3, HE, HO3, HP3, HS3⟩
          case measure => simp [RowKit.intOf]; omega
        · obtain ⟨c0, c1, c2⟩ := cellsC_at hb
          have hne : VV.2.2 ≠ 0 := fun h0 => ht (takeNs_stuck (by rw [hE.out] at h0; exact h0))
          have HC : Hid (CAt wr g a len cap l VV.2) := hP.out.to (Aside.refl _ _) hb (.inr ⟨rfl, hne⟩)
          have HN : Hid (VV.2.2 ≠ 0) := hne
          clear hb hne hE
          go_wp2
          go_ret
          exact ⟨_, _, _, done, rfl, hD.out, by omega, hkc, hO.out, fun h0 => absurd h0 HN.out, HC.out, hS.out⟩
      · obtain rfl : k = m := by omega
        have e1 : VV = (done, sk) := by
          rw [hE.out, Nat.sub_self]
          simp [takeNs]
        have HE1 : Hid (VV = (done, sk)) := e1
        clear hE e1
        go_wp2
        go_ret
        exact ⟨_, _, _, done, rfl, hD.out, by omega, hkc, hO.out, fun _ => by rw [HE1.out], by rw [HE1.out]; exact hP.out, hS.out⟩
  · obtain ⟨c0, c1, c2⟩ := cellsC_at hb
    have f2 := hb.free 2
    obtain ⟨hC, hA⟩ := hc1.bad (t' := VV.2) (HVt.out ht)
    have HC : Hid (CAt (w1.setCell ⟨g, 2, none⟩ (.bool true)) g a len cap l VV.2) := hC
    have HA : Hid (Aside g w (w1.setCell ⟨g, 2, none⟩ (.bool true))) := HS1.out.trans hA
    have HX : Hid (CellsAt (w1.setCell ⟨g, 2, none⟩ (.bool true)) g #[.slice a len cap, .int .i64 p, .bool true] 70) := hb.set 2 (.bool true)
    have HN : Hid (VV.2.2 ≠ 0) := HVt.out ht
    clear hC hA hb hc1 HS1 HVk HVm
    go_wp2
    go_loopw [4, 5] (fun u i wr => u = .slice none 0 0 ∧ i = .int .i64 0 ∧ Hid (CAt wr g a len cap l VV.2) ∧ Hid (Aside g w wr) ∧ Hid (wr.cell? ⟨g, 2, none⟩ = some (.bool true))) (fun _ _ _ => 0)
    case atStart => exact ⟨rfl, rfl, HC, HA, (cellsC_at HX.out).2.2⟩
    case round =>
    obtain ⟨rfl, rfl, hP, hS, hx⟩ := hrel
    have y2 := hx.out
    by_cases hm0 : 0 < m
    · go_wp2
      go_ret
      exact ⟨none, 0, 0, [], rfl, rfl, by omega, Nat.le_refl _, OwnI.nought _ _, fun h0 => absurd h0 HN.out, hP.out, hS.out⟩
    · obtain rfl : m = 0 := by omega
      go_wp2
      go_ret
      exact ⟨none, 0, 0, [], rfl, rfl, by omega, Nat.le_refl _, OwnI.nought _ _, fun h0 => absurd h0 HN.out, hP.out, hS.out⟩

end Go.Proofs.Ytmcbdfmajciklaa

namespace Go.Proofs.Ytmcbdfmajciklaa
open Go.RowKit Go.Lib
set_option linter.unusedVariables false

/-- What a walk reads of an operation's box. -/
theorem cellsO_at {w : World} {b : Nat} {dp dn sp sl sq kind table col : Int} {key : ByteArray} {v2 v10 v11 : Value} {t : TypeId} (h : CellsAt w b #[.int .i64 dp, .int .i64 dn, v2, .int .i64 sp, .int .i64 sl, .int .i64 sq, .int .i64 kind, .int .i64 table, .string key, .int .i64 col, v10, v11] t) :
    w.cell? ⟨b, 0, none⟩ = some (.int .i64 dp) ∧ w.cell? ⟨b, 1, none⟩ = some (.int .i64 dn) ∧ w.cell? ⟨b, 2, none⟩ = some v2 ∧ w.cell? ⟨b, 3, none⟩ = some (.int .i64 sp) ∧ w.cell? ⟨b, 4, none⟩ = some (.int .i64 sl) ∧ w.cell? ⟨b, 5, none⟩ = some (.int .i64 sq) ∧ w.cell? ⟨b, 6, none⟩ = some (.int .i64 kind) ∧ w.cell? ⟨b, 7, none⟩ = some (.int .i64 table) ∧ w.cell? ⟨b, 8, none⟩ = some (.string key) ∧ w.cell? ⟨b, 9, none⟩ = some (.int .i64 col) ∧ w.cell? ⟨b, 10, none⟩ = some v10 ∧ w.cell? ⟨b, 11, none⟩ = some v11 :=
  ⟨h.cell 0, h.cell 1, h.cell 2, h.cell 3, h.cell 4, h.cell 5, h.cell 6, h.cell 7, h.cell 8, h.cell 9, h.cell 10, h.cell 11⟩

set_option maxRecDepth 100000 in
set_option maxHeartbeats 8000000 in
theorem opFits_any (x : PO) (da va oa : Option Addr) (dc vc oc : Nat) (w : World) (h : LiesO w x da va oa dc vc oc) :
    Calls Try.prog 20 #[.agg (cellsO x da va oa dc vc oc)] w fun e w' => e = .returned (.bool (fitsO x)) ∧ Below w.heap.size w w' := by
  have HI : Hid (fitsO x = (fitsF x.kind 1 && (fitsD (x.dp, x.dn) && (fitsVec x.deps && (fitsS x.sp x.sl x.sq && (fitsF x.table 1 && (decide (x.key.size ≤ 24) && (fitsF x.col 1 && (decide (chkR x.vals = 0) && (decide (x.dots.length ≤ 64) && x.dots.all fitsD)))))))))) := rfl
  generalize fitsO x = res at *
  obtain ⟨dp, dn, deps, sp, sl, sq, kind, table, key, col, vals, dots⟩ := x
  simp only [cellsO] at h HI ⊢
  have HL : Hid (LiesO w ⟨dp, dn, deps, sp, sl, sq, kind, table, key, col, vals, dots⟩ da va oa dc vc oc) := h
  have hkey : key.size ≤ 9223372036854775807 := h.key
  have hlo : dots.length ≤ 65536 := h.lo
  clear h
  obtain ⟨B, hBB⟩ : ∃ B : World, B = w.alloc (.cells #[.int .i64 dp, .int .i64 dn, .slice da deps.length dc, .int .i64 sp, .int .i64 sl, .int .i64 sq, .int .i64 kind, .int .i64 table, .string key, .int .i64 col, .slice va vals.length vc, .slice oa dots.length oc] 32) := ⟨_, rfl⟩
  have HK : Hid (CellsAt B w.heap.size #[.int .i64 dp, .int .i64 dn, .slice da deps.length dc, .int .i64 sp, .int .i64 sl, .int .i64 sq, .int .i64 kind, .int .i64 table, .string key, .int .i64 col, .slice va vals.length vc, .slice oa dots.length oc] 32) := by rw [hBB]; exact CellsAt.made rfl
  have HB0 : Hid (Below w.heap.size w B) := by rw [hBB]; exact alloc_below _ _
  have HBB : Hid (B = w.alloc (.cells #[.int .i64 dp, .int .i64 dn, .slice da deps.length dc, .int .i64 sp, .int .i64 sl, .int .i64 sq, .int .i64 kind, .int .i64 table, .string key, .int .i64 col, .slice va vals.length vc, .slice oa dots.length oc] 32)) := hBB
  clear hBB
  have C1 := fun W => fits_any kind 1 W (by omega) (by omega)
  have C2 := fun W => dotFits_any dp dn W
  have C3 := fun (W : World) (hb : Below w.heap.size w W) => vectorFits_any da deps.length dc deps W rfl HL.out.ld (HL.out.deps.later hb)
  have C4 := fun W => stampFits_any sp sl sq W
  have C5 := fun W => fits_any table 1 W (by omega) (by omega)
  have C7 := fun W => fits_any col 1 W (by omega) (by omega)
  have C8 := fun (W : World) (hb : Below w.heap.size w W) => rRow_any va vals.length vc vals W rfl HL.out.lv (HL.out.vals.later hb)
  have HD : Hid (∀ W, Below w.heap.size w W → RdD W oa dots) := fun W hb => HL.out.dots.later hb
  generalize hno : dots.length = no at *
  have HNO : Hid (dots.length = no) := hno
  clear hno
  generalize deps.length = nd at *
  generalize vals.length = nv at *
  generalize fitsF kind 1 = a1 at *
  generalize fitsD (dp, dn) = a2 at *
  generalize fitsVec deps = a3 at *
  generalize fitsS sp sl sq = a4 at *
  generalize fitsF table 1 = a5 at *
  generalize fitsF col 1 = a7 at *
  generalize chkR vals = c8 at *
  obtain ⟨a6, ha6⟩ : ∃ a6, a6 = decide (key.size ≤ 24) := ⟨_, rfl⟩
  obtain ⟨a8, ha8⟩ : ∃ a8, a8 = decide (c8 = 0) := ⟨_, rfl⟩
  obtain ⟨a9, ha9⟩ : ∃ a9, a9 = decide (no ≤ 64) := ⟨_, rfl⟩
  rw [← ha6, ← ha8, ← ha9] at HI
  have q6 : decide ((24 : Int) < (key.size : Int)) = !a6 := by
    rw [ha6]
    by_cases c : key.size ≤ 24
    · rw [decide_eq_true c, decide_eq_false (by omega)]; rfl
    · rw [decide_eq_false c, decide_eq_true (by omega)]; rfl
  have q8 : (c8 != 0) = !a8 := by
    rw [ha8]
    by_cases c : c8 = 0
    · simp [c]
    · simp [c]
  have q9 : decide ((64 : Int) < (no : Int)) = !a9 := by
    rw [ha9]
    by_cases c : no ≤ 64
    · rw [decide_eq_true c, decide_eq_false (by omega)]; rfl
    · rw [decide_eq_false c, decide_eq_true (by omega)]; rfl
  have Ha9 : Hid (a9 = true → no ≤ 64) := fun h => by rw [ha9] at h; exact of_decide_eq_true h
  clear ha6 ha8 ha9
  go_enter Try.func20, Try.ntmps20
  go_wp2_with fail
  rw [← HBB.out]
  refine (C1 _).mono ?_
  rintro e w1 ⟨rfl, hw⟩
  subst w1
  cases a1
  · go_wp2
    go_ret
    exact ⟨by rw [HI.out]; simp, HB0.out⟩
  obtain ⟨f0, f1, f2, f3, f4, f5, f6, f7, f8, f9, f10, f11⟩ := cellsO_at HK.out
  go_wp2_with fail
  refine (C2 _).mono ?_
  rintro e w2 ⟨rfl, hb2⟩
  have HB2 : Hid (Below B.heap.size B w2) := hb2
  clear hb2 f0 f1 f2 f3 f4 f5 f6 f7 f8 f9 f10 f11
  cases a2
  · go_wp2
    go_ret
    exact ⟨by rw [HI.out]; simp, chain HB0.out HB2.out⟩
  obtain ⟨f0, f1, f2, f3, f4, f5, f6, f7, f8, f9, f10, f11⟩ := cellsO_at (HK.out.later HB2.out)
  go_wp2_with fail
  refine (C3 _ (chain HB0.out HB2.out)).mono ?_
  rintro e w3 ⟨rfl, hw⟩
  subst w3
  cases a3
  · go_wp2
    go_ret
    exact ⟨by rw [HI.out]; simp, chain HB0.out HB2.out⟩
  go_wp2_with fail
  refine (C4 _).mono ?_
  rintro e w4 ⟨rfl, hb4⟩
  have HB4 : Hid (Below B.heap.size B w4) := chain HB2.out hb4
  clear hb4 HB2 f0 f1 f2 f3 f4 f5 f6 f7 f8 f9 f10 f11
  cases a4
  · go_wp2
    go_ret
    exact ⟨by rw [HI.out]; simp, chain HB0.out HB4.out⟩
  obtain ⟨f0, f1, f2, f3, f4, f5, f6, f7, f8, f9, f10, f11⟩ := cellsO_at (HK.out.later HB4.out)
  go_wp2_with fail
  refine (C5 _).mono ?_
  rintro e w5 ⟨rfl, hw⟩
  subst w5
  cases a5
  · go_wp2
    go_ret
    exact ⟨by rw [HI.out]; simp, chain HB0.out HB4.out⟩
  cases a6
  · rw [Bool.not_false] at q6
    go_wp2
    go_ret
    exact ⟨by rw [HI.out]; simp, chain HB0.out HB4.out⟩
  rw [Bool.not_true] at q6
  go_wp2_with fail
  refine (C7 _).mono ?_
  rintro e w7 ⟨rfl, hw⟩
  subst w7
  cases a7
  · go_wp2
    go_ret
    exact ⟨by rw [HI.out]; simp, chain HB0.out HB4.out⟩
  go_wp2_with fail
  refine (C8 _ (chain HB0.out HB4.out)).mono ?_
  rintro e w8 ⟨rfl, hb8⟩
  have HB8 : Hid (Below B.heap.size B w8) := chain HB4.out hb8
  clear hb8 HB4 f0 f1 f2 f3 f4 f5 f6 f7 f8 f9 f10 f11
  cases a8
  · rw [Bool.not_false] at q8
    go_wp2
    go_ret
    exact ⟨by rw [HI.out]; simp, chain HB0.out HB8.out⟩
  rw [Bool.not_true] at q8
  obtain ⟨f0, f1, f2, f3, f4, f5, f6, f7, f8, f9, f10, f11⟩ := cellsO_at (HK.out.later HB8.out)
  cases a9
  · rw [Bool.not_false] at q9
    go_wp2
    go_ret
    exact ⟨by rw [HI.out]; simp, chain HB0.out HB8.out⟩
  rw [Bool.not_true] at q9
  go_wp2
  clear f0 f1 f2 f3 f4 f5 f6 f7 f8 f9 f10 f11
  go_loopw [3] (fun i wr => ∃ k : Nat, k ≤ no ∧ i = .int .i64 k ∧ Hid ((dots.take k).all fitsD = true) ∧ Hid (Below B.heap.size B wr)) (fun i _ => no - (RowKit.intOf i).toNat)
  case atStart => exact ⟨0, Nat.zero_le _, rfl, rfl, HB8⟩
  case round =>
  clear HB8 C1 C2 C3 C4 C5 C7 C8
  obtain ⟨k, hk, rfl, hT, hB⟩ := hrel
  obtain ⟨f0, f1, f2, f3, f4, f5, f6, f7, f8, f9, f10, f11⟩ := cellsO_at (HK.out.later hB.out)
  by_cases hlt : k < no
  · have hkl : k < dots.length := by rw [HNO.out]; exact hlt
    obtain ⟨bo, oo, rfl, hc⟩ := (HD.out wr (chain HB0.out hB.out)) (by omega)
    obtain ⟨x0, x1⟩ := hc k hkl
    have HS : Hid ((dots.take (k + 1)).all fitsD = fitsD dots[k]) := by
      have h := hT.out
      show _ = _
      rw [List.take_succ_eq_append_getElem hkl, List.all_append, h]
      simp
    have HX : Hid (fitsD dots[k] = false → dots.all fitsD = false) := fun h => by
      rw [List.all_eq_false]
      exact ⟨_, List.getElem_mem hkl, by simp [h]⟩
    clear hc
    generalize dots[k] = d at *
    obtain ⟨p, q⟩ := d
    have C := dotFits_any p q wr
    generalize fitsD (p, q) = a at *
    simp only [] at x0 x1
    clear hkl
    go_wp2_with fail
    refine C.mono ?_
    rintro e w9 ⟨rfl, hb9⟩
    have HB9 : Hid (Below B.heap.size B w9) := chain hB.out hb9
    clear hb9
    cases a
    · go_wp2
      go_ret
      exact ⟨by rw [HI.out, HX.out (by simp)]; simp, chain HB0.out HB9.out⟩
    · go_wp2
      go_roundw
      case rel => exact ⟨k + 1, by omega, by go_num, HS, HB9⟩
      case measure => simp [RowKit.intOf]; omega
  · have HH : Hid (dots.all fitsD = true) := by
      have h := hT.out
      rw [List.take_of_length_le (by rw [HNO.out]; omega)] at h
      exact h
    go_wp2
    go_ret
    exact ⟨by rw [HI.out, HH.out]; simp, chain HB0.out hB.out⟩

end Go.Proofs.Ytmcbdfmajciklaa

namespace Go.Proofs.Ytmcbdfmajciklaa
open Go.RowKit Go.Lib
set_option linter.unusedVariables false

theorem Try.infoDt : (Try.prog.info? 25).map (fun i => (i.zero, i.size, i.bytes)) = some (some (.agg #[.int .i64 0, .int .i64 0]), 2, 16) := by kernel_rfl

theorem OwnD.nought (w : World) (B : Nat) : OwnD w B (.slice none 0 0) [] := World.ownsRow_nil w B 25 2

theorem OwnD.later {w w' : World} {B : Nat} {v : Value} {ds : List (Int × Int)} (h : OwnD w B v ds) (hb : Below w.heap.size w w') : OwnD w' B v ds := by
  obtain ⟨h1, h2⟩ := h
  refine ⟨h1, ?_⟩
  rcases h2 with h2 | ⟨g, cap, cur, hv, hg, hh, hc⟩
  · exact .inl h2
  · exact .inr ⟨g, cap, cur, hv, hg, (hb.block g (heap_lt hh)).trans hh, hc⟩

/-- append(v, d). -/
theorem run_append_dot {w : World} {B ty n s : Nat} {v : Value} {xs : List (Int × Int)} {p q : Int} (hown : OwnD w B v xs) (hn : xs.length = n) (h1 : n ≤ 65536) (hB : B ≤ w.heap.size) (c0 : w.cell? ⟨s, 0, none⟩ = some (.int .i64 p)) (c1 : w.cell? ⟨s, 1, none⟩ = some (.int .i64 q)) :
    ∃ a' cap' w', (Builtin.append_ #[30, 30] ty #[v, .slice (some ⟨s, 0, none⟩) 1 1]).run Try.prog w = .ok (.slice a' (n + 1) cap') w' ∧ n + 1 ≤ cap' ∧ OwnD w' B (.slice a' (n + 1) cap') (xs ++ [(p, q)]) ∧ w.heap.size ≤ w'.heap.size ∧ Below B w w' := by
  subst hn
  obtain ⟨i0, hi, hz0, hz1, hz2⟩ := info_parts Try.infoDt
  obtain ⟨v', w', hrun, ho, hg, _⟩ := run_append_own (P := Try.prog) (w := w) B 30 ty 25 i0 (.agg #[.int .i64 0, .int .i64 0]) 2 16 Try.underlying30 hi hz0 hz1 hz2 rfl (by decide) v xs.length (cellsDs xs) hown ⟨s, 0, none⟩ 1 1 [.int .i64 p, .int .i64 q] rfl (fun j u hj => by
    rw [add_plain3]
    rcases j with _ | _ | j
    · simp at hj; subst hj; exact c0
    · simp at hj; subst hj; exact c1
    · simp at hj) (by intro u hu; simp at hu; rcases hu with rfl | rfl <;> rfl) (by unfold maxLen; omega) (by omega) hB
  have ho' : OwnD w' B v' (xs ++ [(p, q)]) := by
    unfold OwnD
    rw [List.length_append, cellsDs_append]
    exact ho
  obtain ⟨a', cap', rfl, hc, _, _⟩ := ho'.form
  rw [List.length_append] at hrun ho' hc
  exact ⟨a', cap', w', hrun, hc, ho', hg.size, (Below.refl _ _).grown hg hB (fun k hk => (World.ownsRow.lt hown k hk).1)⟩

/-- The first n dots of the first peer. -/
def dsN (n : Nat) : List (Int × Int) := (List.range n).map fun i : Nat => ((0 : Int), (i : Int) + 1)

theorem dsN_len (n : Nat) : (dsN n).length = n := by simp [dsN]

theorem dsN_succ (n : Nat) : dsN (n + 1) = dsN n ++ [((0 : Int), (n : Int) + 1)] := by simp [dsN, List.range_succ]

theorem dsN_at {n i : Nat} (h : i < n) : (dsN n)[i]? = some ((0 : Int), (i : Int) + 1) := by simp [dsN, h]

theorem has69 {k : Int} : hasD [69, 0] 0 k = decide (1 ≤ k ∧ k ≤ 69) := by simp [hasD, placeD, atD]

theorem rem_bad {deps : List Int} {ds : List (Int × Int)} {i : Nat} (hi : i < ds.length) (h : stepF deps ds i = false) : remF deps ds = false := by
  unfold remF
  rw [range_no hi h, Bool.and_false]

theorem rem_dsN {n : Nat} (h64 : n ≤ 65) : remF [69, 0] (dsN n) = decide (1 ≤ n ∧ n ≤ 64) := by
  unfold remF
  rw [dsN_len]
  by_cases h : 1 ≤ n ∧ n ≤ 64
  · have : (List.range n).all (stepF [69, 0] (dsN n)) = true := by
      rw [List.all_eq_true]
      intro i hi
      have hi' : i < n := by simpa using hi
      unfold stepF
      rw [dsN_at hi']
      simp only [Option.getD_some, has69]
      rcases Nat.eq_zero_or_pos i with h0 | h0
      · subst h0; simp
      · obtain ⟨j, rfl⟩ : ∃ j, i = j + 1 := ⟨i - 1, by omega⟩
        rw [Nat.add_sub_cancel, dsN_at (by omega)]
        simp [lessD]
        omega
    rw [this, Bool.and_true]
  · rw [decide_eq_false h, Bool.false_and]

theorem rem_no70 {n : Nat} (h1 : 1 ≤ n) : remF [69, 0] ((dsN n).set (n - 1) (0, 70)) = false := by
  have hl : n - 1 < (dsN n).length := by rw [dsN_len]; omega
  refine rem_bad (i := n - 1) (by rw [List.length_set]; exact hl) ?_
  unfold stepF
  rw [List.getElem?_set_self hl]
  simp [has69]

theorem rem_twice {n : Nat} (h1 : 1 ≤ n) : remF [69, 0] (dsN n ++ [((0 : Int), (n : Int))]) = false := by
  refine rem_bad (i := n) (by simp [dsN_len]) ?_
  obtain ⟨m, rfl⟩ : ∃ m, n = m + 1 := ⟨n - 1, by omega⟩
  unfold stepF
  have e1 : (dsN (m + 1) ++ [((0 : Int), ((m + 1 : Nat) : Int))])[m + 1]? = some ((0 : Int), ((m + 1 : Nat) : Int)) := by
    rw [List.getElem?_append_right (by rw [dsN_len]; exact Nat.le_refl _), dsN_len]
    simp
  have e2 : (dsN (m + 1) ++ [((0 : Int), ((m + 1 : Nat) : Int))])[m + 1 - 1]? = some ((0 : Int), (m : Int) + 1) := by
    rw [Nat.add_sub_cancel, List.getElem?_append_left (by rw [dsN_len]; omega), dsN_at (by omega)]
  rw [e1, e2]
  simp [lessD]

theorem rem_two {n : Nat} {q : Int} (h1 : 1 ≤ n) : remF [69, 0] ((dsN n).set 0 (2, q)) = false := by
  have hl : 0 < (dsN n).length := by rw [dsN_len]; omega
  refine rem_bad (i := 0) (by rw [List.length_set]; exact hl) ?_
  unfold stepF
  rw [List.getElem?_set_self hl]
  simp [hasD, placeD]

/-- OpDots' operation, with these dots. -/
def xD (ds : List (Int × Int)) : PO := ⟨1, 1, [69, 0], 0, 0, 1, 3, 0, ⟨#[107]⟩, 0, [], ds⟩

theorem i64D {ds : List (Int × Int)} (h : ∀ d ∈ ds, In64 d.1 ∧ In64 d.2) : I64O (xD ds) :=
  ⟨fun v hv => by
    have : v = 69 ∨ v = 0 := by simpa [xD] using hv
    rcases this with rfl | rfl
    · exact in64 (by decide)
    · exact in64 (by decide), (show In64 1 from in64 (by decide)), (show In64 1 from in64 (by decide)), ⟨(show In64 0 from in64 (by decide)), (show In64 0 from in64 (by decide)), (show In64 1 from in64 (by decide))⟩, h, (show In64 0 from in64 (by decide)), (show In64 0 from in64 (by decide))⟩

set_option maxRecDepth 100000 in
set_option maxHeartbeats 2000000 in
theorem ocheckD (W : World) (bf bc bd : Nat) (oa : Option Addr) (oc no : Nat) (ds : List (Int × Int)) (hcol : W.cell? ⟨bf, 0, none⟩ = some (.slice (some ⟨bc, 0, none⟩) 1 1)) (hF : RdII W (some ⟨bf, 0, none⟩) [[3]]) (hD : RdI .i64 W (some ⟨bd, 0, none⟩) [69, 0])
    (hO : RdD W oa ds) (hn : ds.length = no) (hno : no ≤ 65536) (hoc : no ≤ oc) (hnil : oa = none → ds = [] ∧ oc = 0) (hbd : bd < W.heap.size) (hbo : ∀ b o, oa = some ⟨b, o, none⟩ → b < W.heap.size) (h64 : ∀ d ∈ ds, In64 d.1 ∧ In64 d.2) :
    Calls Try.prog 17 #[.int .i64 2, .slice (some ⟨bf, 0, none⟩) 1 1, .agg #[.int .i64 1, .int .i64 1, .slice (some ⟨bd, 0, none⟩) 2 2, .int .i64 0, .int .i64 0, .int .i64 1, .int .i64 3, .int .i64 0, .string ⟨#[107]⟩, .int .i64 0, .slice none 0 0, .slice oa no oc]] W fun e w' => e = .returned (.int .i64 (if remF [69, 0] ds = true then 0 else 1)) ∧ Below W.heap.size W w' := by
  subst hn
  have hL : LiesO W (xD ds) (some ⟨bd, 0, none⟩) none oa 2 0 oc :=
    ⟨hD, (fun h => absurd h (by simp [xD])), hO, by simp [xD], by simp [xD], hno, by simp [xD], by simp [xD], hoc, (fun h => by cases h), (fun _ => ⟨rfl, rfl⟩), hnil, (show (⟨#[107]⟩ : ByteArray).size ≤ 9223372036854775807 by decide)⟩
  have D1 := fun (V : World) (hb : Below W.heap.size W V) => opForms_any (some ⟨bf, 0, none⟩) 1 1 [[3]] V rfl (by omega) (fun v hv => by simp at hv; subst hv; decide) (hF.later hb)
  rw [show formsF [[3]] = 0 from by decide] at D1
  have D2 := fun (V : World) (hb : Below W.heap.size W V) => opIssued_any 2 (xD ds) _ _ _ _ _ _ V (hL.later hb) (i64D h64)
  rw [show issuedF 2 (xD ds) = true from (show issuedF 2 (xD []) = true by decide)] at D2
  simp only [cellsO, xD, List.length_cons, List.length_nil, Nat.zero_add] at D2
  have D3 := fun (V : World) (hb : Below W.heap.size W V) => opWithin_del 1 1 0 0 1 3 0 0 ⟨#[107]⟩ (some ⟨bd, 0, none⟩) none oa 2 0 ds.length 2 0 oc bf 0 1 1 0 (some ⟨bc, 0, none⟩) 1 1 (remF [69, 0] ds) V (by decide) (by decide) rfl (by omega) (by omega) rfl (cell_later hb hcol) (fun U hU => opRem_any oa (some ⟨bd, 0, none⟩) ds.length 2 oc 2 ds [69, 0] U rfl hno rfl (by omega) (hO.later (chain hb hU)) (hD.later (chain hb hU)) (i64D h64).deps h64)
  have D4 := opCheck_of 1 1 0 0 1 3 0 0 ⟨#[107]⟩ (some ⟨bd, 0, none⟩) none oa 2 0 ds.length 2 0 oc 2 (some ⟨bf, 0, none⟩) 1 1 0 true _ W D1 D2 D3
  refine D4.mono fun e w' ⟨he, hb⟩ => ⟨he.trans ?_, hb⟩
  cases remF [69, 0] ds <;> rfl

end Go.Proofs.Ytmcbdfmajciklaa

namespace Go.Proofs.Ytmcbdfmajciklaa
open Go.RowKit Go.Lib
set_option linter.unusedVariables false

/-- Are they alike? -/
def sameO (x y : PO) : Bool :=
  (decide (x.dp = y.dp) && decide (x.dn = y.dn)) && (decide (x.deps = y.deps) && (decide ((⟨x.sp, x.sl, x.sq⟩ : PS) = ⟨y.sp, y.sl, y.sq⟩) && (decide (x.kind = y.kind) && (decide (x.table = y.table) && ((x.key.toList == y.key.toList) && (decide (x.col = y.col) && (sameVs x.vals y.vals && decide (x.dots = y.dots))))))))

theorem sameO_iff (x y : PO) : sameO x y = true ↔ x = y := by
  obtain ⟨dp, dn, deps, sp, sl, sq, kind, table, key, col, vals, dots⟩ := x
  obtain ⟨dp', dn', deps', sp', sl', sq', kind', table', key', col', vals', dots'⟩ := y
  unfold sameO
  simp only [Bool.and_eq_true, decide_eq_true_eq, sameVs_iff, PO.mk.injEq, PS.mk.injEq, beq_iff_eq]
  constructor
  · rintro ⟨⟨a, b⟩, c, ⟨d, e, f⟩, g, h, i, j, k, l⟩
    exact ⟨a, b, c, d, e, f, g, h, toList_inj i, j, k, l⟩
  · rintro ⟨a, b, c, d, e, f, g, h, i, j, k, l⟩
    exact ⟨⟨a, b⟩, c, ⟨d, e, f⟩, g, h, by rw [i], j, k, l⟩

set_option maxRecDepth 100000 in
set_option maxHeartbeats 8000000 in
theorem keepOp_any (x y : PO) (da va oa da' va' oa' : Option Addr) (dc vc oc dc' vc' oc' : Nat) (w : World) (h : LiesO w x da va oa dc vc oc) (h' : LiesO w y da' va' oa' dc' vc' oc') :
    Calls Try.prog 11 #[.agg (cellsO x da va oa dc vc oc), .agg (cellsO y da' va' oa' dc' vc' oc')] w fun e w' => e = .returned (.bool (sameO x y)) ∧ Below w.heap.size w w' := by
  have HI : Hid (sameO x y = ((decide (x.dp = y.dp) && decide (x.dn = y.dn)) && (decide (x.deps = y.deps) && (decide ((⟨x.sp, x.sl, x.sq⟩ : PS) = ⟨y.sp, y.sl, y.sq⟩) && (decide (x.kind = y.kind) && (decide (x.table = y.table) && ((x.key.toList == y.key.toList) && (decide (x.col = y.col) && (sameVs x.vals y.vals && decide (x.dots = y.dots)))))))))) := rfl
  generalize sameO x y = res at *
  obtain ⟨dp, dn, deps, sp, sl, sq, kind, table, key, col, vals, dots⟩ := x
  obtain ⟨dp', dn', deps', sp', sl', sq', kind', table', key', col', vals', dots'⟩ := y
  simp only [cellsO] at h h' HI ⊢
  have HX : Hid (LiesO w ⟨dp, dn, deps, sp, sl, sq, kind, table, key, col, vals, dots⟩ da va oa dc vc oc) := h
  have HY : Hid (LiesO w ⟨dp', dn', deps', sp', sl', sq', kind', table', key', col', vals', dots'⟩ da' va' oa' dc' vc' oc') := h'
  clear h h'
  obtain ⟨B, hBB⟩ : ∃ B : World, B = (w.alloc (.cells #[.int .i64 dp, .int .i64 dn, .slice da deps.length dc, .int .i64 sp, .int .i64 sl, .int .i64 sq, .int .i64 kind, .int .i64 table, .string key, .int .i64 col, .slice va vals.length vc, .slice oa dots.length oc] 32)).alloc (.cells #[.int .i64 dp', .int .i64 dn', .slice da' deps'.length dc', .int .i64 sp', .int .i64 sl', .int .i64 sq', .int .i64 kind', .int .i64 table', .string key', .int .i64 col', .slice va' vals'.length vc', .slice oa' dots'.length oc'] 32) := ⟨_, rfl⟩
  have HB0 : Hid (Below w.heap.size w B) := by rw [hBB]; exact below_two _ _ _
  have HK : Hid (CellsAt B w.heap.size #[.int .i64 dp, .int .i64 dn, .slice da deps.length dc, .int .i64 sp, .int .i64 sl, .int .i64 sq, .int .i64 kind, .int .i64 table, .string key, .int .i64 col, .slice va vals.length vc, .slice oa dots.length oc] 32) := by rw [hBB]; exact (CellsAt.made rfl).later (alloc_below _ _)
  have HK' : Hid (CellsAt B (w.heap.size + 1) #[.int .i64 dp', .int .i64 dn', .slice da' deps'.length dc', .int .i64 sp', .int .i64 sl', .int .i64 sq', .int .i64 kind', .int .i64 table', .string key', .int .i64 col', .slice va' vals'.length vc', .slice oa' dots'.length oc'] 32) := by rw [hBB]; exact CellsAt.made (by simp)
  have HBB : Hid (B = (w.alloc (.cells #[.int .i64 dp, .int .i64 dn, .slice da deps.length dc, .int .i64 sp, .int .i64 sl, .int .i64 sq, .int .i64 kind, .int .i64 table, .string key, .int .i64 col, .slice va vals.length vc, .slice oa dots.length oc] 32)).alloc (.cells #[.int .i64 dp', .int .i64 dn', .slice da' deps'.length dc', .int .i64 sp', .int .i64 sl', .int .i64 sq', .int .i64 kind', .int .i64 table', .string key', .int .i64 col', .slice va' vals'.length vc', .slice oa' dots'.length oc'] 32)) := hBB
  clear hBB
  have C1 := fun W => keepDot_any dp dn dp' dn' W
  have C2 := fun (W : World) (hb : Below w.heap.size w W) => keepInts_any da da' deps.length deps'.length dc dc' deps deps' W rfl rfl HX.out.ld HY.out.ld (HX.out.deps.later hb) (HY.out.deps.later hb)
  have C3 := fun W => keepStamp_any sp sl sq sp' sl' sq' W
  have C4 := fun (W : World) (hb : Below w.heap.size w W) => keepRow_any va va' vals.length vals'.length vc vc' vals vals' W rfl rfl HX.out.lv HY.out.lv (HX.out.vals.later hb) (HY.out.vals.later hb)
  have C5 := fun (W : World) (hb : Below w.heap.size w W) => keepDots_any oa oa' dots.length dots'.length oc oc' dots dots' W rfl rfl HX.out.lo HY.out.lo (HX.out.dots.later hb) (HY.out.dots.later hb)
  generalize (decide (dp = dp') && decide (dn = dn')) = a1 at *
  generalize decide (deps = deps') = a2 at *
  generalize decide ((⟨sp, sl, sq⟩ : PS) = ⟨sp', sl', sq'⟩) = a3 at *
  generalize sameVs vals vals' = a8 at *
  generalize decide (dots = dots') = a9 at *
  obtain ⟨a4, h4⟩ : ∃ a4, decide (kind = kind') = a4 := ⟨_, rfl⟩
  have q4 : (kind == kind') = a4 := h4
  obtain ⟨a5, h5⟩ : ∃ a5, decide (table = table') = a5 := ⟨_, rfl⟩
  have q5 : (table == table') = a5 := h5
  obtain ⟨a6, h6⟩ : ∃ a6, (key.toList == key'.toList) = a6 := ⟨_, rfl⟩
  obtain ⟨a7, h7⟩ : ∃ a7, decide (col = col') = a7 := ⟨_, rfl⟩
  have q7 : (col == col') = a7 := h7
  rw [h4, h5, h6, h7] at HI
  go_enter Try.func11, Try.ntmps11
  go_wp2_with fail
  rw [← HBB.out]
  refine (C1 _).mono ?_
  rintro e w1 ⟨rfl, hb1⟩
  have HB1 : Hid (Below B.heap.size B w1) := hb1
  clear hb1
  cases a1
  · go_wp2
    go_ret
    exact ⟨by rw [HI.out]; simp, chain HB0.out HB1.out⟩
  obtain ⟨f0, f1, f2, f3, f4, f5, f6, f7, f8, f9, f10, f11⟩ := cellsO_at (HK.out.later HB1.out)
  obtain ⟨g0, g1, g2, g3, g4, g5, g6, g7, g8, g9, g10, g11⟩ := cellsO_at (HK'.out.later HB1.out)
  go_wp2_with fail
  refine (C2 _ (chain HB0.out HB1.out)).mono ?_
  rintro e w2 ⟨rfl, hb2⟩
  have HB2 : Hid (Below B.heap.size B w2) := chain HB1.out hb2
  clear hb2 f0 f1 f2 f3 f4 f5 f6 f7 f8 f9 f10 f11 g0 g1 g2 g3 g4 g5 g6 g7 g8 g9 g10 g11 HB1
  cases a2
  · go_wp2
    go_ret
    exact ⟨by rw [HI.out]; simp, chain HB0.out HB2.out⟩
  obtain ⟨f0, f1, f2, f3, f4, f5, f6, f7, f8, f9, f10, f11⟩ := cellsO_at (HK.out.later HB2.out)
  obtain ⟨g0, g1, g2, g3, g4, g5, g6, g7, g8, g9, g10, g11⟩ := cellsO_at (HK'.out.later HB2.out)
  go_wp2_with fail
  refine (C3 _).mono ?_
  rintro e w3 ⟨rfl, hb3⟩
  have HB3 : Hid (Below B.heap.size B w3) := chain HB2.out hb3
  clear hb3 f0 f1 f2 f3 f4 f5 f6 f7 f8 f9 f10 f11 g0 g1 g2 g3 g4 g5 g6 g7 g8 g9 g10 g11 HB2
  cases a3
  · go_wp2
    go_ret
    exact ⟨by rw [HI.out]; simp, chain HB0.out HB3.out⟩
  obtain ⟨f0, f1, f2, f3, f4, f5, f6, f7, f8, f9, f10, f11⟩ := cellsO_at (HK.out.later HB3.out)
  obtain ⟨g0, g1, g2, g3, g4, g5, g6, g7, g8, g9, g10, g11⟩ := cellsO_at (HK'.out.later HB3.out)
  cases a4
  · go_wp2
    go_ret
    exact ⟨by rw [HI.out]; simp, chain HB0.out HB3.out⟩
  cases a5
  · go_wp2
    go_ret
    exact ⟨by rw [HI.out]; simp, chain HB0.out HB3.out⟩
  cases a6
  · go_wp2
    go_ret
    exact ⟨by rw [HI.out]; simp, chain HB0.out HB3.out⟩
  cases a7
  · go_wp2
    go_ret
    exact ⟨by rw [HI.out]; simp, chain HB0.out HB3.out⟩
  go_wp2_with fail
  refine (C4 _ (chain HB0.out HB3.out)).mono ?_
  rintro e w4 ⟨rfl, hb4⟩
  have HB4 : Hid (Below B.heap.size B w4) := chain HB3.out hb4
  clear hb4 f0 f1 f2 f3 f4 f5 f6 f7 f8 f9 f10 f11 g0 g1 g2 g3 g4 g5 g6 g7 g8 g9 g10 g11 HB3
  cases a8
  · go_wp2
    go_ret
    exact ⟨by rw [HI.out]; simp, chain HB0.out HB4.out⟩
  obtain ⟨f0, f1, f2, f3, f4, f5, f6, f7, f8, f9, f10, f11⟩ := cellsO_at (HK.out.later HB4.out)
  obtain ⟨g0, g1, g2, g3, g4, g5, g6, g7, g8, g9, g10, g11⟩ := cellsO_at (HK'.out.later HB4.out)
  go_wp2_with fail
  refine (C5 _ (chain HB0.out HB4.out)).mono ?_
  rintro e w5 ⟨rfl, hb5⟩
  have HB5 : Hid (Below w.heap.size w w5) := chain HB0.out (chain HB4.out hb5)
  clear hb5 f0 f1 f2 f3 f4 f5 f6 f7 f8 f9 f10 f11 g0 g1 g2 g3 g4 g5 g6 g7 g8 g9 g10 g11 HB4
  cases a9
  all_goals
    go_wp2
    go_ret
    exact ⟨by rw [HI.out]; simp, HB5.out⟩

end Go.Proofs.Ytmcbdfmajciklaa
