/-
  Texts of the proof of SetExact, one behind the other.
-/
import Derived.Test.YtajlkaedkifaoaaRows
import Derived.Test.YtajlkaedkifaoaaG45SetExact
import Derived.Test.YtajlkaedkifaoaaG46SetExact
import Derived.Test.YtajlkaedkifaoaaG37SetExact
namespace Go.Proofs.Ytajlkaedkifaoaa
open Go.RowKit Go.Lib
set_option linter.unusedVariables false

/-- A number, as a value. -/
def numV (n : Int) : PV := ⟨3, n, ⟨#[]⟩⟩

theorem cmpR_num (a b : Int) : cmpR [numV a] [numV b] = if a = b then 0 else if a < b then -1 else 1 := by
  by_cases h : a = b
  · subst h
    rw [if_pos rfl, cmpR_self]
  · simp [cmpR, cmpV, numV, h, sgnB]
    by_cases h2 : a < b
    · simp [h2]
    · simp [h2]

theorem okR_num {n : Int} (h : -1152921504606846976 ≤ n ∧ n ≤ 1152921504606846976) : chkR [numV n] = 0 := by
  have : okV (numV n) = true := by simp [okV, numV, h]; rfl
  simp [chkR, errR, this]

/-- A block's cells are read from its beginning on. -/
theorem RdK.block {k : Nat} {w : World} {b : Nat} {t : TypeId} {C : List (List Value)} (h : w.heap[b]? = some (.cells C.flatten.toArray t (0, 0))) (hw : Wide k C) : RdK k w (some ⟨b, 0, none⟩) C := fun _ =>
  ⟨b, 0, rfl, fun i hi j v hj => by
    have hjk : j < k := by
      have := (List.getElem?_eq_some_iff.1 hj).1
      rwa [hw.at_ hi] at this
    rw [Nat.zero_add]
    simp only [World.cell?, h]
    have := flatK_at hw i hi j hjk
    rw [hj] at this
    simpa using this⟩

theorem rdV_num {w : World} {b : Nat} {n : Int} {t : TypeId} (h : w.heap[b]? = some (.cells #[.int .i64 3, .int .i64 n, .string ⟨#[]⟩] t (0, 0))) : RdV w (some ⟨b, 0, none⟩) [numV n] := fun _ =>
  ⟨b, 0, rfl, fun i hi => by
    obtain rfl : i = 0 := by simpa using hi
    refine ⟨?_, ?_, ?_⟩ <;> simp [World.cell?, h, numV]⟩

theorem lies_num {w : World} {b : Nat} {n p : Int} {t : TypeId} (h : w.heap[b]? = some (.cells #[.int .i64 3, .int .i64 n, .string ⟨#[]⟩] t (0, 0))) (hp : In64 p) : LiesZ (fun _ => False) w [.slice (some ⟨b, 0, none⟩) 1 1, .int .i64 p] ⟨[numV n], p⟩ :=
  ⟨some ⟨b, 0, none⟩, 1, rfl, rdV_num h, (show 1 ≤ 65536 by omega), Nat.le_refl _, (fun h => by cases h), hp, fun _ b o s _ => id⟩

set_option maxHeartbeats 400000 in
theorem one_any (n : Int) (w : World) :
    Calls Try.prog 46 #[.int .i64 n] w fun e w' => e = .returned (.slice (some ⟨w.heap.size, 0, none⟩) 1 1) ∧ w' = w.alloc (.cells #[.int .i64 3, .int .i64 n, .string ⟨#[]⟩] 65) := by
  go_enter Try.func46, Try.ntmps46
  go_wp2
  go_ret
  exact ⟨rfl, rfl⟩

theorem new_block (w : World) (o : Obj) : (w.alloc o).heap[w.heap.size]? = some o := by
  show (w.heap.push _)[w.heap.size]? = _
  simp

theorem wakes_make : makeZ [⟨[numV 5], 2⟩, ⟨[numV 1], 1⟩, ⟨[numV 5], 3⟩, ⟨[numV 7], 0⟩] = ([⟨[numV 1], 1⟩, ⟨[numV 5], 5⟩], 0) := by
  have o5 := okR_num (n := 5) (by omega)
  have o1 := okR_num (n := 1) (by omega)
  have o7 := okR_num (n := 7) (by omega)
  have hall : ([⟨[numV 5], 2⟩, ⟨[numV 1], 1⟩, ⟨[numV 5], 3⟩, ⟨[numV 7], 0⟩] : List PI).all okI = true := by simp [okI, o5, o1, o7, isW]
  have hs : SortZ [⟨[numV 1], 1⟩, ⟨[numV 5], 2⟩, ⟨[numV 5], 3⟩, ⟨[numV 7], 0⟩] := by simp [SortZ, cmpZ, cmpR_num]
  have hp : ([⟨[numV 5], 2⟩, ⟨[numV 1], 1⟩, ⟨[numV 5], 3⟩, ⟨[numV 7], 0⟩] : List PI).Perm [⟨[numV 1], 1⟩, ⟨[numV 5], 2⟩, ⟨[numV 5], 3⟩, ⟨[numV 7], 0⟩] := List.Perm.swap _ _ _
  rw [makeZ_of hall hs hp]
  simp [gatherZ, sameZ, restZ, cmpZ, cmpR_num, isW, ansZ]

theorem five_blocks (w : World) (A B C D E : Obj) : (((((w.alloc A).alloc B).alloc C).alloc D).alloc E).heap[w.heap.size]? = some A ∧ (((((w.alloc A).alloc B).alloc C).alloc D).alloc E).heap[w.heap.size + 1]? = some B ∧ (((((w.alloc A).alloc B).alloc C).alloc D).alloc E).heap[w.heap.size + 1 + 1]? = some C ∧ (((((w.alloc A).alloc B).alloc C).alloc D).alloc E).heap[w.heap.size + 1 + 1 + 1]? = some D ∧ (((((w.alloc A).alloc B).alloc C).alloc D).alloc E).heap[w.heap.size + 1 + 1 + 1 + 1]? = some E := by
  have e : (((((w.alloc A).alloc B).alloc C).alloc D).alloc E).heap = ((((w.heap.push A).push B).push C).push D).push E := rfl
  rw [e]
  refine ⟨?_, ?_, ?_, ?_, ?_⟩
  all_goals
    simp only [Array.getElem?_push, Array.size_push]
    repeat (first | rw [if_pos (by omega)] | rw [if_neg (by omega)])
  all_goals simp

set_option maxRecDepth 100000 in
set_option maxHeartbeats 8000000 in
theorem zwakes_any (w : World) : Calls Try.prog 25 #[] w fun e w' => e = .returned (.bool true) ∧ Below w.heap.size w w' := by
  obtain ⟨k0, k1, k2, k3, k4⟩ := five_blocks w (.cells #[.int .i64 3, .int .i64 5, .string ⟨#[]⟩] 65) (.cells #[.int .i64 3, .int .i64 1, .string ⟨#[]⟩] 65) (.cells #[.int .i64 3, .int .i64 5, .string ⟨#[]⟩] 65) (.cells #[.int .i64 3, .int .i64 7, .string ⟨#[]⟩] 65) (.cells #[.slice (some ⟨w.heap.size, 0, none⟩) 1 1, .int .i64 2, .slice (some ⟨w.heap.size + 1, 0, none⟩) 1 1, .int .i64 1, .slice (some ⟨w.heap.size + 1 + 1, 0, none⟩) 1 1, .int .i64 3, .slice (some ⟨w.heap.size + 1 + 1 + 1, 0, none⟩) 1 1, .int .i64 0] 40)
  have hB5 : Below w.heap.size w (((((w.alloc (.cells #[.int .i64 3, .int .i64 5, .string ⟨#[]⟩] 65)).alloc (.cells #[.int .i64 3, .int .i64 1, .string ⟨#[]⟩] 65)).alloc (.cells #[.int .i64 3, .int .i64 5, .string ⟨#[]⟩] 65)).alloc (.cells #[.int .i64 3, .int .i64 7, .string ⟨#[]⟩] 65)).alloc (.cells #[.slice (some ⟨w.heap.size, 0, none⟩) 1 1, .int .i64 2, .slice (some ⟨w.heap.size + 1, 0, none⟩) 1 1, .int .i64 1, .slice (some ⟨w.heap.size + 1 + 1, 0, none⟩) 1 1, .int .i64 3, .slice (some ⟨w.heap.size + 1 + 1 + 1, 0, none⟩) 1 1, .int .i64 0] 40)) := chain (chain (chain (chain (alloc_below _ _) (alloc_below _ _)) (alloc_below _ _)) (alloc_below _ _)) (alloc_below _ _)
  have hl : ∀ z ∈ ([([.slice (some ⟨w.heap.size, 0, none⟩) 1 1, .int .i64 2], ⟨[numV 5], 2⟩), ([.slice (some ⟨w.heap.size + 1, 0, none⟩) 1 1, .int .i64 1], ⟨[numV 1], 1⟩), ([.slice (some ⟨w.heap.size + 1 + 1, 0, none⟩) 1 1, .int .i64 3], ⟨[numV 5], 3⟩), ([.slice (some ⟨w.heap.size + 1 + 1 + 1, 0, none⟩) 1 1, .int .i64 0], ⟨[numV 7], 0⟩)] : List (List Value × PI)), LiesZ (fun _ => False) (((((w.alloc (.cells #[.int .i64 3, .int .i64 5, .string ⟨#[]⟩] 65)).alloc (.cells #[.int .i64 3, .int .i64 1, .string ⟨#[]⟩] 65)).alloc (.cells #[.int .i64 3, .int .i64 5, .string ⟨#[]⟩] 65)).alloc (.cells #[.int .i64 3, .int .i64 7, .string ⟨#[]⟩] 65)).alloc (.cells #[.slice (some ⟨w.heap.size, 0, none⟩) 1 1, .int .i64 2, .slice (some ⟨w.heap.size + 1, 0, none⟩) 1 1, .int .i64 1, .slice (some ⟨w.heap.size + 1 + 1, 0, none⟩) 1 1, .int .i64 3, .slice (some ⟨w.heap.size + 1 + 1 + 1, 0, none⟩) 1 1, .int .i64 0] 40)) z.1 z.2 := fun z hz => by
    simp only [List.mem_cons, List.not_mem_nil, or_false] at hz
    rcases hz with rfl | rfl | rfl | rfl
    · exact lies_num k0 (by unfold In64; omega)
    · exact lies_num k1 (by unfold In64; omega)
    · exact lies_num k2 (by unfold In64; omega)
    · exact lies_num k3 (by unfold In64; omega)
  have hX : RdZ (((((w.alloc (.cells #[.int .i64 3, .int .i64 5, .string ⟨#[]⟩] 65)).alloc (.cells #[.int .i64 3, .int .i64 1, .string ⟨#[]⟩] 65)).alloc (.cells #[.int .i64 3, .int .i64 5, .string ⟨#[]⟩] 65)).alloc (.cells #[.int .i64 3, .int .i64 7, .string ⟨#[]⟩] 65)).alloc (.cells #[.slice (some ⟨w.heap.size, 0, none⟩) 1 1, .int .i64 2, .slice (some ⟨w.heap.size + 1, 0, none⟩) 1 1, .int .i64 1, .slice (some ⟨w.heap.size + 1 + 1, 0, none⟩) 1 1, .int .i64 3, .slice (some ⟨w.heap.size + 1 + 1 + 1, 0, none⟩) 1 1, .int .i64 0] 40)) (some ⟨w.heap.size + 1 + 1 + 1 + 1, 0, none⟩) [⟨[numV 5], 2⟩, ⟨[numV 1], 1⟩, ⟨[numV 5], 3⟩, ⟨[numV 7], 0⟩] := ⟨[([.slice (some ⟨w.heap.size, 0, none⟩) 1 1, .int .i64 2], ⟨[numV 5], 2⟩), ([.slice (some ⟨w.heap.size + 1, 0, none⟩) 1 1, .int .i64 1], ⟨[numV 1], 1⟩), ([.slice (some ⟨w.heap.size + 1 + 1, 0, none⟩) 1 1, .int .i64 3], ⟨[numV 5], 3⟩), ([.slice (some ⟨w.heap.size + 1 + 1 + 1, 0, none⟩) 1 1, .int .i64 0], ⟨[numV 7], 0⟩)], rfl, RdK.block k4 (LiesZ.wides hl), hl⟩
  have CM := zMake_any (some ⟨w.heap.size + 1 + 1 + 1 + 1, 0, none⟩) 4 4 _ _ rfl (by omega) hX
  rw [wakes_make] at CM
  have HB5 : Hid _ := hB5
  clear k0 k1 k2 k3 k4 hl hX hB5
  go_enter Try.func25, Try.ntmps25
  go_wp2_with fail
  refine (one_any _ _).mono ?_
  rintro e w1 ⟨rfl, hw⟩
  subst hw
  go_wp2_with fail
  refine (one_any _ _).mono ?_
  rintro e w1 ⟨rfl, hw⟩
  subst hw
  go_wp2_with fail
  refine (one_any _ _).mono ?_
  rintro e w1 ⟨rfl, hw⟩
  subst hw
  go_wp2_with fail
  refine (one_any _ _).mono ?_
  rintro e w1 ⟨rfl, hw⟩
  subst hw
  go_wp2_with fail
  refine CM.mono ?_
  rintro e w6 ⟨v, Z, rfl, hZ, hR, hb6⟩
  obtain ⟨a, c, rfl, -, -, r, -⟩ := hR.form
  have hZl : Z.length = 2 := by have := congrArg List.length hZ; simpa using this
  rw [hZ] at r
  rw [hZl]
  obtain ⟨b, o, ra, rc, rfl, x0, x1, -⟩ := r.at_ (i := 0) (by simp)
  obtain ⟨b', o', sa, sc, eb, y0, y1, -⟩ := r.at_ (i := 1) (by simp)
  cases eb
  have HB6 : Hid (Below w.heap.size w w6) := chain HB5.out hb6
  have HR6 : Hid (RdZ w6 (some ⟨b, o, none⟩) [⟨[numV 1], 1⟩, ⟨[numV 5], 5⟩]) := r
  simp only [List.getElem_cons_zero, List.getElem_cons_succ, Nat.zero_mul, Nat.add_zero, Nat.one_mul] at x1 y1
  clear CM hZ hR hb6 hZl r x0 y0 HB5
  go_wp2_with fail
  refine (one_any _ _).mono ?_
  rintro e w7 ⟨rfl, hw⟩
  subst hw
  have hb7 := alloc_below w6 (.cells #[.int .i64 3, .int .i64 5, .string ⟨#[]⟩] 65)
  have CW := zWeight_any (some ⟨b, o, none⟩) 2 c [⟨[numV 1], 1⟩, ⟨[numV 5], 5⟩] (some ⟨w6.heap.size, 0, none⟩) 1 1 [numV 5] _ rfl (by omega) (HR6.out.later hb7) rfl (by omega) (rdV_num (new_block w6 _))
  have hwz : weightZ [⟨[numV 1], 1⟩, ⟨[numV 5], 5⟩] [numV 5] = 5 := by simp [weightZ, cmpR_num]
  rw [hwz] at CW
  have HB7 : Hid (Below w6.heap.size w6 _) := hb7
  clear hb7 hwz
  go_wp2_with fail
  refine CW.mono ?_
  rintro e w8 ⟨rfl, hb8⟩
  have HB8 : Hid (Below w6.heap.size w6 w8) := chain HB7.out hb8
  have CZ := zSize_any (some ⟨b, o, none⟩) 2 c [⟨[numV 1], 1⟩, ⟨[numV 5], 5⟩] w8 rfl (by omega) (HR6.out.later HB8.out)
  have hsz : sizeZ [⟨[numV 1], 1⟩, ⟨[numV 5], 5⟩] = 6 := by
    have o5 := okR_num (n := 5) (by omega)
    have o1 := okR_num (n := 1) (by omega)
    simp [sizeZ, sizeTo, riseZ, okI, o5, o1, isW, cmpZ, cmpR_num, absZ]
    omega
  rw [hsz] at CZ
  clear CW hb8 hsz HB7
  go_wp2_with fail
  refine CZ.mono ?_
  rintro e w9 ⟨rfl, hb9⟩
  have HB9 : Hid (Below w.heap.size w w9) := chain HB6.out (chain HB8.out hb9)
  clear CZ hb9
  go_wp2
  go_ret
  exact ⟨by simp, HB9.out⟩

end Go.Proofs.Ytajlkaedkifaoaa

namespace Go.Proofs.Ytajlkaedkifaoaa
open Go.RowKit Go.Lib
set_option linter.unusedVariables false

theorem okI_one {p : Int} : okI ⟨[numV 1], p⟩ = isW p := by
  have o1 := okR_num (n := 1) (by omega)
  simp [okI, o1]

theorem make_one {p : Int} (h : isW p = true) (h0 : p ≠ 0) : makeZ [⟨[numV 1], p⟩] = ([⟨[numV 1], p⟩], 0) := by
  rw [makeZ_of (by simp [okI_one, h]) (List.pairwise_singleton _ _) (List.Perm.refl _)]
  simp [gatherZ, sameZ, restZ, cmpZ, cmpR_num, h, h0, ansZ]

theorem make_bad {p : Int} (h : isW p = false) : makeZ [⟨[numV 1], p⟩] = ([], 1) := by
  unfold makeZ
  rw [if_neg (by simp [okI_one, h])]

theorem make_two {p q : Int} (h : isW p = true) (h2 : isW q = true) (h3 : isW (p + q) = true) (h0 : p + q ≠ 0) : makeZ [⟨[numV 1], p⟩, ⟨[numV 1], q⟩] = ([⟨[numV 1], p + q⟩], 0) := by
  rw [makeZ_of (by simp [okI_one, h, h2]) (by simp [SortZ, cmpZ, cmpR_num]) (List.Perm.refl _)]
  simp [gatherZ, sameZ, restZ, cmpZ, cmpR_num, h3, h0, ansZ]

theorem make_over {p q : Int} (h : isW p = true) (h2 : isW q = true) (h3 : isW (p + q) = false) : makeZ [⟨[numV 1], p⟩, ⟨[numV 1], q⟩] = ([], 11) := by
  rw [makeZ_of (by simp [okI_one, h, h2]) (by simp [SortZ, cmpZ, cmpR_num]) (List.Perm.refl _)]
  simp [gatherZ, sameZ, cmpZ, cmpR_num, h3, ansZ]

theorem chk_one {p : Int} (h : isW p = true) (h0 : p ≠ 0) : chkZ [⟨[numV 1], p⟩] = 0 := by
  simp [chkZ, riseZ, okI_one, h, h0]

theorem chk_bad {p : Int} (h : isW p = false) : chkZ [⟨[numV 1], p⟩] = 1 := by
  simp [chkZ, riseZ, okI_one, h]

theorem add_over {p : Int} (h : isW p = true) (h0 : p ≠ 0) (h3 : isW (p + p) = false) : addZ [⟨[numV 1], p⟩] [⟨[numV 1], p⟩] = ([], 11) := by
  unfold addZ
  rw [if_pos (by simp [riseZ, okI_one, h, h0]), if_pos (by simp [riseZ, okI_one, h, h0])]
  exact make_over h h h3

/-- A row of one Item, as a law makes it. -/
theorem zone (w : World) (p : Int) (hp : In64 p) : RdZ ((w.alloc (.cells #[.int .i64 3, .int .i64 1, .string ⟨#[]⟩] 65)).alloc (.cells #[.slice (some ⟨w.heap.size, 0, none⟩) 1 1, .int .i64 p] 40)) (some ⟨w.heap.size + 1, 0, none⟩) [⟨[numV 1], p⟩] ∧ Below w.heap.size w ((w.alloc (.cells #[.int .i64 3, .int .i64 1, .string ⟨#[]⟩] 65)).alloc (.cells #[.slice (some ⟨w.heap.size, 0, none⟩) 1 1, .int .i64 p] 40)) := by
  have e : ((w.alloc (.cells #[.int .i64 3, .int .i64 1, .string ⟨#[]⟩] 65)).alloc (.cells #[.slice (some ⟨w.heap.size, 0, none⟩) 1 1, .int .i64 p] 40)).heap = (w.heap.push (.cells #[.int .i64 3, .int .i64 1, .string ⟨#[]⟩] 65)).push (.cells #[.slice (some ⟨w.heap.size, 0, none⟩) 1 1, .int .i64 p] 40) := rfl
  refine ⟨?_, chain (alloc_below _ _) (alloc_below _ _)⟩
  have k0 : ((w.alloc (.cells #[.int .i64 3, .int .i64 1, .string ⟨#[]⟩] 65)).alloc (.cells #[.slice (some ⟨w.heap.size, 0, none⟩) 1 1, .int .i64 p] 40)).heap[w.heap.size]? = some (.cells #[.int .i64 3, .int .i64 1, .string ⟨#[]⟩] 65 (0, 0)) := by
    rw [e]
    simp only [Array.getElem?_push, Array.size_push]
    rw [if_neg (by omega), if_pos trivial]
  have k1 : ((w.alloc (.cells #[.int .i64 3, .int .i64 1, .string ⟨#[]⟩] 65)).alloc (.cells #[.slice (some ⟨w.heap.size, 0, none⟩) 1 1, .int .i64 p] 40)).heap[w.heap.size + 1]? = some (.cells #[.slice (some ⟨w.heap.size, 0, none⟩) 1 1, .int .i64 p] 40 (0, 0)) := by
    rw [e]
    simp only [Array.getElem?_push, Array.size_push]
    rw [if_pos trivial]
  have hl : ∀ z ∈ ([([.slice (some ⟨w.heap.size, 0, none⟩) 1 1, .int .i64 p], ⟨[numV 1], p⟩)] : List (List Value × PI)), LiesZ (fun _ => False) ((w.alloc (.cells #[.int .i64 3, .int .i64 1, .string ⟨#[]⟩] 65)).alloc (.cells #[.slice (some ⟨w.heap.size, 0, none⟩) 1 1, .int .i64 p] 40)) z.1 z.2 := fun z hz => by
    rw [List.mem_singleton.1 hz]
    exact lies_num k0 hp
  exact ⟨[([.slice (some ⟨w.heap.size, 0, none⟩) 1 1, .int .i64 p], ⟨[numV 1], p⟩)], rfl, RdK.block k1 (LiesZ.wides hl), hl⟩

/-- .. of two. -/
theorem ztwo (w : World) (p q : Int) (hp : In64 p) (hq : In64 q) : RdZ (((w.alloc (.cells #[.int .i64 3, .int .i64 1, .string ⟨#[]⟩] 65)).alloc (.cells #[.int .i64 3, .int .i64 1, .string ⟨#[]⟩] 65)).alloc (.cells #[.slice (some ⟨w.heap.size, 0, none⟩) 1 1, .int .i64 p, .slice (some ⟨w.heap.size + 1, 0, none⟩) 1 1, .int .i64 q] 40)) (some ⟨w.heap.size + 1 + 1, 0, none⟩) [⟨[numV 1], p⟩, ⟨[numV 1], q⟩] ∧ Below w.heap.size w (((w.alloc (.cells #[.int .i64 3, .int .i64 1, .string ⟨#[]⟩] 65)).alloc (.cells #[.int .i64 3, .int .i64 1, .string ⟨#[]⟩] 65)).alloc (.cells #[.slice (some ⟨w.heap.size, 0, none⟩) 1 1, .int .i64 p, .slice (some ⟨w.heap.size + 1, 0, none⟩) 1 1, .int .i64 q] 40)) := by
  refine ⟨?_, chain (chain (alloc_below _ _) (alloc_below _ _)) (alloc_below _ _)⟩
  generalize hO : Obj.cells #[.slice (some ⟨w.heap.size, 0, none⟩) 1 1, .int .i64 p, .slice (some ⟨w.heap.size + 1, 0, none⟩) 1 1, .int .i64 q] 40 (0, 0) = O
  generalize hA : Obj.cells #[.int .i64 3, .int .i64 1, .string ⟨#[]⟩] 65 (0, 0) = A
  have e : (((w.alloc A).alloc A).alloc O).heap = ((w.heap.push A).push A).push O := rfl
  have k0 : (((w.alloc A).alloc A).alloc O).heap[w.heap.size]? = some A := by
    rw [e]
    simp only [Array.getElem?_push, Array.size_push]
    rw [if_neg (by omega), if_neg (by omega), if_pos trivial]
  have k1 : (((w.alloc A).alloc A).alloc O).heap[w.heap.size + 1]? = some A := by
    rw [e]
    simp only [Array.getElem?_push, Array.size_push]
    rw [if_neg (by omega), if_pos trivial]
  have k2 : (((w.alloc A).alloc A).alloc O).heap[w.heap.size + 1 + 1]? = some O := by
    rw [e]
    simp only [Array.getElem?_push, Array.size_push]
    rw [if_pos trivial]
  generalize ((w.alloc A).alloc A).alloc O = V at *
  subst hO
  subst hA
  have hl : ∀ z ∈ ([([.slice (some ⟨w.heap.size, 0, none⟩) 1 1, .int .i64 p], ⟨[numV 1], p⟩), ([.slice (some ⟨w.heap.size + 1, 0, none⟩) 1 1, .int .i64 q], ⟨[numV 1], q⟩)] : List (List Value × PI)), LiesZ (fun _ => False) V z.1 z.2 := fun z hz => by
    simp only [List.mem_cons, List.not_mem_nil, or_false] at hz
    rcases hz with rfl | rfl
    · exact lies_num k0 hp
    · exact lies_num k1 hq
  exact ⟨[([.slice (some ⟨w.heap.size, 0, none⟩) 1 1, .int .i64 p], ⟨[numV 1], p⟩), ([.slice (some ⟨w.heap.size + 1, 0, none⟩) 1 1, .int .i64 q], ⟨[numV 1], q⟩)], rfl, RdK.block k2 (LiesZ.wides hl), hl⟩

end Go.Proofs.Ytajlkaedkifaoaa
