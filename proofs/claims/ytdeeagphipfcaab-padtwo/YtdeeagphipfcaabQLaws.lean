/-
  What package pad's calls do, by what they answer; raddlelaw09's wakes.
-/
import Derived.Test.YtdeeagphipfcaabRows
import Derived.Test.YtdeeagphipfcaabQApp
import Derived.Test.YtdeeagphipfcaabQTrim
import Derived.Test.YtdeeagphipfcaabQRead
import Derived.WalkKit
import Derived.WalkSpells
namespace Go.Proofs.Ytdeeagphipfcaab
open Go.RowKit Go.Lib
set_option linter.unusedVariables false

theorem append_of {K : Nat → Prop} {g : Nat} {a : Option Addr} {n cap : Nat} {l : List UInt8} {s s' : PadS} {c : Int} (w : World) (hr : s.append l = (s', c)) (hK : ∀ b, K b → b < w.heap.size) (h : PadAt K w g s) (hn : l.length = n) (hl : n ≤ 9223372036854775807) (hrd : Rd w a l) :
    Calls Try.prog 6 #[vP g, .slice a n cap] w fun e w' => e = .returned (.int .i64 c) ∧ PadAt K w' g s' ∧ Stay K w w' := by
  have := append_any K g a n cap l s w hK h hn hl hrd
  rw [hr] at this
  exact this

theorem sync_of {K : Nat → Prop} {g : Nat} {s s' : PadS} {c : Int} (w : World) (hr : s.sync = (s', c)) (h : PadAt K w g s) :
    Calls Try.prog 8 #[vP g] w fun e w' => e = .returned (.int .i64 c) ∧ PadAt K w' g s' ∧ Stay K w w' := by
  have := sync_any K g s w h
  rw [hr] at this
  exact this

theorem trim_of {K : Nat → Prop} {g : Nat} {n : Int} {s s' : PadS} {c : Int} (w : World) (hr : s.trim n = (s', c)) (hK : ∀ b, K b → b < w.heap.size) (h : PadAt K w g s) :
    Calls Try.prog 9 #[vP g, .int .i64 n] w fun e w' => e = .returned (.int .i64 c) ∧ PadAt K w' g s' ∧ Stay K w w' := by
  have := trim_any K g n s w hK h
  rw [hr] at this
  exact this

theorem cut_of {K : Nat → Prop} {g : Nat} {n : Int} {s s' : PadS} {c : Int} (w : World) (hr : s.cut n = (s', c)) (hK : ∀ b, K b → b < w.heap.size) (h : PadAt K w g s) :
    Calls Try.prog 13 #[vP g, .int .i64 n] w fun e w' => e = .returned (.int .i64 c) ∧ PadAt K w' g s' ∧ Stay K w w' := by
  have := cut_any K g n s w hK h
  rw [hr] at this
  exact this

theorem crash_of {K : Nat → Prop} {g : Nat} {ka : Option Addr} {kn kc : Nat} {keep : List Bool} {torn : Int} {s s' : PadS} (w : World) (hr : s.crash keep torn = s') (h : PadAt K w g s) (hn : keep.length = kn) (hl : kn ≤ 9223372036854775807) (hrd : KeepR K w ka keep) :
    Calls Try.prog 14 #[vP g, .slice ka kn kc, .int .i64 torn] w fun e w' => e = .returned (.tuple #[]) ∧ PadAt K w' g s' ∧ Stay K w w' := by
  have := crash_any K g ka kn kc keep torn s w h hn hl hrd
  rw [hr] at this
  exact this

theorem start_of {K : Nat → Prop} {g : Nat} {s s' : PadS} (w : World) (hr : s.start = s') (h : PadAt K w g s) :
    Calls Try.prog 15 #[vP g] w fun e w' => e = .returned (.tuple #[]) ∧ PadAt K w' g s' ∧ Stay K w w' := by
  have := start_any K g s w h
  rw [hr] at this
  exact this

theorem read_of {K : Nat → Prop} {g : Nat} {i : Int} {s : PadS} {r : List UInt8 × Int} (w : World) (hr : s.read i = r) (h : PadAt K w g s) :
    Calls Try.prog 19 #[vP g, .int .i64 i] w fun e w' => GivesB w w' e r := by
  have := read_any K g i s w h
  rw [hr] at this
  exact this

/-- A new row of one byte, of one bool. -/
theorem row_one {w : World} {q : Nat} {x : UInt8} (hq : w.heap.size = q) : Row (w.alloc (.cells #[.int .u8 (x.toNat : Int)] 5)) q [x] := by
  subst hq
  show (w.heap.push _)[w.heap.size]? = _
  simp [byteCells]

theorem row_oneZ {w : World} {q : Nat} {z : Int} (x : UInt8) (hz : (x.toNat : Int) = z) (hq : w.heap.size = q) : Row (w.alloc (.cells #[.int .u8 z] 5)) q [x] := by
  subst hz
  exact row_one hq

theorem keepR_made {K : Nat → Prop} {w : World} {q : Nat} (L : List Bool) (hq : w.heap.size = q) : KeepR K (w.alloc (.cells (L.map Value.bool).toArray 4)) (some ⟨q, 0, none⟩) L := by
  subst hq
  have h : (w.alloc (.cells (L.map Value.bool).toArray 4)).heap[w.heap.size]? = some (.cells (L.map Value.bool).toArray 4 (0, 0)) := by
    show (w.heap.push _)[w.heap.size]? = _
    simp
  refine fun _ => ⟨w.heap.size, 0, rfl, fun i hi => ?_, .inr ⟨_, h⟩⟩
  rw [cell_of_row _ _ _ _ _ _ h]
  simp [List.getElem?_eq_getElem hi]

theorem stay_later {K : Nat → Prop} {w w1 w2 : World} (h : Stay K w w1) (hK : ∀ b, K b → b < w.heap.size) (hb : Below w1.heap.size w1 w2) : Stay K w w2 := h.trans (Stay.of_below hb (fun b hb' => Nat.lt_of_lt_of_le (hK b hb') h.size))

theorem below_of_stay {w w1 : World} (h : Stay (fun b => b < w.heap.size) w w1) : Below w.heap.size w w1 := h.below (fun _ h => h)

/-- p.Append([]byte{x}). -/
theorem append_one {K : Nat → Prop} {g q : Nat} {s s' : PadS} {c z : Int} {w w1 : World} (x : UInt8) (hz : (x.toNat : Int) = z) (hr : s.append [x] = (s', c)) (hK : ∀ b, K b → b < w.heap.size) (hS : Stay K w w1) (h : PadAt K w1 g s) (hq : w1.heap.size = q) :
    Calls Try.prog 6 #[vP g, .slice (some ⟨q, 0, none⟩) 1 1] (w1.alloc (.cells #[.int .u8 z] 5)) fun e w' => e = .returned (.int .i64 c) ∧ PadAt K w' g s' ∧ Stay K w w' := by
  subst hz
  have hb : Below w1.heap.size w1 (w1.alloc (.cells #[.int .u8 (x.toNat : Int)] 5)) := (Below.refl _ _).alloc (Nat.le_refl _) _
  have hS' := stay_later hS hK hb
  refine (append_of (K := K) (l := [x]) (w1.alloc (.cells #[.int .u8 (x.toNat : Int)] 5)) hr (fun b hb => Nat.lt_of_lt_of_le (hK b hb) hS'.size) (h.later hb) rfl (by simp) (row_one hq).rd).mono ?_
  rintro e w' ⟨rfl, hp, hs⟩
  exact ⟨rfl, hp, hS'.trans hs⟩

/-- p.Crash([]bool{..}, torn). -/
theorem crash_made {K : Nat → Prop} {g q kn : Nat} {s s' : PadS} {torn : Int} {w w1 : World} {cs : Array Value} (L : List Bool) (hcs : cs = (L.map Value.bool).toArray) (hkn : L.length = kn) (hr : s.crash L torn = s') (hK : ∀ b, K b → b < w.heap.size) (hS : Stay K w w1) (h : PadAt K w1 g s) (hq : w1.heap.size = q) (hl : kn ≤ 9223372036854775807) :
    Calls Try.prog 14 #[vP g, .slice (some ⟨q, 0, none⟩) kn kn, .int .i64 torn] (w1.alloc (.cells cs 4)) fun e w' => e = .returned (.tuple #[]) ∧ PadAt K w' g s' ∧ Stay K w w' := by
  subst hcs
  have hb : Below w1.heap.size w1 (w1.alloc (.cells (L.map Value.bool).toArray 4)) := (Below.refl _ _).alloc (Nat.le_refl _) _
  have hS' := stay_later hS hK hb
  refine (crash_of (K := K) (keep := L) (w1.alloc (.cells (L.map Value.bool).toArray 4)) hr (h.later hb) hkn hl (keepR_made L hq)).mono ?_
  rintro e w' ⟨rfl, hp, hs⟩
  exact ⟨rfl, hp, hS'.trans hs⟩

theorem wakes_crash : PadS.crash ⟨[some [1], some [2]], 0, false, 0, 0, [], 0⟩ [true] (-1) = ⟨[some [1], none], 2, true, 1, 0, [], 0⟩ := by
  simp [PadS.crash, spoilTo, kept, wrap64, List.mapIdx_cons]

set_option maxHeartbeats 2000000 in
theorem pwakes_any (w : World) : Calls Try.prog 11 #[] w fun e w' => e = .returned (.bool true) ∧ Below w.heap.size w w' := by
  obtain ⟨K, hKd⟩ : ∃ K : Nat → Prop, K = fun b => b < w.heap.size := ⟨_, rfl⟩
  have HK : Hid (∀ b, K b → b < w.heap.size) := by rw [hKd]; exact fun _ h => h
  have HKB : Hid (∀ w1, Stay K w w1 → Below w.heap.size w w1) := by rw [hKd]; exact fun w1 h => below_of_stay h
  clear hKd
  go_enter Try.func11, Try.ntmps11
  go_wp2_with fail
  refine (new_any K w HK.out).mono ?_
  rintro e w1 ⟨rfl, hp1, hb1⟩
  have HP1 : Hid _ := hp1
  have HS1 : Hid (Stay K w w1) := Stay.of_below hb1 HK.out
  clear hp1 hb1
  generalize w.heap.size = g at HP1 ⊢
  go_wp2_with fail
  refine (append_one (s' := ⟨[some [1]], 0, false, 0, 0, [], 0⟩) 1 rfl rfl HK.out HS1.out HP1.out rfl).mono ?_
  rintro e w2 ⟨rfl, hp2, hs2⟩
  have HP2 : Hid _ := hp2
  have HS2 : Hid _ := hs2
  clear hp2 hs2
  go_wp2_with fail
  refine (append_one (s' := ⟨[some [1], some [2]], 0, false, 0, 0, [], 0⟩) 2 rfl rfl HK.out HS2.out HP2.out rfl).mono ?_
  rintro e w3 ⟨rfl, hp3, hs3⟩
  have HP3 : Hid _ := hp3
  have HS3 : Hid _ := hs3
  clear hp3 hs3
  go_wp2_with fail
  refine (crash_made (s' := ⟨[some [1], none], 2, true, 1, 0, [], 0⟩) (kn := 1) [true] rfl rfl wakes_crash HK.out HS3.out HP3.out rfl (by omega)).mono ?_
  rintro e w4 ⟨rfl, hp4, hs4⟩
  have HP4 : Hid _ := hp4
  have HS4 : Hid _ := hs4
  clear hp4 hs4
  go_wp2_with fail
  refine (start_of (s' := ⟨[some [1], none], 2, false, 1, 0, [], 0⟩) _ rfl HP4.out).mono ?_
  rintro e w5 ⟨rfl, hp5, hs5⟩
  have HP5 : Hid _ := hp5
  have HS5 : Hid _ := HS4.out.trans hs5
  clear hp5 hs5
  go_wp2_with fail
  refine (read_of (r := ([1], 0)) _ rfl HP5.out).mono ?_
  rintro e w6 hg6
  obtain ⟨a6, cap6, rfl, _, hr6, hb6⟩ := hg6.rd
  obtain ⟨b6, o6, rfl, hc6⟩ := hr6 (by simp)
  have x6 := hc6 0 (by simp)
  have HP6 : Hid _ := HP5.out.later hb6
  have HS6 : Hid _ := stay_later HS5.out HK.out hb6
  clear hg6 hr6 hb6 hc6
  go_wp2_with fail
  refine (read_of (r := ([], 13)) _ rfl HP6.out).mono ?_
  rintro e w7 hg7
  obtain ⟨a7, cap7, rfl, _, hr7, hb7⟩ := hg7.rd
  have x7 : w7.cell? ⟨b6, o6, none⟩ = some (.int .u8 1) := cell_later hb7 x6
  have HP7 : Hid _ := HP6.out.later hb7
  have HS7 : Hid _ := stay_later HS6.out HK.out hb7
  clear hg7 hr7 hb7 x6
  go_wp2_with fail
  refine (life_any K g _ _ HP7.out).mono ?_
  rintro e w8 ⟨rfl, hw8⟩
  subst hw8
  go_wp2
  go_ret
  exact ⟨rfl, HKB.out _ HS7.out⟩

end Go.Proofs.Ytdeeagphipfcaab
