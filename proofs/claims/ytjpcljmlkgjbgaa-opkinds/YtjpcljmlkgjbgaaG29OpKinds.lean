/-
  Texts of the proof of OpKinds, one behind the other.
-/
import Derived.Test.YtjpcljmlkgjbgaaRows
import Derived.Test.YtjpcljmlkgjbgaaG28OpKinds
import Derived.Test.YtjpcljmlkgjbgaaG3OpKinds
import Derived.WalkKit
import Derived.WalkSpells
import Derived.Test.YtjpcljmlkgjbgaaG27OpKinds
import Derived.Test.YtjpcljmlkgjbgaaG8OpKinds
import Derived.Deep.QuietTactic
import Derived.BigQuiet
namespace Go.Proofs.Ytjpcljmlkgjbgaa
open Go.RowKit Go.Lib
set_option linter.unusedVariables false

/-- A slice's beginning, and the dots that are read from there on. -/
def RdD (w : World) (a : Option Addr) (ds : List (Int × Int)) : Prop :=
  0 < ds.length → ∃ b off, a = some ⟨b, off, none⟩ ∧ ∀ i (hi : i < ds.length), w.cell? ⟨b, off + i * 2, none⟩ = some (.int .i64 ds[i].1) ∧ w.cell? ⟨b, off + i * 2 + 1, none⟩ = some (.int .i64 ds[i].2)

theorem RdD.later {w w' : World} {a : Option Addr} {ds : List (Int × Int)} (h : RdD w a ds) (hb : Below w.heap.size w w') : RdD w' a ds := by
  intro h0
  obtain ⟨b, off, e, hc⟩ := h h0
  exact ⟨b, off, e, fun i hi => ⟨cell_later hb (hc i hi).1, cell_later hb (hc i hi).2⟩⟩

theorem RdD.nil (w : World) (a : Option Addr) : RdD w a [] := fun h => absurd h (by simp)

theorem addWs_two (s : List UInt8 × Bool) (p k : Int) : addWs s (dotP p k) = addW (addW s (putN p 1)) (putN k 4) := rfl

theorem addWs_three (s : List UInt8 × Bool) (p l q : Int) : addWs s (stampP p l q) = addW (addW (addW s (putN p 6)) (putN l 3)) (putN q 1) := rfl

theorem addW_le {s : List UInt8 × Bool} {n : Int} {size m : Nat} (h : s.1.length + size ≤ m) : (addW s (putN n size)).1.length ≤ m := by
  have h1 := addW_length s (putN n size)
  have h2 := putN_len n size
  omega

theorem beside_lt {K : Nat → Prop} {w : World} (hK : ∀ b, K b → b < w.heap.size) (o : Obj) : ∀ b, (K b ∨ b = w.heap.size) → b < (w.alloc o).heap.size := by
  intro b h
  rcases h with h | h
  · have := hK b h
    simp
    omega
  · simp
    omega

theorem Stay.beside {K : Nat → Prop} {w w' : World} {o : Obj} (hK : ∀ b, K b → b < w.heap.size) (h : Stay (fun b => K b ∨ b = w.heap.size) (w.alloc o) w') : Stay K w w' :=
  ((Stay.refl K w).alloc hK o).trans (h.mono fun b hb => .inl hb)

/-- A block that K names reads as before. -/
theorem Stay.cell {K : Nat → Prop} {w w' : World} (h : Stay K w w') {b o : Nat} (hb : K b) : w'.cell? ⟨b, o, none⟩ = w.cell? ⟨b, o, none⟩ := World.cell?_of_block (w := w) (a := ⟨b, o, none⟩) (h.block b hb)

set_option maxHeartbeats 1000000 in
theorem wDot_any (K : Nat → Prop) (g : Nat) (p k : Int) (s : List UInt8 × Bool) (w : World) (hK : ∀ b, K b → b < w.heap.size) (h : WAt K w g s) (hl : s.1.length ≤ 60000) :
    Calls Try.prog 41 #[vW g, .agg #[.int .i64 p, .int .i64 k]] w fun e w' => e = .returned (.tuple #[]) ∧ WAt K w' g (addWs s (dotP p k)) ∧ Stay K w w' := by
  rw [addWs_two]
  obtain ⟨o, ho⟩ : ∃ o : Obj, o = .cells #[.int .i64 p, .int .i64 k] 25 := ⟨_, rfl⟩
  have HP : Hid (WAt (fun b => K b ∨ b = w.heap.size) (w.alloc o) g s) := h.beside o
  have HK' : Hid (∀ b, (K b ∨ b = w.heap.size) → b < (w.alloc o).heap.size) := beside_lt hK o
  have HKK : Hid (∀ b, K b → b < w.heap.size) := hK
  have hc1 : (w.alloc o).cell? ⟨w.heap.size, 1, none⟩ = some (.int .i64 k) := by
    rw [ho, cell_of_row _ _ _ #[.int .i64 p, .int .i64 k] 25 (0, 0) (by show (w.heap.push _)[w.heap.size]? = _; simp)]
    rfl
  have HC1 : Hid ((w.alloc o).cell? ⟨w.heap.size, 1, none⟩ = some (.int .i64 k)) := hc1
  have HL : Hid ((addW s (putN p 1)).1.length ≤ 65536) := addW_le (by omega)
  rw [ho] at HP HK' HC1
  clear h hc1 ho hK
  go_enter Try.func41, Try.ntmps41
  go_wp2_with fail
  refine (wByte_any (fun b => K b ∨ b = w.heap.size) g p s _ HK'.out HP.out (by omega)).mono ?_
  rintro e w1 ⟨rfl, hp1, hs1⟩
  have x1 : w1.cell? ⟨w.heap.size, 1, none⟩ = some (.int .i64 k) := (hs1.cell (.inr rfl)).trans HC1.out
  have HP1 : Hid _ := hp1
  have HS1 : Hid _ := hs1
  clear hp1 hs1
  go_wp2_with fail
  refine (wNumber_any (fun b => K b ∨ b = w.heap.size) g k 4 _ _ (by omega) (by omega) (fun b hb => Nat.lt_of_lt_of_le (HK'.out b hb) HS1.out.size) HP1.out HL.out).mono ?_
  rintro e w2 ⟨rfl, hp2, hs2⟩
  go_wp2
  go_end0
  exact ⟨rfl, hp2.less (fun b hb => .inl hb), Stay.beside HKK.out (HS1.out.trans hs2)⟩

set_option maxHeartbeats 1000000 in
theorem wStamp_any (K : Nat → Prop) (g : Nat) (p l q : Int) (s : List UInt8 × Bool) (w : World) (hK : ∀ b, K b → b < w.heap.size) (h : WAt K w g s) (hl : s.1.length ≤ 60000) :
    Calls Try.prog 43 #[vW g, .agg #[.int .i64 p, .int .i64 l, .int .i64 q]] w fun e w' => e = .returned (.tuple #[]) ∧ WAt K w' g (addWs s (stampP p l q)) ∧ Stay K w w' := by
  rw [addWs_three]
  obtain ⟨o, ho⟩ : ∃ o : Obj, o = .cells #[.int .i64 p, .int .i64 l, .int .i64 q] 28 := ⟨_, rfl⟩
  have HP : Hid (WAt (fun b => K b ∨ b = w.heap.size) (w.alloc o) g s) := h.beside o
  have HK' : Hid (∀ b, (K b ∨ b = w.heap.size) → b < (w.alloc o).heap.size) := beside_lt hK o
  have HKK : Hid (∀ b, K b → b < w.heap.size) := hK
  have hrow : (w.alloc (.cells #[.int .i64 p, .int .i64 l, .int .i64 q] 28)).heap[w.heap.size]? = some (.cells #[.int .i64 p, .int .i64 l, .int .i64 q] 28 (0, 0)) := by show (w.heap.push _)[w.heap.size]? = _; simp
  have HC1 : Hid ((w.alloc o).cell? ⟨w.heap.size, 1, none⟩ = some (.int .i64 l)) := by
    rw [ho, cell_of_row _ _ _ _ _ _ hrow]
    rfl
  have HC2 : Hid ((w.alloc o).cell? ⟨w.heap.size, 2, none⟩ = some (.int .i64 q)) := by
    rw [ho, cell_of_row _ _ _ _ _ _ hrow]
    rfl
  have hl1 : (addW s (putN p 6)).1.length ≤ 60006 := addW_le (by omega)
  have HL1 : Hid ((addW s (putN p 6)).1.length ≤ 65536) := Nat.le_trans hl1 (by omega)
  have HL2 : Hid ((addW (addW s (putN p 6)) (putN l 3)).1.length ≤ 65536) := addW_le (by omega)
  rw [ho] at HP HK' HC1 HC2
  clear h ho hrow hl1 hK
  go_enter Try.func43, Try.ntmps43
  go_wp2_with fail
  refine (wNumber_any (fun b => K b ∨ b = w.heap.size) g p 6 s _ (by omega) (by omega) HK'.out HP.out (by omega)).mono ?_
  rintro e w1 ⟨rfl, hp1, hs1⟩
  have x1 : w1.cell? ⟨w.heap.size, 1, none⟩ = some (.int .i64 l) := (hs1.cell (.inr rfl)).trans HC1.out
  have X2 : Hid (w1.cell? ⟨w.heap.size, 2, none⟩ = some (.int .i64 q)) := (hs1.cell (.inr rfl)).trans HC2.out
  have HP1 : Hid _ := hp1
  have HS1 : Hid _ := hs1
  clear hp1 hs1
  go_wp2_with fail
  refine (wNumber_any (fun b => K b ∨ b = w.heap.size) g l 3 _ _ (by omega) (by omega) (fun b hb => Nat.lt_of_lt_of_le (HK'.out b hb) HS1.out.size) HP1.out HL1.out).mono ?_
  rintro e w2 ⟨rfl, hp2, hs2⟩
  have x2 : w2.cell? ⟨w.heap.size, 2, none⟩ = some (.int .i64 q) := (hs2.cell (.inr rfl)).trans X2.out
  have HP2 : Hid _ := hp2
  have HS2 : Hid _ := HS1.out.trans hs2
  clear hp2 hs2 x1
  go_wp2_with fail
  refine (wByte_any (fun b => K b ∨ b = w.heap.size) g q _ _ (fun b hb => Nat.lt_of_lt_of_le (HK'.out b hb) HS2.out.size) HP2.out HL2.out).mono ?_
  rintro e w3 ⟨rfl, hp3, hs3⟩
  go_wp2
  go_end0
  exact ⟨rfl, hp3.less (fun b hb => .inl hb), Stay.beside HKK.out (HS2.out.trans hs3)⟩

/-- What a Writer tells. -/
theorem wBytes_any (K : Nat → Prop) (g : Nat) (s : List UInt8 × Bool) (w : World) (h : WAt K w g s) (hl : s.1.length ≤ 1048576) :
    Calls Try.prog 47 #[vW g] w fun e w' => w' = w ∧ ∃ a cap, e = .returned (.tuple #[.slice a (tellW s).1.length cap, .int .i64 (tellW s).2]) ∧ (tellW s).1.length ≤ cap ∧ Own w 0 (.slice a (tellW s).1.length cap) (tellW s).1 ∧ Rd w a (tellW s).1 ∧ (a = none → (tellW s).1 = [] ∧ cap = 0) ∧ ∀ r, (Value.slice a (tellW s).1.length cap).ownBlock = some r → ¬ K r := by
  obtain ⟨v, hb, ho, h3⟩ := h.lies
  obtain ⟨c0, c1⟩ := hb.cells
  by_cases hbad : s.2 = true
  · have e : tellW s = ([], 1) := if_pos hbad
    rw [e]
    rw [hbad] at c1
    have T : Calls Try.prog 47 #[vW g] w fun e w' => e = .returned (.tuple #[.slice none 0 0, .int .i64 1]) ∧ w' = w := by
      clear hb ho h3 h e hbad
      go_enter Try.func47, Try.ntmps47
      go_wp2
      go_ret2
      exact ⟨rfl, rfl⟩
    refine T.mono ?_
    rintro e w' ⟨rfl, rfl⟩
    exact ⟨rfl, none, 0, rfl, Nat.le_refl _, Own.nought _ _, Rd.nil _ _, fun _ => ⟨rfl, rfl⟩, fun r h => by cases h⟩
  · have e : tellW s = (s.1, 0) := if_neg hbad
    have hbad' : s.2 = false := by simpa using hbad
    rw [e]
    rw [hbad'] at c1
    obtain ⟨a, cap, rfl, hc, hrd, hnil⟩ := ho.form
    have T : Calls Try.prog 47 #[vW g] w fun e w' => e = .returned (.tuple #[.slice a s.1.length cap, .int .i64 0]) ∧ w' = w := by
      clear hb ho h3 h e hbad hbad' hrd hnil
      go_enter Try.func47, Try.ntmps47
      go_wp2
      go_ret2
      exact ⟨rfl, rfl⟩
    refine T.mono ?_
    rintro e w' ⟨rfl, rfl⟩
    exact ⟨rfl, a, cap, rfl, hc, ho, hrd, hnil, h3⟩

end Go.Proofs.Ytjpcljmlkgjbgaa

namespace Go.Proofs.Ytjpcljmlkgjbgaa
open Go.RowKit Go.Lib
set_option linter.unusedVariables false

theorem vecP_length (v : List Int) : (vecP v).length = v.length + 1 := by simp [vecP]

theorem vecP_small (v : List Int) : ∀ o ∈ vecP v, lenO o ≤ 4 := by
  intro o ho
  simp only [vecP, List.mem_cons, List.mem_map] at ho
  rcases ho with rfl | ⟨n, _, rfl⟩
  · unfold putC
    split
    · simp [lenO]
    · exact Nat.le_trans (putN_len _ _) (by omega)
  · exact putN_len n 4

/-- Behind k numbers of a vector. -/
def vecTo (s : List UInt8 × Bool) (v : List Int) (k : Nat) : List UInt8 × Bool := addWs s (putC v.length 1 5 :: (v.take k).map fun n => putN n 4)

theorem vecTo_zero (s : List UInt8 × Bool) (v : List Int) : vecTo s v 0 = addW s (putC v.length 1 5) := rfl

theorem vecTo_succ (s : List UInt8 × Bool) (v : List Int) (k : Nat) (h : k < v.length) : vecTo s v (k + 1) = addW (vecTo s v k) (putN v[k] 4) := by
  unfold vecTo
  rw [List.take_succ_eq_append_getElem h, List.map_append, ← List.cons_append, addWs_append]
  rfl

theorem vecTo_all (s : List UInt8 × Bool) (v : List Int) : vecTo s v v.length = addWs s (vecP v) := by simp [vecTo, vecP]

/-- Of too many numbers nothing is written. -/
theorem vecTo_le (s : List UInt8 × Bool) (v : List Int) (k : Nat) (h : s.1.length ≤ 50000) (hv : v.length ≤ 65536) : (vecTo s v k).1.length ≤ 60000 := by
  by_cases hc : 5 < v.length
  · have e : vecTo s v k = addW s none := by
      unfold vecTo
      rw [addWs_cons, show putC v.length 1 5 = none from if_pos hc, addWs_bad rfl]
    rw [e]
    simp only [addW]
    omega
  · unfold vecTo
    have := addWs_length s (putC v.length 1 5 :: (v.take k).map fun n => putN n 4) 4 (by
      intro o ho
      simp only [List.mem_cons, List.mem_map] at ho
      rcases ho with rfl | ⟨n, _, rfl⟩
      · rw [show putC v.length 1 5 = putN (v.length : Int) 1 from if_neg hc]
        exact Nat.le_trans (putN_len _ _) (by omega)
      · exact putN_len n 4)
    simp only [List.length_cons, List.length_map, List.length_take] at this
    omega

set_option maxHeartbeats 1000000 in
theorem wVector_any (K : Nat → Prop) (g : Nat) (a : Option Addr) (n cap : Nat) (v : List Int) (s : List UInt8 × Bool) (w : World) (hK : ∀ b, K b → b < w.heap.size) (h : WAt K w g s) (hn : v.length = n) (h64 : n ≤ 65536) (hl : s.1.length ≤ 50000) (hr : RdI .i64 w a v) (hr2 : 0 < n → ∀ b o, a = some ⟨b, o, none⟩ → K b) :
    Calls Try.prog 42 #[vW g, .slice a n cap] w fun e w' => e = .returned (.tuple #[]) ∧ WAt K w' g (addWs s (vecP v)) ∧ Stay K w w' := by
  have HN : Hid (v.length = n) := hn
  have HP : Hid (WAt K w g s) := h
  have HK : Hid (∀ b, K b → b < w.heap.size) := hK
  have HR : Hid (RdI .i64 w a v) := hr
  have HR2 : Hid (0 < n → ∀ b o, a = some ⟨b, o, none⟩ → K b) := hr2
  have HV : Hid (∀ k, (vecTo s v k).1.length ≤ 60000) := fun k => vecTo_le s v k hl (by omega)
  clear h hn hK hr hr2
  rw [← vecTo_all]
  go_enter Try.func42, Try.ntmps42
  go_wp2_with fail
  refine (wCount_any K g n 1 5 s _ (by omega) (by omega) (by omega) (by omega) HK.out HP.out (by omega)).mono ?_
  rintro e w1 ⟨rfl, hp1, hs1⟩
  have HP1 : Hid (WAt K w1 g (vecTo s v 0)) := by
    rw [vecTo_zero, HN.out]
    exact hp1
  have HS1 : Hid (Stay K w w1) := hs1
  clear hp1 hs1
  go_wp2_with fail
  go_loopw [12] (fun i wr => ∃ k : Nat, k ≤ n ∧ i = .int .i64 k ∧ Hid (WAt K wr g (vecTo s v k)) ∧ Hid (Stay K w wr)) (fun i _ => n - (RowKit.intOf i).toNat)
  case atStart => exact ⟨0, Nat.zero_le _, rfl, HP1, HS1⟩
  case round =>
    obtain ⟨k, hk, rfl, hP, hS⟩ := hrel
    clear HP1 HS1
    by_cases hlt : k < n
    · have hkv : k < v.length := by rw [HN.out]; exact hlt
      obtain ⟨b, off, rfl, hc⟩ := HR.out (by omega)
      have x0 : wr.cell? ⟨b, off + k, none⟩ = some (.int .i64 v[k]) := (hS.out.cell (HR2.out (by omega) b off rfl)).trans (hc k hkv)
      have HE : Hid (vecTo s v (k + 1) = addW (vecTo s v k) (putN v[k] 4)) := vecTo_succ s v k hkv
      clear hc
      go_wp2_with fail
      refine (wNumber_any K g v[k] 4 _ _ (by omega) (by omega) (fun b hb => Nat.lt_of_lt_of_le (HK.out b hb) hS.out.size) hP.out (Nat.le_trans (HV.out k) (by omega))).mono ?_
      rintro e w2 ⟨rfl, hp2, hs2⟩
      rw [← HE.out] at hp2
      have HP2 : Hid _ := hp2
      have HS2 : Hid _ := hS.out.trans hs2
      clear hp2 hs2
      go_wp2
      exact ⟨⟨k + 1, by omega, by go_num, HP2.out, HS2.out⟩, by simp [RowKit.intOf]; omega⟩
    · obtain rfl : k = n := by omega
      have HPn : Hid (WAt K wr g (vecTo s v v.length)) := by
        rw [HN.out]
        exact hP.out
      go_wp2
      go_end0
      exact ⟨rfl, HPn.out, hS.out⟩

/-- Behind k dots. -/
def dotsTo (s : List UInt8 × Bool) (most : Nat) (ds : List (Int × Int)) (k : Nat) : List UInt8 × Bool := addWs s (putC ds.length 1 most :: (ds.take k).flatMap fun d => dotP d.1 d.2)

theorem dotsTo_zero (s : List UInt8 × Bool) (most : Nat) (ds : List (Int × Int)) : dotsTo s most ds 0 = addW s (putC ds.length 1 most) := rfl

theorem dotsTo_succ (s : List UInt8 × Bool) (most : Nat) (ds : List (Int × Int)) (k : Nat) (h : k < ds.length) : dotsTo s most ds (k + 1) = addWs (dotsTo s most ds k) (dotP ds[k].1 ds[k].2) := by
  unfold dotsTo
  rw [List.take_succ_eq_append_getElem h, List.flatMap_append, ← List.cons_append, addWs_append]
  simp [List.flatMap_cons]

theorem dotsTo_all (s : List UInt8 × Bool) (most : Nat) (ds : List (Int × Int)) : dotsTo s most ds ds.length = addWs s (dotsP most ds) := by simp [dotsTo, dotsP]

theorem dotsTo_le (s : List UInt8 × Bool) (most : Nat) (ds : List (Int × Int)) (k : Nat) (h : s.1.length ≤ 50000) (hm : most ≤ 255) : (dotsTo s most ds k).1.length ≤ 59000 := by
  by_cases hc : most < ds.length
  · have e : dotsTo s most ds k = addW s none := by
      unfold dotsTo
      rw [addWs_cons, show putC ds.length 1 most = none from if_pos hc, addWs_bad rfl]
    rw [e]
    simp only [addW]
    omega
  · unfold dotsTo
    have := addWs_length s (putC ds.length 1 most :: (ds.take k).flatMap fun d => dotP d.1 d.2) 4 (by
      intro o ho
      simp only [List.mem_cons, List.mem_flatMap, dotP] at ho
      rcases ho with rfl | ⟨n, _, h | h | h⟩
      · rw [show putC ds.length 1 most = putN (ds.length : Int) 1 from if_neg hc]
        exact Nat.le_trans (putN_len _ _) (by omega)
      · rw [h]
        exact Nat.le_trans (putN_len _ _) (by omega)
      · rw [h]
        exact putN_len _ _
      · cases h)
    have e2 : ((ds.take k).flatMap fun d => dotP d.1 d.2).length ≤ 510 := by
      have : ∀ l : List (Int × Int), (l.flatMap fun d => dotP d.1 d.2).length = l.length * 2 := by
        intro l
        induction l with
        | nil => rfl
        | cons x l ih => simp [dotP] at *; omega
      rw [this]
      simp
      omega
    simp only [List.length_cons] at this
    omega

set_option maxHeartbeats 1000000 in
theorem wDots_any (K : Nat → Prop) (g : Nat) (a : Option Addr) (n cap most : Nat) (ds : List (Int × Int)) (s : List UInt8 × Bool) (w : World) (hK : ∀ b, K b → b < w.heap.size) (h : WAt K w g s) (hn : ds.length = n) (h64 : n ≤ 9223372036854775807) (hm : most ≤ 255) (hl : s.1.length ≤ 50000) (hr : RdD w a ds) (hr2 : 0 < n → ∀ b o, a = some ⟨b, o, none⟩ → K b) :
    Calls Try.prog 46 #[vW g, .slice a n cap, .int .i64 (most : Int)] w fun e w' => e = .returned (.tuple #[]) ∧ WAt K w' g (addWs s (dotsP most ds)) ∧ Stay K w w' := by
  have HN : Hid (ds.length = n) := hn
  have HP : Hid (WAt K w g s) := h
  have HK : Hid (∀ b, K b → b < w.heap.size) := hK
  have HR : Hid (RdD w a ds) := hr
  have HR2 : Hid (0 < n → ∀ b o, a = some ⟨b, o, none⟩ → K b) := hr2
  have HV : Hid (∀ k, (dotsTo s most ds k).1.length ≤ 59000) := fun k => dotsTo_le s most ds k hl hm
  clear h hn hK hr hr2
  rw [← dotsTo_all]
  go_enter Try.func46, Try.ntmps46
  go_wp2_with fail
  refine (wCount_any K g n 1 most s _ (by omega) (by omega) (by omega) (by omega) HK.out HP.out (by omega)).mono ?_
  rintro e w1 ⟨rfl, hp1, hs1⟩
  have HP1 : Hid (WAt K w1 g (dotsTo s most ds 0)) := by
    rw [dotsTo_zero, HN.out]
    exact hp1
  have HS1 : Hid (Stay K w w1) := hs1
  clear hp1 hs1
  go_wp2_with fail
  go_loopw [15] (fun i wr => ∃ k : Nat, k ≤ n ∧ i = .int .i64 k ∧ Hid (WAt K wr g (dotsTo s most ds k)) ∧ Hid (Stay K w wr)) (fun i _ => n - (RowKit.intOf i).toNat)
  case atStart => exact ⟨0, Nat.zero_le _, rfl, HP1, HS1⟩
  case round =>
    obtain ⟨k, hk, rfl, hP, hS⟩ := hrel
    clear HP1 HS1
    by_cases hlt : k < n
    · have hkv : k < ds.length := by rw [HN.out]; exact hlt
      obtain ⟨b, off, rfl, hc⟩ := HR.out (by omega)
      have x0 : wr.cell? ⟨b, off + k * 2, none⟩ = some (.int .i64 ds[k].1) := (hS.out.cell (HR2.out (by omega) b off rfl)).trans (hc k hkv).1
      have x1 : wr.cell? ⟨b, off + k * 2 + 1, none⟩ = some (.int .i64 ds[k].2) := (hS.out.cell (HR2.out (by omega) b off rfl)).trans (hc k hkv).2
      have HE : Hid (dotsTo s most ds (k + 1) = addWs (dotsTo s most ds k) (dotP ds[k].1 ds[k].2)) := dotsTo_succ s most ds k hkv
      clear hc
      go_wp2_with fail
      refine (wDot_any K g ds[k].1 ds[k].2 _ _ (by exact fun b hb => Nat.lt_of_lt_of_le (HK.out b hb) (Nat.le_trans hS.out.size (by simp))) (by exact hP.out.later ((Below.refl _ _).alloc (Nat.le_refl _) _)) (Nat.le_trans (HV.out k) (by omega))).mono ?_
      rintro e w2 ⟨rfl, hp2, hs2⟩
      rw [← HE.out] at hp2
      have HP2 : Hid _ := hp2
      have HS2 : Hid (Stay K w w2) := (stay_later hS.out HK.out ((Below.refl _ _).alloc (Nat.le_refl _) _)).trans hs2
      clear hp2 hs2
      go_wp2
      exact ⟨⟨k + 1, by omega, by go_num, HP2.out, HS2.out⟩, by simp [RowKit.intOf]; omega⟩
    · obtain rfl : k = n := by omega
      have HPn : Hid (WAt K wr g (dotsTo s most ds ds.length)) := by
        rw [HN.out]
        exact hP.out
      go_wp2
      go_end0
      exact ⟨rfl, HPn.out, hS.out⟩

end Go.Proofs.Ytjpcljmlkgjbgaa

namespace Go.Proofs.Ytjpcljmlkgjbgaa
open Go.RowKit Go.Lib
set_option linter.unusedVariables false

/-- A Reader's box. -/
def RBox (w : World) (g : Nat) (v : Value) (s : Int × Int) : Prop := w.heap[g]? = some (.cells #[v, .int .i64 s.1, .int .i64 s.2] 105 (0, 0))

theorem RBox.made {w : World} {g : Nat} {v : Value} {s : Int × Int} (hg : w.heap.size = g) : RBox (w.alloc (.cells #[v, .int .i64 s.1, .int .i64 s.2] 105)) g v s := by
  subst hg
  show (w.heap.push _)[w.heap.size]? = _
  simp

theorem RBox.lt {w : World} {g : Nat} {v : Value} {s : Int × Int} (h : RBox w g v s) : g < w.heap.size := heap_lt h

theorem RBox.free {w : World} {g : Nat} {v : Value} {s : Int × Int} (h : RBox w g v s) (i : Nat) : w.frozen? ⟨g, i, none⟩ = false := by
  unfold RBox at h
  simp [World.frozen?, h]

theorem RBox.cells {w : World} {g : Nat} {v : Value} {s : Int × Int} (h : RBox w g v s) : w.cell? ⟨g, 0, none⟩ = some v ∧ w.cell? ⟨g, 1, none⟩ = some (.int .i64 s.1) ∧ w.cell? ⟨g, 2, none⟩ = some (.int .i64 s.2) := by
  refine ⟨?_, ?_, ?_⟩ <;> (rw [cell_of_row w g _ _ _ _ h]; rfl)

theorem RBox.set1 {w : World} {g : Nat} {v : Value} {s : Int × Int} (h : RBox w g v s) (p : Int) : RBox (w.setCell ⟨g, 1, none⟩ (.int .i64 p)) g v (p, s.2) := by
  unfold RBox at h ⊢
  rw [Go.heap_setCell_same _ _ _ _ _ _ h]
  rfl

theorem RBox.set2 {w : World} {g : Nat} {v : Value} {s : Int × Int} (h : RBox w g v s) (p : Int) : RBox (w.setCell ⟨g, 2, none⟩ (.int .i64 p)) g v (s.1, p) := by
  unfold RBox at h ⊢
  rw [Go.heap_setCell_same _ _ _ _ _ _ h]
  rfl

/-- All but the box at g stays. -/
def Aside (g : Nat) (w w' : World) : Prop := Stay (fun b => b ≠ g ∧ b < w.heap.size) w w'

theorem Aside.refl (g : Nat) (w : World) : Aside g w w := Stay.refl _ w

theorem Aside.trans {g : Nat} {a b c : World} (h : Aside g a b) (k : Aside g b c) : Aside g a c :=
  Stay.trans h (Stay.mono k fun x hx => ⟨hx.1, Nat.lt_of_lt_of_le hx.2 h.size⟩)

theorem Aside.of_below {g : Nat} {w w' : World} (h : Below w.heap.size w w') : Aside g w w' := Stay.of_below h fun b hb => hb.2

theorem Aside.cell {g : Nat} {w w' : World} (h : Aside g w w') {b o : Nat} (hg : b ≠ g) (hb : b < w.heap.size) : w'.cell? ⟨b, o, none⟩ = w.cell? ⟨b, o, none⟩ := Stay.cell h ⟨hg, hb⟩

theorem Aside.below {g : Nat} {w w' : World} (h : Aside g w w') (hg : w.heap.size ≤ g) : Below w.heap.size w w' := Stay.below h fun b hb => ⟨by omega, hb⟩

/-- Blocks below B stay, be w before or behind it. -/
theorem Aside.below_from {g : Nat} {w0 w w' : World} (h : Aside g w w') (h0 : Below w0.heap.size w0 w) (hg : w0.heap.size ≤ g) : Below w0.heap.size w0 w' :=
  h0.trans (Stay.below h fun b hb => ⟨by omega, Nat.lt_of_lt_of_le hb h0.size⟩)

/-- A Reader at g stands over these bytes. -/
structure RAt (w : World) (g : Nat) (a : Option Addr) (len cap : Nat) (l : List UInt8) (s : Int × Int) : Prop where
  box : RBox w g (.slice a len cap) s
  rd : Rd w a l
  src : ∀ b o, a = some ⟨b, o, none⟩ → b ≠ g ∧ b < w.heap.size
  hlen : l.length = len
  hl : len ≤ 1048576
  hcap : len ≤ cap

theorem RAt.to {w w' : World} {g : Nat} {a : Option Addr} {len cap : Nat} {l : List UInt8} {s s' : Int × Int} (h : RAt w g a len cap l s) (hs : Aside g w w') (hb : RBox w' g (.slice a len cap) s') : RAt w' g a len cap l s' := by
  refine ⟨hb, ?_, fun b o e => ⟨(h.src b o e).1, Nat.lt_of_lt_of_le (h.src b o e).2 hs.size⟩, h.hlen, h.hl, h.hcap⟩
  intro h0
  obtain ⟨b, off, rfl, hc⟩ := h.rd h0
  exact ⟨b, off, rfl, fun i hi => (hs.cell (h.src b off rfl).1 (h.src b off rfl).2).trans (hc i hi)⟩

theorem RAt.later {w w' : World} {g : Nat} {a : Option Addr} {len cap : Nat} {l : List UInt8} {s : Int × Int} (h : RAt w g a len cap l s) (hb : Below w.heap.size w w') : RAt w' g a len cap l s :=
  h.to (Aside.of_below hb) ((hb.block g h.box.lt).trans h.box)

/-- Both numbers are written. -/
theorem RAt.both {w : World} {g : Nat} {a : Option Addr} {len cap : Nat} {l : List UInt8} {s : Int × Int} (h : RAt w g a len cap l s) (p e : Int) :
    RAt ((w.setCell ⟨g, 1, none⟩ (.int .i64 p)).setCell ⟨g, 2, none⟩ (.int .i64 e)) g a len cap l (p, e) ∧ Aside g w ((w.setCell ⟨g, 1, none⟩ (.int .i64 p)).setCell ⟨g, 2, none⟩ (.int .i64 e)) := by
  have hs : Aside g w ((w.setCell ⟨g, 1, none⟩ (.int .i64 p)).setCell ⟨g, 2, none⟩ (.int .i64 e)) :=
    Stay.setCell (p := ⟨g, 2, none⟩) (Stay.setCell (p := ⟨g, 1, none⟩) (Stay.refl _ w) (fun h => h.1 rfl) _) (fun h => h.1 rfl) _
  exact ⟨h.to hs ((h.box.set1 p).set2 e), hs⟩

theorem RAt.spoil {w : World} {g : Nat} {a : Option Addr} {len cap : Nat} {l : List UInt8} {s : Int × Int} (h : RAt w g a len cap l s) (e : Int) :
    RAt (w.setCell ⟨g, 2, none⟩ (.int .i64 e)) g a len cap l (s.1, e) ∧ Aside g w (w.setCell ⟨g, 2, none⟩ (.int .i64 e)) := by
  have hs : Aside g w (w.setCell ⟨g, 2, none⟩ (.int .i64 e)) := Stay.setCell (p := ⟨g, 2, none⟩) (Stay.refl _ w) (fun h => h.1 rfl) _
  exact ⟨h.to hs (h.box.set2 e), hs⟩

theorem RAt.drewN {w : World} {g : Nat} {a : Option Addr} {len cap : Nat} {l : List UInt8} {s : Int × Int} (h : RAt w g a len cap l s) (n : Nat) : RAt (w.drewN n) g a len cap l s := h.to (Stay.drewN (Stay.refl _ w) n) h.box

theorem Aside.drewN {g : Nat} {w : World} (n : Nat) : Aside g w (w.drewN n) := Stay.drewN (Stay.refl _ w) n

/-- A Reader's pointer. -/
abbrev vR (g : Nat) : Value := .pointer (some ⟨g, 0, none⟩)

/-- The closure that Number hands to Take. -/
theorem num1_any (a : Option Addr) (len cap : Nat) (p size : Int) (c : Nat) (l : List UInt8) (w : World) (hlen : l.length = len) (hl : len ≤ 1048576) (hcap : len ≤ cap) (hr : Rd w a l) (hc : w.cell? ⟨c, 0, none⟩ = some (.int .i64 size)) :
    Calls Try.prog 103 #[.slice a len cap, .int .i64 p, .pointer (some ⟨c, 0, none⟩)] w fun e w' => e = .returned (.tuple #[.int .i64 (rGet l p size).1, .int .i64 (rGet l p size).2.1, .int .i64 (rGet l p size).2.2]) ∧ w' = w := by
  have C := get_any a len cap p size l w hlen hl hcap hr
  generalize rGet l p size = r at C ⊢
  clear hlen hr
  go_enter Try.func103, Try.ntmps103
  go_wp2_with fail
  refine C.mono ?_
  rintro e w1 ⟨rfl, hw1⟩
  subst hw1
  clear C
  go_wp2
  go_ret3
  exact ⟨rfl, rfl⟩

/-- A number that is taken. -/
def takeN (l : List UInt8) (s : Int × Int) (size : Int) : Int × (Int × Int) := if s.2 = 0 then ((rGet l s.1 size).1, ((rGet l s.1 size).2.1, (rGet l s.1 size).2.2)) else (0, s)

/-- A text that is taken. -/
def takeT (l : List UInt8) (s : Int × Int) : ByteArray × (Int × Int) := if s.2 = 0 then (⟨(rGetText l s.1).1.toArray⟩, ((rGetText l s.1).2.1, (rGetText l s.1).2.2)) else (ByteArray.empty, s)

set_option maxHeartbeats 2000000 in
theorem takeInt_any (g c : Nat) (a : Option Addr) (len cap : Nat) (l : List UInt8) (s : Int × Int) (size : Int) (w : World) (h : RAt w g a len cap l s) (hc : w.cell? ⟨c, 0, none⟩ = some (.int .i64 size)) :
    Calls Try.prog 102 #[vR g, .func (.func 103) #[] #[.pointer (some ⟨c, 0, none⟩)]] w fun e w' => e = .returned (.int .i64 (takeN l s size).1) ∧ RAt w' g a len cap l (takeN l s size).2 ∧ Aside g w w' := by
  obtain ⟨c0, c1, c2⟩ := h.box.cells
  by_cases h0 : s.2 = 0
  · have e : takeN l s size = ((rGet l s.1 size).1, ((rGet l s.1 size).2.1, (rGet l s.1 size).2.2)) := if_pos h0
    rw [e]
    rw [h0] at c2
    have f1 := h.box.free 1
    have f2 := h.box.free 2
    have C := fun (n : Nat) => num1_any a len cap s.1 size c l (w.drewN n) h.hlen h.hl h.hcap h.rd hc
    generalize rGet l s.1 size = r at C ⊢
    have HC : Hid _ := C
    have HP : Hid (RAt (w.drewN 1) g a len cap l s) := h.drewN 1
    clear C e h hc h0
    go_enter Try.func102, Try.ntmps102
    go_wp2_with fail
    go_region_with (first | (go_at_call 103; refine (HC.out _).mono ?_; rintro e w1 ⟨rfl, hw1⟩; subst hw1))
    all_goals
      go_wp2
      go_ret
      exact ⟨rfl, (HP.out.both _ _).1, (Aside.drewN 1).trans (HP.out.both _ _).2⟩
  · have e : takeN l s size = (0, s) := if_neg h0
    rw [e]
    have d0 : (s.2 == 0) = false := by simpa using h0
    have HP : Hid (RAt w g a len cap l s) := h
    clear h0 h e hc
    go_enter Try.func102, Try.ntmps102
    go_wp2
    go_ret
    exact ⟨rfl, HP.out, Aside.refl g w⟩

set_option maxHeartbeats 2000000 in
theorem takeText_any (g : Nat) (a : Option Addr) (len cap : Nat) (l : List UInt8) (s : Int × Int) (w : World) (h : RAt w g a len cap l s) :
    Calls Try.prog 66 #[vR g, .func (.func 67) #[] #[]] w fun e w' => e = .returned (.string (takeT l s).1) ∧ RAt w' g a len cap l (takeT l s).2 ∧ Aside g w w' := by
  obtain ⟨c0, c1, c2⟩ := h.box.cells
  by_cases h0 : s.2 = 0
  · have e : takeT l s = (⟨(rGetText l s.1).1.toArray⟩, ((rGetText l s.1).2.1, (rGetText l s.1).2.2)) := if_pos h0
    rw [e]
    rw [h0] at c2
    have C := fun (n : Nat) => getText_any a len cap s.1 l (w.drewN n) h.hlen h.hl h.hcap h.rd
    generalize rGetText l s.1 = r at C ⊢
    have HC : Hid _ := C
    have HP : Hid (∀ n, RAt (w.drewN n) g a len cap l s) := h.drewN
    clear C e h h0
    go_enter Try.func66, Try.ntmps66
    go_wp2_with fail
    go_region_with (first | (go_at_call 67; refine (HC.out _).mono ?_; rintro e w1 ⟨rfl, hw1⟩; have HP1 : Hid (RAt w1 g a len cap l s) := (HP.out _).later hw1; have x1 := HP1.out.box.cells.2.1; have x2 := HP1.out.box.cells.2.2; have f1 := HP1.out.box.free 1; have f2 := HP1.out.box.free 2; have HS1 : Hid (Aside g w w1) := (Aside.drewN _).trans (Aside.of_below hw1); clear hw1))
    all_goals
      go_wp2
      go_ret
      exact ⟨rfl, (HP1.out.both _ _).1, HS1.out.trans (HP1.out.both _ _).2⟩
  · have e : takeT l s = (ByteArray.empty, s) := if_neg h0
    rw [e]
    have d0 : (s.2 == 0) = false := by simpa using h0
    have HP : Hid (RAt w g a len cap l s) := h
    clear h0 h e
    go_enter Try.func66, Try.ntmps66
    go_wp2
    go_ret
    exact ⟨rfl, HP.out, Aside.refl g w⟩

set_option maxHeartbeats 1000000 in
theorem rNumber_any (g : Nat) (a : Option Addr) (len cap : Nat) (l : List UInt8) (s : Int × Int) (size : Int) (w : World) (h : RAt w g a len cap l s) :
    Calls Try.prog 64 #[vR g, .int .i64 size] w fun e w' => e = .returned (.int .i64 (takeN l s size).1) ∧ RAt w' g a len cap l (takeN l s size).2 ∧ Aside g w w' := by
  obtain ⟨o, ho⟩ : ∃ o : Obj, o = .cells #[.int .i64 size] 3 := ⟨_, rfl⟩
  have hb : Below w.heap.size w (w.alloc o) := (Below.refl _ w).alloc (Nat.le_refl _) _
  have HP : Hid (RAt (w.alloc o) g a len cap l s) := h.later hb
  have HC : Hid ((w.alloc o).cell? ⟨w.heap.size, 0, none⟩ = some (.int .i64 size)) := by
    rw [ho, cell_of_row _ _ _ #[.int .i64 size] 3 (0, 0) (by show (w.heap.push _)[w.heap.size]? = _; simp)]
    rfl
  have HS : Hid (Aside g w (w.alloc o)) := Aside.of_below hb
  have hmf : ∀ (fn : Fn) (first cap : Array Value) (w : World), (Instr.makeFunc fn first cap).run Try.prog w = .ok (.func fn first cap) w := fun _ _ _ _ => rfl
  rw [ho] at HP HC HS
  clear h hb ho
  go_enter Try.func64, Try.ntmps64
  go_wp2_with fail
  refine (takeInt_any g w.heap.size a len cap l s size _ HP.out HC.out).mono ?_
  rintro e w1 ⟨rfl, hp1, hs1⟩
  have HP1 : Hid _ := hp1
  have HS1 : Hid _ := HS.out.trans hs1
  clear hp1 hs1 HP HC HS
  go_wp2
  go_ret
  exact ⟨rfl, HP1.out, HS1.out⟩

theorem rByte_any (g : Nat) (a : Option Addr) (len cap : Nat) (l : List UInt8) (s : Int × Int) (w : World) (h : RAt w g a len cap l s) :
    Calls Try.prog 23 #[vR g] w fun e w' => e = .returned (.int .i64 (takeN l s 1).1) ∧ RAt w' g a len cap l (takeN l s 1).2 ∧ Aside g w w' := by
  have HP : Hid (RAt w g a len cap l s) := h
  clear h
  go_enter Try.func23, Try.ntmps23
  go_wp2_with fail
  refine (rNumber_any g a len cap l s 1 _ HP.out).mono ?_
  rintro e w1 ⟨rfl, hp1, hs1⟩
  go_wp2
  go_ret
  exact ⟨rfl, hp1, hs1⟩

theorem rText_any (g : Nat) (a : Option Addr) (len cap : Nat) (l : List UInt8) (s : Int × Int) (w : World) (h : RAt w g a len cap l s) :
    Calls Try.prog 27 #[vR g] w fun e w' => e = .returned (.string (takeT l s).1) ∧ RAt w' g a len cap l (takeT l s).2 ∧ Aside g w w' := by
  have HP : Hid (RAt w g a len cap l s) := h
  clear h
  go_enter Try.func27, Try.ntmps27
  go_wp2_with fail
  refine (takeText_any g a len cap l s _ HP.out).mono ?_
  rintro e w1 ⟨rfl, hp1, hs1⟩
  go_wp2
  go_ret
  exact ⟨rfl, hp1, hs1⟩

/-- A count that is taken. -/
def takeC (l : List UInt8) (s : Int × Int) (size most : Int) : Int × (Int × Int) := if most < (takeN l s size).1 then (0, ((takeN l s size).2.1, 3)) else takeN l s size

set_option maxHeartbeats 1000000 in
theorem rCount_any (g : Nat) (a : Option Addr) (len cap : Nat) (l : List UInt8) (s : Int × Int) (size most : Int) (w : World) (h : RAt w g a len cap l s) :
    Calls Try.prog 65 #[vR g, .int .i64 size, .int .i64 most] w fun e w' => e = .returned (.int .i64 (takeC l s size most).1) ∧ RAt w' g a len cap l (takeC l s size most).2 ∧ Aside g w w' := by
  have C := rNumber_any g a len cap l s size w h
  unfold takeC
  generalize takeN l s size = r at C ⊢
  clear h
  by_cases hm : most < r.1
  · rw [if_pos hm]
    go_enter Try.func65, Try.ntmps65
    go_wp2_with fail
    refine C.mono ?_
    rintro e w1 ⟨rfl, hp1, hs1⟩
    have HP1 : Hid _ := hp1
    have HS1 : Hid _ := hs1
    have x2 := hp1.box.cells.2.2
    have f2 := hp1.box.free 2
    clear hp1 hs1 C
    go_wp2
    go_ret
    exact ⟨rfl, (HP1.out.spoil 3).1, Aside.trans HS1.out (HP1.out.spoil 3).2⟩
  · rw [if_neg hm]
    go_enter Try.func65, Try.ntmps65
    go_wp2_with fail
    refine C.mono ?_
    rintro e w1 ⟨rfl, hp1, hs1⟩
    have HP1 : Hid _ := hp1
    have HS1 : Hid _ := hs1
    clear hp1 hs1 C
    go_wp2
    go_ret
    exact ⟨rfl, HP1.out, HS1.out⟩

end Go.Proofs.Ytjpcljmlkgjbgaa

namespace Go.Proofs.Ytjpcljmlkgjbgaa
open Go.RowKit Go.Lib
set_option linter.unusedVariables false

/-- A block of these cells. -/
def CellsAt (w : World) (b : Nat) (cs : Array Value) (t : TypeId) : Prop := w.heap[b]? = some (.cells cs t (0, 0))

theorem CellsAt.lt {w : World} {b : Nat} {cs : Array Value} {t : TypeId} (h : CellsAt w b cs t) : b < w.heap.size := heap_lt h
theorem CellsAt.made {w : World} {b : Nat} {cs : Array Value} {t : TypeId} (hb : w.heap.size = b) : CellsAt (w.alloc (.cells cs t)) b cs t := by
  subst hb
  show (w.heap.push _)[w.heap.size]? = _
  simp
theorem CellsAt.free {w : World} {b : Nat} {cs : Array Value} {t : TypeId} (h : CellsAt w b cs t) (i : Nat) : w.frozen? ⟨b, i, none⟩ = false := by
  unfold CellsAt at h
  simp [World.frozen?, h]
theorem CellsAt.cell {w : World} {b : Nat} {cs : Array Value} {t : TypeId} (h : CellsAt w b cs t) (i : Nat) : w.cell? ⟨b, i, none⟩ = cs[i]? := cell_of_row w b i _ _ _ h
theorem CellsAt.set {w : World} {b : Nat} {cs : Array Value} {t : TypeId} (h : CellsAt w b cs t) (i : Nat) (v : Value) : CellsAt (w.setCell ⟨b, i, none⟩ v) b (cs.setIfInBounds i v) t := Go.heap_setCell_same _ _ _ _ _ _ h
theorem CellsAt.other {w : World} {b c : Nat} {cs : Array Value} {t : TypeId} (h : CellsAt w b cs t) (hc : b ≠ c) (i : Nat) (v : Value) : CellsAt (w.setCell ⟨c, i, none⟩ v) b cs t := (same_set b hc).trans h
theorem CellsAt.aside {w w' : World} {g b : Nat} {cs : Array Value} {t : TypeId} (h : CellsAt w b cs t) (hs : Aside g w w') (hg : b ≠ g) : CellsAt w' b cs t := (hs.block b ⟨hg, h.lt⟩).trans h
theorem CellsAt.later {w w' : World} {b : Nat} {cs : Array Value} {t : TypeId} (h : CellsAt w b cs t) (hs : Below w.heap.size w w') : CellsAt w' b cs t := (hs.block b h.lt).trans h

theorem Aside.set {g b i : Nat} {w w1 : World} {v : Value} (h : Aside g w w1) (hb : w.heap.size ≤ b) : Aside g w (w1.setCell ⟨b, i, none⟩ v) :=
  Stay.setCell (p := ⟨b, i, none⟩) h (fun k => absurd k.2 (Nat.not_lt.2 hb)) _

/-- A write to a block that is neither the Reader's nor the bytes'. -/
theorem RAt.set {w : World} {g b i : Nat} {v : Value} {a : Option Addr} {len cap : Nat} {l : List UInt8} {s : Int × Int} (h : RAt w g a len cap l s) (hb : b ≠ g) (hs : ∀ x o, a = some ⟨x, o, none⟩ → x ≠ b) : RAt (w.setCell ⟨b, i, none⟩ v) g a len cap l s := by
  refine ⟨(same_set g hb.symm).trans h.box, ?_, fun x o e => ⟨(h.src x o e).1, by simpa [World.setCell] using (h.src x o e).2⟩, h.hlen, h.hl, h.hcap⟩
  intro h0
  obtain ⟨x, off, rfl, hc⟩ := h.rd h0
  refine ⟨x, off, rfl, fun i hi => ?_⟩
  rw [World.cell?_of_block (w := w) (a := ⟨x, _, none⟩) (same_set x (hs x off rfl))]
  exact hc i hi

/-- A dot that is taken. -/
def takeD (l : List UInt8) (s : Int × Int) : (Int × Int) × (Int × Int) := (((takeN l s 1).1, (takeN l (takeN l s 1).2 4).1), (takeN l (takeN l s 1).2 4).2)

set_option maxHeartbeats 2000000 in
theorem rDot_any (g : Nat) (a : Option Addr) (len cap : Nat) (l : List UInt8) (s : Int × Int) (w : World) (h : RAt w g a len cap l s) :
    Calls Try.prog 24 #[vR g] w fun e w' => e = .returned (.agg #[.int .i64 (takeD l s).1.1, .int .i64 (takeD l s).1.2]) ∧ RAt w' g a len cap l (takeD l s).2 ∧ Aside g w w' := by
  obtain ⟨o, ho⟩ : ∃ o : Obj, o = .cells #[.int .i64 0, .int .i64 0] 25 := ⟨_, rfl⟩
  have hsz : (w.alloc o).heap.size = w.heap.size + 1 := by simp
  have hsz2 : ((w.alloc o).alloc o).heap.size = w.heap.size + 2 := by simp
  have hb1 : Below w.heap.size w (w.alloc o) := (Below.refl _ w).alloc (Nat.le_refl _) _
  have hb2 : Below (w.alloc o).heap.size (w.alloc o) ((w.alloc o).alloc o) := (Below.refl _ _).alloc (Nat.le_refl _) _
  have hg := h.box.lt
  have HP : Hid (RAt ((w.alloc o).alloc o) g a len cap l s) := (h.later hb1).later hb2
  have HS : Hid (Aside g w ((w.alloc o).alloc o)) := Aside.of_below (chain hb1 hb2)
  have HD0 : Hid (CellsAt ((w.alloc o).alloc o) w.heap.size #[.int .i64 0, .int .i64 0] 25) := by
    refine CellsAt.later ?_ hb2
    rw [ho]
    exact CellsAt.made rfl
  have HD1 : Hid (CellsAt ((w.alloc o).alloc o) (w.heap.size + 1) #[.int .i64 0, .int .i64 0] 25) := by
    refine (?_ : CellsAt (World.alloc (w.alloc o) o) (w.heap.size + 1) _ _)
    rw [ho]
    exact CellsAt.made (by simp)
  have HSRC : Hid (∀ x k, a = some ⟨x, k, none⟩ → x < w.heap.size) := fun x k e => (h.src x k e).2
  have C := rByte_any g a len cap l s _ HP.out
  rw [ho] at HP HS HD0 HD1 C
  unfold takeD
  generalize takeN l s 1 = r at C ⊢
  generalize hq : takeN l r.2 4 = q
  have HQ : Hid (takeN l r.2 4 = q) := hq
  clear h hb1 hb2 hsz hsz2 ho HP hq
  go_enter Try.func24, Try.ntmps24
  go_wp2_with fail
  refine C.mono ?_
  rintro e w1 ⟨rfl, hp1, hs1⟩
  have k1 := HD1.out.aside hs1 (by omega)
  have k0 := HD0.out.aside hs1 (by omega)
  have x0 : w1.cell? ⟨w.heap.size + 1, 0, none⟩ = some (.int .i64 0) := k1.cell 0
  have f0 := k1.free 0
  have HP1 : Hid (RAt (w1.setCell ⟨w.heap.size + 1, 0, none⟩ (.int .i64 r.1)) g a len cap l r.2) := hp1.set (by omega) (fun x k e => by have := HSRC.out x k e; omega)
  have HS1 : Hid (Aside g w (w1.setCell ⟨w.heap.size + 1, 0, none⟩ (.int .i64 r.1))) := (Aside.trans HS.out hs1).set (by omega)
  have K1 : Hid _ := k1.set 0 (.int .i64 r.1)
  have K0 : Hid _ := k0.other (c := w.heap.size + 1) (by omega) 0 (.int .i64 r.1)
  clear hp1 hs1 k0 k1 HS HD0 HD1 C
  go_wp2_with fail
  have C := rNumber_any g a len cap l r.2 4 _ HP1.out
  rw [HQ.out] at C
  refine C.mono ?_
  rintro e w2 ⟨rfl, hp2, hs2⟩
  have k1 := CellsAt.aside K1.out hs2 (by omega)
  have k0 := CellsAt.aside K0.out hs2 (by omega)
  have y0 : w2.cell? ⟨w.heap.size + 1, 0, none⟩ = some (.int .i64 r.1) := k1.cell 0
  have y1 : w2.cell? ⟨w.heap.size + 1, 1, none⟩ = some (.int .i64 0) := k1.cell 1
  have z0 : w2.cell? ⟨w.heap.size, 0, none⟩ = some (.int .i64 0) := k0.cell 0
  have z1 : w2.cell? ⟨w.heap.size, 1, none⟩ = some (.int .i64 0) := k0.cell 1
  have f1 := k1.free 1
  have g0 := k0.free 0
  have g1 := k0.free 1
  have HP2 : Hid (RAt w2 g a len cap l q.2) := hp2
  have HS2 : Hid (Aside g w w2) := Aside.trans HS1.out hs2
  clear hp2 hs2 k0 k1 HP1 HS1 K0 K1 C x0 f0
  go_wp2
  refine bodyPost_ret (by simp [results, Try.results24, go_sem, z0, z1]; rfl) rfl ?_
  refine ⟨rfl, ((HP2.out.set ?_ ?_).set ?_ ?_).set ?_ ?_, ((HS2.out.set ?_).set ?_).set ?_⟩
  all_goals first | omega | (intro x k e; have := HSRC.out x k e; omega)

/-- A time that is taken. -/
def takeS (l : List UInt8) (s : Int × Int) : (Int × Int × Int) × (Int × Int) :=
  (((takeN l s 6).1, (takeN l (takeN l s 6).2 3).1, (takeN l (takeN l (takeN l s 6).2 3).2 1).1), (takeN l (takeN l (takeN l s 6).2 3).2 1).2)

set_option maxHeartbeats 2000000 in
theorem rdStamp_any (g : Nat) (a : Option Addr) (len cap : Nat) (l : List UInt8) (s : Int × Int) (w : World) (h : RAt w g a len cap l s) :
    Calls Try.prog 26 #[vR g] w fun e w' => e = .returned (.agg #[.int .i64 (takeS l s).1.1, .int .i64 (takeS l s).1.2.1, .int .i64 (takeS l s).1.2.2]) ∧ RAt w' g a len cap l (takeS l s).2 ∧ Aside g w w' := by
  obtain ⟨o, ho⟩ : ∃ o : Obj, o = .cells #[.int .i64 0, .int .i64 0, .int .i64 0] 28 := ⟨_, rfl⟩
  have hb1 : Below w.heap.size w (w.alloc o) := (Below.refl _ w).alloc (Nat.le_refl _) _
  have hb2 : Below (w.alloc o).heap.size (w.alloc o) ((w.alloc o).alloc o) := (Below.refl _ _).alloc (Nat.le_refl _) _
  have hg := h.box.lt
  have HP : Hid (RAt ((w.alloc o).alloc o) g a len cap l s) := (h.later hb1).later hb2
  have HS : Hid (Aside g w ((w.alloc o).alloc o)) := Aside.of_below (chain hb1 hb2)
  have HD0 : Hid (CellsAt ((w.alloc o).alloc o) w.heap.size #[.int .i64 0, .int .i64 0, .int .i64 0] 28) := by
    refine CellsAt.later ?_ hb2
    rw [ho]
    exact CellsAt.made rfl
  have HD1 : Hid (CellsAt ((w.alloc o).alloc o) (w.heap.size + 1) #[.int .i64 0, .int .i64 0, .int .i64 0] 28) := by
    refine (?_ : CellsAt (World.alloc (w.alloc o) o) (w.heap.size + 1) _ _)
    rw [ho]
    exact CellsAt.made (by simp)
  have HSRC : Hid (∀ x k, a = some ⟨x, k, none⟩ → x < w.heap.size) := fun x k e => (h.src x k e).2
  have C := rNumber_any g a len cap l s 6 _ HP.out
  rw [ho] at HP HS HD0 HD1 C
  unfold takeS
  generalize takeN l s 6 = r at C ⊢
  generalize hq : takeN l r.2 3 = q
  generalize ht : takeN l q.2 1 = t
  have HQ : Hid (takeN l r.2 3 = q) := hq
  have HT : Hid (takeN l q.2 1 = t) := ht
  clear h hb1 hb2 ho HP hq ht
  go_enter Try.func26, Try.ntmps26
  go_wp2_with fail
  refine C.mono ?_
  rintro e w1 ⟨rfl, hp1, hs1⟩
  have k1 := HD1.out.aside hs1 (by omega)
  have k0 := HD0.out.aside hs1 (by omega)
  have x0 : w1.cell? ⟨w.heap.size + 1, 0, none⟩ = some (.int .i64 0) := k1.cell 0
  have f0 := k1.free 0
  have HP1 : Hid (RAt (w1.setCell ⟨w.heap.size + 1, 0, none⟩ (.int .i64 r.1)) g a len cap l r.2) := hp1.set (by omega) (fun x k e => by have := HSRC.out x k e; omega)
  have HS1 : Hid (Aside g w (w1.setCell ⟨w.heap.size + 1, 0, none⟩ (.int .i64 r.1))) := (Aside.trans HS.out hs1).set (by omega)
  have K1 : Hid _ := k1.set 0 (.int .i64 r.1)
  have K0 : Hid _ := k0.other (c := w.heap.size + 1) (by omega) 0 (.int .i64 r.1)
  clear hp1 hs1 k0 k1 HS HD0 HD1 C
  go_wp2_with fail
  have C := rNumber_any g a len cap l r.2 3 _ HP1.out
  rw [HQ.out] at C
  refine C.mono ?_
  rintro e w2 ⟨rfl, hp2, hs2⟩
  have k1 := CellsAt.aside K1.out hs2 (by omega)
  have k0 := CellsAt.aside K0.out hs2 (by omega)
  have x1 : w2.cell? ⟨w.heap.size + 1, 1, none⟩ = some (.int .i64 0) := k1.cell 1
  have f1 := k1.free 1
  have HP2 : Hid (RAt (w2.setCell ⟨w.heap.size + 1, 1, none⟩ (.int .i64 q.1)) g a len cap l q.2) := hp2.set (by omega) (fun x k e => by have := HSRC.out x k e; omega)
  have HS2 : Hid (Aside g w (w2.setCell ⟨w.heap.size + 1, 1, none⟩ (.int .i64 q.1))) := (Aside.trans HS1.out hs2).set (by omega)
  have J1 : Hid _ := k1.set 1 (.int .i64 q.1)
  have J0 : Hid _ := k0.other (c := w.heap.size + 1) (by omega) 1 (.int .i64 q.1)
  clear hp2 hs2 k0 k1 HP1 HS1 K0 K1 C x0 f0
  go_wp2_with fail
  have C := rByte_any g a len cap l q.2 _ HP2.out
  rw [HT.out] at C
  refine C.mono ?_
  rintro e w3 ⟨rfl, hp3, hs3⟩
  have k1 := CellsAt.aside J1.out hs3 (by omega)
  have k0 := CellsAt.aside J0.out hs3 (by omega)
  have y0 : w3.cell? ⟨w.heap.size + 1, 0, none⟩ = some (.int .i64 r.1) := k1.cell 0
  have y1 : w3.cell? ⟨w.heap.size + 1, 1, none⟩ = some (.int .i64 q.1) := k1.cell 1
  have y2 : w3.cell? ⟨w.heap.size + 1, 2, none⟩ = some (.int .i64 0) := k1.cell 2
  have z0 : w3.cell? ⟨w.heap.size, 0, none⟩ = some (.int .i64 0) := k0.cell 0
  have z1 : w3.cell? ⟨w.heap.size, 1, none⟩ = some (.int .i64 0) := k0.cell 1
  have z2 : w3.cell? ⟨w.heap.size, 2, none⟩ = some (.int .i64 0) := k0.cell 2
  have f2 := k1.free 2
  have g0 := k0.free 0
  have g1 := k0.free 1
  have g2 := k0.free 2
  have HP3 : Hid (RAt w3 g a len cap l t.2) := hp3
  have HS3 : Hid (Aside g w w3) := Aside.trans HS2.out hs3
  clear hp3 hs3 k0 k1 HP2 HS2 J0 J1 C x1 f1
  go_wp2
  refine bodyPost_ret (by simp [results, Try.results26, go_sem, z0, z1, z2]; rfl) rfl ?_
  refine ⟨rfl, (((HP3.out.set ?_ ?_).set ?_ ?_).set ?_ ?_).set ?_ ?_, (((HS3.out.set ?_).set ?_).set ?_).set ?_⟩
  all_goals first | omega | (intro x k e; have := HSRC.out x k e; omega)

end Go.Proofs.Ytjpcljmlkgjbgaa
