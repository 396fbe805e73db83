/-
  What the calls of package value answer, as the laws' walks ask it; and what raddlelaw03's Long answers.
-/
import Derived.Test.YtmolklaammfbmaaRows
import Derived.Test.YtmolklaammfbmaaVReadC
import Derived.Test.YtmolklaammfbmaaVRef
import Derived.WalkKit
import Derived.WalkSpells
import Derived.WalkLawsBesides
namespace Go.Proofs.Ytmolklaammfbmaa
open Go.RowKit Go.Lib
set_option linter.unusedVariables false

/-- Check's answer. -/
def chkV (v : PV) : Int := if okV v = true then 0 else 1

/-- Bytes' answer. -/
def putV (v : PV) : List UInt8 × Int := if okV v = true then (bytesV v, 0) else ([], 1)

/-- What a call that makes bytes hands back: bytes that can be read. -/
def GivesB (w w' : World) (e : Ending) (r : List UInt8 × Int) : Prop :=
  ∃ a n cap, e = .returned (.tuple #[.slice a n cap, .int .i64 r.2]) ∧ r.1.length = n ∧ n ≤ 1048576 ∧ n ≤ cap ∧ Rd w' a r.1 ∧ (a = none → r.1 = [] ∧ cap = 0) ∧ Below w.heap.size w w'

def ValueCheck : Prop := ∀ (k i : Int) (s : ByteArray) (w : World), Calls Try.prog 25 #[.agg #[.int .i64 k, .int .i64 i, .string s]] w fun e w' => e = .returned (.int .i64 (chkV ⟨k, i, s⟩)) ∧ Below w.heap.size w w'

def ValueCompare : Prop := ∀ (k i : Int) (s : ByteArray) (k' i' : Int) (s' : ByteArray) (w : World), Calls Try.prog 29 #[.agg #[.int .i64 k, .int .i64 i, .string s], .agg #[.int .i64 k', .int .i64 i', .string s']] w fun e w' => e = .returned (.int .i64 (cmpV ⟨k, i, s⟩ ⟨k', i', s'⟩)) ∧ Below w.heap.size w w'

def ValueFits : Prop := ∀ (k i : Int) (s : ByteArray) (t : Int) (w : World), Calls Try.prog 26 #[.agg #[.int .i64 k, .int .i64 i, .string s], .int .i64 t] w fun e w' => e = .returned (.bool (fitsV ⟨k, i, s⟩ t)) ∧ Below w.heap.size w w'

/-- One of these texts is too long to be played. -/
def longT (ts : List ByteArray) : Bool := ts.any fun s => decide (300 < s.size)

set_option maxHeartbeats 400000 in
theorem long_any (g n cap : Nat) (ts : List ByteArray) (w : World) (hn : ts.length = n) (h3 : n ≤ 1000) (hc : ∀ i (hi : i < ts.length), w.cell? ⟨g, i * 3 + 2, none⟩ = some (.string ts[i])) :
    Calls Try.prog 7 #[.slice (some ⟨g, 0, none⟩) n cap] w fun e w' => e = .returned (.bool (longT ts)) ∧ w' = w := by
  have HN : Hid (ts.length = n) := hn
  clear hn
  go_enter Try.func7, Try.ntmps7
  go_wp2
  go_loop [3] (fun i => ∃ k : Nat, k ≤ n ∧ i = .int .i64 k ∧ Hid (longT (ts.take k) = false)) (fun i => n - (RowKit.intOf i).toNat)
  case atStart => exact ⟨0, Nat.zero_le _, rfl, rfl⟩
  case round =>
    obtain ⟨k, hk, rfl, hT⟩ := hrel
    by_cases hlt : k < n
    · have hkl : k < ts.length := by rw [HN.out]; exact hlt
      have hck := hc k hkl
      have HS : Hid (longT (ts.take (k + 1)) = decide (300 < ts[k].size)) := by
        have h := hT.out
        unfold longT at h ⊢
        show _ = _
        rw [List.take_succ_eq_append_getElem hkl, List.any_append, h]
        simp
      have HX : Hid (300 < ts[k].size → longT ts = true) := fun h => by
        unfold longT
        rw [List.any_eq_true]
        exact ⟨_, List.getElem_mem hkl, by simpa using h⟩
      clear hc
      generalize ts[k] = s at *
      by_cases hs : 300 < s.size
      · have HX' : Hid (longT ts = true) := HX.out hs
        go_wp2
        go_ret
        exact ⟨by rw [HX'.out]; rfl, rfl⟩
      · have HS' : Hid (longT (ts.take (k + 1)) = false) := by rw [HS.out]; show _ = _; simpa using hs
        go_wp2
        go_round
        case rel => exact ⟨k + 1, by omega, by go_num, HS'⟩
        case measure => simp [RowKit.intOf]; omega
    · have h := hT.out
      rw [List.take_of_length_le (by rw [HN.out]; omega)] at h
      have HH : Hid (longT ts = false) := h
      clear h
      go_wp2
      go_ret
      exact ⟨by rw [HH.out]; rfl, rfl⟩

end Go.Proofs.Ytmolklaammfbmaa
