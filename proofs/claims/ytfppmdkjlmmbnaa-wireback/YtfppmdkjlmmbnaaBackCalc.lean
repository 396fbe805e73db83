/-
  The bytes of numbers and texts that are put one behind the other; no walk is here.
-/
import Derived.Test.YtfppmdkjlmmbnaaOrder
import Derived.Test.YtfppmdkjlmmbnaaFrame
namespace Go.Proofs.Ytfppmdkjlmmbnaa
open Go.RowKit Go.Lib

/-- x & (1<<uint(8*s) - 1). -/
def mk (s : Nat) (x : Int) : Nat := (bits BinOp.and IntKind.i64 x (wrap64 (wrap64 (2 ^ (8 * s)) - 1))).toNat

theorem mk_spec (s : Nat) (x : Int) (h1 : 1 ≤ s) (h7 : s ≤ 7) : bits BinOp.and IntKind.i64 x (wrap64 (wrap64 (2 ^ (8 * s)) - 1)) = (mk s x : Int) ∧ mk s x < 256 ^ s := by
  obtain ⟨A, hA, e⟩ := mask_of x s h1 h7
  unfold mk
  rw [e]
  exact ⟨by simp, by simpa using hA⟩

/-- A number's bytes, as the law puts them. -/
def encO (s : Nat) (x : Int) : List UInt8 := be (mk s x) s ++ intBytes (wi x)
def encN (s : Nat) (N : List Int) : List UInt8 := N.flatMap (encO s)
def encT (T : List ByteArray) : List UInt8 := T.flatMap fun t => textBytes t.data.toList

theorem encO_length (s : Nat) (x : Int) : (encO s x).length = s + 9 := by simp [encO, be_length, intBytes_length]

theorem encN_take (s : Nat) (N : List Int) (k : Nat) (h : k < N.length) : encN s (N.take (k + 1)) = (encN s (N.take k) ++ be (mk s N[k]) s) ++ intBytes (wi N[k]) := by
  rw [List.take_succ_eq_append_getElem h]
  unfold encN
  rw [List.flatMap_append, List.flatMap_singleton, encO, List.append_assoc]

theorem encN_split (s : Nat) (N : List Int) (k : Nat) (h : k < N.length) (R : List UInt8) : (encN s N ++ R).drop (encN s (N.take k)).length = be (mk s N[k]) s ++ (intBytes (wi N[k]) ++ (encN s (N.drop (k + 1)) ++ R)) := by
  have e : encN s N = encN s (N.take k) ++ (encO s N[k] ++ encN s (N.drop (k + 1))) := by
    have h1 : N = N.take k ++ (N[k] :: N.drop (k + 1)) := by rw [← List.drop_eq_getElem_cons h, List.take_append_drop]
    have h2 := congrArg (encN s) h1
    rw [h2]
    unfold encN
    rw [List.flatMap_append, List.flatMap_cons]
  rw [e, List.append_assoc, List.drop_append_of_le_length (Nat.le_refl _), List.drop_length]
  simp [encO]

theorem encN_length_take (s : Nat) (N : List Int) (k : Nat) (h : k < N.length) : (encN s (N.take (k + 1))).length = (encN s (N.take k)).length + s + 9 := by
  rw [encN_take s N k h]
  simp [be_length, intBytes_length]
  omega

theorem encN_small (s : Nat) (N : List Int) (h7 : s ≤ 7) : (encN s N).length ≤ 16 * N.length := by
  induction N with
  | nil => simp [encN]
  | cons x N ih =>
    have : encN s (x :: N) = encO s x ++ encN s N := by simp [encN]
    rw [this, List.length_append, encO_length, List.length_cons]
    omega

theorem encT_take (T : List ByteArray) (k : Nat) (h : k < T.length) : encT (T.take (k + 1)) = encT (T.take k) ++ textBytes T[k].data.toList := by
  rw [List.take_succ_eq_append_getElem h]
  unfold encT
  rw [List.flatMap_append, List.flatMap_singleton]

theorem encT_length_take (T : List ByteArray) (k : Nat) (h : k < T.length) : (encT (T.take (k + 1))).length = (encT (T.take k)).length + (1 + T[k].size) := by
  rw [encT_take T k h, List.length_append, textBytes_length, size_eq]

theorem encT_split (T : List ByteArray) (k : Nat) (h : k < T.length) (A : List UInt8) : (A ++ encT T).drop (A.length + (encT (T.take k)).length) = textBytes T[k].data.toList ++ encT (T.drop (k + 1)) := by
  have e : encT T = encT (T.take k) ++ (textBytes T[k].data.toList ++ encT (T.drop (k + 1))) := by
    have h1 : T = T.take k ++ (T[k] :: T.drop (k + 1)) := by rw [← List.drop_eq_getElem_cons h, List.take_append_drop]
    have h2 := congrArg encT h1
    rw [h2]
    unfold encT
    rw [List.flatMap_append, List.flatMap_cons]
  rw [e, ← List.append_assoc, ← List.length_append, List.drop_append_of_le_length (Nat.le_refl _), List.drop_length, List.nil_append]

theorem encT_small (T : List ByteArray) (h : ∀ t ∈ T, t.size ≤ 24) : (encT T).length ≤ 25 * T.length := by
  induction T with
  | nil => simp [encT]
  | cons x T ih =>
    have e : encT (x :: T) = textBytes x.data.toList ++ encT T := by simp [encT]
    have h1 := h x (by simp)
    have h2 := ih (fun t ht => h t (by simp [ht]))
    rw [e, List.length_append, textBytes_length, ← size_eq, List.length_cons]
    omega

end Go.Proofs.Ytfppmdkjlmmbnaa
