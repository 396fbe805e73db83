/-
  Texts of the proof of SetExact, one behind the other.
-/
import Derived.Test.YtajlkaedkifaoaaG25SetExact
import Derived.Test.YtajlkaedkifaoaaG34SetExact
namespace Go.Proofs.Ytajlkaedkifaoaa
open Go.RowKit Go.Lib
set_option linter.unusedVariables false

def isW (n : Int) : Bool := decide (-72057594037927936 ≤ n) && decide (n ≤ 72057594037927936)

theorem isW_iff {n : Int} : isW n = true ↔ -72057594037927936 ≤ n ∧ n ≤ 72057594037927936 := by simp [isW]

/-- May an Item be one that Make is given? -/
def okI (x : PI) : Bool := decide (chkR x.row = 0) && isW x.wt

/-- Is a list of Items a right set, those ahead of it being p? -/
def riseZ : List PI → Bool
  | [] => true
  | [x] => okI x && decide (x.wt ≠ 0)
  | x :: y :: l => okI x && decide (x.wt ≠ 0) && decide (cmpZ x y < 0) && riseZ (y :: l)

def chkZ (X : List PI) : Int := if riseZ X = true then 0 else 1

theorem cmpZ_range (x y : PI) : cmpZ x y = -1 ∨ cmpZ x y = 0 ∨ cmpZ x y = 1 := cmpR_range _ _
theorem cmpZ_flip (x y : PI) : cmpZ y x = -cmpZ x y := cmpR_flip _ _
theorem cmpZ_zero {x y : PI} : cmpZ x y = 0 ↔ x.row = y.row := cmpR_zero _ _
theorem cmpZ_self (x : PI) : cmpZ x x = 0 := cmpR_self _
theorem cmpZ_le_trans {x y z : PI} (h : cmpZ x y ≤ 0) (k : cmpZ y z ≤ 0) : cmpZ x z ≤ 0 := cmpR_le_trans h k

theorem cmpZ_lt_trans {x y z : PI} (h : cmpZ x y < 0) (k : cmpZ y z < 0) : cmpZ x z < 0 := by
  have h1 : cmpZ x z ≤ 0 := cmpZ_le_trans (y := y) (by omega) (by omega)
  rcases cmpZ_range x z with e | e | e
  · omega
  · have h2 : cmpZ z x ≤ 0 := by rw [cmpZ_flip, e]; omega
    have h3 := cmpZ_le_trans h2 (y := x) (z := y) (by omega)
    rw [cmpZ_flip] at h3
    omega
  · omega

theorem cmpZ_congr_left {x y z : PI} (h : cmpZ x y = 0) : cmpZ x z = cmpZ y z := by
  unfold cmpZ
  rw [cmpZ_zero.1 h]

theorem cmpZ_congr_right {x y z : PI} (h : cmpZ x y = 0) : cmpZ z x = cmpZ z y := by
  unfold cmpZ
  rw [cmpZ_zero.1 h]

/-- The sum of the weights of a row. -/
def sumZ (X : List PI) (x : PI) : Int := match X with
  | [] => 0
  | y :: X => (if cmpZ y x = 0 then y.wt else 0) + sumZ X x

theorem sumZ_append (X Y : List PI) (x : PI) : sumZ (X ++ Y) x = sumZ X x + sumZ Y x := by
  induction X with
  | nil => simp [sumZ]
  | cons y X ih => simp only [List.cons_append, sumZ, ih]; omega

theorem sumZ_perm {X Y : List PI} (h : X.Perm Y) (x : PI) : sumZ X x = sumZ Y x := by
  induction h with
  | nil => rfl
  | cons y _ ih => simp only [sumZ, ih]
  | swap y z l => simp only [sumZ]; omega
  | trans _ _ ih1 ih2 => rw [ih1, ih2]

theorem sumZ_congr (X : List PI) {x y : PI} (h : cmpZ x y = 0) : sumZ X x = sumZ X y := by
  induction X with
  | nil => rfl
  | cons z X ih => simp only [sumZ, ih, cmpZ_congr_right h]

theorem sumZ_none {X : List PI} {x : PI} (h : ∀ y ∈ X, cmpZ y x ≠ 0) : sumZ X x = 0 := by
  induction X with
  | nil => rfl
  | cons y X ih =>
    have h1 := h y (by simp)
    simp only [sumZ, if_neg h1, ih (fun z hz => h z (List.mem_cons_of_mem _ hz))]
    omega

theorem sumZ_all {X : List PI} {x : PI} (h : ∀ y ∈ X, cmpZ y x = 0) : sumZ X x = (X.map (·.wt)).sum := by
  induction X with
  | nil => rfl
  | cons y X ih =>
    have h1 := h y (by simp)
    simp only [sumZ, if_pos h1, ih (fun z hz => h z (List.mem_cons_of_mem _ hz)), List.map_cons, List.sum_cons]

/-- Those that stand at the beginning and are of x's row; what stands behind them. -/
def sameZ (x : PI) : List PI → List PI
  | [] => []
  | y :: X => if cmpZ y x = 0 then y :: sameZ x X else []

def restZ (x : PI) : List PI → List PI
  | [] => []
  | y :: X => if cmpZ y x = 0 then restZ x X else y :: X

theorem same_rest (x : PI) (X : List PI) : sameZ x X ++ restZ x X = X := by
  induction X with
  | nil => rfl
  | cons y X ih =>
    by_cases h : cmpZ y x = 0
    · simp only [sameZ, restZ, if_pos h, List.cons_append, ih]
    · simp only [sameZ, restZ, if_neg h, List.nil_append]

theorem rest_len (x : PI) (X : List PI) : (restZ x X).length ≤ X.length := by
  have := congrArg List.length (same_rest x X)
  rw [List.length_append] at this
  omega

theorem same_mem {x : PI} {X : List PI} : ∀ y ∈ sameZ x X, cmpZ y x = 0 := by
  induction X with
  | nil => intro y hy; cases hy
  | cons z X ih =>
    intro y hy
    by_cases h : cmpZ z x = 0
    · simp only [sameZ, if_pos h, List.mem_cons] at hy
      rcases hy with rfl | hy
      · exact h
      · exact ih y hy
    · simp only [sameZ, if_neg h] at hy
      cases hy

/-- What is gathered of Items, those of one row side by side; none: a weight is beyond. -/
def gatherZ : List PI → Option (List PI)
  | [] => some []
  | x :: X =>
    if isW (((sameZ x (x :: X)).map (·.wt)).sum) = true then
      (gatherZ (restZ x X)).map fun r => if ((sameZ x (x :: X)).map (·.wt)).sum = 0 then r else ⟨x.row, ((sameZ x (x :: X)).map (·.wt)).sum⟩ :: r
    else none
termination_by X => X.length
decreasing_by simp only [List.length_cons]; have := rest_len x X; omega

/-- What a call that makes a set answers. -/
def ansZ : Option (List PI) → List PI × Int
  | some r => (r, 0)
  | none => ([], 11)

/-- Rising by rows, those alike side by side. -/
def SortZ (X : List PI) : Prop := X.Pairwise fun x y => cmpZ x y ≤ 0

/-- Strictly rising. -/
def RiseZ (X : List PI) : Prop := X.Pairwise fun x y => cmpZ x y < 0

theorem riseZ_iff : ∀ {X : List PI}, riseZ X = true ↔ (∀ x ∈ X, okI x = true ∧ x.wt ≠ 0) ∧ RiseZ X
  | [] => by simp [riseZ, RiseZ]
  | [x] => by simp [riseZ, RiseZ]
  | x :: y :: l => by
    have ih := riseZ_iff (X := y :: l)
    simp only [riseZ, Bool.and_eq_true, decide_eq_true_eq, ih]
    constructor
    · rintro ⟨⟨⟨h1, h2⟩, h3⟩, h4, h5⟩
      refine ⟨fun z hz => ?_, ?_⟩
      · rcases List.mem_cons.1 hz with rfl | hz
        · exact ⟨h1, h2⟩
        · exact h4 z hz
      · refine List.pairwise_cons.2 ⟨fun z hz => ?_, h5⟩
        rcases List.mem_cons.1 hz with rfl | hz
        · exact h3
        · exact cmpZ_lt_trans h3 ((List.pairwise_cons.1 h5).1 z hz)
    · rintro ⟨h1, h2⟩
      obtain ⟨h3, h4⟩ := List.pairwise_cons.1 h2
      exact ⟨⟨h1 x (by simp), h3 y (by simp)⟩, fun z hz => h1 z (List.mem_cons_of_mem _ hz), h4⟩

theorem RiseZ.sort {X : List PI} (h : RiseZ X) : SortZ X := List.Pairwise.imp (fun h => by omega) h

theorem rest_sorted {x : PI} {X : List PI} (h : SortZ (x :: X)) : SortZ (restZ x X) ∧ ∀ y ∈ restZ x X, cmpZ x y < 0 := by
  induction X with
  | nil => exact ⟨List.Pairwise.nil, fun y hy => by cases hy⟩
  | cons z X ih =>
    obtain ⟨h1, h2⟩ := List.pairwise_cons.1 h
    obtain ⟨h3, h4⟩ := List.pairwise_cons.1 h2
    by_cases e : cmpZ z x = 0
    · simp only [restZ, if_pos e]
      exact ih (List.pairwise_cons.2 ⟨fun y hy => h1 y (List.mem_cons_of_mem _ hy), h4⟩)
    · simp only [restZ, if_neg e]
      refine ⟨h2, fun y hy => ?_⟩
      have hz : cmpZ x z < 0 := by
        have := h1 z (by simp)
        rcases cmpZ_range x z with k | k | k
        · omega
        · rw [cmpZ_flip, k] at e; omega
        · omega
      rcases List.mem_cons.1 hy with rfl | hy
      · exact hz
      · have h5 := h3 y hy
        rcases cmpZ_range x y with k | k | k
        · omega
        · exfalso
          have h6 : cmpZ y z ≤ 0 := by
            have : cmpZ y x = 0 := by rw [cmpZ_flip, k]; rfl
            rw [cmpZ_congr_left this]
            omega
          have h7 : cmpZ z y = 0 := by rw [cmpZ_flip] at h6; omega
          rw [cmpZ_congr_right h7, k] at hz
          omega
        · have := h1 y (List.mem_cons_of_mem _ hy)
          omega

/-- What gathering of sorted Items gives: it rises; its weights are the sums; all of it is right. -/
theorem gather_spec : ∀ (n : Nat) {X R : List PI}, X.length ≤ n → SortZ X → gatherZ X = some R →
    RiseZ R ∧ (∀ r ∈ R, r.wt = sumZ X r ∧ r.wt ≠ 0 ∧ isW r.wt = true ∧ ∃ x ∈ X, x.row = r.row) ∧ (∀ x ∈ X, isW (sumZ X x) = true ∧ (sumZ X x ≠ 0 → ∃ r ∈ R, r.row = x.row))
  | n, [], R, _, _, h => by
    simp only [gatherZ, Option.some.injEq] at h
    subst h
    exact ⟨List.Pairwise.nil, (fun r hr => by cases hr), fun x hx => by cases hx⟩
  | 0, x :: X, R, hn, _, _ => by simp at hn
  | n + 1, x :: X, R, hn, hs, h => by
    rw [gatherZ] at h
    by_cases hw : isW (((sameZ x (x :: X)).map (·.wt)).sum) = true
    · rw [if_pos hw] at h
      obtain ⟨R', hR', e⟩ := Option.map_eq_some_iff.1 h
      obtain ⟨hs2, hlt⟩ := rest_sorted hs
      have hlen : (restZ x X).length ≤ n := by
        have := rest_len x X
        simp only [List.length_cons] at hn
        omega
      obtain ⟨i1, i2, i3⟩ := gather_spec n hlen hs2 hR'
      have hx : restZ x (x :: X) = restZ x X := by simp [restZ, cmpZ_self]
      have hsplit := same_rest x (x :: X)
      rw [hx] at hsplit
      have hsum : sumZ (x :: X) x = ((sameZ x (x :: X)).map (·.wt)).sum := by
        rw [← hsplit, sumZ_append, sumZ_all same_mem, sumZ_none (fun y hy => by have := hlt y hy; rw [cmpZ_flip]; omega), hsplit]
        omega
      have hother : ∀ y, cmpZ x y < 0 → sumZ (x :: X) y = sumZ (restZ x X) y := fun y hy => by
        rw [← hsplit, sumZ_append, sumZ_none (X := sameZ x (x :: X)) (fun z hz => by rw [cmpZ_congr_left (same_mem z hz)]; omega)]
        rw [hsplit] at *
        omega
      have hmem : ∀ y ∈ restZ x X, y ∈ x :: X := fun y hy => by rw [← hsplit]; exact List.mem_append_right _ hy
      have hR'lt : ∀ r ∈ R', cmpZ x r < 0 := fun r hr => by
        obtain ⟨_, _, _, y, hy, e⟩ := i2 r hr
        have := hlt y hy
        unfold cmpZ at this ⊢
        rw [← e]
        exact this
      have hcase : ∀ y ∈ x :: X, cmpZ y x = 0 ∨ y ∈ restZ x X := fun y hy => by
        rw [← hsplit] at hy
        rcases List.mem_append.1 hy with hy | hy
        · exact .inl (same_mem y hy)
        · exact .inr hy
      have hp2 : ∀ r ∈ R', r.wt = sumZ (x :: X) r ∧ r.wt ≠ 0 ∧ isW r.wt = true ∧ ∃ y ∈ x :: X, y.row = r.row := fun r hr => by
        obtain ⟨k1, k2, k3, y, hy, k4⟩ := i2 r hr
        exact ⟨by rw [hother r (hR'lt r hr)]; exact k1, k2, k3, y, hmem y hy, k4⟩
      by_cases h0 : ((sameZ x (x :: X)).map (·.wt)).sum = 0
      · rw [if_pos h0] at e
        subst e
        refine ⟨i1, hp2, fun y hy => ?_⟩
        rcases hcase y hy with hy | hy
        · rw [sumZ_congr _ hy, hsum]
          exact ⟨hw, fun k => absurd h0 k⟩
        · rw [hother y (hlt y hy)]
          exact i3 y hy
      · rw [if_neg h0] at e
        subst e
        refine ⟨List.pairwise_cons.2 ⟨fun r hr => ?_, i1⟩, fun r hr => ?_, fun y hy => ?_⟩
        · exact hR'lt r hr
        · rcases List.mem_cons.1 hr with rfl | hr
          · refine ⟨?_, h0, hw, x, by simp, rfl⟩
            rw [sumZ_congr (x :: X) (y := x) (by rw [cmpZ_zero]), hsum]
          · exact hp2 r hr
        · rcases hcase y hy with hy | hy
          · rw [sumZ_congr _ hy, hsum]
            exact ⟨hw, fun _ => ⟨_, List.mem_cons_self .., (cmpZ_zero.1 hy).symm⟩⟩
          · rw [hother y (hlt y hy)]
            obtain ⟨k1, k2⟩ := i3 y hy
            exact ⟨k1, fun k => by obtain ⟨r, hr, e⟩ := k2 k; exact ⟨r, List.mem_cons_of_mem _ hr, e⟩⟩
    · rw [if_neg hw] at h
      cases h

/-- It fails just if some sum is beyond. -/
theorem gather_none : ∀ (n : Nat) {X : List PI}, X.length ≤ n → SortZ X → gatherZ X = none → ∃ x ∈ X, isW (sumZ X x) = false
  | n, [], _, _, h => by simp [gatherZ] at h
  | 0, x :: X, hn, _, _ => by simp at hn
  | n + 1, x :: X, hn, hs, h => by
    rw [gatherZ] at h
    obtain ⟨hs2, hlt⟩ := rest_sorted hs
    have hx : restZ x (x :: X) = restZ x X := by simp [restZ, cmpZ_self]
    have hsplit := same_rest x (x :: X)
    rw [hx] at hsplit
    have hsum : sumZ (x :: X) x = ((sameZ x (x :: X)).map (·.wt)).sum := by
      rw [← hsplit, sumZ_append, sumZ_all same_mem, sumZ_none (fun y hy => by have := hlt y hy; rw [cmpZ_flip]; omega), hsplit]
      omega
    by_cases hw : isW (((sameZ x (x :: X)).map (·.wt)).sum) = true
    · rw [if_pos hw, Option.map_eq_none_iff] at h
      have hlen : (restZ x X).length ≤ n := by
        have := rest_len x X
        simp only [List.length_cons] at hn
        omega
      obtain ⟨y, hy, e⟩ := gather_none n hlen hs2 h
      refine ⟨y, by rw [← hsplit]; exact List.mem_append_right _ hy, ?_⟩
      rw [← hsplit, sumZ_append, sumZ_none (X := sameZ x (x :: X)) (fun z hz => by rw [cmpZ_congr_left (same_mem z hz)]; have := hlt y hy; omega)]
      simpa using e
    · exact ⟨x, by simp, by rw [hsum]; simpa using hw⟩

/-- Two that rise and have the same rows with the same weights are one. -/
theorem rise_ext : ∀ {R S : List PI}, RiseZ R → RiseZ S → (∀ r ∈ R, r ∈ S) → (∀ s ∈ S, s ∈ R) → R = S
  | [], [], _, _, _, _ => rfl
  | [], s :: S, _, _, _, h => by have := h s (by simp); cases this
  | r :: R, [], _, _, h, _ => by have := h r (by simp); cases this
  | r :: R, s :: S, hR, hS, h1, h2 => by
    obtain ⟨a1, a2⟩ := List.pairwise_cons.1 hR
    obtain ⟨b1, b2⟩ := List.pairwise_cons.1 hS
    have e : r = s := by
      rcases List.mem_cons.1 (h1 r (by simp)) with e | hr
      · exact e
      · rcases List.mem_cons.1 (h2 s (by simp)) with e | hs
        · exact e.symm
        · have k1 := a1 s hs
          have k2 := b1 r hr
          rw [cmpZ_flip] at k2
          omega
    subst e
    have e2 := rise_ext a2 b2 (fun x hx => by
      rcases List.mem_cons.1 (h1 x (List.mem_cons_of_mem _ hx)) with rfl | k
      · have := a1 x hx
        rw [cmpZ_self] at this
        omega
      · exact k) (fun x hx => by
      rcases List.mem_cons.1 (h2 x (List.mem_cons_of_mem _ hx)) with rfl | k
      · have := b1 x hx
        rw [cmpZ_self] at this
        omega
      · exact k)
    rw [e2]

/-- Gathering hangs on no order. -/
theorem gather_perm {X Y : List PI} (hX : SortZ X) (hY : SortZ Y) (h : X.Perm Y) : gatherZ X = gatherZ Y := by
  have key : ∀ {X Y : List PI}, SortZ X → SortZ Y → X.Perm Y → ∀ R S, gatherZ X = some R → gatherZ Y = some S → ∀ r ∈ R, r ∈ S := by
    intro X Y hX hY h R S hR hS r hr
    obtain ⟨_, a2, _⟩ := gather_spec _ (Nat.le_refl _) hX hR
    obtain ⟨_, b2, b3⟩ := gather_spec _ (Nat.le_refl _) hY hS
    obtain ⟨k1, k2, _, x, hx, e⟩ := a2 r hr
    have hsx : sumZ Y x = r.wt := by
      rw [k1, ← sumZ_perm h, sumZ_congr X (x := x) (y := r) (by rw [cmpZ_zero]; exact e)]
    obtain ⟨s, hs, es⟩ := (b3 x (h.mem_iff.1 hx)).2 (by rw [hsx]; exact k2)
    have : s = r := by
      obtain ⟨m1, _⟩ := b2 s hs
      have : s.wt = r.wt := by rw [m1, sumZ_congr Y (x := s) (y := x) (by rw [cmpZ_zero]; exact es), hsx]
      cases s; cases r
      simp only at this es e
      rw [this, es, e]
    rw [← this]
    exact hs
  cases hgX : gatherZ X with
  | none =>
    cases hgY : gatherZ Y with
    | none => rfl
    | some S =>
      obtain ⟨x, hx, e⟩ := gather_none _ (Nat.le_refl _) hX hgX
      obtain ⟨_, _, b3⟩ := gather_spec _ (Nat.le_refl _) hY hgY
      have := (b3 x (h.mem_iff.1 hx)).1
      rw [← sumZ_perm h, e] at this
      cases this
  | some R =>
    cases hgY : gatherZ Y with
    | none =>
      obtain ⟨x, hx, e⟩ := gather_none _ (Nat.le_refl _) hY hgY
      obtain ⟨_, _, b3⟩ := gather_spec _ (Nat.le_refl _) hX hgX
      have := (b3 x (h.mem_iff.2 hx)).1
      rw [sumZ_perm h, e] at this
      cases this
    | some S =>
      obtain ⟨a1, _, _⟩ := gather_spec _ (Nat.le_refl _) hX hgX
      obtain ⟨b1, _, _⟩ := gather_spec _ (Nat.le_refl _) hY hgY
      rw [rise_ext a1 b1 (key hX hY h R S hgX hgY) (key hY hX h.symm S R hgY hgX)]

/-- A sorted list of the same Items. -/
def putZ (x : PI) : List PI → List PI
  | [] => [x]
  | y :: l => if cmpZ x y ≤ 0 then x :: y :: l else y :: putZ x l

def sortZ : List PI → List PI
  | [] => []
  | x :: l => putZ x (sortZ l)

theorem putZ_perm (x : PI) (l : List PI) : (putZ x l).Perm (x :: l) := by
  induction l with
  | nil => exact List.Perm.refl _
  | cons y l ih =>
    unfold putZ
    split
    · exact List.Perm.refl _
    · exact (List.Perm.cons y ih).trans (List.Perm.swap x y l)

theorem sortZ_perm (l : List PI) : (sortZ l).Perm l := by
  induction l with
  | nil => exact List.Perm.refl _
  | cons x l ih => exact (putZ_perm x _).trans (List.Perm.cons x ih)

theorem putZ_sorted {x : PI} {l : List PI} (h : SortZ l) : SortZ (putZ x l) := by
  induction l with
  | nil => exact List.pairwise_singleton _ _
  | cons y l ih =>
    obtain ⟨h1, h2⟩ := List.pairwise_cons.1 h
    unfold putZ
    split
    · rename_i hxy
      refine List.pairwise_cons.2 ⟨fun z hz => ?_, h⟩
      rcases List.mem_cons.1 hz with rfl | hz
      · exact hxy
      · exact cmpZ_le_trans hxy (h1 z hz)
    · rename_i hxy
      refine List.pairwise_cons.2 ⟨fun z hz => ?_, ih h2⟩
      rcases List.mem_cons.1 ((putZ_perm x l).mem_iff.1 hz) with rfl | hz
      · rw [cmpZ_flip]; omega
      · exact h1 z hz

theorem sortZ_sorted (l : List PI) : SortZ (sortZ l) := by
  induction l with
  | nil => exact List.Pairwise.nil
  | cons x l ih => exact putZ_sorted ih

/-- What Make answers. -/
def makeZ (X : List PI) : List PI × Int := if X.all okI = true then ansZ (gatherZ (sortZ X)) else ([], 1)

theorem makeZ_of {X Y : List PI} (hX : X.all okI = true) (hY : SortZ Y) (h : X.Perm Y) : makeZ X = ansZ (gatherZ Y) := by
  unfold makeZ
  rw [if_pos hX, gather_perm (sortZ_sorted X) hY ((sortZ_perm X).trans h)]

end Go.Proofs.Ytajlkaedkifaoaa

namespace Go.Proofs.Ytajlkaedkifaoaa
open Go.RowKit Go.Lib
set_option linter.unusedVariables false

theorem same_stop {x : PI} : ∀ {A B : List PI}, (∀ y ∈ A, cmpZ y x = 0) → (∀ b, B.head? = some b → cmpZ b x ≠ 0) → sameZ x (A ++ B) = A ∧ restZ x (A ++ B) = B
  | [], [], _, _ => ⟨rfl, rfl⟩
  | [], b :: B, _, h => by
    have := h b rfl
    exact ⟨by simp [sameZ, this], by simp [restZ, this]⟩
  | y :: A, B, h, h' => by
    obtain ⟨h1, h2⟩ := same_stop (A := A) (B := B) (fun z hz => h z (List.mem_cons_of_mem _ hz)) h'
    have hy := h y (by simp)
    exact ⟨by rw [List.cons_append, sameZ, if_pos hy, h1], by rw [List.cons_append, restZ, if_pos hy, h2]⟩

/-- The weights from k up to j. -/
def sumTo (X : List PI) (k j : Nat) : Int := (((X.drop k).take (j - k)).map (·.wt)).sum

theorem sumTo_self (X : List PI) (k : Nat) : sumTo X k k = 0 := by simp [sumTo]

theorem sumTo_succ {X : List PI} {k j : Nat} (hk : k ≤ j) (hj : j < X.length) : sumTo X k (j + 1) = sumTo X k j + X[j].wt := by
  unfold sumTo
  have h1 : j - k < (X.drop k).length := by rw [List.length_drop]; omega
  rw [show j + 1 - k = (j - k) + 1 by omega, List.take_succ_eq_append_getElem h1, List.map_append, List.sum_append, List.getElem_drop]
  simp only [List.map_cons, List.map_nil, List.sum_cons, List.sum_nil]
  have e : k + (j - k) = j := by omega
  simp only [e]
  omega

theorem gather_run {X : List PI} {k j : Nat} (hk : k < j) (hj : j ≤ X.length) (hall : ∀ i (h : i < X.length), k ≤ i → i < j → cmpZ X[i] (X[k]'(by omega)) = 0) (hstop : ∀ h : j < X.length, cmpZ X[j] (X[k]'(by omega)) ≠ 0) :
    gatherZ (X.drop k) = if isW (sumTo X k j) = true then (gatherZ (X.drop j)).map fun r => if sumTo X k j = 0 then r else ⟨(X[k]'(by omega)).row, sumTo X k j⟩ :: r else none := by
  have hkl : k < X.length := by omega
  have hA : ∀ y ∈ (X.drop k).take (j - k), cmpZ y X[k] = 0 := fun y hy => by
    obtain ⟨i, hi, rfl⟩ := List.mem_iff_getElem.1 hy
    rw [List.length_take, List.length_drop] at hi
    rw [List.getElem_take, List.getElem_drop]
    exact hall (k + i) (by omega) (by omega) (by omega)
  have hB : ∀ b, (X.drop j).head? = some b → cmpZ b X[k] ≠ 0 := fun b hb => by
    rw [List.head?_drop] at hb
    obtain ⟨h, rfl⟩ := List.getElem?_eq_some_iff.1 hb
    exact hstop h
  have hs := same_stop hA hB
  have e1 : (X.drop k).take (j - k) ++ X.drop j = X.drop k := by
    have := List.take_append_drop (j - k) (X.drop k)
    rw [List.drop_drop, show k + (j - k) = j by omega] at this
    exact this
  rw [e1] at hs
  have e2 : X.drop k = X[k] :: X.drop (k + 1) := List.drop_eq_getElem_cons hkl
  have e3 : restZ X[k] (X.drop (k + 1)) = X.drop j := by
    have := hs.2
    rw [e2, restZ, if_pos (cmpZ_self _)] at this
    exact this
  have h1 := hs.1
  rw [e2] at h1
  conv => lhs; rw [e2, gatherZ, h1, e3]
  unfold sumTo
  rw [e2]

theorem gather_nil {X : List PI} {k : Nat} (h : X.length ≤ k) : gatherZ (X.drop k) = some [] := by rw [List.drop_of_length_le h, gatherZ]

end Go.Proofs.Ytajlkaedkifaoaa

namespace Go.Proofs.Ytajlkaedkifaoaa
open Go.RowKit Go.Lib
set_option linter.unusedVariables false

/-- Two rows of Items, the lesser ahead. -/
def mergeZ : List PI → List PI → List PI
  | [], B => B
  | a :: A, [] => a :: A
  | a :: A, b :: B => if cmpZ a b ≤ 0 then a :: mergeZ A (b :: B) else b :: mergeZ (a :: A) B
termination_by A B => A.length + B.length

theorem mergeZ_nil_left (B : List PI) : mergeZ [] B = B := by rw [mergeZ]
theorem mergeZ_nil_right (A : List PI) : mergeZ A [] = A := by cases A <;> rw [mergeZ]
theorem mergeZ_le {a b : PI} {A B : List PI} (h : cmpZ a b ≤ 0) : mergeZ (a :: A) (b :: B) = a :: mergeZ A (b :: B) := by rw [mergeZ, if_pos h]
theorem mergeZ_gt {a b : PI} {A B : List PI} (h : ¬ cmpZ a b ≤ 0) : mergeZ (a :: A) (b :: B) = b :: mergeZ (a :: A) B := by rw [mergeZ, if_neg h]

theorem mergeZ_perm : ∀ (n : Nat) (A B : List PI), A.length + B.length ≤ n → (mergeZ A B).Perm (A ++ B)
  | _, [], B, _ => by rw [mergeZ_nil_left]; exact List.Perm.refl _
  | _, a :: A, [], _ => by rw [mergeZ_nil_right, List.append_nil]
  | 0, a :: A, b :: B, h => by simp at h
  | n + 1, a :: A, b :: B, h => by
    simp only [List.length_cons] at h
    by_cases hc : cmpZ a b ≤ 0
    · rw [mergeZ_le hc]
      exact List.Perm.cons a (mergeZ_perm n A (b :: B) (by simp only [List.length_cons]; omega))
    · rw [mergeZ_gt hc]
      have ih := mergeZ_perm n (a :: A) B (by simp only [List.length_cons]; omega)
      exact (List.Perm.cons b ih).trans List.perm_middle.symm

theorem mergeZ_sorted : ∀ (n : Nat) {A B : List PI}, A.length + B.length ≤ n → SortZ A → SortZ B → SortZ (mergeZ A B)
  | _, [], B, _, _, hB => by rw [mergeZ_nil_left]; exact hB
  | _, a :: A, [], _, hA, _ => by rw [mergeZ_nil_right]; exact hA
  | 0, a :: A, b :: B, h, _, _ => by simp at h
  | n + 1, a :: A, b :: B, h, hA, hB => by
    simp only [List.length_cons] at h
    obtain ⟨a1, a2⟩ := List.pairwise_cons.1 hA
    obtain ⟨b1, b2⟩ := List.pairwise_cons.1 hB
    by_cases hc : cmpZ a b ≤ 0
    · rw [mergeZ_le hc]
      refine List.pairwise_cons.2 ⟨fun x hx => ?_, mergeZ_sorted n (by simp only [List.length_cons]; omega) a2 hB⟩
      rcases List.mem_append.1 ((mergeZ_perm _ _ _ (Nat.le_refl _)).mem_iff.1 hx) with hx | hx
      · exact a1 x hx
      · rcases List.mem_cons.1 hx with rfl | hx
        · exact hc
        · exact cmpZ_le_trans hc (b1 x hx)
    · rw [mergeZ_gt hc]
      have hba : cmpZ b a ≤ 0 := by rw [cmpZ_flip]; omega
      refine List.pairwise_cons.2 ⟨fun x hx => ?_, mergeZ_sorted n (by simp only [List.length_cons]; omega) hA b2⟩
      rcases List.mem_append.1 ((mergeZ_perm _ _ _ (Nat.le_refl _)).mem_iff.1 hx) with hx | hx
      · rcases List.mem_cons.1 hx with rfl | hx
        · exact hba
        · exact cmpZ_le_trans hba (a1 x hx)
      · exact b1 x hx

/-- What Add answers. -/
def addZ (A B : List PI) : List PI × Int := if riseZ A = true then (if riseZ B = true then makeZ (A ++ B) else ([], 1)) else ([], 1)

theorem rise_all {X : List PI} (h : riseZ X = true) : X.all okI = true := by
  rw [List.all_eq_true]
  intro x hx
  exact ((riseZ_iff.1 h).1 x hx).1

theorem rise_sort {X : List PI} (h : riseZ X = true) : SortZ X := (riseZ_iff.1 h).2.sort

theorem addZ_merge {A B : List PI} (hA : riseZ A = true) (hB : riseZ B = true) : addZ A B = ansZ (gatherZ (mergeZ A B)) := by
  unfold addZ
  rw [if_pos hA, if_pos hB]
  refine makeZ_of ?_ (mergeZ_sorted _ (Nat.le_refl _) (rise_sort hA) (rise_sort hB)) (mergeZ_perm _ _ _ (Nat.le_refl _)).symm
  rw [List.all_append, rise_all hA, rise_all hB]
  rfl

end Go.Proofs.Ytajlkaedkifaoaa
