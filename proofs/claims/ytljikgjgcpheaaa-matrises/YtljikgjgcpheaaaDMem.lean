/-
  Rows of rows of numbers in memory; what the calls of package dot answer, as the laws' walks ask it.
-/
import Derived.Test.YtljikgjgcpheaaaRows
import Derived.Test.YtljikgjgcpheaaaRInts
import Derived.Test.YtljikgjgcpheaaaDCalc
import Derived.Deep.Strs
namespace Go.Proofs.Ytljikgjgcpheaaa
open Go.ChangeShapes Go.WideShapes Go.ChangeAt Go.RowKit Go.Lib
set_option linter.unusedVariables false

/-- A slice that leads to these numbers. -/
def SlI (w : World) (v : Value) (N : List Int) : Prop := ∃ a cap, v = .slice a N.length cap ∧ N.length ≤ cap ∧ RdI .i64 w a N ∧ (a = none → N = [] ∧ cap = 0)

theorem SlI.later {w w' : World} {v : Value} {N : List Int} (h : SlI w v N) (hb : Below w.heap.size w w') : SlI w' v N := by
  obtain ⟨a, cap, h1, h2, h3, h4⟩ := h
  exact ⟨a, cap, h1, h2, h3.later hb, h4⟩

/-- A slice's beginning, and the rows of numbers that are read from there on. -/
def RdII (w : World) (a : Option Addr) (L : List (List Int)) : Prop :=
  0 < L.length → ∃ b off, a = some ⟨b, off, none⟩ ∧ ∀ i (hi : i < L.length), ∃ u, w.cell? ⟨b, off + i, none⟩ = some u ∧ SlI w u L[i]

theorem RdII.later {w w' : World} {a : Option Addr} {L : List (List Int)} (h : RdII w a L) (hb : Below w.heap.size w w') : RdII w' a L := by
  intro h0
  obtain ⟨b, off, e, hc⟩ := h h0
  refine ⟨b, off, e, fun i hi => ?_⟩
  obtain ⟨u, h1, h2⟩ := hc i hi
  exact ⟨u, cell_later hb h1, h2.later hb⟩

theorem RdII.nil (w : World) (a : Option Addr) : RdII w a [] := fun h => absurd h (by simp)

/-- What a call that makes numbers hands back. -/
def GivesI (w w' : World) (e : Ending) (r : List Int × Int) : Prop :=
  ∃ a n cap, e = .returned (.tuple #[.slice a n cap, .int .i64 r.2]) ∧ r.1.length = n ∧ n ≤ 65536 ∧ n ≤ cap ∧ OwnI w' w.heap.size (.slice a n cap) r.1 ∧ RdI .i64 w' a r.1 ∧ (a = none → r.1 = [] ∧ cap = 0) ∧ Below w.heap.size w w'

theorem GivesI.of_no {w w' : World} {e : Ending} {k : Int} (h : e = .returned (.tuple #[.slice none 0 0, .int .i64 k])) (hb : Below w.heap.size w w') : GivesI w w' e ([], k) :=
  ⟨none, 0, 0, h, rfl, by omega, Nat.le_refl _, OwnI.nought _ _, fun h => absurd h (by simp), fun _ => ⟨rfl, rfl⟩, hb⟩

def DotCheck : Prop := ∀ (a : Option Addr) (n cap : Nat) (N : List Int) (w : World), N.length = n → n ≤ 65536 → All64 N → RdI .i64 w a N → Calls Try.prog 29 #[.slice a n cap] w fun e w' => e = .returned (.int .i64 (chkD N)) ∧ Below w.heap.size w w'

def DotHas : Prop := ∀ (a : Option Addr) (n cap : Nat) (p k : Int) (N : List Int) (w : World), N.length = n → n ≤ 65536 → All64 N → In64 p → In64 k → RdI .i64 w a N → Calls Try.prog 22 #[.slice a n cap, .agg #[.int .i64 p, .int .i64 k]] w fun e w' => e = .returned (.bool (hasD N p k)) ∧ Below w.heap.size w w'

def DotLe : Prop := ∀ (a b : Option Addr) (n m cap dap : Nat) (A B : List Int) (w : World), A.length = n → B.length = m → n ≤ 65536 → m ≤ 65536 → All64 A → All64 B → RdI .i64 w a A → RdI .i64 w b B → Calls Try.prog 21 #[.slice a n cap, .slice b m dap] w fun e w' => e = .returned (.bool (leD A B)) ∧ Below w.heap.size w w'

def DotMerge : Prop := ∀ (a b : Option Addr) (n m cap dap : Nat) (A B : List Int) (w : World), A.length = n → B.length = m → n ≤ 65536 → m ≤ 65536 → All64 A → All64 B → RdI .i64 w a A → RdI .i64 w b B → Calls Try.prog 28 #[.slice a n cap, .slice b m dap] w fun e w' => GivesI w w' e (mergeD A B)

def DotLeastC : Prop := ∀ (a : Option Addr) (n cap : Nat) (L : List (List Int)) (w : World), L.length = n → n ≤ 65536 → n ≤ cap → (∀ v ∈ L, v.length ≤ 65536 ∧ All64 v) → RdII w a L → Calls Try.prog 24 #[.slice a n cap] w fun e w' => GivesI w w' e (leastD L)

/-- New rows of numbers: two numbers, and none. -/
theorem rdI_two (w : World) (g : Nat) (hg : w.heap.size = g) (x y : Int) : RdI .i64 (w.alloc (.cells #[.int .i64 x, .int .i64 y] 3)) (some ⟨g, 0, none⟩) [x, y] := by
  subst hg
  refine fun _ => ⟨w.heap.size, 0, rfl, fun j hj => ?_⟩
  rw [cell_of_row (w.alloc (.cells #[.int .i64 x, .int .i64 y] 3)) w.heap.size _ #[.int .i64 x, .int .i64 y] 3 (0, 0) (by show (w.heap.push _)[w.heap.size]? = _; simp)]
  rcases j with _ | _ | j
  · rfl
  · rfl
  · exact absurd hj (by simp)

/-- A slice of rows of numbers that came in. -/
def IsRows (w : World) (a : Option Addr) (len cap : Nat) (L : List (List Int)) : Prop :=
  (a = none ∧ len = 0 ∧ cap = 0 ∧ L = []) ∨
  ∃ x, a = some x ∧ len ≤ cap ∧ cap ≤ maxLen ∧ L.length = len ∧ ∀ i (hi : i < L.length), ∃ u, w.cell? (x.add i) = some u ∧ SlI w u L[i] ∧ All64 L[i] ∧ L[i].length ≤ 9223372036854775807

theorem all64_of {N : List Int} (h : ∀ n ∈ N, (Lit.int .i64 n).wf = true) : All64 N := by
  intro x hx
  have := h x hx
  have := bounds_i64 this
  unfold In64
  omega

theorem SlI.of_ints {w : World} {a : Option Addr} {len cap : Nat} {zs : List Int} (h : IsInts .i64 w a len cap zs) : ∃ N, SlI w (.slice a len cap) N ∧ All64 N ∧ N.length = len := by
  obtain ⟨N, h1, h2, h3, h4, h5⟩ := h.ints
  subst h1
  exact ⟨N, ⟨a, cap, rfl, h2, h3, h4⟩, all64_of h5, rfl⟩

theorem rows_of {H : Type} {enc : TypeId × Value → H} {w : World} {a : Option Addr} {len cap : Nat} {d : DataW H} {p : List MemPlace}
    (h : DataW.Trod enc Try.prog w 0 (fun _ => true) true 22 (Value.slice a len cap) d p) : ∃ L, IsRows w a len cap L := by
  obtain ⟨fuel, hf⟩ := h
  have hci : Try.prog.cellsOf 3 = 1 := by kernel_rfl
  have hc : Try.prog.cellsOf 23 = 1 := by kernel_rfl
  rcases DataW.trod_slice Try.underlying22 hf with ⟨hcs, _⟩ | ⟨x, l, c, elems, rest, n, _, hcs, _, _, hl, hm, hlen, hel, _, _⟩
  · simp [Value.cells] at hcs
    obtain ⟨rfl, rfl, rfl⟩ := hcs
    exact ⟨[], .inl ⟨rfl, rfl, rfl, rfl⟩⟩
  · simp [Value.cells] at hcs
    obtain ⟨rfl, rfl, rfl⟩ := hcs
    have each : ∀ i, i < len → ∃ N u, w.cell? (x.add i) = some u ∧ SlI w u N ∧ All64 N ∧ N.length ≤ 9223372036854775807 := by
      intro i hi
      have h1 := hel i hi
      rw [hc, List.getElem?_eq_getElem (by omega), Option.bind_eq_some_iff, Nat.mul_one] at h1
      obtain ⟨cs, hcs, hy⟩ := h1
      have hu : ∃ u, cs = [u] ∧ w.cell? (x.add i) = some u := by
        unfold World.cells? at hcs
        split at hcs
        · rw [show List.range 1 = [0] from rfl] at hcs
          simp only [List.mapM_cons, List.mapM_nil, Option.pure_def, Option.bind_eq_bind, Option.bind_eq_some_iff, Option.some.injEq] at hcs
          obtain ⟨u, hu, r, rfl, rfl⟩ := hcs
          have h0 : (x.add i).add 0 = x.add i := by unfold Addr.add; split <;> simp_all
          rw [h0] at hu
          exact ⟨u, rfl, hu⟩
        · cases hcs
      obtain ⟨u, rfl, hu⟩ := hu
      have hs : ∃ a2 l2 c2 zs, u = .slice a2 l2 c2 ∧ IsInts .i64 w a2 l2 c2 zs := by
        rcases open_ints Try.underlying23 Try.underlying3 hci hy with ⟨h2, _⟩ | ⟨x2, l2, c2, zs, h2, _, hl2, hm2, hz2, _, hcell, hwz⟩
        · simp at h2
          exact ⟨none, 0, 0, [], h2, .inl ⟨rfl, rfl, rfl, rfl⟩⟩
        · simp at h2
          exact ⟨some x2, l2, c2, zs, h2, .inr ⟨_, rfl, hl2, hm2, by simpa using hz2, hcell, hwz⟩⟩
      obtain ⟨a2, l2, c2, zs, rfl, hi2⟩ := hs
      obtain ⟨N, hN, h64, hNl⟩ := SlI.of_ints hi2
      exact ⟨N, _, hu, hN, h64, by rw [hNl]; exact hi2.small⟩
    refine ⟨(List.range len).map fun i => if h : i < len then (each i h).choose else [], .inr ⟨x, rfl, hl, hm, by simp, fun i hi => ?_⟩⟩
    have hi' : i < len := by simpa using hi
    have := (each i hi').choose_spec
    simp only [List.getElem_map, List.getElem_range, dif_pos hi']
    exact this

theorem IsRows.small {w : World} {a : Option Addr} {len cap : Nat} {L : List (List Int)} (h : IsRows w a len cap L) : len ≤ 9223372036854775807 := by
  rcases h with ⟨_, rfl, _, _⟩ | ⟨x, _, h1, h2, _⟩
  · omega
  · unfold maxLen at h2
    omega

theorem IsRows.rows {w : World} {a : Option Addr} {len cap : Nat} {L : List (List Int)} (h : IsRows w a len cap L) : L.length = len ∧ len ≤ cap ∧ RdII w a L ∧ (a = none → L = [] ∧ cap = 0) ∧ ∀ v ∈ L, All64 v ∧ v.length ≤ 9223372036854775807 := by
  rcases h with ⟨rfl, rfl, rfl, rfl⟩ | ⟨x, rfl, h1, _, h3, h4⟩
  · exact ⟨rfl, Nat.le_refl _, RdII.nil _ _, fun _ => ⟨rfl, rfl⟩, fun v hv => by cases hv⟩
  · refine ⟨h3, h1, fun h0 => ?_, (fun h => by cases h), fun v hv => ?_⟩
    · have hx : x.spot = none := by
        obtain ⟨u, h00, _⟩ := h4 0 h0
        have := World.cell?_spot h00
        simpa [Addr.add] using this
      obtain ⟨b, off, sp⟩ := x
      simp only at hx
      subst hx
      refine ⟨b, off, rfl, fun i hi => ?_⟩
      obtain ⟨u, hu, hs, _⟩ := h4 i hi
      rw [add_plain3] at hu
      exact ⟨u, hu, hs⟩
    · obtain ⟨i, hi, rfl⟩ := List.mem_iff_getElem.1 hv
      obtain ⟨u, _, _, h64, hl⟩ := h4 i hi
      exact ⟨h64, hl⟩

end Go.Proofs.Ytljikgjgcpheaaa
