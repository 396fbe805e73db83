/-
  DotExact, of whatever came in.
-/
import Derived.Test.YtmdjmkpalnhkoaaRows
import Derived.Test.YtmdjmkpalnhkoaaDOut
import Derived.Test.YtmdjmkpalnhkoaaDEx
namespace Go.Proofs.Ytmdjmkpalnhkoaa
open Go.RowKit Go.Lib
set_option linter.unusedVariables false

theorem dexact_walk (D : DotApi) (a b l : Option Addr) (n m q cap dap eap : Nat) (za zb : List Int) (L : List (List Int)) (dp dk fp fk : Int) (w : World) (ha : IsInts .i64 w a n cap za) (hb : IsInts .i64 w b m dap zb) (hl : IsRows w l q eap L) (i0 : In64 dp) (i1 : In64 dk) (i2 : In64 fp) (i3 : In64 fk) :
    Calls Try.prog 3 #[.slice a n cap, .slice b m dap, .agg #[.int .i64 dp, .int .i64 dk], .agg #[.int .i64 fp, .int .i64 fk], .slice l q eap] w fun e w' => e = .returned (.bool true) ∧ Below w.heap.size w w' := by
  obtain ⟨A, hA, hca, ra, na, wa⟩ := ha.ints
  obtain ⟨B, hB, hcb, rb, nb, wb⟩ := hb.ints
  obtain ⟨hL, _, rl, _, hv⟩ := hl.rows
  have out := dexact_out a b l n m q cap dap eap A B dp dk fp fk w hA hB ha.small hb.small hca hcb na nb ra rb
  by_cases h1 : 30 < n ∨ 30 < m
  · exact out (.inl h1)
  by_cases h2 : 30 < q
  · exact out (.inr fun W _ => heavyD_long l q eap W h2 hl.small)
  have C := fun (W : World) (h : Below w.heap.size w W) => heavyD_few l q eap L W hL (by omega) (fun v h => (hv v h).2) (rl.later h)
  cases hh : heavyD L with
  | true =>
    rw [hh] at C
    exact out (.inr C)
  | false =>
    refine dexact_some D a b l n m q cap dap eap A B L dp dk fp fk w hA hB hL (by omega) (by omega) (by omega) (fun v h => ⟨?_, (hv v h).1⟩) hca hcb na nb ra rb rl (all64_of wa) (all64_of wb) i0 i1 i2 i3 hh
    unfold heavyD at hh
    rw [List.any_eq_false] at hh
    simpa using hh v h

end Go.Proofs.Ytmdjmkpalnhkoaa
