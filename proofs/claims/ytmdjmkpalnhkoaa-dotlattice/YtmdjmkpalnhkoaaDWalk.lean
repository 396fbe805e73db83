/-
  DotLattice, of whatever came in.
-/
import Derived.Test.YtmdjmkpalnhkoaaRows
import Derived.Test.YtmdjmkpalnhkoaaDOut
import Derived.Test.YtmdjmkpalnhkoaaDLat
namespace Go.Proofs.Ytmdjmkpalnhkoaa
open Go.RowKit Go.Lib
set_option linter.unusedVariables false

theorem dlattice_walk (D : DotApi) (a b c : Option Addr) (n m q cap dap eap : Nat) (za zb zc : List Int) (dp dk : Int) (w : World) (ha : IsInts .i64 w a n cap za) (hb : IsInts .i64 w b m dap zb) (hc : IsInts .i64 w c q eap zc) (i0 : In64 dp) (i1 : In64 dk) :
    Calls Try.prog 4 #[.slice a n cap, .slice b m dap, .slice c q eap, .agg #[.int .i64 dp, .int .i64 dk]] w fun e w' => e = .returned (.bool true) ∧ Below w.heap.size w w' := by
  obtain ⟨A, hA, hca, ra, na, _⟩ := ha.ints
  obtain ⟨B, hB, hcb, rb, nb, _⟩ := hb.ints
  obtain ⟨C, hC, hcc, rc, nc, _⟩ := hc.ints
  have out := dlattice_out a b c n m q cap dap eap A B C dp dk w hA hB hC ha.small hb.small hc.small ra rb rc
  by_cases h1 : n = m
  · by_cases h2 : m = q
    · by_cases h3 : chkD A = 0
      · by_cases h4 : chkD B = 0
        · by_cases h5 : chkD C = 0
          · subst h1 h2
            exact dlattice_some D a b c n cap dap eap A B C dp dk w hA hB hC hca hcb hcc na nb nc ra rb rc h3 h4 h5 i0 i1
          · exact out (.inr ⟨h1, .inr ⟨h2, .inr ⟨h3, .inr ⟨h4, h5⟩⟩⟩⟩)
        · exact out (.inr ⟨h1, .inr ⟨h2, .inr ⟨h3, .inl h4⟩⟩⟩)
      · exact out (.inr ⟨h1, .inr ⟨h2, .inl h3⟩⟩)
    · exact out (.inr ⟨h1, .inl h2⟩)
  · exact out (.inl h1)

end Go.Proofs.Ytmdjmkpalnhkoaa
