/-
  No cell of these rows narrows 'for every input' (looked for: loops, veiled, ifaces, maps, wideKeys, modest, calm, conditions, laid).
  DERIVED. THE GIVEN ROWS OF THIS SEAT. 5 by the template 'for every input the law returns true; each argument reads behind the call as it read before'; 0 by the template 'total and deterministic' (their statements: YtmdjmkpalnhkoaaTotals.lean).
  GIVEN WITH THE SEED: the statements are not yours to turn. If you find one false, say at which input.
  Laid BY PROGRAM, IN A SANDBOX (cutbox-rows.mjs): the forced cells as the released guide's own fill.sh prints them over the translation 8502461aa12a9e3e… (all of the seat's roots in one cut). By AI agents, Wed Nov 11 2026. No macro, syntax, notation, axiom, sorry.
-/
import Derived.Test.YtmdjmkpalnhkoaaChecked
import GoSem.Claim
import GoSem.ClaimJoined
import GoSem.ClaimMapViews
import Derived.JoinedTies
import Derived.KernelRfl
namespace Go.Proofs.Ytmdjmkpalnhkoaa
/- THE CELL 'sum', in the pinned program and in every row, IS THE sha256 OF THE DUMP (.gsa) THAT YtmdjmkpalnhkoaaProg.lean LOADS. Nothing in Lean hashes anything: it is a label: what it is worth is what the hold of that sum in a sandbox is worth. -/
noncomputable def Try.pinned : Pinned := { name := "ytmdjmkpalnhkoaa", sum := "8502461aa12a9e3e533815bcb551ab0f1e5db74c2a2b88a98e3053bc15489870", checked := Try.checked }
namespace Rows
def none {H : Type} : Left H := { results := [], args := [] }

/-- 'raddlelaw05.DotExact': WHATEVER THE INPUT: true; the input reads as it did. -/
def dotExactSpec : ChangeSpec := { name := "dotExact", fn := fun _ => fun
  | [d1, d2, d3, d4, d5] => { results := [.lit (.bool true)], args := [d1, d2, d3, d4, d5] }
  | _ => none }
def dotExactRow : OpenClaim := { program := "ytmdjmkpalnhkoaa", sum := "8502461aa12a9e3e533815bcb551ab0f1e5db74c2a2b88a98e3053bc15489870", func := "raddle/raddlelaw05.DotExact", spec := "dotExact", apart := false }
def DotExactSaid : Prop := dotExactRow.holds Try.pinned (OpenSpec.ofChange dotExactSpec)

/-- ITS FALSE NEIGHBOUR: 'it returns false'. Refute it at one input. -/
def dotExactWrong : ChangeSpec := { name := "dotExact", fn := fun _ => fun
  | [d1, d2, d3, d4, d5] => { results := [.lit (.bool false)], args := [d1, d2, d3, d4, d5] }
  | _ => none }
def DotExactWrongFalsely : Prop := dotExactRow.holds Try.pinned (OpenSpec.ofChange dotExactWrong)

/-- 'raddlelaw05.DotLattice': WHATEVER THE INPUT: true; the input reads as it did. -/
def dotLatticeSpec : ChangeSpec := { name := "dotLattice", fn := fun _ => fun
  | [d1, d2, d3, d4] => { results := [.lit (.bool true)], args := [d1, d2, d3, d4] }
  | _ => none }
def dotLatticeRow : OpenClaim := { program := "ytmdjmkpalnhkoaa", sum := "8502461aa12a9e3e533815bcb551ab0f1e5db74c2a2b88a98e3053bc15489870", func := "raddle/raddlelaw05.DotLattice", spec := "dotLattice", apart := false }
def DotLatticeSaid : Prop := dotLatticeRow.holds Try.pinned (OpenSpec.ofChange dotLatticeSpec)

/-- ITS FALSE NEIGHBOUR: 'it returns false'. Refute it at one input. -/
def dotLatticeWrong : ChangeSpec := { name := "dotLattice", fn := fun _ => fun
  | [d1, d2, d3, d4] => { results := [.lit (.bool false)], args := [d1, d2, d3, d4] }
  | _ => none }
def DotLatticeWrongFalsely : Prop := dotLatticeRow.holds Try.pinned (OpenSpec.ofChange dotLatticeWrong)

/-- 'raddlelaw05.DotSteps': WHATEVER THE INPUT: true; the input reads as it did. -/
def dotStepsSpec : ChangeSpec := { name := "dotSteps", fn := fun _ => fun
  | [d1, d2, d3] => { results := [.lit (.bool true)], args := [d1, d2, d3] }
  | _ => none }
def dotStepsRow : OpenClaim := { program := "ytmdjmkpalnhkoaa", sum := "8502461aa12a9e3e533815bcb551ab0f1e5db74c2a2b88a98e3053bc15489870", func := "raddle/raddlelaw05.DotSteps", spec := "dotSteps", apart := false }
def DotStepsSaid : Prop := dotStepsRow.holds Try.pinned (OpenSpec.ofChange dotStepsSpec)

/-- ITS FALSE NEIGHBOUR: 'it returns false'. Refute it at one input. -/
def dotStepsWrong : ChangeSpec := { name := "dotSteps", fn := fun _ => fun
  | [d1, d2, d3] => { results := [.lit (.bool false)], args := [d1, d2, d3] }
  | _ => none }
def DotStepsWrongFalsely : Prop := dotStepsRow.holds Try.pinned (OpenSpec.ofChange dotStepsWrong)

/-- 'raddlelaw05.DotLess': WHATEVER THE INPUT: true; the input reads as it did. -/
def dotLessSpec : ChangeSpec := { name := "dotLess", fn := fun _ => fun
  | [d1, d2, d3] => { results := [.lit (.bool true)], args := [d1, d2, d3] }
  | _ => none }
def dotLessRow : OpenClaim := { program := "ytmdjmkpalnhkoaa", sum := "8502461aa12a9e3e533815bcb551ab0f1e5db74c2a2b88a98e3053bc15489870", func := "raddle/raddlelaw05.DotLess", spec := "dotLess", apart := false }
def DotLessSaid : Prop := dotLessRow.holds Try.pinned (OpenSpec.ofChange dotLessSpec)

/-- ITS FALSE NEIGHBOUR: 'it returns false'. Refute it at one input. -/
def dotLessWrong : ChangeSpec := { name := "dotLess", fn := fun _ => fun
  | [d1, d2, d3] => { results := [.lit (.bool false)], args := [d1, d2, d3] }
  | _ => none }
def DotLessWrongFalsely : Prop := dotLessRow.holds Try.pinned (OpenSpec.ofChange dotLessWrong)

/-- 'raddlelaw05.DotLeast': WHATEVER THE INPUT: true; the input reads as it did. -/
def dotLeastSpec : ChangeSpec := { name := "dotLeast", fn := fun _ => fun
  | [d1, d2] => { results := [.lit (.bool true)], args := [d1, d2] }
  | _ => none }
def dotLeastRow : OpenClaim := { program := "ytmdjmkpalnhkoaa", sum := "8502461aa12a9e3e533815bcb551ab0f1e5db74c2a2b88a98e3053bc15489870", func := "raddle/raddlelaw05.DotLeast", spec := "dotLeast", apart := false }
def DotLeastSaid : Prop := dotLeastRow.holds Try.pinned (OpenSpec.ofChange dotLeastSpec)

/-- ITS FALSE NEIGHBOUR: 'it returns false'. Refute it at one input. -/
def dotLeastWrong : ChangeSpec := { name := "dotLeast", fn := fun _ => fun
  | [d1, d2] => { results := [.lit (.bool false)], args := [d1, d2] }
  | _ => none }
def DotLeastWrongFalsely : Prop := dotLeastRow.holds Try.pinned (OpenSpec.ofChange dotLeastWrong)

/- THE SECOND FORM. 'bulk': how many values and letters a reading holds, each counted each time it is reached (what is shared counts as often as it is met; a slice's spare places count too). A statement '..UptoSaid' is the law's where the arguments, and the package variables that the reading takes, are together of bulk at most 1048576: NARROWER than '..Said'. Prove '..Said' where nothing that the law and all that it calls make is longer than what came in: it says more and counts as full. Else prove '..UptoSaid'. A law counts once. -/
mutual
def uptoBulk {H : Type} : DataW H → Nat
  | .lit (.string bytes) => bytes.length + 1
  | .lit _ => 1
  | .nil => 1
  | .ptr d => uptoBulk d + 1
  | .slice elems spare => uptoBulkAll elems + uptoBulkAll spare + 1
  | .agg parts => uptoBulkAll parts + 1
  | .iface _ d => uptoBulk d + 1
  | .map entries => uptoBulkEntries entries + 1
  | .held _ => 1
def uptoBulkAll {H : Type} : List (DataW H) → Nat
  | [] => 0
  | d :: r => uptoBulk d + uptoBulkAll r
def uptoBulkEntries {H : Type} : List (Lit × DataW H) → Nat
  | [] => 0
  | x :: r => uptoBulkEntry x + uptoBulkEntries r
def uptoBulkEntry {H : Type} : Lit × DataW H → Nat
  | (.string bytes, d) => bytes.length + uptoBulk d + 1
  | (_, d) => uptoBulk d + 1
 end
def uptoSmall : (H : Type) → List (DataW H) → Bool := fun _ ds => decide (uptoBulkAll ds ≤ 1048576)
def OpenSpec.upto (s : _root_.Go.ChangeSpec) : _root_.Go.OpenSpec := { _root_.Go.OpenSpec.ofChange s with cond := some uptoSmall }

/-- 'raddlelaw05.DotExact', WHERE WHAT IT READS IS OF BULK AT MOST 1048576: true; the input reads as it did. -/
def dotExactUptoRow : OpenClaim := { program := "ytmdjmkpalnhkoaa", sum := "8502461aa12a9e3e533815bcb551ab0f1e5db74c2a2b88a98e3053bc15489870", func := "raddle/raddlelaw05.DotExact", spec := "dotExact", apart := false, narrowed := true }
def DotExactUptoSaid : Prop := dotExactUptoRow.holds Try.pinned (OpenSpec.upto dotExactSpec)

/-- 'raddlelaw05.DotLattice', WHERE WHAT IT READS IS OF BULK AT MOST 1048576: true; the input reads as it did. -/
def dotLatticeUptoRow : OpenClaim := { program := "ytmdjmkpalnhkoaa", sum := "8502461aa12a9e3e533815bcb551ab0f1e5db74c2a2b88a98e3053bc15489870", func := "raddle/raddlelaw05.DotLattice", spec := "dotLattice", apart := false, narrowed := true }
def DotLatticeUptoSaid : Prop := dotLatticeUptoRow.holds Try.pinned (OpenSpec.upto dotLatticeSpec)

/-- 'raddlelaw05.DotSteps', WHERE WHAT IT READS IS OF BULK AT MOST 1048576: true; the input reads as it did. -/
def dotStepsUptoRow : OpenClaim := { program := "ytmdjmkpalnhkoaa", sum := "8502461aa12a9e3e533815bcb551ab0f1e5db74c2a2b88a98e3053bc15489870", func := "raddle/raddlelaw05.DotSteps", spec := "dotSteps", apart := false, narrowed := true }
def DotStepsUptoSaid : Prop := dotStepsUptoRow.holds Try.pinned (OpenSpec.upto dotStepsSpec)

/-- 'raddlelaw05.DotLess', WHERE WHAT IT READS IS OF BULK AT MOST 1048576: true; the input reads as it did. -/
def dotLessUptoRow : OpenClaim := { program := "ytmdjmkpalnhkoaa", sum := "8502461aa12a9e3e533815bcb551ab0f1e5db74c2a2b88a98e3053bc15489870", func := "raddle/raddlelaw05.DotLess", spec := "dotLess", apart := false, narrowed := true }
def DotLessUptoSaid : Prop := dotLessUptoRow.holds Try.pinned (OpenSpec.upto dotLessSpec)

/-- 'raddlelaw05.DotLeast', WHERE WHAT IT READS IS OF BULK AT MOST 1048576: true; the input reads as it did. -/
def dotLeastUptoRow : OpenClaim := { program := "ytmdjmkpalnhkoaa", sum := "8502461aa12a9e3e533815bcb551ab0f1e5db74c2a2b88a98e3053bc15489870", func := "raddle/raddlelaw05.DotLeast", spec := "dotLeast", apart := false, narrowed := true }
def DotLeastUptoSaid : Prop := dotLeastUptoRow.holds Try.pinned (OpenSpec.upto dotLeastSpec)

end Rows
end Go.Proofs.Ytmdjmkpalnhkoaa
