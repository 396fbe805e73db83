/-
  No cell of these rows narrows 'for every input' (looked for: loops, veiled, ifaces, maps, wideKeys, modest, calm, conditions, laid).
  DERIVED. THE GIVEN ROWS OF THIS SEAT. 4 by the template 'for every input the law returns true; each argument reads behind the call as it read before'; 0 by the template 'total and deterministic' (their statements: YtljikgjgcpheaaaTotals.lean).
  GIVEN WITH THE SEED: the statements are not yours to turn. If you find one false, say at which input.
  Laid BY PROGRAM, IN A SANDBOX (cutbox-rows.mjs): the forced cells as the released guide's own fill.sh prints them over the translation bf767398fec56108… (all of the seat's roots in one cut). By AI agents, Wed Nov 11 2026. No macro, syntax, notation, axiom, sorry.
-/
import Derived.Test.YtljikgjgcpheaaaChecked
import GoSem.Claim
import GoSem.ClaimJoined
import GoSem.ClaimMapViews
import Derived.JoinedTies
import Derived.KernelRfl
namespace Go.Proofs.Ytljikgjgcpheaaa
/- THE CELL 'sum', in the pinned program and in every row, IS THE sha256 OF THE DUMP (.gsa) THAT YtljikgjgcpheaaaProg.lean LOADS. Nothing in Lean hashes anything: it is a label: what it is worth is what the hold of that sum in a sandbox is worth. -/
noncomputable def Try.pinned : Pinned := { name := "ytljikgjgcpheaaa", sum := "bf767398fec56108ae5b2cbf6dfe53191ee3dd88bb25a6d9ec42bb6796d1ff36", checked := Try.checked }
namespace Rows
def none {H : Type} : Left H := { results := [], args := [] }

/-- 'raddlelaw11.MatExact': WHATEVER THE INPUT: true; the input reads as it did. -/
def matExactSpec : ChangeSpec := { name := "matExact", fn := fun _ => fun
  | [d1, d2, d3, d4, d5] => { results := [.lit (.bool true)], args := [d1, d2, d3, d4, d5] }
  | _ => none }
def matExactRow : OpenClaim := { program := "ytljikgjgcpheaaa", sum := "bf767398fec56108ae5b2cbf6dfe53191ee3dd88bb25a6d9ec42bb6796d1ff36", func := "raddle/raddlelaw11.MatExact", spec := "matExact", apart := false }
def MatExactSaid : Prop := matExactRow.holds Try.pinned (OpenSpec.ofChange matExactSpec)

/-- ITS FALSE NEIGHBOUR: 'it returns false'. Refute it at one input. -/
def matExactWrong : ChangeSpec := { name := "matExact", fn := fun _ => fun
  | [d1, d2, d3, d4, d5] => { results := [.lit (.bool false)], args := [d1, d2, d3, d4, d5] }
  | _ => none }
def MatExactWrongFalsely : Prop := matExactRow.holds Try.pinned (OpenSpec.ofChange matExactWrong)

/-- 'raddlelaw11.MatRises': WHATEVER THE INPUT: true; the input reads as it did. -/
def matRisesSpec : ChangeSpec := { name := "matRises", fn := fun _ => fun
  | [d1, d2, d3, d4] => { results := [.lit (.bool true)], args := [d1, d2, d3, d4] }
  | _ => none }
def matRisesRow : OpenClaim := { program := "ytljikgjgcpheaaa", sum := "bf767398fec56108ae5b2cbf6dfe53191ee3dd88bb25a6d9ec42bb6796d1ff36", func := "raddle/raddlelaw11.MatRises", spec := "matRises", apart := false }
def MatRisesSaid : Prop := matRisesRow.holds Try.pinned (OpenSpec.ofChange matRisesSpec)

/-- ITS FALSE NEIGHBOUR: 'it returns false'. Refute it at one input. -/
def matRisesWrong : ChangeSpec := { name := "matRises", fn := fun _ => fun
  | [d1, d2, d3, d4] => { results := [.lit (.bool false)], args := [d1, d2, d3, d4] }
  | _ => none }
def MatRisesWrongFalsely : Prop := matRisesRow.holds Try.pinned (OpenSpec.ofChange matRisesWrong)

/-- 'raddlelaw11.MatAll': WHATEVER THE INPUT: true; the input reads as it did. -/
def matAllSpec : ChangeSpec := { name := "matAll", fn := fun _ => fun
  | [d1, d2] => { results := [.lit (.bool true)], args := [d1, d2] }
  | _ => none }
def matAllRow : OpenClaim := { program := "ytljikgjgcpheaaa", sum := "bf767398fec56108ae5b2cbf6dfe53191ee3dd88bb25a6d9ec42bb6796d1ff36", func := "raddle/raddlelaw11.MatAll", spec := "matAll", apart := false }
def MatAllSaid : Prop := matAllRow.holds Try.pinned (OpenSpec.ofChange matAllSpec)

/-- ITS FALSE NEIGHBOUR: 'it returns false'. Refute it at one input. -/
def matAllWrong : ChangeSpec := { name := "matAll", fn := fun _ => fun
  | [d1, d2] => { results := [.lit (.bool false)], args := [d1, d2] }
  | _ => none }
def MatAllWrongFalsely : Prop := matAllRow.holds Try.pinned (OpenSpec.ofChange matAllWrong)

/-- 'raddlelaw11.MatLater': WHATEVER THE INPUT: true; the input reads as it did. -/
def matLaterSpec : ChangeSpec := { name := "matLater", fn := fun _ => fun
  | [d1, d2, d3, d4] => { results := [.lit (.bool true)], args := [d1, d2, d3, d4] }
  | _ => none }
def matLaterRow : OpenClaim := { program := "ytljikgjgcpheaaa", sum := "bf767398fec56108ae5b2cbf6dfe53191ee3dd88bb25a6d9ec42bb6796d1ff36", func := "raddle/raddlelaw11.MatLater", spec := "matLater", apart := false }
def MatLaterSaid : Prop := matLaterRow.holds Try.pinned (OpenSpec.ofChange matLaterSpec)

/-- ITS FALSE NEIGHBOUR: 'it returns false'. Refute it at one input. -/
def matLaterWrong : ChangeSpec := { name := "matLater", fn := fun _ => fun
  | [d1, d2, d3, d4] => { results := [.lit (.bool false)], args := [d1, d2, d3, d4] }
  | _ => none }
def MatLaterWrongFalsely : Prop := matLaterRow.holds Try.pinned (OpenSpec.ofChange matLaterWrong)

/- THE SECOND FORM. 'bulk': how many values and letters a reading holds, each counted each time it is reached (what is shared counts as often as it is met; a slice's spare places count too). A statement '..UptoSaid' is the law's where the arguments, and the package variables that the reading takes, are together of bulk at most 1048576: NARROWER than '..Said'. Prove '..Said' where nothing that the law and all that it calls make is longer than what came in: it says more and counts as full. Else prove '..UptoSaid'. A law counts once. -/
mutual
def uptoBulk {H : Type} : DataW H → Nat
  | .lit (.string bytes) => bytes.length + 1
  | .lit _ => 1
  | .nil => 1
  | .ptr d => uptoBulk d + 1
  | .slice elems spare => uptoBulkAll elems + uptoBulkAll spare + 1
  | .agg parts => uptoBulkAll parts + 1
  | .iface _ d => uptoBulk d + 1
  | .map entries => uptoBulkEntries entries + 1
  | .held _ => 1
def uptoBulkAll {H : Type} : List (DataW H) → Nat
  | [] => 0
  | d :: r => uptoBulk d + uptoBulkAll r
def uptoBulkEntries {H : Type} : List (Lit × DataW H) → Nat
  | [] => 0
  | x :: r => uptoBulkEntry x + uptoBulkEntries r
def uptoBulkEntry {H : Type} : Lit × DataW H → Nat
  | (.string bytes, d) => bytes.length + uptoBulk d + 1
  | (_, d) => uptoBulk d + 1
 end
def uptoSmall : (H : Type) → List (DataW H) → Bool := fun _ ds => decide (uptoBulkAll ds ≤ 1048576)
def OpenSpec.upto (s : _root_.Go.ChangeSpec) : _root_.Go.OpenSpec := { _root_.Go.OpenSpec.ofChange s with cond := some uptoSmall }

/-- 'raddlelaw11.MatExact', WHERE WHAT IT READS IS OF BULK AT MOST 1048576: true; the input reads as it did. -/
def matExactUptoRow : OpenClaim := { program := "ytljikgjgcpheaaa", sum := "bf767398fec56108ae5b2cbf6dfe53191ee3dd88bb25a6d9ec42bb6796d1ff36", func := "raddle/raddlelaw11.MatExact", spec := "matExact", apart := false, narrowed := true }
def MatExactUptoSaid : Prop := matExactUptoRow.holds Try.pinned (OpenSpec.upto matExactSpec)

/-- 'raddlelaw11.MatRises', WHERE WHAT IT READS IS OF BULK AT MOST 1048576: true; the input reads as it did. -/
def matRisesUptoRow : OpenClaim := { program := "ytljikgjgcpheaaa", sum := "bf767398fec56108ae5b2cbf6dfe53191ee3dd88bb25a6d9ec42bb6796d1ff36", func := "raddle/raddlelaw11.MatRises", spec := "matRises", apart := false, narrowed := true }
def MatRisesUptoSaid : Prop := matRisesUptoRow.holds Try.pinned (OpenSpec.upto matRisesSpec)

/-- 'raddlelaw11.MatAll', WHERE WHAT IT READS IS OF BULK AT MOST 1048576: true; the input reads as it did. -/
def matAllUptoRow : OpenClaim := { program := "ytljikgjgcpheaaa", sum := "bf767398fec56108ae5b2cbf6dfe53191ee3dd88bb25a6d9ec42bb6796d1ff36", func := "raddle/raddlelaw11.MatAll", spec := "matAll", apart := false, narrowed := true }
def MatAllUptoSaid : Prop := matAllUptoRow.holds Try.pinned (OpenSpec.upto matAllSpec)

/-- 'raddlelaw11.MatLater', WHERE WHAT IT READS IS OF BULK AT MOST 1048576: true; the input reads as it did. -/
def matLaterUptoRow : OpenClaim := { program := "ytljikgjgcpheaaa", sum := "bf767398fec56108ae5b2cbf6dfe53191ee3dd88bb25a6d9ec42bb6796d1ff36", func := "raddle/raddlelaw11.MatLater", spec := "matLater", apart := false, narrowed := true }
def MatLaterUptoSaid : Prop := matLaterUptoRow.holds Try.pinned (OpenSpec.upto matLaterSpec)

end Rows
end Go.Proofs.Ytljikgjgcpheaaa
