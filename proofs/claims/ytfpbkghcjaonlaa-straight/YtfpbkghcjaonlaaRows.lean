/-
  No cell of these rows narrows 'for every input' (looked for: loops, veiled, ifaces, maps, wideKeys, modest, calm, conditions, laid).
  DERIVED. THE GIVEN ROWS OF THIS SEAT. 6 by the template 'for every input the law returns true; each argument reads behind the call as it read before'; 0 by the template 'total and deterministic' (their statements: YtfpbkghcjaonlaaTotals.lean).
  GIVEN WITH THE SEED: the statements are not yours to turn. If you find one false, say at which input.
  Laid BY PROGRAM, IN A SANDBOX (cutbox-rows.mjs): the forced cells as the released guide's own fill.sh prints them over the translation d859e84c06a8911c… (all of the seat's roots in one cut). By AI agents, Wed Nov 11 2026. No macro, syntax, notation, axiom, sorry.
-/
import Derived.Test.YtfpbkghcjaonlaaChecked
import GoSem.Claim
import GoSem.ClaimJoined
import GoSem.ClaimMapViews
import Derived.JoinedTies
import Derived.KernelRfl
namespace Go.Proofs.Ytfpbkghcjaonlaa
/- THE CELL 'sum', in the pinned program and in every row, IS THE sha256 OF THE DUMP (.gsa) THAT YtfpbkghcjaonlaaProg.lean LOADS. Nothing in Lean hashes anything: it is a label: what it is worth is what the hold of that sum in a sandbox is worth. -/
noncomputable def Try.pinned : Pinned := { name := "ytfpbkghcjaonlaa", sum := "d859e84c06a8911ce7c190e11f610164b4e4625fc47dd7d5f6a3342c65b9ac19", checked := Try.checked }
namespace Rows
def none {H : Type} : Left H := { results := [], args := [] }

/-- 'sixfoldlaw.Solid': WHATEVER THE INPUT: true; the input reads as it did. -/
def solidSpec : ChangeSpec := { name := "solid", fn := fun _ => fun
  | [d1, d2] => { results := [.lit (.bool true)], args := [d1, d2] }
  | _ => none }
def solidRow : OpenClaim := { program := "ytfpbkghcjaonlaa", sum := "d859e84c06a8911ce7c190e11f610164b4e4625fc47dd7d5f6a3342c65b9ac19", func := "sixfold/sixfoldlaw.Solid", spec := "solid", apart := false }
def SolidSaid : Prop := solidRow.holds Try.pinned (OpenSpec.ofChange solidSpec)

/-- ITS FALSE NEIGHBOUR: 'it returns false'. Refute it at one input. -/
def solidWrong : ChangeSpec := { name := "solid", fn := fun _ => fun
  | [d1, d2] => { results := [.lit (.bool false)], args := [d1, d2] }
  | _ => none }
def SolidWrongFalsely : Prop := solidRow.holds Try.pinned (OpenSpec.ofChange solidWrong)

/-- 'sixfoldlaw.Kept': WHATEVER THE INPUT: true; the input reads as it did. -/
def keptSpec : ChangeSpec := { name := "kept", fn := fun _ => fun
  | [d1, d2, d3] => { results := [.lit (.bool true)], args := [d1, d2, d3] }
  | _ => none }
def keptRow : OpenClaim := { program := "ytfpbkghcjaonlaa", sum := "d859e84c06a8911ce7c190e11f610164b4e4625fc47dd7d5f6a3342c65b9ac19", func := "sixfold/sixfoldlaw.Kept", spec := "kept", apart := false }
def KeptSaid : Prop := keptRow.holds Try.pinned (OpenSpec.ofChange keptSpec)

/-- ITS FALSE NEIGHBOUR: 'it returns false'. Refute it at one input. -/
def keptWrong : ChangeSpec := { name := "kept", fn := fun _ => fun
  | [d1, d2, d3] => { results := [.lit (.bool false)], args := [d1, d2, d3] }
  | _ => none }
def KeptWrongFalsely : Prop := keptRow.holds Try.pinned (OpenSpec.ofChange keptWrong)

/-- 'sixfoldlaw.Same': WHATEVER THE INPUT: true; the input reads as it did. -/
def sameSpec : ChangeSpec := { name := "same", fn := fun _ => fun
  | [d1, d2] => { results := [.lit (.bool true)], args := [d1, d2] }
  | _ => none }
def sameRow : OpenClaim := { program := "ytfpbkghcjaonlaa", sum := "d859e84c06a8911ce7c190e11f610164b4e4625fc47dd7d5f6a3342c65b9ac19", func := "sixfold/sixfoldlaw.Same", spec := "same", apart := false }
def SameSaid : Prop := sameRow.holds Try.pinned (OpenSpec.ofChange sameSpec)

/-- ITS FALSE NEIGHBOUR: 'it returns false'. Refute it at one input. -/
def sameWrong : ChangeSpec := { name := "same", fn := fun _ => fun
  | [d1, d2] => { results := [.lit (.bool false)], args := [d1, d2] }
  | _ => none }
def SameWrongFalsely : Prop := sameRow.holds Try.pinned (OpenSpec.ofChange sameWrong)

/-- 'sixfoldlaw.Behind': WHATEVER THE INPUT: true; the input reads as it did. -/
def behindSpec : ChangeSpec := { name := "behind", fn := fun _ => fun
  | [d1, d2, d3] => { results := [.lit (.bool true)], args := [d1, d2, d3] }
  | _ => none }
def behindRow : OpenClaim := { program := "ytfpbkghcjaonlaa", sum := "d859e84c06a8911ce7c190e11f610164b4e4625fc47dd7d5f6a3342c65b9ac19", func := "sixfold/sixfoldlaw.Behind", spec := "behind", apart := false }
def BehindSaid : Prop := behindRow.holds Try.pinned (OpenSpec.ofChange behindSpec)

/-- ITS FALSE NEIGHBOUR: 'it returns false'. Refute it at one input. -/
def behindWrong : ChangeSpec := { name := "behind", fn := fun _ => fun
  | [d1, d2, d3] => { results := [.lit (.bool false)], args := [d1, d2, d3] }
  | _ => none }
def BehindWrongFalsely : Prop := behindRow.holds Try.pinned (OpenSpec.ofChange behindWrong)

/-- 'sixfoldlaw.Straight': WHATEVER THE INPUT: true; the input reads as it did. -/
def straightSpec : ChangeSpec := { name := "straight", fn := fun _ => fun
  | [d1, d2] => { results := [.lit (.bool true)], args := [d1, d2] }
  | _ => none }
def straightRow : OpenClaim := { program := "ytfpbkghcjaonlaa", sum := "d859e84c06a8911ce7c190e11f610164b4e4625fc47dd7d5f6a3342c65b9ac19", func := "sixfold/sixfoldlaw.Straight", spec := "straight", apart := false }
def StraightSaid : Prop := straightRow.holds Try.pinned (OpenSpec.ofChange straightSpec)

/-- ITS FALSE NEIGHBOUR: 'it returns false'. Refute it at one input. -/
def straightWrong : ChangeSpec := { name := "straight", fn := fun _ => fun
  | [d1, d2] => { results := [.lit (.bool false)], args := [d1, d2] }
  | _ => none }
def StraightWrongFalsely : Prop := straightRow.holds Try.pinned (OpenSpec.ofChange straightWrong)

/-- 'sixfoldlaw.Tidy': WHATEVER THE INPUT: true; the input reads as it did. -/
def tidySpec : ChangeSpec := { name := "tidy", fn := fun _ => fun
  | [d1, d2] => { results := [.lit (.bool true)], args := [d1, d2] }
  | _ => none }
def tidyRow : OpenClaim := { program := "ytfpbkghcjaonlaa", sum := "d859e84c06a8911ce7c190e11f610164b4e4625fc47dd7d5f6a3342c65b9ac19", func := "sixfold/sixfoldlaw.Tidy", spec := "tidy", apart := false }
def TidySaid : Prop := tidyRow.holds Try.pinned (OpenSpec.ofChange tidySpec)

/-- ITS FALSE NEIGHBOUR: 'it returns false'. Refute it at one input. -/
def tidyWrong : ChangeSpec := { name := "tidy", fn := fun _ => fun
  | [d1, d2] => { results := [.lit (.bool false)], args := [d1, d2] }
  | _ => none }
def TidyWrongFalsely : Prop := tidyRow.holds Try.pinned (OpenSpec.ofChange tidyWrong)

/- THE SECOND FORM. 'bulk': how many values and letters a reading holds, each counted each time it is reached (what is shared counts as often as it is met; a slice's spare places count too). A statement '..UptoSaid' is the law's where the arguments, and the package variables that the reading takes, are together of bulk at most 1048576: NARROWER than '..Said'. Prove '..Said' where nothing that the law and all that it calls make is longer than what came in: it says more and counts as full. Else prove '..UptoSaid'. A law counts once. -/
mutual
def uptoBulk {H : Type} : DataW H → Nat
  | .lit (.string bytes) => bytes.length + 1
  | .lit _ => 1
  | .nil => 1
  | .ptr d => uptoBulk d + 1
  | .slice elems spare => uptoBulkAll elems + uptoBulkAll spare + 1
  | .agg parts => uptoBulkAll parts + 1
  | .iface _ d => uptoBulk d + 1
  | .map entries => uptoBulkEntries entries + 1
  | .held _ => 1
def uptoBulkAll {H : Type} : List (DataW H) → Nat
  | [] => 0
  | d :: r => uptoBulk d + uptoBulkAll r
def uptoBulkEntries {H : Type} : List (Lit × DataW H) → Nat
  | [] => 0
  | x :: r => uptoBulkEntry x + uptoBulkEntries r
def uptoBulkEntry {H : Type} : Lit × DataW H → Nat
  | (.string bytes, d) => bytes.length + uptoBulk d + 1
  | (_, d) => uptoBulk d + 1
 end
def uptoSmall : (H : Type) → List (DataW H) → Bool := fun _ ds => decide (uptoBulkAll ds ≤ 1048576)
def OpenSpec.upto (s : _root_.Go.ChangeSpec) : _root_.Go.OpenSpec := { _root_.Go.OpenSpec.ofChange s with cond := some uptoSmall }

/-- 'sixfoldlaw.Solid', WHERE WHAT IT READS IS OF BULK AT MOST 1048576: true; the input reads as it did. -/
def solidUptoRow : OpenClaim := { program := "ytfpbkghcjaonlaa", sum := "d859e84c06a8911ce7c190e11f610164b4e4625fc47dd7d5f6a3342c65b9ac19", func := "sixfold/sixfoldlaw.Solid", spec := "solid", apart := false, narrowed := true }
def SolidUptoSaid : Prop := solidUptoRow.holds Try.pinned (OpenSpec.upto solidSpec)

/-- 'sixfoldlaw.Kept', WHERE WHAT IT READS IS OF BULK AT MOST 1048576: true; the input reads as it did. -/
def keptUptoRow : OpenClaim := { program := "ytfpbkghcjaonlaa", sum := "d859e84c06a8911ce7c190e11f610164b4e4625fc47dd7d5f6a3342c65b9ac19", func := "sixfold/sixfoldlaw.Kept", spec := "kept", apart := false, narrowed := true }
def KeptUptoSaid : Prop := keptUptoRow.holds Try.pinned (OpenSpec.upto keptSpec)

/-- 'sixfoldlaw.Same', WHERE WHAT IT READS IS OF BULK AT MOST 1048576: true; the input reads as it did. -/
def sameUptoRow : OpenClaim := { program := "ytfpbkghcjaonlaa", sum := "d859e84c06a8911ce7c190e11f610164b4e4625fc47dd7d5f6a3342c65b9ac19", func := "sixfold/sixfoldlaw.Same", spec := "same", apart := false, narrowed := true }
def SameUptoSaid : Prop := sameUptoRow.holds Try.pinned (OpenSpec.upto sameSpec)

/-- 'sixfoldlaw.Behind', WHERE WHAT IT READS IS OF BULK AT MOST 1048576: true; the input reads as it did. -/
def behindUptoRow : OpenClaim := { program := "ytfpbkghcjaonlaa", sum := "d859e84c06a8911ce7c190e11f610164b4e4625fc47dd7d5f6a3342c65b9ac19", func := "sixfold/sixfoldlaw.Behind", spec := "behind", apart := false, narrowed := true }
def BehindUptoSaid : Prop := behindUptoRow.holds Try.pinned (OpenSpec.upto behindSpec)

/-- 'sixfoldlaw.Straight', WHERE WHAT IT READS IS OF BULK AT MOST 1048576: true; the input reads as it did. -/
def straightUptoRow : OpenClaim := { program := "ytfpbkghcjaonlaa", sum := "d859e84c06a8911ce7c190e11f610164b4e4625fc47dd7d5f6a3342c65b9ac19", func := "sixfold/sixfoldlaw.Straight", spec := "straight", apart := false, narrowed := true }
def StraightUptoSaid : Prop := straightUptoRow.holds Try.pinned (OpenSpec.upto straightSpec)

/-- 'sixfoldlaw.Tidy', WHERE WHAT IT READS IS OF BULK AT MOST 1048576: true; the input reads as it did. -/
def tidyUptoRow : OpenClaim := { program := "ytfpbkghcjaonlaa", sum := "d859e84c06a8911ce7c190e11f610164b4e4625fc47dd7d5f6a3342c65b9ac19", func := "sixfold/sixfoldlaw.Tidy", spec := "tidy", apart := false, narrowed := true }
def TidyUptoSaid : Prop := tidyUptoRow.holds Try.pinned (OpenSpec.upto tidySpec)

end Rows
end Go.Proofs.Ytfpbkghcjaonlaa
