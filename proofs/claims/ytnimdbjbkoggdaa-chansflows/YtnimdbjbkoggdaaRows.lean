/-
  No cell of these rows narrows 'for every input' (looked for: loops, veiled, ifaces, maps, wideKeys, modest, calm, conditions, laid).
  DERIVED. THE GIVEN ROWS OF THIS SEAT. 3 by the template 'for every input the law returns true; each argument reads behind the call as it read before'; 0 by the template 'total and deterministic' (their statements: YtnimdbjbkoggdaaTotals.lean).
  GIVEN WITH THE SEED: the statements are not yours to turn. If you find one false, say at which input.
  Laid BY PROGRAM, IN A SANDBOX (cutbox-rows.mjs): the forced cells as the released guide's own fill.sh prints them over the translation aee428777e0468e6… (all of the seat's roots in one cut). By AI agents, Wed Nov 11 2026. No macro, syntax, notation, axiom, sorry.
-/
import Derived.Test.YtnimdbjbkoggdaaChecked
import GoSem.Claim
import GoSem.ClaimJoined
import GoSem.ClaimMapViews
import Derived.JoinedTies
import Derived.KernelRfl
namespace Go.Proofs.Ytnimdbjbkoggdaa
/- THE CELL 'sum', in the pinned program and in every row, IS THE sha256 OF THE DUMP (.gsa) THAT YtnimdbjbkoggdaaProg.lean LOADS. Nothing in Lean hashes anything: it is a label: what it is worth is what the hold of that sum in a sandbox is worth. -/
noncomputable def Try.pinned : Pinned := { name := "ytnimdbjbkoggdaa", sum := "aee428777e0468e60aca8441ad8b23d6bc54c3a919e88fd8940c2e7cdc515c56", checked := Try.checked }
namespace Rows
def none {H : Type} : Left H := { results := [], args := [] }

/-- 'strongroomlaw12.ChansFlows': WHATEVER THE INPUT: true; the input reads as it did. -/
def chansFlowsSpec : ChangeSpec := { name := "chansFlows", fn := fun _ => fun
  | [d1, d2, d3, d4] => { results := [.lit (.bool true)], args := [d1, d2, d3, d4] }
  | _ => none }
def chansFlowsRow : OpenClaim := { program := "ytnimdbjbkoggdaa", sum := "aee428777e0468e60aca8441ad8b23d6bc54c3a919e88fd8940c2e7cdc515c56", func := "strongroom/strongroomlaw12.ChansFlows", spec := "chansFlows", inPlace := ["math.archFloor", "math.Float64bits", "math.Float64frombits", "math.archTrunc"], apart := false }
def ChansFlowsSaid : Prop := chansFlowsRow.holds Try.pinned (OpenSpec.ofChange chansFlowsSpec)

/-- ITS FALSE NEIGHBOUR: 'it returns false'. Refute it at one input. -/
def chansFlowsWrong : ChangeSpec := { name := "chansFlows", fn := fun _ => fun
  | [d1, d2, d3, d4] => { results := [.lit (.bool false)], args := [d1, d2, d3, d4] }
  | _ => none }
def ChansFlowsWrongFalsely : Prop := chansFlowsRow.holds Try.pinned (OpenSpec.ofChange chansFlowsWrong)

/-- 'strongroomlaw12.ChansTake': WHATEVER THE INPUT: true; the input reads as it did. -/
def chansTakeSpec : ChangeSpec := { name := "chansTake", fn := fun _ => fun
  | [d1, d2] => { results := [.lit (.bool true)], args := [d1, d2] }
  | _ => none }
def chansTakeRow : OpenClaim := { program := "ytnimdbjbkoggdaa", sum := "aee428777e0468e60aca8441ad8b23d6bc54c3a919e88fd8940c2e7cdc515c56", func := "strongroom/strongroomlaw12.ChansTake", spec := "chansTake", inPlace := ["math.archFloor", "math.Float64bits", "math.Float64frombits", "math.archTrunc"], apart := false }
def ChansTakeSaid : Prop := chansTakeRow.holds Try.pinned (OpenSpec.ofChange chansTakeSpec)

/-- ITS FALSE NEIGHBOUR: 'it returns false'. Refute it at one input. -/
def chansTakeWrong : ChangeSpec := { name := "chansTake", fn := fun _ => fun
  | [d1, d2] => { results := [.lit (.bool false)], args := [d1, d2] }
  | _ => none }
def ChansTakeWrongFalsely : Prop := chansTakeRow.holds Try.pinned (OpenSpec.ofChange chansTakeWrong)

/-- 'strongroomlaw12.ChansEnds': WHATEVER THE INPUT: true; the input reads as it did. -/
def chansEndsSpec : ChangeSpec := { name := "chansEnds", fn := fun _ => fun
  | [d1, d2] => { results := [.lit (.bool true)], args := [d1, d2] }
  | _ => none }
def chansEndsRow : OpenClaim := { program := "ytnimdbjbkoggdaa", sum := "aee428777e0468e60aca8441ad8b23d6bc54c3a919e88fd8940c2e7cdc515c56", func := "strongroom/strongroomlaw12.ChansEnds", spec := "chansEnds", inPlace := ["math.archFloor", "math.Float64bits", "math.Float64frombits", "math.archTrunc"], apart := false }
def ChansEndsSaid : Prop := chansEndsRow.holds Try.pinned (OpenSpec.ofChange chansEndsSpec)

/-- ITS FALSE NEIGHBOUR: 'it returns false'. Refute it at one input. -/
def chansEndsWrong : ChangeSpec := { name := "chansEnds", fn := fun _ => fun
  | [d1, d2] => { results := [.lit (.bool false)], args := [d1, d2] }
  | _ => none }
def ChansEndsWrongFalsely : Prop := chansEndsRow.holds Try.pinned (OpenSpec.ofChange chansEndsWrong)

/- THE SECOND FORM. 'bulk': how many values and letters a reading holds, each counted each time it is reached (what is shared counts as often as it is met; a slice's spare places count too). A statement '..UptoSaid' is the law's where the arguments, and the package variables that the reading takes, are together of bulk at most 1048576: NARROWER than '..Said'. Prove '..Said' where nothing that the law and all that it calls make is longer than what came in: it says more and counts as full. Else prove '..UptoSaid'. A law counts once. -/
mutual
def uptoBulk {H : Type} : DataW H → Nat
  | .lit (.string bytes) => bytes.length + 1
  | .lit _ => 1
  | .nil => 1
  | .ptr d => uptoBulk d + 1
  | .slice elems spare => uptoBulkAll elems + uptoBulkAll spare + 1
  | .agg parts => uptoBulkAll parts + 1
  | .iface _ d => uptoBulk d + 1
  | .map entries => uptoBulkEntries entries + 1
  | .held _ => 1
def uptoBulkAll {H : Type} : List (DataW H) → Nat
  | [] => 0
  | d :: r => uptoBulk d + uptoBulkAll r
def uptoBulkEntries {H : Type} : List (Lit × DataW H) → Nat
  | [] => 0
  | x :: r => uptoBulkEntry x + uptoBulkEntries r
def uptoBulkEntry {H : Type} : Lit × DataW H → Nat
  | (.string bytes, d) => bytes.length + uptoBulk d + 1
  | (_, d) => uptoBulk d + 1
 end
def uptoSmall : (H : Type) → List (DataW H) → Bool := fun _ ds => decide (uptoBulkAll ds ≤ 1048576)
def OpenSpec.upto (s : _root_.Go.ChangeSpec) : _root_.Go.OpenSpec := { _root_.Go.OpenSpec.ofChange s with cond := some uptoSmall }

/-- 'strongroomlaw12.ChansFlows', WHERE WHAT IT READS IS OF BULK AT MOST 1048576: true; the input reads as it did. -/
def chansFlowsUptoRow : OpenClaim := { program := "ytnimdbjbkoggdaa", sum := "aee428777e0468e60aca8441ad8b23d6bc54c3a919e88fd8940c2e7cdc515c56", func := "strongroom/strongroomlaw12.ChansFlows", spec := "chansFlows", inPlace := ["math.archFloor", "math.Float64bits", "math.Float64frombits", "math.archTrunc"], apart := false, narrowed := true }
def ChansFlowsUptoSaid : Prop := chansFlowsUptoRow.holds Try.pinned (OpenSpec.upto chansFlowsSpec)

/-- 'strongroomlaw12.ChansTake', WHERE WHAT IT READS IS OF BULK AT MOST 1048576: true; the input reads as it did. -/
def chansTakeUptoRow : OpenClaim := { program := "ytnimdbjbkoggdaa", sum := "aee428777e0468e60aca8441ad8b23d6bc54c3a919e88fd8940c2e7cdc515c56", func := "strongroom/strongroomlaw12.ChansTake", spec := "chansTake", inPlace := ["math.archFloor", "math.Float64bits", "math.Float64frombits", "math.archTrunc"], apart := false, narrowed := true }
def ChansTakeUptoSaid : Prop := chansTakeUptoRow.holds Try.pinned (OpenSpec.upto chansTakeSpec)

/-- 'strongroomlaw12.ChansEnds', WHERE WHAT IT READS IS OF BULK AT MOST 1048576: true; the input reads as it did. -/
def chansEndsUptoRow : OpenClaim := { program := "ytnimdbjbkoggdaa", sum := "aee428777e0468e60aca8441ad8b23d6bc54c3a919e88fd8940c2e7cdc515c56", func := "strongroom/strongroomlaw12.ChansEnds", spec := "chansEnds", inPlace := ["math.archFloor", "math.Float64bits", "math.Float64frombits", "math.archTrunc"], apart := false, narrowed := true }
def ChansEndsUptoSaid : Prop := chansEndsUptoRow.holds Try.pinned (OpenSpec.upto chansEndsSpec)

end Rows
end Go.Proofs.Ytnimdbjbkoggdaa
