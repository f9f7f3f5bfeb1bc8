/-
  No cell of these rows narrows 'for every input' (looked for: loops, veiled, ifaces, maps, wideKeys, modest, calm, conditions, laid).
  DERIVED. THE GIVEN ROWS OF THIS SEAT. 3 by the template 'for every input the law returns true; each argument reads behind the call as it read before'; 0 by the template 'total and deterministic' (their statements: YtnimdbjbkoggdaaGreatTotals.lean).
  GIVEN WITH THE SEED: the statements are not yours to turn. If you find one false, say at which input.
  Laid BY PROGRAM, IN A SANDBOX (cutbox-rows.mjs): the forced cells as the released guide's own fill.sh prints them over the translation 81ede31a9231cb2d… (all of the seat's roots in one cut). By AI agents, Wed Nov 11 2026. No macro, syntax, notation, axiom, sorry.
-/
import Derived.Test.YtnimdbjbkoggdaaGreatChecked
import GoSem.Claim
import GoSem.ClaimJoined
import GoSem.ClaimMapViews
import Derived.JoinedTies
import Derived.KernelRfl
namespace Go.Proofs.YtnimdbjbkoggdaaGreat
/- THE CELL 'sum', in the pinned program and in every row, IS THE sha256 OF THE DUMP (.gsa) THAT YtnimdbjbkoggdaaGreatProg.lean LOADS. Nothing in Lean hashes anything: it is a label: what it is worth is what the hold of that sum in a sandbox is worth. -/
noncomputable def Tryz.pinned : Pinned := { name := "ytnimdbjbkoggdaagreat", sum := "81ede31a9231cb2d5364f5edb62b6628842963396cc798832d03009ea04857d9", checked := Tryz.checked }
namespace Rows
def none {H : Type} : Left H := { results := [], args := [] }

/-- 'strongroomlaw12.ChansNumbers': WHATEVER THE INPUT: true; the input reads as it did. -/
def chansNumbersSpec : ChangeSpec := { name := "chansNumbers", fn := fun _ => fun
  | [] => { results := [.lit (.bool true)], args := [] }
  | _ => none }
def chansNumbersRow : OpenClaim := { program := "ytnimdbjbkoggdaagreat", sum := "81ede31a9231cb2d5364f5edb62b6628842963396cc798832d03009ea04857d9", func := "strongroom/strongroomlaw12.ChansNumbers", spec := "chansNumbers", inPlace := ["math.archFloor", "math.Float64bits", "math.Float64frombits", "math.archTrunc"], apart := false }
def ChansNumbersSaid : Prop := chansNumbersRow.holds Tryz.pinned (OpenSpec.ofChange chansNumbersSpec)

/-- ITS FALSE NEIGHBOUR: 'it returns false'. Refute it at one input. -/
def chansNumbersWrong : ChangeSpec := { name := "chansNumbers", fn := fun _ => fun
  | [] => { results := [.lit (.bool false)], args := [] }
  | _ => none }
def ChansNumbersWrongFalsely : Prop := chansNumbersRow.holds Tryz.pinned (OpenSpec.ofChange chansNumbersWrong)

/-- 'strongroomlaw12.ChansPlays': WHATEVER THE INPUT: true; the input reads as it did. -/
def chansPlaysSpec : ChangeSpec := { name := "chansPlays", fn := fun _ => fun
  | [d] => { results := [.lit (.bool true)], args := [d] }
  | _ => none }
def chansPlaysRow : OpenClaim := { program := "ytnimdbjbkoggdaagreat", sum := "81ede31a9231cb2d5364f5edb62b6628842963396cc798832d03009ea04857d9", func := "strongroom/strongroomlaw12.ChansPlays", spec := "chansPlays", inPlace := ["math.archFloor", "math.Float64bits", "math.Float64frombits", "math.archTrunc"], apart := false }
def ChansPlaysSaid : Prop := chansPlaysRow.holds Tryz.pinned (OpenSpec.ofChange chansPlaysSpec)

/-- ITS FALSE NEIGHBOUR: 'it returns false'. Refute it at one input. -/
def chansPlaysWrong : ChangeSpec := { name := "chansPlays", fn := fun _ => fun
  | [d] => { results := [.lit (.bool false)], args := [d] }
  | _ => none }
def ChansPlaysWrongFalsely : Prop := chansPlaysRow.holds Tryz.pinned (OpenSpec.ofChange chansPlaysWrong)

/-- 'strongroomlaw12.ChansOpen': WHATEVER THE INPUT: true; the input reads as it did. -/
def chansOpenSpec : ChangeSpec := { name := "chansOpen", fn := fun _ => fun
  | [d1, d2, d3] => { results := [.lit (.bool true)], args := [d1, d2, d3] }
  | _ => none }
def chansOpenRow : OpenClaim := { program := "ytnimdbjbkoggdaagreat", sum := "81ede31a9231cb2d5364f5edb62b6628842963396cc798832d03009ea04857d9", func := "strongroom/strongroomlaw12.ChansOpen", spec := "chansOpen", inPlace := ["math.archFloor", "math.Float64bits", "math.Float64frombits", "math.archTrunc"], apart := false }
def ChansOpenSaid : Prop := chansOpenRow.holds Tryz.pinned (OpenSpec.ofChange chansOpenSpec)

/-- ITS FALSE NEIGHBOUR: 'it returns false'. Refute it at one input. -/
def chansOpenWrong : ChangeSpec := { name := "chansOpen", fn := fun _ => fun
  | [d1, d2, d3] => { results := [.lit (.bool false)], args := [d1, d2, d3] }
  | _ => none }
def ChansOpenWrongFalsely : Prop := chansOpenRow.holds Tryz.pinned (OpenSpec.ofChange chansOpenWrong)

/- THE SECOND FORM. 'bulk': how many values and letters a reading holds, each counted each time it is reached (what is shared counts as often as it is met; a slice's spare places count too). A statement '..UptoSaid' is the law's where the arguments, and the package variables that the reading takes, are together of bulk at most 1048576: NARROWER than '..Said'. Prove '..Said' where nothing that the law and all that it calls make is longer than what came in: it says more and counts as full. Else prove '..UptoSaid'. A law counts once. -/
mutual
def uptoBulk {H : Type} : DataW H → Nat
  | .lit (.string bytes) => bytes.length + 1
  | .lit _ => 1
  | .nil => 1
  | .ptr d => uptoBulk d + 1
  | .slice elems spare => uptoBulkAll elems + uptoBulkAll spare + 1
  | .agg parts => uptoBulkAll parts + 1
  | .iface _ d => uptoBulk d + 1
  | .map entries => uptoBulkEntries entries + 1
  | .held _ => 1
def uptoBulkAll {H : Type} : List (DataW H) → Nat
  | [] => 0
  | d :: r => uptoBulk d + uptoBulkAll r
def uptoBulkEntries {H : Type} : List (Lit × DataW H) → Nat
  | [] => 0
  | x :: r => uptoBulkEntry x + uptoBulkEntries r
def uptoBulkEntry {H : Type} : Lit × DataW H → Nat
  | (.string bytes, d) => bytes.length + uptoBulk d + 1
  | (_, d) => uptoBulk d + 1
 end
def uptoSmall : (H : Type) → List (DataW H) → Bool := fun _ ds => decide (uptoBulkAll ds ≤ 1048576)
def OpenSpec.upto (s : _root_.Go.ChangeSpec) : _root_.Go.OpenSpec := { _root_.Go.OpenSpec.ofChange s with cond := some uptoSmall }

/-- 'strongroomlaw12.ChansNumbers', WHERE WHAT IT READS IS OF BULK AT MOST 1048576: true; the input reads as it did. -/
def chansNumbersUptoRow : OpenClaim := { program := "ytnimdbjbkoggdaagreat", sum := "81ede31a9231cb2d5364f5edb62b6628842963396cc798832d03009ea04857d9", func := "strongroom/strongroomlaw12.ChansNumbers", spec := "chansNumbers", inPlace := ["math.archFloor", "math.Float64bits", "math.Float64frombits", "math.archTrunc"], apart := false, narrowed := true }
def ChansNumbersUptoSaid : Prop := chansNumbersUptoRow.holds Tryz.pinned (OpenSpec.upto chansNumbersSpec)

/-- 'strongroomlaw12.ChansPlays', WHERE WHAT IT READS IS OF BULK AT MOST 1048576: true; the input reads as it did. -/
def chansPlaysUptoRow : OpenClaim := { program := "ytnimdbjbkoggdaagreat", sum := "81ede31a9231cb2d5364f5edb62b6628842963396cc798832d03009ea04857d9", func := "strongroom/strongroomlaw12.ChansPlays", spec := "chansPlays", inPlace := ["math.archFloor", "math.Float64bits", "math.Float64frombits", "math.archTrunc"], apart := false, narrowed := true }
def ChansPlaysUptoSaid : Prop := chansPlaysUptoRow.holds Tryz.pinned (OpenSpec.upto chansPlaysSpec)

/-- 'strongroomlaw12.ChansOpen', WHERE WHAT IT READS IS OF BULK AT MOST 1048576: true; the input reads as it did. -/
def chansOpenUptoRow : OpenClaim := { program := "ytnimdbjbkoggdaagreat", sum := "81ede31a9231cb2d5364f5edb62b6628842963396cc798832d03009ea04857d9", func := "strongroom/strongroomlaw12.ChansOpen", spec := "chansOpen", inPlace := ["math.archFloor", "math.Float64bits", "math.Float64frombits", "math.archTrunc"], apart := false, narrowed := true }
def ChansOpenUptoSaid : Prop := chansOpenUptoRow.holds Tryz.pinned (OpenSpec.upto chansOpenSpec)

end Rows
end Go.Proofs.YtnimdbjbkoggdaaGreat
