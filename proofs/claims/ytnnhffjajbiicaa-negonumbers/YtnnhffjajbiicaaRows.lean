/-
  No cell of these rows narrows 'for every input' (looked for: loops, veiled, ifaces, maps, wideKeys, modest, calm, conditions, laid).
  DERIVED. THE GIVEN ROWS OF THIS SEAT. 5 by the template 'for every input the law returns true; each argument reads behind the call as it read before'; 0 by the template 'total and deterministic' (their statements: YtnnhffjajbiicaaTotals.lean).
  GIVEN WITH THE SEED: the statements are not yours to turn. If you find one false, say at which input.
  Laid BY PROGRAM, IN A SANDBOX (cutbox-rows.mjs): the forced cells as the released guide's own fill.sh prints them over the translation 9b5b6cdb21f75076… (all of the seat's roots in one cut). By AI agents, Wed Nov 11 2026. No macro, syntax, notation, axiom, sorry.
-/
import Derived.Test.YtnnhffjajbiicaaChecked
import GoSem.Claim
import GoSem.ClaimJoined
import GoSem.ClaimMapViews
import Derived.JoinedTies
import Derived.KernelRfl
namespace Go.Proofs.Ytnnhffjajbiicaa
/- THE CELL 'sum', in the pinned program and in every row, IS THE sha256 OF THE DUMP (.gsa) THAT YtnnhffjajbiicaaProg.lean LOADS. Nothing in Lean hashes anything: it is a label: what it is worth is what the hold of that sum in a sandbox is worth. -/
noncomputable def Try.pinned : Pinned := { name := "ytnnhffjajbiicaa", sum := "9b5b6cdb21f75076f1827e922642fea8e81079fa843708fc51e1361a70d44f20", checked := Try.checked }
namespace Rows
def none {H : Type} : Left H := { results := [], args := [] }

/-- 'strongroomlaw9.NegoNumbers': WHATEVER THE INPUT: true; the input reads as it did. -/
def negoNumbersSpec : ChangeSpec := { name := "negoNumbers", fn := fun _ => fun
  | [] => { results := [.lit (.bool true)], args := [] }
  | _ => none }
def negoNumbersRow : OpenClaim := { program := "ytnnhffjajbiicaa", sum := "9b5b6cdb21f75076f1827e922642fea8e81079fa843708fc51e1361a70d44f20", func := "strongroom/strongroomlaw9.NegoNumbers", spec := "negoNumbers", inPlace := ["internal/abi.NoEscape", "internal/bytealg.MakeNoZero"], apart := false }
def NegoNumbersSaid : Prop := negoNumbersRow.holds Try.pinned (OpenSpec.ofChange negoNumbersSpec)

/-- ITS FALSE NEIGHBOUR: 'it returns false'. Refute it at one input. -/
def negoNumbersWrong : ChangeSpec := { name := "negoNumbers", fn := fun _ => fun
  | [] => { results := [.lit (.bool false)], args := [] }
  | _ => none }
def NegoNumbersWrongFalsely : Prop := negoNumbersRow.holds Try.pinned (OpenSpec.ofChange negoNumbersWrong)

/-- 'strongroomlaw9.NegoTells': WHATEVER THE INPUT: true; the input reads as it did. -/
def negoTellsSpec : ChangeSpec := { name := "negoTells", fn := fun _ => fun
  | [d1, d2, d3, d4, d5, d6, d7] => { results := [.lit (.bool true)], args := [d1, d2, d3, d4, d5, d6, d7] }
  | _ => none }
def negoTellsRow : OpenClaim := { program := "ytnnhffjajbiicaa", sum := "9b5b6cdb21f75076f1827e922642fea8e81079fa843708fc51e1361a70d44f20", func := "strongroom/strongroomlaw9.NegoTells", spec := "negoTells", inPlace := ["internal/abi.NoEscape", "internal/bytealg.MakeNoZero"], apart := false }
def NegoTellsSaid : Prop := negoTellsRow.holds Try.pinned (OpenSpec.ofChange negoTellsSpec)

/-- ITS FALSE NEIGHBOUR: 'it returns false'. Refute it at one input. -/
def negoTellsWrong : ChangeSpec := { name := "negoTells", fn := fun _ => fun
  | [d1, d2, d3, d4, d5, d6, d7] => { results := [.lit (.bool false)], args := [d1, d2, d3, d4, d5, d6, d7] }
  | _ => none }
def NegoTellsWrongFalsely : Prop := negoTellsRow.holds Try.pinned (OpenSpec.ofChange negoTellsWrong)

/-- 'strongroomlaw9.NegoBack': WHATEVER THE INPUT: true; the input reads as it did. -/
def negoBackSpec : ChangeSpec := { name := "negoBack", fn := fun _ => fun
  | [d1, d2, d3, d4] => { results := [.lit (.bool true)], args := [d1, d2, d3, d4] }
  | _ => none }
def negoBackRow : OpenClaim := { program := "ytnnhffjajbiicaa", sum := "9b5b6cdb21f75076f1827e922642fea8e81079fa843708fc51e1361a70d44f20", func := "strongroom/strongroomlaw9.NegoBack", spec := "negoBack", inPlace := ["internal/abi.NoEscape", "internal/bytealg.MakeNoZero"], apart := false }
def NegoBackSaid : Prop := negoBackRow.holds Try.pinned (OpenSpec.ofChange negoBackSpec)

/-- ITS FALSE NEIGHBOUR: 'it returns false'. Refute it at one input. -/
def negoBackWrong : ChangeSpec := { name := "negoBack", fn := fun _ => fun
  | [d1, d2, d3, d4] => { results := [.lit (.bool false)], args := [d1, d2, d3, d4] }
  | _ => none }
def NegoBackWrongFalsely : Prop := negoBackRow.holds Try.pinned (OpenSpec.ofChange negoBackWrong)

/-- 'strongroomlaw9.NegoCuts': WHATEVER THE INPUT: true; the input reads as it did. -/
def negoCutsSpec : ChangeSpec := { name := "negoCuts", fn := fun _ => fun
  | [d1, d2, d3, d4] => { results := [.lit (.bool true)], args := [d1, d2, d3, d4] }
  | _ => none }
def negoCutsRow : OpenClaim := { program := "ytnnhffjajbiicaa", sum := "9b5b6cdb21f75076f1827e922642fea8e81079fa843708fc51e1361a70d44f20", func := "strongroom/strongroomlaw9.NegoCuts", spec := "negoCuts", inPlace := ["internal/abi.NoEscape", "internal/bytealg.MakeNoZero"], apart := false }
def NegoCutsSaid : Prop := negoCutsRow.holds Try.pinned (OpenSpec.ofChange negoCutsSpec)

/-- ITS FALSE NEIGHBOUR: 'it returns false'. Refute it at one input. -/
def negoCutsWrong : ChangeSpec := { name := "negoCuts", fn := fun _ => fun
  | [d1, d2, d3, d4] => { results := [.lit (.bool false)], args := [d1, d2, d3, d4] }
  | _ => none }
def NegoCutsWrongFalsely : Prop := negoCutsRow.holds Try.pinned (OpenSpec.ofChange negoCutsWrong)

/-- 'strongroomlaw9.NegoFirst': WHATEVER THE INPUT: true; the input reads as it did. -/
def negoFirstSpec : ChangeSpec := { name := "negoFirst", fn := fun _ => fun
  | [d1, d2, d3] => { results := [.lit (.bool true)], args := [d1, d2, d3] }
  | _ => none }
def negoFirstRow : OpenClaim := { program := "ytnnhffjajbiicaa", sum := "9b5b6cdb21f75076f1827e922642fea8e81079fa843708fc51e1361a70d44f20", func := "strongroom/strongroomlaw9.NegoFirst", spec := "negoFirst", apart := false }
def NegoFirstSaid : Prop := negoFirstRow.holds Try.pinned (OpenSpec.ofChange negoFirstSpec)

/-- ITS FALSE NEIGHBOUR: 'it returns false'. Refute it at one input. -/
def negoFirstWrong : ChangeSpec := { name := "negoFirst", fn := fun _ => fun
  | [d1, d2, d3] => { results := [.lit (.bool false)], args := [d1, d2, d3] }
  | _ => none }
def NegoFirstWrongFalsely : Prop := negoFirstRow.holds Try.pinned (OpenSpec.ofChange negoFirstWrong)

/- THE SECOND FORM. 'bulk': how many values and letters a reading holds, each counted each time it is reached (what is shared counts as often as it is met; a slice's spare places count too). A statement '..UptoSaid' is the law's where the arguments, and the package variables that the reading takes, are together of bulk at most 1048576: NARROWER than '..Said'. Prove '..Said' where nothing that the law and all that it calls make is longer than what came in: it says more and counts as full. Else prove '..UptoSaid'. A law counts once. -/
mutual
def uptoBulk {H : Type} : DataW H → Nat
  | .lit (.string bytes) => bytes.length + 1
  | .lit _ => 1
  | .nil => 1
  | .ptr d => uptoBulk d + 1
  | .slice elems spare => uptoBulkAll elems + uptoBulkAll spare + 1
  | .agg parts => uptoBulkAll parts + 1
  | .iface _ d => uptoBulk d + 1
  | .map entries => uptoBulkEntries entries + 1
  | .held _ => 1
def uptoBulkAll {H : Type} : List (DataW H) → Nat
  | [] => 0
  | d :: r => uptoBulk d + uptoBulkAll r
def uptoBulkEntries {H : Type} : List (Lit × DataW H) → Nat
  | [] => 0
  | x :: r => uptoBulkEntry x + uptoBulkEntries r
def uptoBulkEntry {H : Type} : Lit × DataW H → Nat
  | (.string bytes, d) => bytes.length + uptoBulk d + 1
  | (_, d) => uptoBulk d + 1
 end
def uptoSmall : (H : Type) → List (DataW H) → Bool := fun _ ds => decide (uptoBulkAll ds ≤ 1048576)
def OpenSpec.upto (s : _root_.Go.ChangeSpec) : _root_.Go.OpenSpec := { _root_.Go.OpenSpec.ofChange s with cond := some uptoSmall }

/-- 'strongroomlaw9.NegoNumbers', WHERE WHAT IT READS IS OF BULK AT MOST 1048576: true; the input reads as it did. -/
def negoNumbersUptoRow : OpenClaim := { program := "ytnnhffjajbiicaa", sum := "9b5b6cdb21f75076f1827e922642fea8e81079fa843708fc51e1361a70d44f20", func := "strongroom/strongroomlaw9.NegoNumbers", spec := "negoNumbers", inPlace := ["internal/abi.NoEscape", "internal/bytealg.MakeNoZero"], apart := false, narrowed := true }
def NegoNumbersUptoSaid : Prop := negoNumbersUptoRow.holds Try.pinned (OpenSpec.upto negoNumbersSpec)

/-- 'strongroomlaw9.NegoTells', WHERE WHAT IT READS IS OF BULK AT MOST 1048576: true; the input reads as it did. -/
def negoTellsUptoRow : OpenClaim := { program := "ytnnhffjajbiicaa", sum := "9b5b6cdb21f75076f1827e922642fea8e81079fa843708fc51e1361a70d44f20", func := "strongroom/strongroomlaw9.NegoTells", spec := "negoTells", inPlace := ["internal/abi.NoEscape", "internal/bytealg.MakeNoZero"], apart := false, narrowed := true }
def NegoTellsUptoSaid : Prop := negoTellsUptoRow.holds Try.pinned (OpenSpec.upto negoTellsSpec)

/-- 'strongroomlaw9.NegoBack', WHERE WHAT IT READS IS OF BULK AT MOST 1048576: true; the input reads as it did. -/
def negoBackUptoRow : OpenClaim := { program := "ytnnhffjajbiicaa", sum := "9b5b6cdb21f75076f1827e922642fea8e81079fa843708fc51e1361a70d44f20", func := "strongroom/strongroomlaw9.NegoBack", spec := "negoBack", inPlace := ["internal/abi.NoEscape", "internal/bytealg.MakeNoZero"], apart := false, narrowed := true }
def NegoBackUptoSaid : Prop := negoBackUptoRow.holds Try.pinned (OpenSpec.upto negoBackSpec)

/-- 'strongroomlaw9.NegoCuts', WHERE WHAT IT READS IS OF BULK AT MOST 1048576: true; the input reads as it did. -/
def negoCutsUptoRow : OpenClaim := { program := "ytnnhffjajbiicaa", sum := "9b5b6cdb21f75076f1827e922642fea8e81079fa843708fc51e1361a70d44f20", func := "strongroom/strongroomlaw9.NegoCuts", spec := "negoCuts", inPlace := ["internal/abi.NoEscape", "internal/bytealg.MakeNoZero"], apart := false, narrowed := true }
def NegoCutsUptoSaid : Prop := negoCutsUptoRow.holds Try.pinned (OpenSpec.upto negoCutsSpec)

/-- 'strongroomlaw9.NegoFirst', WHERE WHAT IT READS IS OF BULK AT MOST 1048576: true; the input reads as it did. -/
def negoFirstUptoRow : OpenClaim := { program := "ytnnhffjajbiicaa", sum := "9b5b6cdb21f75076f1827e922642fea8e81079fa843708fc51e1361a70d44f20", func := "strongroom/strongroomlaw9.NegoFirst", spec := "negoFirst", apart := false, narrowed := true }
def NegoFirstUptoSaid : Prop := negoFirstUptoRow.holds Try.pinned (OpenSpec.upto negoFirstSpec)

end Rows
end Go.Proofs.Ytnnhffjajbiicaa
