/-
  NARROWER THAN 'FOR EVERY INPUT', by the rows' own cells (each row's printed sentence says how): FileDecodes: laid · FilesBack: laid · FilesOnce: laid · EngineRuns: laid · ScriptsGood: laid.
  DERIVED. THE GIVEN ROWS OF THIS SEAT. 5 by the template 'for every input the law returns true; each argument reads behind the call as it read before'; 0 by the template 'total and deterministic' (their statements: YtlojfgdpmaigmafGreatDoorTotals.lean).
  GIVEN WITH THE SEED: the statements are not yours to turn. If you find one false, say at which input.
  Laid BY PROGRAM, IN A SANDBOX (cutbox-rows.mjs): the forced cells as the released guide's own fill.sh prints them over the translation 78061e7afad07eb6… (all of the seat's roots in one cut). By AI agents, Wed Nov 11 2026. No macro, syntax, notation, axiom, sorry.
-/
import Derived.Test.YtlojfgdpmaigmafGreatDoorChecked
import GoSem.Claim
import GoSem.ClaimJoined
import GoSem.ClaimMapViews
import Derived.JoinedTies
import Derived.KernelRfl
namespace Go.Proofs.YtlojfgdpmaigmafGreatDoor
/- THE CELL 'sum', in the pinned program and in every row, IS THE sha256 OF THE DUMP (.gsa) THAT YtlojfgdpmaigmafGreatDoorProg.lean LOADS. Nothing in Lean hashes anything: it is a label: what it is worth is what the hold of that sum in a sandbox is worth. -/
noncomputable def Tryz.pinned : Pinned := { name := "ytlojfgdpmaigmafgreatdoor", sum := "78061e7afad07eb610034d6ade0c4dc731dc7fdbea731962f9342d9e2cf010f3", checked := Tryz.checked }
namespace Rows
def none {H : Type} : Left H := { results := [], args := [] }

/- WHAT THE LISTED PACKAGE-LEVEL VARIABLES READ AS WHEN THE CALL BEGINS. Each datum BY PROGRAM (the guide's laid-datum.mjs) off the statement by which the dump's own 'gosem.cut.vars' lays the variable. In a bare row this is a premise. The card (YtlojfgdpmaigmafGreatDoorCards.lean) ties it to the program's text. -/
def laid_winnower_bucket_sizes {H : Type} : DataW H := .agg [.lit (.int .i64 1), .lit (.int .i64 60), .lit (.int .i64 3600)]

/-- 'winnowerlaw.FileDecodes': WHATEVER THE INPUT: true; the input reads as it did. -/
def fileDecodesSpec : ChangeSpec := { name := "fileDecodes", fn := fun _ => fun
  | [d] => { results := [.lit (.bool true)], args := [d] }
  | _ => none }
def fileDecodesRow : OpenClaim := { program := "ytlojfgdpmaigmafgreatdoor", sum := "78061e7afad07eb610034d6ade0c4dc731dc7fdbea731962f9342d9e2cf010f3", func := "winnower/winnowerlaw.FileDecodes", spec := "fileDecodes", inPlace := ["slices.overlaps[int]"], unfollowed := true, recurses := true, named := ["winnower/bucket.sizes"], apart := false, laid := [("winnower/bucket.sizes", laid_winnower_bucket_sizes)] }
def FileDecodesSaid : Prop := fileDecodesRow.holds Tryz.pinned (OpenSpec.ofChange fileDecodesSpec)

/-- ITS FALSE NEIGHBOUR: 'it returns false'. Refute it at one input. -/
def fileDecodesWrong : ChangeSpec := { name := "fileDecodes", fn := fun _ => fun
  | [d] => { results := [.lit (.bool false)], args := [d] }
  | _ => none }
def FileDecodesWrongFalsely : Prop := fileDecodesRow.holds Tryz.pinned (OpenSpec.ofChange fileDecodesWrong)

/-- 'winnowerkeep.FilesBack': WHATEVER THE INPUT: true; the input reads as it did. -/
def filesBackSpec : ChangeSpec := { name := "filesBack", fn := fun _ => fun
  | [d1, d2, d3] => { results := [.lit (.bool true)], args := [d1, d2, d3] }
  | _ => none }
def filesBackRow : OpenClaim := { program := "ytlojfgdpmaigmafgreatdoor", sum := "78061e7afad07eb610034d6ade0c4dc731dc7fdbea731962f9342d9e2cf010f3", func := "winnower/winnowerkeep.FilesBack", spec := "filesBack", inPlace := ["slices.overlaps[winnower/api.Entry]", "slices.overlaps[int]"], unfollowed := true, recurses := true, named := ["winnower/bucket.sizes"], apart := false, laid := [("winnower/bucket.sizes", laid_winnower_bucket_sizes)] }
def FilesBackSaid : Prop := filesBackRow.holds Tryz.pinned (OpenSpec.ofChange filesBackSpec)

/-- ITS FALSE NEIGHBOUR: 'it returns false'. Refute it at one input. -/
def filesBackWrong : ChangeSpec := { name := "filesBack", fn := fun _ => fun
  | [d1, d2, d3] => { results := [.lit (.bool false)], args := [d1, d2, d3] }
  | _ => none }
def FilesBackWrongFalsely : Prop := filesBackRow.holds Tryz.pinned (OpenSpec.ofChange filesBackWrong)

/-- 'winnowerkeep.FilesOnce': WHATEVER THE INPUT: true; the input reads as it did. -/
def filesOnceSpec : ChangeSpec := { name := "filesOnce", fn := fun _ => fun
  | [d] => { results := [.lit (.bool true)], args := [d] }
  | _ => none }
def filesOnceRow : OpenClaim := { program := "ytlojfgdpmaigmafgreatdoor", sum := "78061e7afad07eb610034d6ade0c4dc731dc7fdbea731962f9342d9e2cf010f3", func := "winnower/winnowerkeep.FilesOnce", spec := "filesOnce", inPlace := ["slices.overlaps[int]"], unfollowed := true, recurses := true, named := ["winnower/bucket.sizes"], apart := false, laid := [("winnower/bucket.sizes", laid_winnower_bucket_sizes)] }
def FilesOnceSaid : Prop := filesOnceRow.holds Tryz.pinned (OpenSpec.ofChange filesOnceSpec)

/-- ITS FALSE NEIGHBOUR: 'it returns false'. Refute it at one input. -/
def filesOnceWrong : ChangeSpec := { name := "filesOnce", fn := fun _ => fun
  | [d] => { results := [.lit (.bool false)], args := [d] }
  | _ => none }
def FilesOnceWrongFalsely : Prop := filesOnceRow.holds Tryz.pinned (OpenSpec.ofChange filesOnceWrong)

/-- 'winnowerlaw.EngineRuns': WHATEVER THE INPUT: true; the input reads as it did. -/
def engineRunsSpec : ChangeSpec := { name := "engineRuns", fn := fun _ => fun
  | [d] => { results := [.lit (.bool true)], args := [d] }
  | _ => none }
def engineRunsRow : OpenClaim := { program := "ytlojfgdpmaigmafgreatdoor", sum := "78061e7afad07eb610034d6ade0c4dc731dc7fdbea731962f9342d9e2cf010f3", func := "winnower/winnowerlaw.EngineRuns", spec := "engineRuns", inPlace := ["slices.overlaps[winnower/api.Entry]", "slices.overlaps[int]"], unfollowed := true, recurses := true, named := ["winnower/bucket.sizes"], apart := false, laid := [("winnower/bucket.sizes", laid_winnower_bucket_sizes)] }
def EngineRunsSaid : Prop := engineRunsRow.holds Tryz.pinned (OpenSpec.ofChange engineRunsSpec)

/-- ITS FALSE NEIGHBOUR: 'it returns false'. Refute it at one input. -/
def engineRunsWrong : ChangeSpec := { name := "engineRuns", fn := fun _ => fun
  | [d] => { results := [.lit (.bool false)], args := [d] }
  | _ => none }
def EngineRunsWrongFalsely : Prop := engineRunsRow.holds Tryz.pinned (OpenSpec.ofChange engineRunsWrong)

/-- 'winnowerkeep.ScriptsGood': WHATEVER THE INPUT: true; the input reads as it did. -/
def scriptsGoodSpec : ChangeSpec := { name := "scriptsGood", fn := fun _ => fun
  | [d1, d2] => { results := [.lit (.bool true)], args := [d1, d2] }
  | _ => none }
def scriptsGoodRow : OpenClaim := { program := "ytlojfgdpmaigmafgreatdoor", sum := "78061e7afad07eb610034d6ade0c4dc731dc7fdbea731962f9342d9e2cf010f3", func := "winnower/winnowerkeep.ScriptsGood", spec := "scriptsGood", inPlace := ["slices.overlaps[winnower/api.Entry]", "slices.overlaps[int]"], unfollowed := true, recurses := true, named := ["winnower/bucket.sizes"], apart := false, laid := [("winnower/bucket.sizes", laid_winnower_bucket_sizes)] }
def ScriptsGoodSaid : Prop := scriptsGoodRow.holds Tryz.pinned (OpenSpec.ofChange scriptsGoodSpec)

/-- ITS FALSE NEIGHBOUR: 'it returns false'. Refute it at one input. -/
def scriptsGoodWrong : ChangeSpec := { name := "scriptsGood", fn := fun _ => fun
  | [d1, d2] => { results := [.lit (.bool false)], args := [d1, d2] }
  | _ => none }
def ScriptsGoodWrongFalsely : Prop := scriptsGoodRow.holds Tryz.pinned (OpenSpec.ofChange scriptsGoodWrong)

/- THE SECOND FORM. 'bulk': how many values and letters a reading holds, each counted each time it is reached (what is shared counts as often as it is met; a slice's spare places count too). A statement '..UptoSaid' is the law's where the arguments, and the package variables that the reading takes, are together of bulk at most 1048576: NARROWER than '..Said'. Prove '..Said' where nothing that the law and all that it calls make is longer than what came in: it says more and counts as full. Else prove '..UptoSaid'. A law counts once. -/
mutual
def uptoBulk {H : Type} : DataW H → Nat
  | .lit (.string bytes) => bytes.length + 1
  | .lit _ => 1
  | .nil => 1
  | .ptr d => uptoBulk d + 1
  | .slice elems spare => uptoBulkAll elems + uptoBulkAll spare + 1
  | .agg parts => uptoBulkAll parts + 1
  | .iface _ d => uptoBulk d + 1
  | .map entries => uptoBulkEntries entries + 1
  | .held _ => 1
def uptoBulkAll {H : Type} : List (DataW H) → Nat
  | [] => 0
  | d :: r => uptoBulk d + uptoBulkAll r
def uptoBulkEntries {H : Type} : List (Lit × DataW H) → Nat
  | [] => 0
  | x :: r => uptoBulkEntry x + uptoBulkEntries r
def uptoBulkEntry {H : Type} : Lit × DataW H → Nat
  | (.string bytes, d) => bytes.length + uptoBulk d + 1
  | (_, d) => uptoBulk d + 1
 end
def uptoSmall : (H : Type) → List (DataW H) → Bool := fun _ ds => decide (uptoBulkAll ds ≤ 1048576)
def OpenSpec.upto (s : _root_.Go.ChangeSpec) : _root_.Go.OpenSpec := { _root_.Go.OpenSpec.ofChange s with cond := some uptoSmall }

/-- 'winnowerlaw.FileDecodes', WHERE WHAT IT READS IS OF BULK AT MOST 1048576: true; the input reads as it did. -/
def fileDecodesUptoRow : OpenClaim := { program := "ytlojfgdpmaigmafgreatdoor", sum := "78061e7afad07eb610034d6ade0c4dc731dc7fdbea731962f9342d9e2cf010f3", func := "winnower/winnowerlaw.FileDecodes", spec := "fileDecodes", inPlace := ["slices.overlaps[int]"], unfollowed := true, recurses := true, named := ["winnower/bucket.sizes"], apart := false, laid := [("winnower/bucket.sizes", laid_winnower_bucket_sizes)], narrowed := true }
def FileDecodesUptoSaid : Prop := fileDecodesUptoRow.holds Tryz.pinned (OpenSpec.upto fileDecodesSpec)

/-- 'winnowerkeep.FilesBack', WHERE WHAT IT READS IS OF BULK AT MOST 1048576: true; the input reads as it did. -/
def filesBackUptoRow : OpenClaim := { program := "ytlojfgdpmaigmafgreatdoor", sum := "78061e7afad07eb610034d6ade0c4dc731dc7fdbea731962f9342d9e2cf010f3", func := "winnower/winnowerkeep.FilesBack", spec := "filesBack", inPlace := ["slices.overlaps[winnower/api.Entry]", "slices.overlaps[int]"], unfollowed := true, recurses := true, named := ["winnower/bucket.sizes"], apart := false, laid := [("winnower/bucket.sizes", laid_winnower_bucket_sizes)], narrowed := true }
def FilesBackUptoSaid : Prop := filesBackUptoRow.holds Tryz.pinned (OpenSpec.upto filesBackSpec)

/-- 'winnowerkeep.FilesOnce', WHERE WHAT IT READS IS OF BULK AT MOST 1048576: true; the input reads as it did. -/
def filesOnceUptoRow : OpenClaim := { program := "ytlojfgdpmaigmafgreatdoor", sum := "78061e7afad07eb610034d6ade0c4dc731dc7fdbea731962f9342d9e2cf010f3", func := "winnower/winnowerkeep.FilesOnce", spec := "filesOnce", inPlace := ["slices.overlaps[int]"], unfollowed := true, recurses := true, named := ["winnower/bucket.sizes"], apart := false, laid := [("winnower/bucket.sizes", laid_winnower_bucket_sizes)], narrowed := true }
def FilesOnceUptoSaid : Prop := filesOnceUptoRow.holds Tryz.pinned (OpenSpec.upto filesOnceSpec)

/-- 'winnowerlaw.EngineRuns', WHERE WHAT IT READS IS OF BULK AT MOST 1048576: true; the input reads as it did. -/
def engineRunsUptoRow : OpenClaim := { program := "ytlojfgdpmaigmafgreatdoor", sum := "78061e7afad07eb610034d6ade0c4dc731dc7fdbea731962f9342d9e2cf010f3", func := "winnower/winnowerlaw.EngineRuns", spec := "engineRuns", inPlace := ["slices.overlaps[winnower/api.Entry]", "slices.overlaps[int]"], unfollowed := true, recurses := true, named := ["winnower/bucket.sizes"], apart := false, laid := [("winnower/bucket.sizes", laid_winnower_bucket_sizes)], narrowed := true }
def EngineRunsUptoSaid : Prop := engineRunsUptoRow.holds Tryz.pinned (OpenSpec.upto engineRunsSpec)

/-- 'winnowerkeep.ScriptsGood', WHERE WHAT IT READS IS OF BULK AT MOST 1048576: true; the input reads as it did. -/
def scriptsGoodUptoRow : OpenClaim := { program := "ytlojfgdpmaigmafgreatdoor", sum := "78061e7afad07eb610034d6ade0c4dc731dc7fdbea731962f9342d9e2cf010f3", func := "winnower/winnowerkeep.ScriptsGood", spec := "scriptsGood", inPlace := ["slices.overlaps[winnower/api.Entry]", "slices.overlaps[int]"], unfollowed := true, recurses := true, named := ["winnower/bucket.sizes"], apart := false, laid := [("winnower/bucket.sizes", laid_winnower_bucket_sizes)], narrowed := true }
def ScriptsGoodUptoSaid : Prop := scriptsGoodUptoRow.holds Tryz.pinned (OpenSpec.upto scriptsGoodSpec)

end Rows
end Go.Proofs.YtlojfgdpmaigmafGreatDoor
