/-
  No cell of these rows narrows 'for every input' (looked for: loops, veiled, ifaces, maps, wideKeys, modest, calm, conditions, laid).
  DERIVED. THE GIVEN ROWS OF THIS SEAT. 5 by the template 'for every input the law returns true; each argument reads behind the call as it read before'; 0 by the template 'total and deterministic' (their statements: YtgialookkilcnaaTotals.lean).
  GIVEN WITH THE SEED: the statements are not yours to turn. If you find one false, say at which input.
  Laid BY PROGRAM, IN A SANDBOX (cutbox-rows.mjs): the forced cells as the released guide's own fill.sh prints them over the translation aa0a7e7129645fa1… (all of the seat's roots in one cut). By AI agents, Wed Nov 11 2026. No macro, syntax, notation, axiom, sorry.
-/
import Derived.Test.YtgialookkilcnaaChecked
import GoSem.Claim
import GoSem.ClaimJoined
import GoSem.ClaimMapViews
import Derived.JoinedTies
import Derived.KernelRfl
namespace Go.Proofs.Ytgialookkilcnaa
/- THE CELL 'sum', in the pinned program and in every row, IS THE sha256 OF THE DUMP (.gsa) THAT YtgialookkilcnaaProg.lean LOADS. Nothing in Lean hashes anything: it is a label: what it is worth is what the hold of that sum in a sandbox is worth. -/
noncomputable def Try.pinned : Pinned := { name := "ytgialookkilcnaa", sum := "aa0a7e7129645fa1d9b1ebc68006e377f730cb930b5a7fee76e79f6d8c840c37", checked := Try.checked }
namespace Rows
def none {H : Type} : Left H := { results := [], args := [] }

/-- 'winnowerlaw.RollChecks': WHATEVER THE INPUT: true; the input reads as it did. -/
def rollChecksSpec : ChangeSpec := { name := "rollChecks", fn := fun _ => fun
  | [d] => { results := [.lit (.bool true)], args := [d] }
  | _ => none }
def rollChecksRow : OpenClaim := { program := "ytgialookkilcnaa", sum := "aa0a7e7129645fa1d9b1ebc68006e377f730cb930b5a7fee76e79f6d8c840c37", func := "winnower/winnowerlaw.RollChecks", spec := "rollChecks", apart := false }
def RollChecksSaid : Prop := rollChecksRow.holds Try.pinned (OpenSpec.ofChange rollChecksSpec)

/-- ITS FALSE NEIGHBOUR: 'it returns false'. Refute it at one input. -/
def rollChecksWrong : ChangeSpec := { name := "rollChecks", fn := fun _ => fun
  | [d] => { results := [.lit (.bool false)], args := [d] }
  | _ => none }
def RollChecksWrongFalsely : Prop := rollChecksRow.holds Try.pinned (OpenSpec.ofChange rollChecksWrong)

/-- 'winnowerlaw.RollOfs': WHATEVER THE INPUT: true; the input reads as it did. -/
def rollOfsSpec : ChangeSpec := { name := "rollOfs", fn := fun _ => fun
  | [d1, d2] => { results := [.lit (.bool true)], args := [d1, d2] }
  | _ => none }
def rollOfsRow : OpenClaim := { program := "ytgialookkilcnaa", sum := "aa0a7e7129645fa1d9b1ebc68006e377f730cb930b5a7fee76e79f6d8c840c37", func := "winnower/winnowerlaw.RollOfs", spec := "rollOfs", apart := false }
def RollOfsSaid : Prop := rollOfsRow.holds Try.pinned (OpenSpec.ofChange rollOfsSpec)

/-- ITS FALSE NEIGHBOUR: 'it returns false'. Refute it at one input. -/
def rollOfsWrong : ChangeSpec := { name := "rollOfs", fn := fun _ => fun
  | [d1, d2] => { results := [.lit (.bool false)], args := [d1, d2] }
  | _ => none }
def RollOfsWrongFalsely : Prop := rollOfsRow.holds Try.pinned (OpenSpec.ofChange rollOfsWrong)

/-- 'winnowerlaw.RollMerges': WHATEVER THE INPUT: true; the input reads as it did. -/
def rollMergesSpec : ChangeSpec := { name := "rollMerges", fn := fun _ => fun
  | [d1, d2] => { results := [.lit (.bool true)], args := [d1, d2] }
  | _ => none }
def rollMergesRow : OpenClaim := { program := "ytgialookkilcnaa", sum := "aa0a7e7129645fa1d9b1ebc68006e377f730cb930b5a7fee76e79f6d8c840c37", func := "winnower/winnowerlaw.RollMerges", spec := "rollMerges", apart := false }
def RollMergesSaid : Prop := rollMergesRow.holds Try.pinned (OpenSpec.ofChange rollMergesSpec)

/-- ITS FALSE NEIGHBOUR: 'it returns false'. Refute it at one input. -/
def rollMergesWrong : ChangeSpec := { name := "rollMerges", fn := fun _ => fun
  | [d1, d2] => { results := [.lit (.bool false)], args := [d1, d2] }
  | _ => none }
def RollMergesWrongFalsely : Prop := rollMergesRow.holds Try.pinned (OpenSpec.ofChange rollMergesWrong)

/-- 'winnowerkeep.MergesPoints': WHATEVER THE INPUT: true; the input reads as it did. -/
def mergesPointsSpec : ChangeSpec := { name := "mergesPoints", fn := fun _ => fun
  | [d] => { results := [.lit (.bool true)], args := [d] }
  | _ => none }
def mergesPointsRow : OpenClaim := { program := "ytgialookkilcnaa", sum := "aa0a7e7129645fa1d9b1ebc68006e377f730cb930b5a7fee76e79f6d8c840c37", func := "winnower/winnowerkeep.MergesPoints", spec := "mergesPoints", apart := false }
def MergesPointsSaid : Prop := mergesPointsRow.holds Try.pinned (OpenSpec.ofChange mergesPointsSpec)

/-- ITS FALSE NEIGHBOUR: 'it returns false'. Refute it at one input. -/
def mergesPointsWrong : ChangeSpec := { name := "mergesPoints", fn := fun _ => fun
  | [d] => { results := [.lit (.bool false)], args := [d] }
  | _ => none }
def MergesPointsWrongFalsely : Prop := mergesPointsRow.holds Try.pinned (OpenSpec.ofChange mergesPointsWrong)

/-- 'winnowerlaw.TreeNew': WHATEVER THE INPUT: true; the input reads as it did. -/
def treeNewSpec : ChangeSpec := { name := "treeNew", fn := fun _ => fun
  | [d] => { results := [.lit (.bool true)], args := [d] }
  | _ => none }
def treeNewRow : OpenClaim := { program := "ytgialookkilcnaa", sum := "aa0a7e7129645fa1d9b1ebc68006e377f730cb930b5a7fee76e79f6d8c840c37", func := "winnower/winnowerlaw.TreeNew", spec := "treeNew", recurses := true, apart := false }
def TreeNewSaid : Prop := treeNewRow.holds Try.pinned (OpenSpec.ofChange treeNewSpec)

/-- ITS FALSE NEIGHBOUR: 'it returns false'. Refute it at one input. -/
def treeNewWrong : ChangeSpec := { name := "treeNew", fn := fun _ => fun
  | [d] => { results := [.lit (.bool false)], args := [d] }
  | _ => none }
def TreeNewWrongFalsely : Prop := treeNewRow.holds Try.pinned (OpenSpec.ofChange treeNewWrong)

/- THE SECOND FORM. 'bulk': how many values and letters a reading holds, each counted each time it is reached (what is shared counts as often as it is met; a slice's spare places count too). A statement '..UptoSaid' is the law's where the arguments, and the package variables that the reading takes, are together of bulk at most 1048576: NARROWER than '..Said'. Prove '..Said' where nothing that the law and all that it calls make is longer than what came in: it says more and counts as full. Else prove '..UptoSaid'. A law counts once. -/
mutual
def uptoBulk {H : Type} : DataW H → Nat
  | .lit (.string bytes) => bytes.length + 1
  | .lit _ => 1
  | .nil => 1
  | .ptr d => uptoBulk d + 1
  | .slice elems spare => uptoBulkAll elems + uptoBulkAll spare + 1
  | .agg parts => uptoBulkAll parts + 1
  | .iface _ d => uptoBulk d + 1
  | .map entries => uptoBulkEntries entries + 1
  | .held _ => 1
def uptoBulkAll {H : Type} : List (DataW H) → Nat
  | [] => 0
  | d :: r => uptoBulk d + uptoBulkAll r
def uptoBulkEntries {H : Type} : List (Lit × DataW H) → Nat
  | [] => 0
  | x :: r => uptoBulkEntry x + uptoBulkEntries r
def uptoBulkEntry {H : Type} : Lit × DataW H → Nat
  | (.string bytes, d) => bytes.length + uptoBulk d + 1
  | (_, d) => uptoBulk d + 1
 end
def uptoSmall : (H : Type) → List (DataW H) → Bool := fun _ ds => decide (uptoBulkAll ds ≤ 1048576)
def OpenSpec.upto (s : _root_.Go.ChangeSpec) : _root_.Go.OpenSpec := { _root_.Go.OpenSpec.ofChange s with cond := some uptoSmall }

/-- 'winnowerlaw.RollChecks', WHERE WHAT IT READS IS OF BULK AT MOST 1048576: true; the input reads as it did. -/
def rollChecksUptoRow : OpenClaim := { program := "ytgialookkilcnaa", sum := "aa0a7e7129645fa1d9b1ebc68006e377f730cb930b5a7fee76e79f6d8c840c37", func := "winnower/winnowerlaw.RollChecks", spec := "rollChecks", apart := false, narrowed := true }
def RollChecksUptoSaid : Prop := rollChecksUptoRow.holds Try.pinned (OpenSpec.upto rollChecksSpec)

/-- 'winnowerlaw.RollOfs', WHERE WHAT IT READS IS OF BULK AT MOST 1048576: true; the input reads as it did. -/
def rollOfsUptoRow : OpenClaim := { program := "ytgialookkilcnaa", sum := "aa0a7e7129645fa1d9b1ebc68006e377f730cb930b5a7fee76e79f6d8c840c37", func := "winnower/winnowerlaw.RollOfs", spec := "rollOfs", apart := false, narrowed := true }
def RollOfsUptoSaid : Prop := rollOfsUptoRow.holds Try.pinned (OpenSpec.upto rollOfsSpec)

/-- 'winnowerlaw.RollMerges', WHERE WHAT IT READS IS OF BULK AT MOST 1048576: true; the input reads as it did. -/
def rollMergesUptoRow : OpenClaim := { program := "ytgialookkilcnaa", sum := "aa0a7e7129645fa1d9b1ebc68006e377f730cb930b5a7fee76e79f6d8c840c37", func := "winnower/winnowerlaw.RollMerges", spec := "rollMerges", apart := false, narrowed := true }
def RollMergesUptoSaid : Prop := rollMergesUptoRow.holds Try.pinned (OpenSpec.upto rollMergesSpec)

/-- 'winnowerkeep.MergesPoints', WHERE WHAT IT READS IS OF BULK AT MOST 1048576: true; the input reads as it did. -/
def mergesPointsUptoRow : OpenClaim := { program := "ytgialookkilcnaa", sum := "aa0a7e7129645fa1d9b1ebc68006e377f730cb930b5a7fee76e79f6d8c840c37", func := "winnower/winnowerkeep.MergesPoints", spec := "mergesPoints", apart := false, narrowed := true }
def MergesPointsUptoSaid : Prop := mergesPointsUptoRow.holds Try.pinned (OpenSpec.upto mergesPointsSpec)

/-- 'winnowerlaw.TreeNew', WHERE WHAT IT READS IS OF BULK AT MOST 1048576: true; the input reads as it did. -/
def treeNewUptoRow : OpenClaim := { program := "ytgialookkilcnaa", sum := "aa0a7e7129645fa1d9b1ebc68006e377f730cb930b5a7fee76e79f6d8c840c37", func := "winnower/winnowerlaw.TreeNew", spec := "treeNew", recurses := true, apart := false, narrowed := true }
def TreeNewUptoSaid : Prop := treeNewUptoRow.holds Try.pinned (OpenSpec.upto treeNewSpec)

end Rows
end Go.Proofs.Ytgialookkilcnaa
