/-
  NARROWER THAN 'FOR EVERY INPUT', by the rows' own cells (each row's printed sentence says how): TreesRange: laid · TreesApart: laid · TreesOf: laid · TreesDeep: laid.
  DERIVED. THE GIVEN ROWS OF THIS SEAT. 4 by the template 'for every input the law returns true; each argument reads behind the call as it read before'; 0 by the template 'total and deterministic' (their statements: YtlojfgdpmaigmacGreatDoorTotals.lean).
  GIVEN WITH THE SEED: the statements are not yours to turn. If you find one false, say at which input.
  Laid BY PROGRAM, IN A SANDBOX (cutbox-rows.mjs): the forced cells as the released guide's own fill.sh prints them over the translation c11f37c5f51bdd04… (all of the seat's roots in one cut). By AI agents, Wed Nov 11 2026. No macro, syntax, notation, axiom, sorry.
-/
import Derived.Test.YtlojfgdpmaigmacGreatDoorChecked
import GoSem.Claim
import GoSem.ClaimJoined
import GoSem.ClaimMapViews
import Derived.JoinedTies
import Derived.KernelRfl
namespace Go.Proofs.YtlojfgdpmaigmacGreatDoor
/- THE CELL 'sum', in the pinned program and in every row, IS THE sha256 OF THE DUMP (.gsa) THAT YtlojfgdpmaigmacGreatDoorProg.lean LOADS. Nothing in Lean hashes anything: it is a label: what it is worth is what the hold of that sum in a sandbox is worth. -/
noncomputable def Tryz.pinned : Pinned := { name := "ytlojfgdpmaigmacgreatdoor", sum := "c11f37c5f51bdd0471f491e25405bee36aba693177843973019e5949b0c6da47", checked := Tryz.checked }
namespace Rows
def none {H : Type} : Left H := { results := [], args := [] }

/- WHAT THE LISTED PACKAGE-LEVEL VARIABLES READ AS WHEN THE CALL BEGINS. Each datum BY PROGRAM (the guide's laid-datum.mjs) off the statement by which the dump's own 'gosem.cut.vars' lays the variable. In a bare row this is a premise. The card (YtlojfgdpmaigmacGreatDoorCards.lean) ties it to the program's text. -/
def laid_winnower_bucket_sizes {H : Type} : DataW H := .agg [.lit (.int .i64 1), .lit (.int .i64 60), .lit (.int .i64 3600)]

/-- 'winnowerkeep.TreesRange': WHATEVER THE INPUT: true; the input reads as it did. -/
def treesRangeSpec : ChangeSpec := { name := "treesRange", fn := fun _ => fun
  | [d1, d2, d3, d4] => { results := [.lit (.bool true)], args := [d1, d2, d3, d4] }
  | _ => none }
def treesRangeRow : OpenClaim := { program := "ytlojfgdpmaigmacgreatdoor", sum := "c11f37c5f51bdd0471f491e25405bee36aba693177843973019e5949b0c6da47", func := "winnower/winnowerkeep.TreesRange", spec := "treesRange", inPlace := ["slices.overlaps[winnower/api.Entry]", "slices.overlaps[int]"], unfollowed := true, recurses := true, named := ["winnower/bucket.sizes"], apart := false, laid := [("winnower/bucket.sizes", laid_winnower_bucket_sizes)] }
def TreesRangeSaid : Prop := treesRangeRow.holds Tryz.pinned (OpenSpec.ofChange treesRangeSpec)

/-- ITS FALSE NEIGHBOUR: 'it returns false'. Refute it at one input. -/
def treesRangeWrong : ChangeSpec := { name := "treesRange", fn := fun _ => fun
  | [d1, d2, d3, d4] => { results := [.lit (.bool false)], args := [d1, d2, d3, d4] }
  | _ => none }
def TreesRangeWrongFalsely : Prop := treesRangeRow.holds Tryz.pinned (OpenSpec.ofChange treesRangeWrong)

/-- 'winnowerkeep.TreesApart': WHATEVER THE INPUT: true; the input reads as it did. -/
def treesApartSpec : ChangeSpec := { name := "treesApart", fn := fun _ => fun
  | [d1, d2, d3] => { results := [.lit (.bool true)], args := [d1, d2, d3] }
  | _ => none }
def treesApartRow : OpenClaim := { program := "ytlojfgdpmaigmacgreatdoor", sum := "c11f37c5f51bdd0471f491e25405bee36aba693177843973019e5949b0c6da47", func := "winnower/winnowerkeep.TreesApart", spec := "treesApart", inPlace := ["slices.overlaps[winnower/api.Entry]", "slices.overlaps[int]"], unfollowed := true, recurses := true, named := ["winnower/bucket.sizes"], apart := false, laid := [("winnower/bucket.sizes", laid_winnower_bucket_sizes)] }
def TreesApartSaid : Prop := treesApartRow.holds Tryz.pinned (OpenSpec.ofChange treesApartSpec)

/-- ITS FALSE NEIGHBOUR: 'it returns false'. Refute it at one input. -/
def treesApartWrong : ChangeSpec := { name := "treesApart", fn := fun _ => fun
  | [d1, d2, d3] => { results := [.lit (.bool false)], args := [d1, d2, d3] }
  | _ => none }
def TreesApartWrongFalsely : Prop := treesApartRow.holds Tryz.pinned (OpenSpec.ofChange treesApartWrong)

/-- 'winnowerkeep.TreesOf': WHATEVER THE INPUT: true; the input reads as it did. -/
def treesOfSpec : ChangeSpec := { name := "treesOf", fn := fun _ => fun
  | [d] => { results := [.lit (.bool true)], args := [d] }
  | _ => none }
def treesOfRow : OpenClaim := { program := "ytlojfgdpmaigmacgreatdoor", sum := "c11f37c5f51bdd0471f491e25405bee36aba693177843973019e5949b0c6da47", func := "winnower/winnowerkeep.TreesOf", spec := "treesOf", inPlace := ["slices.overlaps[winnower/api.Entry]", "slices.overlaps[int]"], unfollowed := true, recurses := true, named := ["winnower/bucket.sizes"], apart := false, laid := [("winnower/bucket.sizes", laid_winnower_bucket_sizes)] }
def TreesOfSaid : Prop := treesOfRow.holds Tryz.pinned (OpenSpec.ofChange treesOfSpec)

/-- ITS FALSE NEIGHBOUR: 'it returns false'. Refute it at one input. -/
def treesOfWrong : ChangeSpec := { name := "treesOf", fn := fun _ => fun
  | [d] => { results := [.lit (.bool false)], args := [d] }
  | _ => none }
def TreesOfWrongFalsely : Prop := treesOfRow.holds Tryz.pinned (OpenSpec.ofChange treesOfWrong)

/-- 'winnowerkeep.TreesDeep': WHATEVER THE INPUT: true; the input reads as it did. -/
def treesDeepSpec : ChangeSpec := { name := "treesDeep", fn := fun _ => fun
  | [d1, d2] => { results := [.lit (.bool true)], args := [d1, d2] }
  | _ => none }
def treesDeepRow : OpenClaim := { program := "ytlojfgdpmaigmacgreatdoor", sum := "c11f37c5f51bdd0471f491e25405bee36aba693177843973019e5949b0c6da47", func := "winnower/winnowerkeep.TreesDeep", spec := "treesDeep", inPlace := ["slices.overlaps[winnower/api.Entry]", "slices.overlaps[int]"], unfollowed := true, recurses := true, named := ["winnower/bucket.sizes"], apart := false, laid := [("winnower/bucket.sizes", laid_winnower_bucket_sizes)] }
def TreesDeepSaid : Prop := treesDeepRow.holds Tryz.pinned (OpenSpec.ofChange treesDeepSpec)

/-- ITS FALSE NEIGHBOUR: 'it returns false'. Refute it at one input. -/
def treesDeepWrong : ChangeSpec := { name := "treesDeep", fn := fun _ => fun
  | [d1, d2] => { results := [.lit (.bool false)], args := [d1, d2] }
  | _ => none }
def TreesDeepWrongFalsely : Prop := treesDeepRow.holds Tryz.pinned (OpenSpec.ofChange treesDeepWrong)

/- THE SECOND FORM. 'bulk': how many values and letters a reading holds, each counted each time it is reached (what is shared counts as often as it is met; a slice's spare places count too). A statement '..UptoSaid' is the law's where the arguments, and the package variables that the reading takes, are together of bulk at most 1048576: NARROWER than '..Said'. Prove '..Said' where nothing that the law and all that it calls make is longer than what came in: it says more and counts as full. Else prove '..UptoSaid'. A law counts once. -/
mutual
def uptoBulk {H : Type} : DataW H → Nat
  | .lit (.string bytes) => bytes.length + 1
  | .lit _ => 1
  | .nil => 1
  | .ptr d => uptoBulk d + 1
  | .slice elems spare => uptoBulkAll elems + uptoBulkAll spare + 1
  | .agg parts => uptoBulkAll parts + 1
  | .iface _ d => uptoBulk d + 1
  | .map entries => uptoBulkEntries entries + 1
  | .held _ => 1
def uptoBulkAll {H : Type} : List (DataW H) → Nat
  | [] => 0
  | d :: r => uptoBulk d + uptoBulkAll r
def uptoBulkEntries {H : Type} : List (Lit × DataW H) → Nat
  | [] => 0
  | x :: r => uptoBulkEntry x + uptoBulkEntries r
def uptoBulkEntry {H : Type} : Lit × DataW H → Nat
  | (.string bytes, d) => bytes.length + uptoBulk d + 1
  | (_, d) => uptoBulk d + 1
 end
def uptoSmall : (H : Type) → List (DataW H) → Bool := fun _ ds => decide (uptoBulkAll ds ≤ 1048576)
def OpenSpec.upto (s : _root_.Go.ChangeSpec) : _root_.Go.OpenSpec := { _root_.Go.OpenSpec.ofChange s with cond := some uptoSmall }

/-- 'winnowerkeep.TreesRange', WHERE WHAT IT READS IS OF BULK AT MOST 1048576: true; the input reads as it did. -/
def treesRangeUptoRow : OpenClaim := { program := "ytlojfgdpmaigmacgreatdoor", sum := "c11f37c5f51bdd0471f491e25405bee36aba693177843973019e5949b0c6da47", func := "winnower/winnowerkeep.TreesRange", spec := "treesRange", inPlace := ["slices.overlaps[winnower/api.Entry]", "slices.overlaps[int]"], unfollowed := true, recurses := true, named := ["winnower/bucket.sizes"], apart := false, laid := [("winnower/bucket.sizes", laid_winnower_bucket_sizes)], narrowed := true }
def TreesRangeUptoSaid : Prop := treesRangeUptoRow.holds Tryz.pinned (OpenSpec.upto treesRangeSpec)

/-- 'winnowerkeep.TreesApart', WHERE WHAT IT READS IS OF BULK AT MOST 1048576: true; the input reads as it did. -/
def treesApartUptoRow : OpenClaim := { program := "ytlojfgdpmaigmacgreatdoor", sum := "c11f37c5f51bdd0471f491e25405bee36aba693177843973019e5949b0c6da47", func := "winnower/winnowerkeep.TreesApart", spec := "treesApart", inPlace := ["slices.overlaps[winnower/api.Entry]", "slices.overlaps[int]"], unfollowed := true, recurses := true, named := ["winnower/bucket.sizes"], apart := false, laid := [("winnower/bucket.sizes", laid_winnower_bucket_sizes)], narrowed := true }
def TreesApartUptoSaid : Prop := treesApartUptoRow.holds Tryz.pinned (OpenSpec.upto treesApartSpec)

/-- 'winnowerkeep.TreesOf', WHERE WHAT IT READS IS OF BULK AT MOST 1048576: true; the input reads as it did. -/
def treesOfUptoRow : OpenClaim := { program := "ytlojfgdpmaigmacgreatdoor", sum := "c11f37c5f51bdd0471f491e25405bee36aba693177843973019e5949b0c6da47", func := "winnower/winnowerkeep.TreesOf", spec := "treesOf", inPlace := ["slices.overlaps[winnower/api.Entry]", "slices.overlaps[int]"], unfollowed := true, recurses := true, named := ["winnower/bucket.sizes"], apart := false, laid := [("winnower/bucket.sizes", laid_winnower_bucket_sizes)], narrowed := true }
def TreesOfUptoSaid : Prop := treesOfUptoRow.holds Tryz.pinned (OpenSpec.upto treesOfSpec)

/-- 'winnowerkeep.TreesDeep', WHERE WHAT IT READS IS OF BULK AT MOST 1048576: true; the input reads as it did. -/
def treesDeepUptoRow : OpenClaim := { program := "ytlojfgdpmaigmacgreatdoor", sum := "c11f37c5f51bdd0471f491e25405bee36aba693177843973019e5949b0c6da47", func := "winnower/winnowerkeep.TreesDeep", spec := "treesDeep", inPlace := ["slices.overlaps[winnower/api.Entry]", "slices.overlaps[int]"], unfollowed := true, recurses := true, named := ["winnower/bucket.sizes"], apart := false, laid := [("winnower/bucket.sizes", laid_winnower_bucket_sizes)], narrowed := true }
def TreesDeepUptoSaid : Prop := treesDeepUptoRow.holds Tryz.pinned (OpenSpec.upto treesDeepSpec)

end Rows
end Go.Proofs.YtlojfgdpmaigmacGreatDoor
