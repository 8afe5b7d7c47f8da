/-
  NARROWER THAN 'FOR EVERY INPUT', by the rows' own cells (each row's printed sentence says how): BaseChecks: laid · BaseRows: laid · BaseTotals: laid.
  DERIVED. THE GIVEN ROWS OF THIS SEAT. 3 by the template 'for every input the law returns true; each argument reads behind the call as it read before'; 0 by the template 'total and deterministic' (their statements: YtlojfgdpmaigmadDoorTotals.lean).
  GIVEN WITH THE SEED: the statements are not yours to turn. If you find one false, say at which input.
  Laid BY PROGRAM, IN A SANDBOX (cutbox-rows.mjs): the forced cells as the released guide's own fill.sh prints them over the translation 97612c0e599992be… (all of the seat's roots in one cut). By AI agents, Wed Nov 11 2026. No macro, syntax, notation, axiom, sorry.
-/
import Derived.Test.YtlojfgdpmaigmadDoorChecked
import GoSem.Claim
import GoSem.ClaimJoined
import GoSem.ClaimMapViews
import Derived.JoinedTies
import Derived.KernelRfl
namespace Go.Proofs.YtlojfgdpmaigmadDoor
/- THE CELL 'sum', in the pinned program and in every row, IS THE sha256 OF THE DUMP (.gsa) THAT YtlojfgdpmaigmadDoorProg.lean LOADS. Nothing in Lean hashes anything: it is a label: what it is worth is what the hold of that sum in a sandbox is worth. -/
noncomputable def Tryd.pinned : Pinned := { name := "ytlojfgdpmaigmaddoor", sum := "97612c0e599992bef95b4d4c269e659d27bbc40f7a8806f6ad30f72cf2758f75", checked := Tryd.checked }
namespace Rows
def none {H : Type} : Left H := { results := [], args := [] }

/- WHAT THE LISTED PACKAGE-LEVEL VARIABLES READ AS WHEN THE CALL BEGINS. Each datum BY PROGRAM (the guide's laid-datum.mjs) off the statement by which the dump's own 'gosem.cut.vars' lays the variable. In a bare row this is a premise. The card (YtlojfgdpmaigmadDoorCards.lean) ties it to the program's text. -/
def laid_winnower_bucket_sizes {H : Type} : DataW H := .agg [.lit (.int .i64 1), .lit (.int .i64 60), .lit (.int .i64 3600)]

/-- 'winnowerlaw.BaseChecks': WHATEVER THE INPUT: true; the input reads as it did. -/
def baseChecksSpec : ChangeSpec := { name := "baseChecks", fn := fun _ => fun
  | [d] => { results := [.lit (.bool true)], args := [d] }
  | _ => none }
def baseChecksRow : OpenClaim := { program := "ytlojfgdpmaigmaddoor", sum := "97612c0e599992bef95b4d4c269e659d27bbc40f7a8806f6ad30f72cf2758f75", func := "winnower/winnowerlaw.BaseChecks", spec := "baseChecks", unfollowed := true, recurses := true, named := ["winnower/bucket.sizes"], apart := false, laid := [("winnower/bucket.sizes", laid_winnower_bucket_sizes)] }
def BaseChecksSaid : Prop := baseChecksRow.holds Tryd.pinned (OpenSpec.ofChange baseChecksSpec)

/-- ITS FALSE NEIGHBOUR: 'it returns false'. Refute it at one input. -/
def baseChecksWrong : ChangeSpec := { name := "baseChecks", fn := fun _ => fun
  | [d] => { results := [.lit (.bool false)], args := [d] }
  | _ => none }
def BaseChecksWrongFalsely : Prop := baseChecksRow.holds Tryd.pinned (OpenSpec.ofChange baseChecksWrong)

/-- 'winnowerlaw.BaseRows': WHATEVER THE INPUT: true; the input reads as it did. -/
def baseRowsSpec : ChangeSpec := { name := "baseRows", fn := fun _ => fun
  | [d1, d2, d3, d4, d5] => { results := [.lit (.bool true)], args := [d1, d2, d3, d4, d5] }
  | _ => none }
def baseRowsRow : OpenClaim := { program := "ytlojfgdpmaigmaddoor", sum := "97612c0e599992bef95b4d4c269e659d27bbc40f7a8806f6ad30f72cf2758f75", func := "winnower/winnowerlaw.BaseRows", spec := "baseRows", unfollowed := true, recurses := true, named := ["winnower/bucket.sizes"], apart := false, laid := [("winnower/bucket.sizes", laid_winnower_bucket_sizes)] }
def BaseRowsSaid : Prop := baseRowsRow.holds Tryd.pinned (OpenSpec.ofChange baseRowsSpec)

/-- ITS FALSE NEIGHBOUR: 'it returns false'. Refute it at one input. -/
def baseRowsWrong : ChangeSpec := { name := "baseRows", fn := fun _ => fun
  | [d1, d2, d3, d4, d5] => { results := [.lit (.bool false)], args := [d1, d2, d3, d4, d5] }
  | _ => none }
def BaseRowsWrongFalsely : Prop := baseRowsRow.holds Tryd.pinned (OpenSpec.ofChange baseRowsWrong)

/-- 'winnowerlaw.BaseTotals': WHATEVER THE INPUT: true; the input reads as it did. -/
def baseTotalsSpec : ChangeSpec := { name := "baseTotals", fn := fun _ => fun
  | [d1, d2, d3, d4] => { results := [.lit (.bool true)], args := [d1, d2, d3, d4] }
  | _ => none }
def baseTotalsRow : OpenClaim := { program := "ytlojfgdpmaigmaddoor", sum := "97612c0e599992bef95b4d4c269e659d27bbc40f7a8806f6ad30f72cf2758f75", func := "winnower/winnowerlaw.BaseTotals", spec := "baseTotals", unfollowed := true, recurses := true, named := ["winnower/bucket.sizes"], apart := false, laid := [("winnower/bucket.sizes", laid_winnower_bucket_sizes)] }
def BaseTotalsSaid : Prop := baseTotalsRow.holds Tryd.pinned (OpenSpec.ofChange baseTotalsSpec)

/-- ITS FALSE NEIGHBOUR: 'it returns false'. Refute it at one input. -/
def baseTotalsWrong : ChangeSpec := { name := "baseTotals", fn := fun _ => fun
  | [d1, d2, d3, d4] => { results := [.lit (.bool false)], args := [d1, d2, d3, d4] }
  | _ => none }
def BaseTotalsWrongFalsely : Prop := baseTotalsRow.holds Tryd.pinned (OpenSpec.ofChange baseTotalsWrong)

/- THE SECOND FORM. 'bulk': how many values and letters a reading holds, each counted each time it is reached (what is shared counts as often as it is met; a slice's spare places count too). A statement '..UptoSaid' is the law's where the arguments, and the package variables that the reading takes, are together of bulk at most 1048576: NARROWER than '..Said'. Prove '..Said' where nothing that the law and all that it calls make is longer than what came in: it says more and counts as full. Else prove '..UptoSaid'. A law counts once. -/
mutual
def uptoBulk {H : Type} : DataW H → Nat
  | .lit (.string bytes) => bytes.length + 1
  | .lit _ => 1
  | .nil => 1
  | .ptr d => uptoBulk d + 1
  | .slice elems spare => uptoBulkAll elems + uptoBulkAll spare + 1
  | .agg parts => uptoBulkAll parts + 1
  | .iface _ d => uptoBulk d + 1
  | .map entries => uptoBulkEntries entries + 1
  | .held _ => 1
def uptoBulkAll {H : Type} : List (DataW H) → Nat
  | [] => 0
  | d :: r => uptoBulk d + uptoBulkAll r
def uptoBulkEntries {H : Type} : List (Lit × DataW H) → Nat
  | [] => 0
  | x :: r => uptoBulkEntry x + uptoBulkEntries r
def uptoBulkEntry {H : Type} : Lit × DataW H → Nat
  | (.string bytes, d) => bytes.length + uptoBulk d + 1
  | (_, d) => uptoBulk d + 1
 end
def uptoSmall : (H : Type) → List (DataW H) → Bool := fun _ ds => decide (uptoBulkAll ds ≤ 1048576)
def OpenSpec.upto (s : _root_.Go.ChangeSpec) : _root_.Go.OpenSpec := { _root_.Go.OpenSpec.ofChange s with cond := some uptoSmall }

/-- 'winnowerlaw.BaseChecks', WHERE WHAT IT READS IS OF BULK AT MOST 1048576: true; the input reads as it did. -/
def baseChecksUptoRow : OpenClaim := { program := "ytlojfgdpmaigmaddoor", sum := "97612c0e599992bef95b4d4c269e659d27bbc40f7a8806f6ad30f72cf2758f75", func := "winnower/winnowerlaw.BaseChecks", spec := "baseChecks", unfollowed := true, recurses := true, named := ["winnower/bucket.sizes"], apart := false, laid := [("winnower/bucket.sizes", laid_winnower_bucket_sizes)], narrowed := true }
def BaseChecksUptoSaid : Prop := baseChecksUptoRow.holds Tryd.pinned (OpenSpec.upto baseChecksSpec)

/-- 'winnowerlaw.BaseRows', WHERE WHAT IT READS IS OF BULK AT MOST 1048576: true; the input reads as it did. -/
def baseRowsUptoRow : OpenClaim := { program := "ytlojfgdpmaigmaddoor", sum := "97612c0e599992bef95b4d4c269e659d27bbc40f7a8806f6ad30f72cf2758f75", func := "winnower/winnowerlaw.BaseRows", spec := "baseRows", unfollowed := true, recurses := true, named := ["winnower/bucket.sizes"], apart := false, laid := [("winnower/bucket.sizes", laid_winnower_bucket_sizes)], narrowed := true }
def BaseRowsUptoSaid : Prop := baseRowsUptoRow.holds Tryd.pinned (OpenSpec.upto baseRowsSpec)

/-- 'winnowerlaw.BaseTotals', WHERE WHAT IT READS IS OF BULK AT MOST 1048576: true; the input reads as it did. -/
def baseTotalsUptoRow : OpenClaim := { program := "ytlojfgdpmaigmaddoor", sum := "97612c0e599992bef95b4d4c269e659d27bbc40f7a8806f6ad30f72cf2758f75", func := "winnower/winnowerlaw.BaseTotals", spec := "baseTotals", unfollowed := true, recurses := true, named := ["winnower/bucket.sizes"], apart := false, laid := [("winnower/bucket.sizes", laid_winnower_bucket_sizes)], narrowed := true }
def BaseTotalsUptoSaid : Prop := baseTotalsUptoRow.holds Tryd.pinned (OpenSpec.upto baseTotalsSpec)

end Rows
end Go.Proofs.YtlojfgdpmaigmadDoor
