/-
  NARROWER THAN 'FOR EVERY INPUT', by the rows' own cells (each row's printed sentence says how): TopTotals: laid · TopSplit: laid · TopBuckets: laid · TopSaved: laid · TopBack: laid · TopAsking: laid.
  DERIVED. THE GIVEN ROWS OF THIS SEAT. 6 by the template 'for every input the law returns true; each argument reads behind the call as it read before'; 0 by the template 'total and deterministic' (their statements: YtlojfgdpmaigmagGreatDoorTotals.lean).
  GIVEN WITH THE SEED: the statements are not yours to turn. If you find one false, say at which input.
  Laid BY PROGRAM, IN A SANDBOX (cutbox-rows.mjs): the forced cells as the released guide's own fill.sh prints them over the translation ef37e23d326e1f46… (all of the seat's roots in one cut). By AI agents, Wed Nov 11 2026. No macro, syntax, notation, axiom, sorry.
-/
import Derived.Test.YtlojfgdpmaigmagGreatDoorChecked
import GoSem.Claim
import GoSem.ClaimJoined
import GoSem.ClaimMapViews
import Derived.JoinedTies
import Derived.KernelRfl
namespace Go.Proofs.YtlojfgdpmaigmagGreatDoor
/- THE CELL 'sum', in the pinned program and in every row, IS THE sha256 OF THE DUMP (.gsa) THAT YtlojfgdpmaigmagGreatDoorProg.lean LOADS. Nothing in Lean hashes anything: it is a label: what it is worth is what the hold of that sum in a sandbox is worth. -/
noncomputable def Tryz.pinned : Pinned := { name := "ytlojfgdpmaigmaggreatdoor", sum := "ef37e23d326e1f464738f96777fb1827878c6a259f333a105d4f02c552e965a8", checked := Tryz.checked }
namespace Rows
def none {H : Type} : Left H := { results := [], args := [] }

/- WHAT THE LISTED PACKAGE-LEVEL VARIABLES READ AS WHEN THE CALL BEGINS. Each datum BY PROGRAM (the guide's laid-datum.mjs) off the statement by which the dump's own 'gosem.cut.vars' lays the variable. In a bare row this is a premise. The card (YtlojfgdpmaigmagGreatDoorCards.lean) ties it to the program's text. -/
def laid_winnower_bucket_sizes {H : Type} : DataW H := .agg [.lit (.int .i64 1), .lit (.int .i64 60), .lit (.int .i64 3600)]

/-- 'winnowertop.TopTotals': WHATEVER THE INPUT: true; the input reads as it did. -/
def topTotalsSpec : ChangeSpec := { name := "topTotals", fn := fun _ => fun
  | [d1, d2, d3] => { results := [.lit (.bool true)], args := [d1, d2, d3] }
  | _ => none }
def topTotalsRow : OpenClaim := { program := "ytlojfgdpmaigmaggreatdoor", sum := "ef37e23d326e1f464738f96777fb1827878c6a259f333a105d4f02c552e965a8", func := "winnower/winnowertop.TopTotals", spec := "topTotals", inPlace := ["slices.overlaps[winnower/api.Entry]", "slices.overlaps[int]"], unfollowed := true, recurses := true, named := ["winnower/bucket.sizes"], apart := false, laid := [("winnower/bucket.sizes", laid_winnower_bucket_sizes)] }
def TopTotalsSaid : Prop := topTotalsRow.holds Tryz.pinned (OpenSpec.ofChange topTotalsSpec)

/-- ITS FALSE NEIGHBOUR: 'it returns false'. Refute it at one input. -/
def topTotalsWrong : ChangeSpec := { name := "topTotals", fn := fun _ => fun
  | [d1, d2, d3] => { results := [.lit (.bool false)], args := [d1, d2, d3] }
  | _ => none }
def TopTotalsWrongFalsely : Prop := topTotalsRow.holds Tryz.pinned (OpenSpec.ofChange topTotalsWrong)

/-- 'winnowertop.TopSplit': WHATEVER THE INPUT: true; the input reads as it did. -/
def topSplitSpec : ChangeSpec := { name := "topSplit", fn := fun _ => fun
  | [d1, d2, d3, d4] => { results := [.lit (.bool true)], args := [d1, d2, d3, d4] }
  | _ => none }
def topSplitRow : OpenClaim := { program := "ytlojfgdpmaigmaggreatdoor", sum := "ef37e23d326e1f464738f96777fb1827878c6a259f333a105d4f02c552e965a8", func := "winnower/winnowertop.TopSplit", spec := "topSplit", inPlace := ["slices.overlaps[winnower/api.Entry]", "slices.overlaps[int]"], unfollowed := true, recurses := true, named := ["winnower/bucket.sizes"], apart := false, laid := [("winnower/bucket.sizes", laid_winnower_bucket_sizes)] }
def TopSplitSaid : Prop := topSplitRow.holds Tryz.pinned (OpenSpec.ofChange topSplitSpec)

/-- ITS FALSE NEIGHBOUR: 'it returns false'. Refute it at one input. -/
def topSplitWrong : ChangeSpec := { name := "topSplit", fn := fun _ => fun
  | [d1, d2, d3, d4] => { results := [.lit (.bool false)], args := [d1, d2, d3, d4] }
  | _ => none }
def TopSplitWrongFalsely : Prop := topSplitRow.holds Tryz.pinned (OpenSpec.ofChange topSplitWrong)

/-- 'winnowertop.TopBuckets': WHATEVER THE INPUT: true; the input reads as it did. -/
def topBucketsSpec : ChangeSpec := { name := "topBuckets", fn := fun _ => fun
  | [d1, d2] => { results := [.lit (.bool true)], args := [d1, d2] }
  | _ => none }
def topBucketsRow : OpenClaim := { program := "ytlojfgdpmaigmaggreatdoor", sum := "ef37e23d326e1f464738f96777fb1827878c6a259f333a105d4f02c552e965a8", func := "winnower/winnowertop.TopBuckets", spec := "topBuckets", inPlace := ["slices.overlaps[winnower/api.Entry]", "slices.overlaps[int]"], unfollowed := true, recurses := true, named := ["winnower/bucket.sizes"], apart := false, laid := [("winnower/bucket.sizes", laid_winnower_bucket_sizes)] }
def TopBucketsSaid : Prop := topBucketsRow.holds Tryz.pinned (OpenSpec.ofChange topBucketsSpec)

/-- ITS FALSE NEIGHBOUR: 'it returns false'. Refute it at one input. -/
def topBucketsWrong : ChangeSpec := { name := "topBuckets", fn := fun _ => fun
  | [d1, d2] => { results := [.lit (.bool false)], args := [d1, d2] }
  | _ => none }
def TopBucketsWrongFalsely : Prop := topBucketsRow.holds Tryz.pinned (OpenSpec.ofChange topBucketsWrong)

/-- 'winnowertop.TopSaved': WHATEVER THE INPUT: true; the input reads as it did. -/
def topSavedSpec : ChangeSpec := { name := "topSaved", fn := fun _ => fun
  | [d1, d2] => { results := [.lit (.bool true)], args := [d1, d2] }
  | _ => none }
def topSavedRow : OpenClaim := { program := "ytlojfgdpmaigmaggreatdoor", sum := "ef37e23d326e1f464738f96777fb1827878c6a259f333a105d4f02c552e965a8", func := "winnower/winnowertop.TopSaved", spec := "topSaved", inPlace := ["slices.overlaps[winnower/api.Entry]", "slices.overlaps[int]"], unfollowed := true, recurses := true, named := ["winnower/bucket.sizes"], apart := false, laid := [("winnower/bucket.sizes", laid_winnower_bucket_sizes)] }
def TopSavedSaid : Prop := topSavedRow.holds Tryz.pinned (OpenSpec.ofChange topSavedSpec)

/-- ITS FALSE NEIGHBOUR: 'it returns false'. Refute it at one input. -/
def topSavedWrong : ChangeSpec := { name := "topSaved", fn := fun _ => fun
  | [d1, d2] => { results := [.lit (.bool false)], args := [d1, d2] }
  | _ => none }
def TopSavedWrongFalsely : Prop := topSavedRow.holds Tryz.pinned (OpenSpec.ofChange topSavedWrong)

/-- 'winnowertop.TopBack': WHATEVER THE INPUT: true; the input reads as it did. -/
def topBackSpec : ChangeSpec := { name := "topBack", fn := fun _ => fun
  | [d1, d2] => { results := [.lit (.bool true)], args := [d1, d2] }
  | _ => none }
def topBackRow : OpenClaim := { program := "ytlojfgdpmaigmaggreatdoor", sum := "ef37e23d326e1f464738f96777fb1827878c6a259f333a105d4f02c552e965a8", func := "winnower/winnowertop.TopBack", spec := "topBack", inPlace := ["slices.overlaps[winnower/api.Entry]", "slices.overlaps[int]"], unfollowed := true, recurses := true, named := ["winnower/bucket.sizes"], apart := false, laid := [("winnower/bucket.sizes", laid_winnower_bucket_sizes)] }
def TopBackSaid : Prop := topBackRow.holds Tryz.pinned (OpenSpec.ofChange topBackSpec)

/-- ITS FALSE NEIGHBOUR: 'it returns false'. Refute it at one input. -/
def topBackWrong : ChangeSpec := { name := "topBack", fn := fun _ => fun
  | [d1, d2] => { results := [.lit (.bool false)], args := [d1, d2] }
  | _ => none }
def TopBackWrongFalsely : Prop := topBackRow.holds Tryz.pinned (OpenSpec.ofChange topBackWrong)

/-- 'winnowertop.TopAsking': WHATEVER THE INPUT: true; the input reads as it did. -/
def topAskingSpec : ChangeSpec := { name := "topAsking", fn := fun _ => fun
  | [d] => { results := [.lit (.bool true)], args := [d] }
  | _ => none }
def topAskingRow : OpenClaim := { program := "ytlojfgdpmaigmaggreatdoor", sum := "ef37e23d326e1f464738f96777fb1827878c6a259f333a105d4f02c552e965a8", func := "winnower/winnowertop.TopAsking", spec := "topAsking", inPlace := ["slices.overlaps[winnower/api.Entry]", "slices.overlaps[int]"], unfollowed := true, recurses := true, named := ["winnower/bucket.sizes"], apart := false, laid := [("winnower/bucket.sizes", laid_winnower_bucket_sizes)] }
def TopAskingSaid : Prop := topAskingRow.holds Tryz.pinned (OpenSpec.ofChange topAskingSpec)

/-- ITS FALSE NEIGHBOUR: 'it returns false'. Refute it at one input. -/
def topAskingWrong : ChangeSpec := { name := "topAsking", fn := fun _ => fun
  | [d] => { results := [.lit (.bool false)], args := [d] }
  | _ => none }
def TopAskingWrongFalsely : Prop := topAskingRow.holds Tryz.pinned (OpenSpec.ofChange topAskingWrong)

/- THE SECOND FORM. 'bulk': how many values and letters a reading holds, each counted each time it is reached (what is shared counts as often as it is met; a slice's spare places count too). A statement '..UptoSaid' is the law's where the arguments, and the package variables that the reading takes, are together of bulk at most 1048576: NARROWER than '..Said'. Prove '..Said' where nothing that the law and all that it calls make is longer than what came in: it says more and counts as full. Else prove '..UptoSaid'. A law counts once. -/
mutual
def uptoBulk {H : Type} : DataW H → Nat
  | .lit (.string bytes) => bytes.length + 1
  | .lit _ => 1
  | .nil => 1
  | .ptr d => uptoBulk d + 1
  | .slice elems spare => uptoBulkAll elems + uptoBulkAll spare + 1
  | .agg parts => uptoBulkAll parts + 1
  | .iface _ d => uptoBulk d + 1
  | .map entries => uptoBulkEntries entries + 1
  | .held _ => 1
def uptoBulkAll {H : Type} : List (DataW H) → Nat
  | [] => 0
  | d :: r => uptoBulk d + uptoBulkAll r
def uptoBulkEntries {H : Type} : List (Lit × DataW H) → Nat
  | [] => 0
  | x :: r => uptoBulkEntry x + uptoBulkEntries r
def uptoBulkEntry {H : Type} : Lit × DataW H → Nat
  | (.string bytes, d) => bytes.length + uptoBulk d + 1
  | (_, d) => uptoBulk d + 1
 end
def uptoSmall : (H : Type) → List (DataW H) → Bool := fun _ ds => decide (uptoBulkAll ds ≤ 1048576)
def OpenSpec.upto (s : _root_.Go.ChangeSpec) : _root_.Go.OpenSpec := { _root_.Go.OpenSpec.ofChange s with cond := some uptoSmall }

/-- 'winnowertop.TopTotals', WHERE WHAT IT READS IS OF BULK AT MOST 1048576: true; the input reads as it did. -/
def topTotalsUptoRow : OpenClaim := { program := "ytlojfgdpmaigmaggreatdoor", sum := "ef37e23d326e1f464738f96777fb1827878c6a259f333a105d4f02c552e965a8", func := "winnower/winnowertop.TopTotals", spec := "topTotals", inPlace := ["slices.overlaps[winnower/api.Entry]", "slices.overlaps[int]"], unfollowed := true, recurses := true, named := ["winnower/bucket.sizes"], apart := false, laid := [("winnower/bucket.sizes", laid_winnower_bucket_sizes)], narrowed := true }
def TopTotalsUptoSaid : Prop := topTotalsUptoRow.holds Tryz.pinned (OpenSpec.upto topTotalsSpec)

/-- 'winnowertop.TopSplit', WHERE WHAT IT READS IS OF BULK AT MOST 1048576: true; the input reads as it did. -/
def topSplitUptoRow : OpenClaim := { program := "ytlojfgdpmaigmaggreatdoor", sum := "ef37e23d326e1f464738f96777fb1827878c6a259f333a105d4f02c552e965a8", func := "winnower/winnowertop.TopSplit", spec := "topSplit", inPlace := ["slices.overlaps[winnower/api.Entry]", "slices.overlaps[int]"], unfollowed := true, recurses := true, named := ["winnower/bucket.sizes"], apart := false, laid := [("winnower/bucket.sizes", laid_winnower_bucket_sizes)], narrowed := true }
def TopSplitUptoSaid : Prop := topSplitUptoRow.holds Tryz.pinned (OpenSpec.upto topSplitSpec)

/-- 'winnowertop.TopBuckets', WHERE WHAT IT READS IS OF BULK AT MOST 1048576: true; the input reads as it did. -/
def topBucketsUptoRow : OpenClaim := { program := "ytlojfgdpmaigmaggreatdoor", sum := "ef37e23d326e1f464738f96777fb1827878c6a259f333a105d4f02c552e965a8", func := "winnower/winnowertop.TopBuckets", spec := "topBuckets", inPlace := ["slices.overlaps[winnower/api.Entry]", "slices.overlaps[int]"], unfollowed := true, recurses := true, named := ["winnower/bucket.sizes"], apart := false, laid := [("winnower/bucket.sizes", laid_winnower_bucket_sizes)], narrowed := true }
def TopBucketsUptoSaid : Prop := topBucketsUptoRow.holds Tryz.pinned (OpenSpec.upto topBucketsSpec)

/-- 'winnowertop.TopSaved', WHERE WHAT IT READS IS OF BULK AT MOST 1048576: true; the input reads as it did. -/
def topSavedUptoRow : OpenClaim := { program := "ytlojfgdpmaigmaggreatdoor", sum := "ef37e23d326e1f464738f96777fb1827878c6a259f333a105d4f02c552e965a8", func := "winnower/winnowertop.TopSaved", spec := "topSaved", inPlace := ["slices.overlaps[winnower/api.Entry]", "slices.overlaps[int]"], unfollowed := true, recurses := true, named := ["winnower/bucket.sizes"], apart := false, laid := [("winnower/bucket.sizes", laid_winnower_bucket_sizes)], narrowed := true }
def TopSavedUptoSaid : Prop := topSavedUptoRow.holds Tryz.pinned (OpenSpec.upto topSavedSpec)

/-- 'winnowertop.TopBack', WHERE WHAT IT READS IS OF BULK AT MOST 1048576: true; the input reads as it did. -/
def topBackUptoRow : OpenClaim := { program := "ytlojfgdpmaigmaggreatdoor", sum := "ef37e23d326e1f464738f96777fb1827878c6a259f333a105d4f02c552e965a8", func := "winnower/winnowertop.TopBack", spec := "topBack", inPlace := ["slices.overlaps[winnower/api.Entry]", "slices.overlaps[int]"], unfollowed := true, recurses := true, named := ["winnower/bucket.sizes"], apart := false, laid := [("winnower/bucket.sizes", laid_winnower_bucket_sizes)], narrowed := true }
def TopBackUptoSaid : Prop := topBackUptoRow.holds Tryz.pinned (OpenSpec.upto topBackSpec)

/-- 'winnowertop.TopAsking', WHERE WHAT IT READS IS OF BULK AT MOST 1048576: true; the input reads as it did. -/
def topAskingUptoRow : OpenClaim := { program := "ytlojfgdpmaigmaggreatdoor", sum := "ef37e23d326e1f464738f96777fb1827878c6a259f333a105d4f02c552e965a8", func := "winnower/winnowertop.TopAsking", spec := "topAsking", inPlace := ["slices.overlaps[winnower/api.Entry]", "slices.overlaps[int]"], unfollowed := true, recurses := true, named := ["winnower/bucket.sizes"], apart := false, laid := [("winnower/bucket.sizes", laid_winnower_bucket_sizes)], narrowed := true }
def TopAskingUptoSaid : Prop := topAskingUptoRow.holds Tryz.pinned (OpenSpec.upto topAskingSpec)

end Rows
end Go.Proofs.YtlojfgdpmaigmagGreatDoor
