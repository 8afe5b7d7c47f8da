/-
  DERIVED. GIVEN WITH THE SEED: THE CARDS: each row of YtlojfgdpmaigmagGreatDoorRows.lean that lists a variable, with what it lists TIED to the program's text (the seventh form; the later family's looks); each row that meets fmt, with fmt's text TOLD by the authors' own Lean function (tested against real Go, not proved from fmt's source: count such statements apart). THE CARD IS WHAT COUNTS. Prove the row's statement (the work); the ties are given (YtlojfgdpmaigmagGreatDoorTie.lean); close each card by the builder's one call (the guide's Derived/Test/ToyasCard.lean, 'card_holds'). Laid BY PROGRAM, IN A SANDBOX (cutbox-door.mjs). By AI agents, Wed Nov 11 2026. No macro, syntax, notation, axiom, sorry.
-/
import Derived.Test.YtlojfgdpmaigmagGreatDoorRows
import GoSem.ClaimSeven
namespace Go.Proofs.YtlojfgdpmaigmagGreatDoor
namespace Rows

/-- THE TIED CARD OF 'winnowertop.TopTotals'. -/
def topTotalsCard : Claim7 := { stood := { row := topTotalsRow, standIns := [], harness := (true, "0657e646ef2f390bec603b8aca188c56945d5f7249e5dbb24548ab29f89e546d"), looks := false }, kinds := [], alts := [], laidByText := true, laidKinds := [.data], laidTests := true, laidLooks := .later }
def TopTotalsCardSaid : Prop := Claim7.holds Tryz.pinned (.plain (OpenSpec.ofChange topTotalsSpec)) topTotalsCard

/-- THE TIED CARD OF 'winnowertop.TopSplit'. -/
def topSplitCard : Claim7 := { stood := { row := topSplitRow, standIns := [], harness := (true, "0657e646ef2f390bec603b8aca188c56945d5f7249e5dbb24548ab29f89e546d"), looks := false }, kinds := [], alts := [], laidByText := true, laidKinds := [.data], laidTests := true, laidLooks := .later }
def TopSplitCardSaid : Prop := Claim7.holds Tryz.pinned (.plain (OpenSpec.ofChange topSplitSpec)) topSplitCard

/-- THE TIED CARD OF 'winnowertop.TopBuckets'. -/
def topBucketsCard : Claim7 := { stood := { row := topBucketsRow, standIns := [], harness := (true, "0657e646ef2f390bec603b8aca188c56945d5f7249e5dbb24548ab29f89e546d"), looks := false }, kinds := [], alts := [], laidByText := true, laidKinds := [.data], laidTests := true, laidLooks := .later }
def TopBucketsCardSaid : Prop := Claim7.holds Tryz.pinned (.plain (OpenSpec.ofChange topBucketsSpec)) topBucketsCard

/-- THE TIED CARD OF 'winnowertop.TopSaved'. -/
def topSavedCard : Claim7 := { stood := { row := topSavedRow, standIns := [], harness := (true, "0657e646ef2f390bec603b8aca188c56945d5f7249e5dbb24548ab29f89e546d"), looks := false }, kinds := [], alts := [], laidByText := true, laidKinds := [.data], laidTests := true, laidLooks := .later }
def TopSavedCardSaid : Prop := Claim7.holds Tryz.pinned (.plain (OpenSpec.ofChange topSavedSpec)) topSavedCard

/-- THE TIED CARD OF 'winnowertop.TopBack'. -/
def topBackCard : Claim7 := { stood := { row := topBackRow, standIns := [], harness := (true, "0657e646ef2f390bec603b8aca188c56945d5f7249e5dbb24548ab29f89e546d"), looks := false }, kinds := [], alts := [], laidByText := true, laidKinds := [.data], laidTests := true, laidLooks := .later }
def TopBackCardSaid : Prop := Claim7.holds Tryz.pinned (.plain (OpenSpec.ofChange topBackSpec)) topBackCard

/-- THE TIED CARD OF 'winnowertop.TopAsking'. -/
def topAskingCard : Claim7 := { stood := { row := topAskingRow, standIns := [], harness := (true, "0657e646ef2f390bec603b8aca188c56945d5f7249e5dbb24548ab29f89e546d"), looks := false }, kinds := [], alts := [], laidByText := true, laidKinds := [.data], laidTests := true, laidLooks := .later }
def TopAskingCardSaid : Prop := Claim7.holds Tryz.pinned (.plain (OpenSpec.ofChange topAskingSpec)) topAskingCard

/-- THE SECOND FORM's CARD OF 'winnowertop.TopTotals'. -/
def topTotalsUptoCard : Claim7 := { stood := { row := topTotalsUptoRow, standIns := [], harness := (true, "0657e646ef2f390bec603b8aca188c56945d5f7249e5dbb24548ab29f89e546d"), looks := false }, kinds := [], alts := [], laidByText := true, laidKinds := [.data], laidTests := true, laidLooks := .later }
def TopTotalsUptoCardSaid : Prop := Claim7.holds Tryz.pinned (.plain (OpenSpec.upto topTotalsSpec)) topTotalsUptoCard

/-- THE SECOND FORM's CARD OF 'winnowertop.TopSplit'. -/
def topSplitUptoCard : Claim7 := { stood := { row := topSplitUptoRow, standIns := [], harness := (true, "0657e646ef2f390bec603b8aca188c56945d5f7249e5dbb24548ab29f89e546d"), looks := false }, kinds := [], alts := [], laidByText := true, laidKinds := [.data], laidTests := true, laidLooks := .later }
def TopSplitUptoCardSaid : Prop := Claim7.holds Tryz.pinned (.plain (OpenSpec.upto topSplitSpec)) topSplitUptoCard

/-- THE SECOND FORM's CARD OF 'winnowertop.TopBuckets'. -/
def topBucketsUptoCard : Claim7 := { stood := { row := topBucketsUptoRow, standIns := [], harness := (true, "0657e646ef2f390bec603b8aca188c56945d5f7249e5dbb24548ab29f89e546d"), looks := false }, kinds := [], alts := [], laidByText := true, laidKinds := [.data], laidTests := true, laidLooks := .later }
def TopBucketsUptoCardSaid : Prop := Claim7.holds Tryz.pinned (.plain (OpenSpec.upto topBucketsSpec)) topBucketsUptoCard

/-- THE SECOND FORM's CARD OF 'winnowertop.TopSaved'. -/
def topSavedUptoCard : Claim7 := { stood := { row := topSavedUptoRow, standIns := [], harness := (true, "0657e646ef2f390bec603b8aca188c56945d5f7249e5dbb24548ab29f89e546d"), looks := false }, kinds := [], alts := [], laidByText := true, laidKinds := [.data], laidTests := true, laidLooks := .later }
def TopSavedUptoCardSaid : Prop := Claim7.holds Tryz.pinned (.plain (OpenSpec.upto topSavedSpec)) topSavedUptoCard

/-- THE SECOND FORM's CARD OF 'winnowertop.TopBack'. -/
def topBackUptoCard : Claim7 := { stood := { row := topBackUptoRow, standIns := [], harness := (true, "0657e646ef2f390bec603b8aca188c56945d5f7249e5dbb24548ab29f89e546d"), looks := false }, kinds := [], alts := [], laidByText := true, laidKinds := [.data], laidTests := true, laidLooks := .later }
def TopBackUptoCardSaid : Prop := Claim7.holds Tryz.pinned (.plain (OpenSpec.upto topBackSpec)) topBackUptoCard

/-- THE SECOND FORM's CARD OF 'winnowertop.TopAsking'. -/
def topAskingUptoCard : Claim7 := { stood := { row := topAskingUptoRow, standIns := [], harness := (true, "0657e646ef2f390bec603b8aca188c56945d5f7249e5dbb24548ab29f89e546d"), looks := false }, kinds := [], alts := [], laidByText := true, laidKinds := [.data], laidTests := true, laidLooks := .later }
def TopAskingUptoCardSaid : Prop := Claim7.holds Tryz.pinned (.plain (OpenSpec.upto topAskingSpec)) topAskingUptoCard
end Rows
end Go.Proofs.YtlojfgdpmaigmagGreatDoor
