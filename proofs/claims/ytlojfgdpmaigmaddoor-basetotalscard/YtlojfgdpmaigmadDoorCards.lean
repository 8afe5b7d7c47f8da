/-
  DERIVED. GIVEN WITH THE SEED: THE CARDS: each row of YtlojfgdpmaigmadDoorRows.lean that lists a variable, with what it lists TIED to the program's text (the seventh form; the later family's looks); each row that meets fmt, with fmt's text TOLD by the authors' own Lean function (tested against real Go, not proved from fmt's source: count such statements apart). THE CARD IS WHAT COUNTS. Prove the row's statement (the work); the ties are given (YtlojfgdpmaigmadDoorTie.lean); close each card by the builder's one call (the guide's Derived/Test/ToyasCard.lean, 'card_holds'). Laid BY PROGRAM, IN A SANDBOX (cutbox-door.mjs). By AI agents, Wed Nov 11 2026. No macro, syntax, notation, axiom, sorry.
-/
import Derived.Test.YtlojfgdpmaigmadDoorRows
import GoSem.ClaimSeven
namespace Go.Proofs.YtlojfgdpmaigmadDoor
namespace Rows

/-- THE TIED CARD OF 'winnowerlaw.BaseChecks'. -/
def baseChecksCard : Claim7 := { stood := { row := baseChecksRow, standIns := [], harness := (true, "778ac4088cc39b418fb54c163749a4a331474be8f10bd7bda9abbcb1f01f6800"), looks := false }, kinds := [], alts := [], laidByText := true, laidKinds := [.data], laidTests := true, laidLooks := .later }
def BaseChecksCardSaid : Prop := Claim7.holds Tryd.pinned (.plain (OpenSpec.ofChange baseChecksSpec)) baseChecksCard

/-- THE TIED CARD OF 'winnowerlaw.BaseRows'. -/
def baseRowsCard : Claim7 := { stood := { row := baseRowsRow, standIns := [], harness := (true, "778ac4088cc39b418fb54c163749a4a331474be8f10bd7bda9abbcb1f01f6800"), looks := false }, kinds := [], alts := [], laidByText := true, laidKinds := [.data], laidTests := true, laidLooks := .later }
def BaseRowsCardSaid : Prop := Claim7.holds Tryd.pinned (.plain (OpenSpec.ofChange baseRowsSpec)) baseRowsCard

/-- THE TIED CARD OF 'winnowerlaw.BaseTotals'. -/
def baseTotalsCard : Claim7 := { stood := { row := baseTotalsRow, standIns := [], harness := (true, "778ac4088cc39b418fb54c163749a4a331474be8f10bd7bda9abbcb1f01f6800"), looks := false }, kinds := [], alts := [], laidByText := true, laidKinds := [.data], laidTests := true, laidLooks := .later }
def BaseTotalsCardSaid : Prop := Claim7.holds Tryd.pinned (.plain (OpenSpec.ofChange baseTotalsSpec)) baseTotalsCard

/-- THE SECOND FORM's CARD OF 'winnowerlaw.BaseChecks'. -/
def baseChecksUptoCard : Claim7 := { stood := { row := baseChecksUptoRow, standIns := [], harness := (true, "778ac4088cc39b418fb54c163749a4a331474be8f10bd7bda9abbcb1f01f6800"), looks := false }, kinds := [], alts := [], laidByText := true, laidKinds := [.data], laidTests := true, laidLooks := .later }
def BaseChecksUptoCardSaid : Prop := Claim7.holds Tryd.pinned (.plain (OpenSpec.upto baseChecksSpec)) baseChecksUptoCard

/-- THE SECOND FORM's CARD OF 'winnowerlaw.BaseRows'. -/
def baseRowsUptoCard : Claim7 := { stood := { row := baseRowsUptoRow, standIns := [], harness := (true, "778ac4088cc39b418fb54c163749a4a331474be8f10bd7bda9abbcb1f01f6800"), looks := false }, kinds := [], alts := [], laidByText := true, laidKinds := [.data], laidTests := true, laidLooks := .later }
def BaseRowsUptoCardSaid : Prop := Claim7.holds Tryd.pinned (.plain (OpenSpec.upto baseRowsSpec)) baseRowsUptoCard

/-- THE SECOND FORM's CARD OF 'winnowerlaw.BaseTotals'. -/
def baseTotalsUptoCard : Claim7 := { stood := { row := baseTotalsUptoRow, standIns := [], harness := (true, "778ac4088cc39b418fb54c163749a4a331474be8f10bd7bda9abbcb1f01f6800"), looks := false }, kinds := [], alts := [], laidByText := true, laidKinds := [.data], laidTests := true, laidLooks := .later }
def BaseTotalsUptoCardSaid : Prop := Claim7.holds Tryd.pinned (.plain (OpenSpec.upto baseTotalsSpec)) baseTotalsUptoCard
end Rows
end Go.Proofs.YtlojfgdpmaigmadDoor
