/-
  DERIVED. GIVEN WITH THE SEED: THE CARDS: each row of YtlojfgdpmaigmacGreatDoorRows.lean that lists a variable, with what it lists TIED to the program's text (the seventh form; the later family's looks); each row that meets fmt, with fmt's text TOLD by the authors' own Lean function (tested against real Go, not proved from fmt's source: count such statements apart). THE CARD IS WHAT COUNTS. Prove the row's statement (the work); the ties are given (YtlojfgdpmaigmacGreatDoorTie.lean); close each card by the builder's one call (the guide's Derived/Test/ToyasCard.lean, 'card_holds'). Laid BY PROGRAM, IN A SANDBOX (cutbox-door.mjs). By AI agents, Wed Nov 11 2026. No macro, syntax, notation, axiom, sorry.
-/
import Derived.Test.YtlojfgdpmaigmacGreatDoorRows
import GoSem.ClaimSeven
namespace Go.Proofs.YtlojfgdpmaigmacGreatDoor
namespace Rows

/-- THE TIED CARD OF 'winnowerkeep.TreesRange'. -/
def treesRangeCard : Claim7 := { stood := { row := treesRangeRow, standIns := [], harness := (true, "1cef10210324de520e3d696ebb71de6e12924da4b5318bc055a49091c079c855"), looks := false }, kinds := [], alts := [], laidByText := true, laidKinds := [.data], laidTests := true, laidLooks := .later }
def TreesRangeCardSaid : Prop := Claim7.holds Tryz.pinned (.plain (OpenSpec.ofChange treesRangeSpec)) treesRangeCard

/-- THE TIED CARD OF 'winnowerkeep.TreesApart'. -/
def treesApartCard : Claim7 := { stood := { row := treesApartRow, standIns := [], harness := (true, "1cef10210324de520e3d696ebb71de6e12924da4b5318bc055a49091c079c855"), looks := false }, kinds := [], alts := [], laidByText := true, laidKinds := [.data], laidTests := true, laidLooks := .later }
def TreesApartCardSaid : Prop := Claim7.holds Tryz.pinned (.plain (OpenSpec.ofChange treesApartSpec)) treesApartCard

/-- THE TIED CARD OF 'winnowerkeep.TreesOf'. -/
def treesOfCard : Claim7 := { stood := { row := treesOfRow, standIns := [], harness := (true, "1cef10210324de520e3d696ebb71de6e12924da4b5318bc055a49091c079c855"), looks := false }, kinds := [], alts := [], laidByText := true, laidKinds := [.data], laidTests := true, laidLooks := .later }
def TreesOfCardSaid : Prop := Claim7.holds Tryz.pinned (.plain (OpenSpec.ofChange treesOfSpec)) treesOfCard

/-- THE TIED CARD OF 'winnowerkeep.TreesDeep'. -/
def treesDeepCard : Claim7 := { stood := { row := treesDeepRow, standIns := [], harness := (true, "1cef10210324de520e3d696ebb71de6e12924da4b5318bc055a49091c079c855"), looks := false }, kinds := [], alts := [], laidByText := true, laidKinds := [.data], laidTests := true, laidLooks := .later }
def TreesDeepCardSaid : Prop := Claim7.holds Tryz.pinned (.plain (OpenSpec.ofChange treesDeepSpec)) treesDeepCard

/-- THE SECOND FORM's CARD OF 'winnowerkeep.TreesRange'. -/
def treesRangeUptoCard : Claim7 := { stood := { row := treesRangeUptoRow, standIns := [], harness := (true, "1cef10210324de520e3d696ebb71de6e12924da4b5318bc055a49091c079c855"), looks := false }, kinds := [], alts := [], laidByText := true, laidKinds := [.data], laidTests := true, laidLooks := .later }
def TreesRangeUptoCardSaid : Prop := Claim7.holds Tryz.pinned (.plain (OpenSpec.upto treesRangeSpec)) treesRangeUptoCard

/-- THE SECOND FORM's CARD OF 'winnowerkeep.TreesApart'. -/
def treesApartUptoCard : Claim7 := { stood := { row := treesApartUptoRow, standIns := [], harness := (true, "1cef10210324de520e3d696ebb71de6e12924da4b5318bc055a49091c079c855"), looks := false }, kinds := [], alts := [], laidByText := true, laidKinds := [.data], laidTests := true, laidLooks := .later }
def TreesApartUptoCardSaid : Prop := Claim7.holds Tryz.pinned (.plain (OpenSpec.upto treesApartSpec)) treesApartUptoCard

/-- THE SECOND FORM's CARD OF 'winnowerkeep.TreesOf'. -/
def treesOfUptoCard : Claim7 := { stood := { row := treesOfUptoRow, standIns := [], harness := (true, "1cef10210324de520e3d696ebb71de6e12924da4b5318bc055a49091c079c855"), looks := false }, kinds := [], alts := [], laidByText := true, laidKinds := [.data], laidTests := true, laidLooks := .later }
def TreesOfUptoCardSaid : Prop := Claim7.holds Tryz.pinned (.plain (OpenSpec.upto treesOfSpec)) treesOfUptoCard

/-- THE SECOND FORM's CARD OF 'winnowerkeep.TreesDeep'. -/
def treesDeepUptoCard : Claim7 := { stood := { row := treesDeepUptoRow, standIns := [], harness := (true, "1cef10210324de520e3d696ebb71de6e12924da4b5318bc055a49091c079c855"), looks := false }, kinds := [], alts := [], laidByText := true, laidKinds := [.data], laidTests := true, laidLooks := .later }
def TreesDeepUptoCardSaid : Prop := Claim7.holds Tryz.pinned (.plain (OpenSpec.upto treesDeepSpec)) treesDeepUptoCard
end Rows
end Go.Proofs.YtlojfgdpmaigmacGreatDoor
