/-
  DERIVED. GIVEN WITH THE SEED: THE CARDS: each row of YtlojfgdpmaigmaaGreatDoorRows.lean that lists a variable, with what it lists TIED to the program's text (the seventh form; the later family's looks); each row that meets fmt, with fmt's text TOLD by the authors' own Lean function (tested against real Go, not proved from fmt's source: count such statements apart). THE CARD IS WHAT COUNTS. Prove the row's statement (the work); the ties are given (YtlojfgdpmaigmaaGreatDoorTie.lean); close each card by the builder's one call (the guide's Derived/Test/ToyasCard.lean, 'card_holds'). Laid BY PROGRAM, IN A SANDBOX (cutbox-door.mjs). By AI agents, Wed Nov 11 2026. No macro, syntax, notation, axiom, sorry.
-/
import Derived.Test.YtlojfgdpmaigmaaGreatDoorRows
import GoSem.ClaimSeven
namespace Go.Proofs.YtlojfgdpmaigmaaGreatDoor
namespace Rows

/-- THE TIED CARD OF 'winnowerkeep.MergesAgree'. -/
def mergesAgreeCard : Claim7 := { stood := { row := mergesAgreeRow, standIns := [], harness := (true, "b32a0725f830f663ddbe83cbd3346edca8b1938c0f62766d59ccf42965662936"), looks := false }, kinds := [], alts := [], laidByText := true, laidKinds := [.data], laidTests := true, laidLooks := .later }
def MergesAgreeCardSaid : Prop := Claim7.holds Tryz.pinned (.plain (OpenSpec.ofChange mergesAgreeSpec)) mergesAgreeCard

/-- THE SECOND FORM's CARD OF 'winnowerkeep.MergesAgree'. -/
def mergesAgreeUptoCard : Claim7 := { stood := { row := mergesAgreeUptoRow, standIns := [], harness := (true, "b32a0725f830f663ddbe83cbd3346edca8b1938c0f62766d59ccf42965662936"), looks := false }, kinds := [], alts := [], laidByText := true, laidKinds := [.data], laidTests := true, laidLooks := .later }
def MergesAgreeUptoCardSaid : Prop := Claim7.holds Tryz.pinned (.plain (OpenSpec.upto mergesAgreeSpec)) mergesAgreeUptoCard
end Rows
end Go.Proofs.YtlojfgdpmaigmaaGreatDoor
