/-
  DERIVED. GIVEN WITH THE SEED: THE CARDS: each row of YtlojfgdpmaigmadGreatDoorRows.lean that lists a variable, with what it lists TIED to the program's text (the seventh form; the later family's looks); each row that meets fmt, with fmt's text TOLD by the authors' own Lean function (tested against real Go, not proved from fmt's source: count such statements apart). THE CARD IS WHAT COUNTS. Prove the row's statement (the work); the ties are given (YtlojfgdpmaigmadGreatDoorTie.lean); close each card by the builder's one call (the guide's Derived/Test/ToyasCard.lean, 'card_holds'). Laid BY PROGRAM, IN A SANDBOX (cutbox-door.mjs). By AI agents, Wed Nov 11 2026. No macro, syntax, notation, axiom, sorry.
-/
import Derived.Test.YtlojfgdpmaigmadGreatDoorRows
import GoSem.ClaimSeven
namespace Go.Proofs.YtlojfgdpmaigmadGreatDoor
namespace Rows

/-- THE TIED CARD OF 'winnowerlaw.BaseAdds'. -/
def baseAddsCard : Claim7 := { stood := { row := baseAddsRow, standIns := [], harness := (true, "4d7c3c22875f8ca10597f4c586916121b7906f5ee92ae4a145c6866ed335f9c1"), looks := false }, kinds := [], alts := [], laidByText := true, laidKinds := [.data], laidTests := true, laidLooks := .later }
def BaseAddsCardSaid : Prop := Claim7.holds Tryz.pinned (.plain (OpenSpec.ofChange baseAddsSpec)) baseAddsCard

/-- THE SECOND FORM's CARD OF 'winnowerlaw.BaseAdds'. -/
def baseAddsUptoCard : Claim7 := { stood := { row := baseAddsUptoRow, standIns := [], harness := (true, "4d7c3c22875f8ca10597f4c586916121b7906f5ee92ae4a145c6866ed335f9c1"), looks := false }, kinds := [], alts := [], laidByText := true, laidKinds := [.data], laidTests := true, laidLooks := .later }
def BaseAddsUptoCardSaid : Prop := Claim7.holds Tryz.pinned (.plain (OpenSpec.upto baseAddsSpec)) baseAddsUptoCard
end Rows
end Go.Proofs.YtlojfgdpmaigmadGreatDoor
