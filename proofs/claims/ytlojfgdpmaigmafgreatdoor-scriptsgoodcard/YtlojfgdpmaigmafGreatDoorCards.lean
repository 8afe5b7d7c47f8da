/-
  DERIVED. GIVEN WITH THE SEED: THE CARDS: each row of YtlojfgdpmaigmafGreatDoorRows.lean that lists a variable, with what it lists TIED to the program's text (the seventh form; the later family's looks); each row that meets fmt, with fmt's text TOLD by the authors' own Lean function (tested against real Go, not proved from fmt's source: count such statements apart). THE CARD IS WHAT COUNTS. Prove the row's statement (the work); the ties are given (YtlojfgdpmaigmafGreatDoorTie.lean); close each card by the builder's one call (the guide's Derived/Test/ToyasCard.lean, 'card_holds'). Laid BY PROGRAM, IN A SANDBOX (cutbox-door.mjs). By AI agents, Wed Nov 11 2026. No macro, syntax, notation, axiom, sorry.
-/
import Derived.Test.YtlojfgdpmaigmafGreatDoorRows
import GoSem.ClaimSeven
namespace Go.Proofs.YtlojfgdpmaigmafGreatDoor
namespace Rows

/-- THE TIED CARD OF 'winnowerlaw.FileDecodes'. -/
def fileDecodesCard : Claim7 := { stood := { row := fileDecodesRow, standIns := [], harness := (true, "a102583fe28ffa609899a275fe48454efada5daf74d5e6fcddfa7c764d9a7f81"), looks := false }, kinds := [], alts := [], laidByText := true, laidKinds := [.data], laidTests := true, laidLooks := .later }
def FileDecodesCardSaid : Prop := Claim7.holds Tryz.pinned (.plain (OpenSpec.ofChange fileDecodesSpec)) fileDecodesCard

/-- THE TIED CARD OF 'winnowerkeep.FilesBack'. -/
def filesBackCard : Claim7 := { stood := { row := filesBackRow, standIns := [], harness := (true, "a102583fe28ffa609899a275fe48454efada5daf74d5e6fcddfa7c764d9a7f81"), looks := false }, kinds := [], alts := [], laidByText := true, laidKinds := [.data], laidTests := true, laidLooks := .later }
def FilesBackCardSaid : Prop := Claim7.holds Tryz.pinned (.plain (OpenSpec.ofChange filesBackSpec)) filesBackCard

/-- THE TIED CARD OF 'winnowerkeep.FilesOnce'. -/
def filesOnceCard : Claim7 := { stood := { row := filesOnceRow, standIns := [], harness := (true, "a102583fe28ffa609899a275fe48454efada5daf74d5e6fcddfa7c764d9a7f81"), looks := false }, kinds := [], alts := [], laidByText := true, laidKinds := [.data], laidTests := true, laidLooks := .later }
def FilesOnceCardSaid : Prop := Claim7.holds Tryz.pinned (.plain (OpenSpec.ofChange filesOnceSpec)) filesOnceCard

/-- THE TIED CARD OF 'winnowerlaw.EngineRuns'. -/
def engineRunsCard : Claim7 := { stood := { row := engineRunsRow, standIns := [], harness := (true, "a102583fe28ffa609899a275fe48454efada5daf74d5e6fcddfa7c764d9a7f81"), looks := false }, kinds := [], alts := [], laidByText := true, laidKinds := [.data], laidTests := true, laidLooks := .later }
def EngineRunsCardSaid : Prop := Claim7.holds Tryz.pinned (.plain (OpenSpec.ofChange engineRunsSpec)) engineRunsCard

/-- THE TIED CARD OF 'winnowerkeep.ScriptsGood'. -/
def scriptsGoodCard : Claim7 := { stood := { row := scriptsGoodRow, standIns := [], harness := (true, "a102583fe28ffa609899a275fe48454efada5daf74d5e6fcddfa7c764d9a7f81"), looks := false }, kinds := [], alts := [], laidByText := true, laidKinds := [.data], laidTests := true, laidLooks := .later }
def ScriptsGoodCardSaid : Prop := Claim7.holds Tryz.pinned (.plain (OpenSpec.ofChange scriptsGoodSpec)) scriptsGoodCard

/-- THE SECOND FORM's CARD OF 'winnowerlaw.FileDecodes'. -/
def fileDecodesUptoCard : Claim7 := { stood := { row := fileDecodesUptoRow, standIns := [], harness := (true, "a102583fe28ffa609899a275fe48454efada5daf74d5e6fcddfa7c764d9a7f81"), looks := false }, kinds := [], alts := [], laidByText := true, laidKinds := [.data], laidTests := true, laidLooks := .later }
def FileDecodesUptoCardSaid : Prop := Claim7.holds Tryz.pinned (.plain (OpenSpec.upto fileDecodesSpec)) fileDecodesUptoCard

/-- THE SECOND FORM's CARD OF 'winnowerkeep.FilesBack'. -/
def filesBackUptoCard : Claim7 := { stood := { row := filesBackUptoRow, standIns := [], harness := (true, "a102583fe28ffa609899a275fe48454efada5daf74d5e6fcddfa7c764d9a7f81"), looks := false }, kinds := [], alts := [], laidByText := true, laidKinds := [.data], laidTests := true, laidLooks := .later }
def FilesBackUptoCardSaid : Prop := Claim7.holds Tryz.pinned (.plain (OpenSpec.upto filesBackSpec)) filesBackUptoCard

/-- THE SECOND FORM's CARD OF 'winnowerkeep.FilesOnce'. -/
def filesOnceUptoCard : Claim7 := { stood := { row := filesOnceUptoRow, standIns := [], harness := (true, "a102583fe28ffa609899a275fe48454efada5daf74d5e6fcddfa7c764d9a7f81"), looks := false }, kinds := [], alts := [], laidByText := true, laidKinds := [.data], laidTests := true, laidLooks := .later }
def FilesOnceUptoCardSaid : Prop := Claim7.holds Tryz.pinned (.plain (OpenSpec.upto filesOnceSpec)) filesOnceUptoCard

/-- THE SECOND FORM's CARD OF 'winnowerlaw.EngineRuns'. -/
def engineRunsUptoCard : Claim7 := { stood := { row := engineRunsUptoRow, standIns := [], harness := (true, "a102583fe28ffa609899a275fe48454efada5daf74d5e6fcddfa7c764d9a7f81"), looks := false }, kinds := [], alts := [], laidByText := true, laidKinds := [.data], laidTests := true, laidLooks := .later }
def EngineRunsUptoCardSaid : Prop := Claim7.holds Tryz.pinned (.plain (OpenSpec.upto engineRunsSpec)) engineRunsUptoCard

/-- THE SECOND FORM's CARD OF 'winnowerkeep.ScriptsGood'. -/
def scriptsGoodUptoCard : Claim7 := { stood := { row := scriptsGoodUptoRow, standIns := [], harness := (true, "a102583fe28ffa609899a275fe48454efada5daf74d5e6fcddfa7c764d9a7f81"), looks := false }, kinds := [], alts := [], laidByText := true, laidKinds := [.data], laidTests := true, laidLooks := .later }
def ScriptsGoodUptoCardSaid : Prop := Claim7.holds Tryz.pinned (.plain (OpenSpec.upto scriptsGoodSpec)) scriptsGoodUptoCard
end Rows
end Go.Proofs.YtlojfgdpmaigmafGreatDoor
