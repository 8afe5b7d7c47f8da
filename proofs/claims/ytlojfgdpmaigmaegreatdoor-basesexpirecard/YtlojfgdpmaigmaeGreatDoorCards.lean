/-
  DERIVED. GIVEN WITH THE SEED: THE CARDS: each row of YtlojfgdpmaigmaeGreatDoorRows.lean that lists a variable, with what it lists TIED to the program's text (the seventh form; the later family's looks); each row that meets fmt, with fmt's text TOLD by the authors' own Lean function (tested against real Go, not proved from fmt's source: count such statements apart). THE CARD IS WHAT COUNTS. Prove the row's statement (the work); the ties are given (YtlojfgdpmaigmaeGreatDoorTie.lean); close each card by the builder's one call (the guide's Derived/Test/ToyasCard.lean, 'card_holds'). Laid BY PROGRAM, IN A SANDBOX (cutbox-door.mjs). By AI agents, Wed Nov 11 2026. No macro, syntax, notation, axiom, sorry.
-/
import Derived.Test.YtlojfgdpmaigmaeGreatDoorRows
import GoSem.ClaimSeven
namespace Go.Proofs.YtlojfgdpmaigmaeGreatDoor
namespace Rows

/-- THE TIED CARD OF 'winnowerlaw.BaseExpires'. -/
def baseExpiresCard : Claim7 := { stood := { row := baseExpiresRow, standIns := [], harness := (true, "70812a8111c496b7e791c729587af830859d64019f6e8c761a5939306b334728"), looks := false }, kinds := [], alts := [], laidByText := true, laidKinds := [.data], laidTests := true, laidLooks := .later }
def BaseExpiresCardSaid : Prop := Claim7.holds Tryz.pinned (.plain (OpenSpec.ofChange baseExpiresSpec)) baseExpiresCard

/-- THE TIED CARD OF 'winnowerkeep.BasesTotal'. -/
def basesTotalCard : Claim7 := { stood := { row := basesTotalRow, standIns := [], harness := (true, "70812a8111c496b7e791c729587af830859d64019f6e8c761a5939306b334728"), looks := false }, kinds := [], alts := [], laidByText := true, laidKinds := [.data], laidTests := true, laidLooks := .later }
def BasesTotalCardSaid : Prop := Claim7.holds Tryz.pinned (.plain (OpenSpec.ofChange basesTotalSpec)) basesTotalCard

/-- THE TIED CARD OF 'winnowerkeep.BasesRows'. -/
def basesRowsCard : Claim7 := { stood := { row := basesRowsRow, standIns := [], harness := (true, "70812a8111c496b7e791c729587af830859d64019f6e8c761a5939306b334728"), looks := false }, kinds := [], alts := [], laidByText := true, laidKinds := [.data], laidTests := true, laidLooks := .later }
def BasesRowsCardSaid : Prop := Claim7.holds Tryz.pinned (.plain (OpenSpec.ofChange basesRowsSpec)) basesRowsCard

/-- THE TIED CARD OF 'winnowerkeep.BasesAny'. -/
def basesAnyCard : Claim7 := { stood := { row := basesAnyRow, standIns := [], harness := (true, "70812a8111c496b7e791c729587af830859d64019f6e8c761a5939306b334728"), looks := false }, kinds := [], alts := [], laidByText := true, laidKinds := [.data], laidTests := true, laidLooks := .later }
def BasesAnyCardSaid : Prop := Claim7.holds Tryz.pinned (.plain (OpenSpec.ofChange basesAnySpec)) basesAnyCard

/-- THE TIED CARD OF 'winnowerkeep.BasesExpire'. -/
def basesExpireCard : Claim7 := { stood := { row := basesExpireRow, standIns := [], harness := (true, "70812a8111c496b7e791c729587af830859d64019f6e8c761a5939306b334728"), looks := false }, kinds := [], alts := [], laidByText := true, laidKinds := [.data], laidTests := true, laidLooks := .later }
def BasesExpireCardSaid : Prop := Claim7.holds Tryz.pinned (.plain (OpenSpec.ofChange basesExpireSpec)) basesExpireCard

/-- THE TIED CARD OF 'winnowerkeep.BasesBad'. -/
def basesBadCard : Claim7 := { stood := { row := basesBadRow, standIns := [], harness := (true, "70812a8111c496b7e791c729587af830859d64019f6e8c761a5939306b334728"), looks := false }, kinds := [], alts := [], laidByText := true, laidKinds := [.data], laidTests := true, laidLooks := .later }
def BasesBadCardSaid : Prop := Claim7.holds Tryz.pinned (.plain (OpenSpec.ofChange basesBadSpec)) basesBadCard

/-- THE SECOND FORM's CARD OF 'winnowerlaw.BaseExpires'. -/
def baseExpiresUptoCard : Claim7 := { stood := { row := baseExpiresUptoRow, standIns := [], harness := (true, "70812a8111c496b7e791c729587af830859d64019f6e8c761a5939306b334728"), looks := false }, kinds := [], alts := [], laidByText := true, laidKinds := [.data], laidTests := true, laidLooks := .later }
def BaseExpiresUptoCardSaid : Prop := Claim7.holds Tryz.pinned (.plain (OpenSpec.upto baseExpiresSpec)) baseExpiresUptoCard

/-- THE SECOND FORM's CARD OF 'winnowerkeep.BasesTotal'. -/
def basesTotalUptoCard : Claim7 := { stood := { row := basesTotalUptoRow, standIns := [], harness := (true, "70812a8111c496b7e791c729587af830859d64019f6e8c761a5939306b334728"), looks := false }, kinds := [], alts := [], laidByText := true, laidKinds := [.data], laidTests := true, laidLooks := .later }
def BasesTotalUptoCardSaid : Prop := Claim7.holds Tryz.pinned (.plain (OpenSpec.upto basesTotalSpec)) basesTotalUptoCard

/-- THE SECOND FORM's CARD OF 'winnowerkeep.BasesRows'. -/
def basesRowsUptoCard : Claim7 := { stood := { row := basesRowsUptoRow, standIns := [], harness := (true, "70812a8111c496b7e791c729587af830859d64019f6e8c761a5939306b334728"), looks := false }, kinds := [], alts := [], laidByText := true, laidKinds := [.data], laidTests := true, laidLooks := .later }
def BasesRowsUptoCardSaid : Prop := Claim7.holds Tryz.pinned (.plain (OpenSpec.upto basesRowsSpec)) basesRowsUptoCard

/-- THE SECOND FORM's CARD OF 'winnowerkeep.BasesAny'. -/
def basesAnyUptoCard : Claim7 := { stood := { row := basesAnyUptoRow, standIns := [], harness := (true, "70812a8111c496b7e791c729587af830859d64019f6e8c761a5939306b334728"), looks := false }, kinds := [], alts := [], laidByText := true, laidKinds := [.data], laidTests := true, laidLooks := .later }
def BasesAnyUptoCardSaid : Prop := Claim7.holds Tryz.pinned (.plain (OpenSpec.upto basesAnySpec)) basesAnyUptoCard

/-- THE SECOND FORM's CARD OF 'winnowerkeep.BasesExpire'. -/
def basesExpireUptoCard : Claim7 := { stood := { row := basesExpireUptoRow, standIns := [], harness := (true, "70812a8111c496b7e791c729587af830859d64019f6e8c761a5939306b334728"), looks := false }, kinds := [], alts := [], laidByText := true, laidKinds := [.data], laidTests := true, laidLooks := .later }
def BasesExpireUptoCardSaid : Prop := Claim7.holds Tryz.pinned (.plain (OpenSpec.upto basesExpireSpec)) basesExpireUptoCard

/-- THE SECOND FORM's CARD OF 'winnowerkeep.BasesBad'. -/
def basesBadUptoCard : Claim7 := { stood := { row := basesBadUptoRow, standIns := [], harness := (true, "70812a8111c496b7e791c729587af830859d64019f6e8c761a5939306b334728"), looks := false }, kinds := [], alts := [], laidByText := true, laidKinds := [.data], laidTests := true, laidLooks := .later }
def BasesBadUptoCardSaid : Prop := Claim7.holds Tryz.pinned (.plain (OpenSpec.upto basesBadSpec)) basesBadUptoCard
end Rows
end Go.Proofs.YtlojfgdpmaigmaeGreatDoor
