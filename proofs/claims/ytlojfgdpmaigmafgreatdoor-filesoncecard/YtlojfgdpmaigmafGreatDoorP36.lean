/- slices.Insert of one entry, in a list of one's own. -/
import Derived.Test.YtlojfgdpmaigmafGreatDoorP33
import Derived.Test.YtlojfgdpmaigmafGreatDoorP32
import Derived.Test.YtlojfgdpmaigmafGreatDoorP16
import Derived.Test.YtlojfgdpmaigmafGreatDoorP02
import Derived.BigQuiet
namespace Go.Proofs.YtlojfgdpmaigmafGreatDoor
open Go.RowKit Plain Go.Shelf

end Go.Proofs.YtlojfgdpmaigmafGreatDoor

/- slices.Insert of one entry, in a list of one's own: all roads. -/
namespace Go.Proofs.YtlojfgdpmaigmafGreatDoor
open Go.RowKit Plain Go.Shelf

end Go.Proofs.YtlojfgdpmaigmafGreatDoor

/- slices.Reverse over entries. -/
namespace Go.Proofs.YtlojfgdpmaigmafGreatDoor
open Go.RowKit Plain Go.Shelf

end Go.Proofs.YtlojfgdpmaigmafGreatDoor

/- slices.Reverse over entries: its walk. -/
namespace Go.Proofs.YtlojfgdpmaigmafGreatDoor
open Go.RowKit Plain Go.Shelf

end Go.Proofs.YtlojfgdpmaigmafGreatDoor

/- slices.DeleteFunc over entries: what the row holds on its way. -/
namespace Go.Proofs.YtlojfgdpmaigmafGreatDoor
open Go.RowKit Plain Go.Shelf

/-! ### clear of entries -/

end Go.Proofs.YtlojfgdpmaigmafGreatDoor

/- slices.IndexFunc and slices.DeleteFunc over entries, with the predicate of base.younger: their walks. -/
namespace Go.Proofs.YtlojfgdpmaigmafGreatDoor
open Go.RowKit Plain Go.Shelf

end Go.Proofs.YtlojfgdpmaigmafGreatDoor

/- slices.DeleteFunc over entries, of any row of one's own, an empty one too. -/
namespace Go.Proofs.YtlojfgdpmaigmafGreatDoor
open Go.RowKit Plain Go.Shelf

end Go.Proofs.YtlojfgdpmaigmafGreatDoor
