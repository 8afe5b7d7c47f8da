/- The document's 'height' of a tree: the loop over a node's kids. -/
import Derived.Test.YtlojfgdpmaigmafGreatDoorP17
namespace Go.Proofs.YtlojfgdpmaigmafGreatDoor
section
open Go.RowKit Plain

end
section
open Go.RowKit Plain

end
section
open Go.RowKit Plain

end
section
open Go.RowKit Plain

end
end Go.Proofs.YtlojfgdpmaigmafGreatDoor
