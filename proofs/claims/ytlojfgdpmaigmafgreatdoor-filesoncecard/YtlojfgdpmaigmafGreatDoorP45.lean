/- Total's visitor: what a tree knows of some times comes behind what was gathered. -/
import Derived.Test.YtlojfgdpmaigmafGreatDoorP43
import Derived.Test.YtlojfgdpmaigmafGreatDoorP30
import Derived.Deep.RegionHeld3
import Derived.Test.YtlojfgdpmaigmafGreatDoorTotalRef
namespace Go.Proofs.YtlojfgdpmaigmafGreatDoor
open Go.RowKit Plain

section
variable {w wr w' : World} {A : Option Addr} {C : Nat} {ss : List ByteArray} {t0 t1 t2 : TR} {f p : Int} {bb pb lb cb B : Nat} {GA : Option Addr} {GC : Nat} {G : List En}

end

end Go.Proofs.YtlojfgdpmaigmafGreatDoor

/- base.cover: all buckets of a span are visited, great ones where they are within. -/
namespace Go.Proofs.YtlojfgdpmaigmafGreatDoor
open Go.RowKit Plain

end Go.Proofs.YtlojfgdpmaigmafGreatDoor

/- base.Total. -/
namespace Go.Proofs.YtlojfgdpmaigmafGreatDoor
open Go.RowKit Plain

end Go.Proofs.YtlojfgdpmaigmafGreatDoor

/- Total: what is refused, by the program and by the document. -/
namespace Go.Proofs.YtlojfgdpmaigmafGreatDoor
open Go.RowKit Plain

end Go.Proofs.YtlojfgdpmaigmafGreatDoor
