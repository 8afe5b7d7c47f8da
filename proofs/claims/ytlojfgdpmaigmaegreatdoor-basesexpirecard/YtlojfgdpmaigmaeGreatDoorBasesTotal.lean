/- For every list of raw things, every series, and any two times, a total is what all the series' points between them come to, whichever buckets are asked; of a series without points there is none. No condition beside the table of sizes, which is tied to the program's text. -/
import Derived.Test.YtlojfgdpmaigmaeGreatDoorP49
import Derived.Test.YtlojfgdpmaigmaeGreatDoorP18
import Derived.ChangeMaps5
namespace Go.Proofs.YtlojfgdpmaigmaeGreatDoor
open Go.ChangeShapes Go.WideShapes Go.ChangeAt Go.RowKit Plain Go.Shelf

theorem wf_b {z : Int} (h : (Lit.int .i64 z).wf = true) : i64B z := i64_wf h

theorem pts_ok {f : Int} {ss : List ByteArray} {t0 t1 t2 : TR} {pts : List Pt} (h : KB ss f t0 t1 t2 pts) : ∀ p ∈ pts, ∃ f, Pt.ok f p := fun p hp => by
  obtain ⟨_, _, _, k⟩ := h
  exact ⟨f, (k.pt p hp).2⟩

end Go.Proofs.YtlojfgdpmaigmaeGreatDoor
