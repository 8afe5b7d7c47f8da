/- Names with one more, and what is known of a point: base.namesWith, base.pointFor. -/
import Derived.Test.YtlojfgdpmaigmafGreatDoorP29
import Derived.Test.YtlojfgdpmaigmafGreatDoorP46
import Derived.Test.YtlojfgdpmaigmafGreatDoorP03
import Derived.Test.YtlojfgdpmaigmafGreatDoorP43
import Derived.Test.YtlojfgdpmaigmafGreatDoorP26
import Derived.Deep.RegionHeld3
import Derived.Test.YtlojfgdpmaigmafGreatDoorP42
import Derived.Deep.DeepCutAuto
namespace Go.Proofs.YtlojfgdpmaigmafGreatDoor
open Go.RowKit Plain Go.Shelf

end Go.Proofs.YtlojfgdpmaigmafGreatDoor

/- What is known of a point, or what is refused of it: base.pointFor. -/
namespace Go.Proofs.YtlojfgdpmaigmafGreatDoor
open Go.RowKit Plain Go.Shelf

end Go.Proofs.YtlojfgdpmaigmafGreatDoor

/- base.Add: the walk, over what its callees do. -/
namespace Go.Proofs.YtlojfgdpmaigmafGreatDoor
open Go.RowKit Plain Go.Shelf

end Go.Proofs.YtlojfgdpmaigmafGreatDoor

/- base.Add: what is kept on its way. -/
namespace Go.Proofs.YtlojfgdpmaigmafGreatDoor
open Go.RowKit Plain Go.Shelf

/-- Refused, or a tree of its own. -/
def PutP (Bad : Int → Prop) (Fine : List Nd → Int → Prop) (base : Nat) (w : World) (XA : Option Addr) (xl XC : Nat) (sr c : Int) : Prop :=
  (c ≠ 0 ∧ Bad c) ∨ (c = 0 ∧ ∃ (g : Nat) (qs : List PN), XA = some ⟨g, 0, none⟩ ∧ xl = qs.length ∧ NT base w g XC qs ∧ Fine (qs.map PN.nd) sr)

/-- What a Put comes to. -/
def PutC (Bad : Int → Prop) (Fine : List Nd → Int → Prop) (w : World) (e : Ending) (w' : World) : Prop :=
  ∃ (XA : Option Addr) (xl XC : Nat) (sr c : Int), e = .returned (.tuple #[.agg #[.slice XA xl XC, .int .i64 sr], .int .i64 c]) ∧ Below w.heap.size w w' ∧ PutP Bad Fine w.heap.size w' XA xl XC sr c

theorem PutP.keep {Bad : Int → Prop} {Fine : List Nd → Int → Prop} {base base' : Nat} {w w' : World} {XA : Option Addr} {xl XC : Nat} {sr c : Int} (h : PutP Bad Fine base w XA xl XC sr c) (hb : base' ≤ base) (hk : ∀ k, base ≤ k → k < w.heap.size → w'.heap[k]? = w.heap[k]?) : PutP Bad Fine base' w' XA xl XC sr c := by
  rcases h with h | ⟨h0, g, qs, h1, h2, h3, h4⟩
  · exact .inl h
  · exact .inr ⟨h0, g, qs, h1, h2, (h3.of_blocks fun k hk' => hk k (h3.lt k hk').1 (h3.lt k hk').2).low hb, h4⟩


end Go.Proofs.YtlojfgdpmaigmafGreatDoor

/- base.Add: its walk. -/
namespace Go.Proofs.YtlojfgdpmaigmafGreatDoor
open Go.RowKit Plain Go.Shelf

end Go.Proofs.YtlojfgdpmaigmafGreatDoor
