/- Two trees that hold the same are found the same. -/
import Derived.Test.YtndojgeodmddoadDoorRows2
namespace Go.Proofs.YtndojgeodmddoadDoor
open Go.RowKit

theorem bcells {W w1 : World} {B : Nat} (hb : Below B W w1) : (∀ b o, b < B → w1.cell? ⟨b, o, none⟩ = W.cell? ⟨b, o, none⟩) ∧ (∀ b o, b < B → w1.frozen? ⟨b, o, none⟩ = W.frozen? ⟨b, o, none⟩) :=
  ⟨fun b o h => hb.cell (p := ⟨b, o, none⟩) h, fun b o h => hb.frozen (p := ⟨b, o, none⟩) h⟩

theorem RowAt.go {B B' : Nat} {w w' : World} {A : Option Addr} {vs : List Value} (h : RowAt B w A vs) (hb : Below B' w w') (hB : B ≤ B') (hw : B' ≤ w.heap.size) : RowAt w'.heap.size w' A vs :=
  (h.below hb hB).mono (Nat.le_trans hB (Nat.le_trans hw hb.size))

theorem two {w : World} (a b : Obj) : Below w.heap.size w ((w.alloc a).alloc b) := ((Below.refl _ _).alloc (Nat.le_refl _) _).alloc (by simp) _

end Go.Proofs.YtndojgeodmddoadDoor
