/- What a tree whose knowledge is known answers: All, Of. -/
import Derived.Test.YtlojfgdpmaigmacGreatDoorP40
import Derived.Test.YtlojfgdpmaigmacGreatDoorP31
import Derived.Test.YtlojfgdpmaigmacGreatDoorAllsWalk
import Derived.Test.YtlojfgdpmaigmacGreatDoorP17
import Derived.Test.YtlojfgdpmaigmacGreatDoorP44
namespace Go.Proofs.YtlojfgdpmaigmacGreatDoor
open Go.RowKit Plain Go.Shelf

/-- Few keys, few entries. -/
theorem keys_few {l : List En} {many : Nat} (hi : l.Pairwise fun a b => a.key < b.key) (hk : ∀ y ∈ l, 0 ≤ y.key ∧ y.key < many) : l.length ≤ many := by
  have h := nodup_le (l.map En.key) ((List.range many).map fun n : Nat => (n : Int)) (by rw [List.Nodup, List.pairwise_map]; exact hi.imp fun h => by omega) (fun e he => by
    obtain ⟨y, hy, rfl⟩ := List.mem_map.1 he
    have := hk y hy
    exact List.mem_map.2 ⟨y.key.toNat, by simp; omega, by omega⟩)
  simpa using h

theorem knows_all {ns : List Nd} {root : Int} {l : List En} (h : Knows ns root l) : allP ns root 0 1099511627776 = (0, l) := by
  unfold allP
  rw [if_neg (by simpa using h.ok), allR_all h.ok, h.all]

end Go.Proofs.YtlojfgdpmaigmacGreatDoor
