/- What a tree whose knowledge is known answers: All, Of. -/
import Derived.Test.YtlojfgdpmaigmacGreatDoorP40
import Derived.Test.YtlojfgdpmaigmacGreatDoorP29
import Derived.Test.YtlojfgdpmaigmacGreatDoorAllsWalk
import Derived.Test.YtlojfgdpmaigmacGreatDoorP19
import Derived.Test.YtlojfgdpmaigmacGreatDoorP44
namespace Go.Proofs.YtlojfgdpmaigmacGreatDoor
open Go.RowKit Plain Go.Shelf

/-- Few keys, few entries. -/
theorem keys_few {l : List En} {many : Nat} (hi : l.Pairwise fun a b => a.key < b.key) (hk : ∀ y ∈ l, 0 ≤ y.key ∧ y.key < many) : l.length ≤ many := by
  have h := nodup_le (l.map En.key) ((List.range many).map fun n : Nat => (n : Int)) (by rw [List.Nodup, List.pairwise_map]; exact hi.imp fun h => by omega) (fun e he => by
    obtain ⟨y, hy, rfl⟩ := List.mem_map.1 he
    have := hk y hy
    exact List.mem_map.2 ⟨y.key.toNat, by simp; omega, by omega⟩)
  simpa using h

theorem knows_all {ns : List Nd} {root : Int} {l : List En} (h : Knows ns root l) : allP ns root 0 1099511627776 = (0, l) := by
  unfold allP
  rw [if_neg (by simpa using h.ok), allR_all h.ok, h.all]

theorem own_row1 {w : World} {base : Nat} {e : TypeId} {n : Nat} {v : Value} {l : List En} (h : w.ownsRow base e 7 v n (flatE l)) (hn : n = l.length) : ∃ A C, v = .slice A l.length C ∧ (A = none → C = 0) ∧ RowAt w.heap.size w A (flatE l) ∧ (l ≠ [] → ∃ g, A = some ⟨g, 0, none⟩ ∧ base ≤ g ∧ g < w.heap.size) := by
  subst hn
  obtain ⟨A, C, rfl, hA, -, -, hr⟩ := own_row h
  refine ⟨A, C, rfl, hA, hr, fun hne => ?_⟩
  rcases h.2 with ⟨hv, hn⟩ | ⟨g, cap, cur, hv, hb, hg, _⟩
  · exact absurd (List.eq_nil_of_length_eq_zero hn) hne
  · cases hv
    exact ⟨g, rfl, hb, (Array.getElem?_eq_some_iff.1 hg).1⟩

theorem all_rg (g C : Nat) (root lo hi : Int) (qs : List PN) (l : List En) (W : World) (hN : NodesAt W.heap.size W (some ⟨g, 0, none⟩) qs) (hk : Knows (qs.map PN.nd) root l) :
    Calls Tryz.prog 11 #[.agg #[.slice (some ⟨g, 0, none⟩) qs.length C, .int .i64 root], .int .i64 lo, .int .i64 hi] W fun e w' => (∃ (A : Option Addr) (C' : Nat), e = .returned (.tuple #[.slice A (l.filter (inR lo hi)).length C', .int .i64 0]) ∧ (A = none → C' = 0) ∧ RowAt w'.heap.size w' A (flatE (l.filter (inR lo hi))) ∧ w'.ownsRow W.heap.size 40 7 (.slice A (l.filter (inR lo hi)).length C') (l.filter (inR lo hi)).length (flatE (l.filter (inR lo hi)))) ∧ Below W.heap.size W w' := by
  have c := all_any (some ⟨g, 0, none⟩) C root lo hi qs W hN (treeC_wf hk.ok)
  rw [allP_range (by rw [knows_all hk]), knows_all hk] at c
  refine c.mono ?_
  rintro e w' ⟨hb, v, rfl, ho⟩
  obtain ⟨A, C', rfl, hA, hr, -⟩ := own_row1 ho rfl
  exact ⟨⟨A, C', rfl, hA, hr, ho⟩, hb⟩

end Go.Proofs.YtlojfgdpmaigmacGreatDoor
