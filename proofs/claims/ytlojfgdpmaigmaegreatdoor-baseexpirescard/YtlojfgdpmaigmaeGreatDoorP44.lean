/- Put: an entry goes down from the root, then the tree grows. -/
import Derived.Test.YtlojfgdpmaigmaeGreatDoorP41
import Derived.Test.YtlojfgdpmaigmaeGreatDoorP43
import Derived.Test.YtlojfgdpmaigmaeGreatDoorP36
namespace Go.Proofs.YtlojfgdpmaigmaeGreatDoor
open Go.RowKit Plain Go.Shelf

end Go.Proofs.YtlojfgdpmaigmaeGreatDoor

/- The walk of Put. -/
namespace Go.Proofs.YtlojfgdpmaigmaeGreatDoor
open Go.RowKit Plain Go.Shelf

theorem own_low {w : World} {base base' : Nat} {e : TypeId} {size n : Nat} {v : Value} {vs : List Value} (h : w.ownsRow base e size v n vs) (hb : base' ≤ base) : w.ownsRow base' e size v n vs := own_base' h hb

theorem NT.low {base base' g C : Nat} {w : World} {qs : List PN} (h : NT base w g C qs) (hb : base' ≤ base) : NT base' w g C qs :=
  ⟨own_low h.own hb, fun q hq => ⟨own_low (h.each q hq).e hb, own_low (h.each q hq).k hb, own_low (h.each q hq).d hb, own_low (h.each q hq).b hb, (h.each q hq).ez, (h.each q hq).kz, (h.each q hq).dz, (h.each q hq).bz⟩, h.apart, h.z⟩

end Go.Proofs.YtlojfgdpmaigmaeGreatDoor

/- The walk of Put: what it refuses. -/
namespace Go.Proofs.YtlojfgdpmaigmaeGreatDoor
open Go.RowKit Plain Go.Shelf

end Go.Proofs.YtlojfgdpmaigmaeGreatDoor

/- The walk of Put: all of it. -/
namespace Go.Proofs.YtlojfgdpmaigmaeGreatDoor
open Go.RowKit Plain Go.Shelf

end Go.Proofs.YtlojfgdpmaigmaeGreatDoor

/- The document's PutFault. -/
namespace Go.Proofs.YtlojfgdpmaigmaeGreatDoor
open Go.RowKit Plain Go.Shelf

end Go.Proofs.YtlojfgdpmaigmaeGreatDoor

/- What Put's tree knows, held against the document's entries with one more: in plain terms. -/
namespace Go.Proofs.YtlojfgdpmaigmaeGreatDoor
open Go.RowKit Plain

theorem ins_cnt {x : En} {k : Int} : ∀ {l r : List En}, ins l x = some r → cntK k r = cntK k l + (if x.key = k then x.c else 0)
  | [], r, h => by
    simp [ins] at h
    subst h
    simp [cntK]
  | y :: l, r, h => by
    simp only [ins] at h
    split at h
    · cases h
      simp only [cntK]
      omega
    · split at h
      · rename_i hk
        split at h
        · cases h
          have e1 : (mkE x.key (jn y.ru x.ru)).key = x.key := rfl
          have e2 : (mkE x.key (jn y.ru x.ru)).c = y.c + x.c := rfl
          simp only [cntK, e1, e2, hk]
          split <;> omega
        · cases h
      · cases hr : ins l x with
        | none => rw [hr] at h; cases h
        | some q =>
          rw [hr] at h
          cases h
          have ih := ins_cnt (k := k) hr
          simp only [cntK]
          omega

theorem fold_facts : ∀ (xs l l' : List En), (∀ y ∈ l, Good y.ru) → (∀ y ∈ xs, Good y.ru) → xs.foldl insO (some l) = some l' → (∀ y ∈ l', Good y.ru) ∧ l'.length ≤ l.length + xs.length ∧ ∀ k, cntK k l' = cntK k l + cntK k xs
  | [], l, l', hl, _, h => by
    simp only [List.foldl_nil, Option.some.injEq] at h
    subst h
    exact ⟨hl, by simp, fun k => by simp [cntK]⟩
  | x :: xs, l, l', hl, hx, h => by
    simp only [List.foldl_cons, insO, Option.bind_some] at h
    cases hi : ins l x with
    | none => rw [hi] at h; exact absurd h (by rw [fold_none]; simp)
    | some q =>
      rw [hi] at h
      obtain ⟨g1, g2⟩ := ins_good (hx x List.mem_cons_self) hl hi
      obtain ⟨a, b, c⟩ := fold_facts xs q l' g1 (fun y hy => hx y (List.mem_cons_of_mem _ hy)) h
      refine ⟨a, by simp only [List.length_cons]; omega, fun k => ?_⟩
      have := ins_cnt (k := k) hi
      rw [c k, this]
      simp only [cntK]
      omega

theorem allL_facts {xs l : List En} (hx : ∀ y ∈ xs, Good y.ru) (h : allL xs = some l) : (∀ y ∈ l, Good y.ru) ∧ l.length ≤ xs.length ∧ ∀ k, cntK k l = cntK k xs := by
  obtain ⟨a, b, c⟩ := fold_facts xs [] l (by simp) hx h
  exact ⟨a, by simpa using b, fun k => by simpa [cntK] using c k⟩

end Go.Proofs.YtlojfgdpmaigmaeGreatDoor
