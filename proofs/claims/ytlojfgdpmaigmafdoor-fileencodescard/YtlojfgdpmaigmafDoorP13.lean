/- Bytes in memory, and a reader of them in its box. -/
import Derived.Test.YtlojfgdpmaigmafDoorP05
import Derived.Test.YtlojfgdpmaigmafDoorP06
import Derived.Test.YtlojfgdpmaigmafDoorP12
namespace Go.Proofs.YtlojfgdpmaigmafDoor
open Go.RowKit Plain

def u8s (l : List Int) : List Value := l.map fun b => .int .u8 b

theorem u8s_length (l : List Int) : (u8s l).length = l.length := by simp [u8s]
theorem u8s_take (l : List Int) (n : Nat) : u8s (l.take n) = (u8s l).take n := by simp [u8s, List.map_take]
theorem u8s_drop (l : List Int) (n : Nat) : u8s (l.drop n) = (u8s l).drop n := by simp [u8s, List.map_drop]
theorem u8s_append (a b : List Int) : u8s (a ++ b) = u8s a ++ u8s b := by simp [u8s]
theorem u8s_one (l : List Int) : ∀ u ∈ u8s l, u.oneCell' = true := fun u hu => by
  obtain ⟨x, _, rfl⟩ := List.mem_map.1 hu
  rfl

theorem RowAt.byte {B : Nat} {w : World} {A : Option Addr} {l : List Int} (h : RowAt B w A (u8s l)) {k : Nat} (hk : k < l.length) : ∃ b o, A = some ⟨b, o, none⟩ ∧ b < B ∧ w.cell? ⟨b, o + k, none⟩ = some (.int .u8 l[k]) := by
  rcases h with h | ⟨b, o, hA, hb, hc⟩
  · have hl := u8s_length l
    rw [h] at hl
    have h0 : (0 : Nat) = l.length := hl
    omega
  · exact ⟨b, o, hA, hb, hc k _ (by simp [u8s, List.getElem?_eq_getElem hk])⟩

/-- Bytes in memory below B: a slice's cells, or none. -/
def BytesAt (B : Nat) (w : World) (A : Option Addr) (C : Nat) (l : List Int) : Prop :=
  l.length ≤ C ∧ C ≤ 9223372036854775807 ∧ ((A = none ∧ C = 0) ∨ ∃ b o, A = some ⟨b, o, none⟩ ∧ b < B ∧ ∀ j u, (u8s l)[j]? = some u → w.cell? ⟨b, o + j, none⟩ = some u)

theorem BytesAt.nil (B : Nat) (w : World) : BytesAt B w none 0 [] := ⟨Nat.le_refl _, by decide, .inl ⟨rfl, rfl⟩⟩

theorem BytesAt.blocks {B : Nat} {w w' : World} {A : Option Addr} {C : Nat} {l : List Int} (h : BytesAt B w A C l) (hk : ∀ k, k < B → w'.heap[k]? = w.heap[k]?) : BytesAt B w' A C l := by
  obtain ⟨h1, h2, h3⟩ := h
  refine ⟨h1, h2, ?_⟩
  rcases h3 with h3 | ⟨b, o, hA, hb, hc⟩
  · exact .inl h3
  · exact .inr ⟨b, o, hA, hb, fun j u hu => (World.cell?_of_block (a := ⟨b, o + j, none⟩) (hk b hb)).trans (hc j u hu)⟩

theorem BytesAt.below {B : Nat} {w w' : World} {A : Option Addr} {C : Nat} {l : List Int} (h : BytesAt B w A C l) (hb : Below w.heap.size w w') (hB : B ≤ w.heap.size) : BytesAt B w' A C l :=
  h.blocks fun k hk => hb.block k (by omega)

theorem BytesAt.mono {B B' : Nat} {w : World} {A : Option Addr} {C : Nat} {l : List Int} (h : BytesAt B w A C l) (hB : B ≤ B') : BytesAt B' w A C l := by
  obtain ⟨h1, h2, h3⟩ := h
  refine ⟨h1, h2, ?_⟩
  rcases h3 with h3 | ⟨b, o, hA, hb, hc⟩
  · exact .inl h3
  · exact .inr ⟨b, o, hA, by omega, hc⟩

theorem BytesAt.row {B : Nat} {w : World} {A : Option Addr} {C : Nat} {l : List Int} (h : BytesAt B w A C l) : RowAt B w A (u8s l) := by
  obtain ⟨h1, h2, h3⟩ := h
  rcases h3 with ⟨rfl, rfl⟩ | ⟨b, o, hA, hb, hc⟩
  · obtain rfl : l = [] := List.eq_nil_of_length_eq_zero (by omega)
    exact .inl rfl
  · exact .inr ⟨b, o, hA, hb, hc⟩

end Go.Proofs.YtlojfgdpmaigmafDoor

/- A reader's small steps: their walks. -/
namespace Go.Proofs.YtlojfgdpmaigmafDoor
open Go.RowKit Plain

theorem hideF {p : Prop} (h : p) : Hid p := h

end Go.Proofs.YtlojfgdpmaigmafDoor

/- A reader's numbers: their walks. -/
namespace Go.Proofs.YtlojfgdpmaigmafDoor
open Go.RowKit Plain

end Go.Proofs.YtlojfgdpmaigmafDoor

/- A reader's signed numbers, counts, points, and its end: their walks. -/
namespace Go.Proofs.YtlojfgdpmaigmafDoor
open Go.RowKit Plain

end Go.Proofs.YtlojfgdpmaigmafDoor

/- A reader's times: the walk of one. -/
namespace Go.Proofs.YtlojfgdpmaigmafDoor
open Go.RowKit Plain

end Go.Proofs.YtlojfgdpmaigmafDoor
