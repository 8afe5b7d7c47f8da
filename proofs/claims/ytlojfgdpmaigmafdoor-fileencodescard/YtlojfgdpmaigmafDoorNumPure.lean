/- Numbers as bytes, in plain terms: how they are told, and read. -/
import Derived.Test.YtlojfgdpmaigmafDoorP01
namespace Go.Proofs.YtlojfgdpmaigmafDoor
open Plain

/-- A number that is not below 0: seven bits a byte, the lowest ones first. -/
def sev (n : Nat) : List Int := if h : n < 128 then [(n : Int)] else ((128 + n % 128 : Nat) : Int) :: sev (n / 128)
termination_by n
decreasing_by omega

theorem sev_lt {n : Nat} (h : n < 128) : sev n = [(n : Int)] := by
  rw [sev, dif_pos h]

theorem sev_ge {n : Nat} (h : ¬ n < 128) : sev n = ((128 + n % 128 : Nat) : Int) :: sev (n / 128) := by
  rw [sev, dif_neg h]

/-- One of any kind, folded. -/
def fold2 (n : Int) : Int := if n < 0 then -2 * n - 1 else 2 * n
def unfold2 (n : Int) : Int := if n % 2 ≠ 0 then -((n + 1) / 2) else n / 2

theorem fold_nn (n : Int) : 0 ≤ fold2 n := by
  unfold fold2
  split <;> omega

def U8 (l : List Int) : Prop := ∀ b ∈ l, 0 ≤ b ∧ b ≤ 255

theorem sev_u8 : ∀ (n : Nat), U8 (sev n) := by
  intro n
  induction n using Nat.strongRecOn with
  | _ n ih =>
    by_cases h : n < 128
    · rw [sev_lt h]
      intro b hb
      obtain rfl : b = n := by simpa using hb
      omega
    · rw [sev_ge h]
      intro b hb
      rcases List.mem_cons.1 hb with rfl | hb
      · omega
      · exact ih (n / 128) (by omega) b hb

end Go.Proofs.YtlojfgdpmaigmafDoor
