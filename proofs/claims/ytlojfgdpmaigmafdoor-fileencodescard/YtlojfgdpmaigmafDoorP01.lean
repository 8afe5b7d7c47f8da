/- Plain mathematics of rollups: what a check, a point and a merge come to, in integers; no Go in sight. -/
import Derived.RowKit
namespace Go.Proofs.YtlojfgdpmaigmafDoor.Plain

/-- n lies from lo to hi. -/
def inB (n lo hi : Int) : Bool := decide (lo ≤ n) && decide (n ≤ hi)

theorem inB_iff (n lo hi : Int) : inB n lo hi = true ↔ lo ≤ n ∧ n ≤ hi := by simp [inB]
theorem inB_not (n lo hi : Int) : inB n lo hi = false ↔ n < lo ∨ hi < n := by
  simp only [inB, Bool.and_eq_false_iff, decide_eq_false_iff_not]; omega

/-- the less, the greater of two. -/
def mn (a b : Int) : Int := if a ≤ b then a else b
def mx (a b : Int) : Int := if a ≤ b then b else a
theorem mn_l {a b : Int} (h : a ≤ b) : mn a b = a := by simp [mn, h]
theorem mn_r {a b : Int} (h : b ≤ a) : mn a b = b := by unfold mn; split <;> omega
theorem mx_r {a b : Int} (h : a ≤ b) : mx a b = b := by simp [mx, h]
theorem mx_l {a b : Int} (h : b ≤ a) : mx a b = a := by unfold mx; split <;> omega

/-- is the first one's last point the later one? -/
def ltr (t l t' l' : Int) : Bool := decide (t' < t) || (decide (t = t') && decide (l' < l))

end Go.Proofs.YtlojfgdpmaigmafDoor.Plain

/- Numbers as bytes, in plain terms: how they are told, and read. -/
namespace Go.Proofs.YtlojfgdpmaigmafDoor
open Plain

/-- A number that is not below 0: seven bits a byte, the lowest ones first. -/
def sev (n : Nat) : List Int := if h : n < 128 then [(n : Int)] else ((128 + n % 128 : Nat) : Int) :: sev (n / 128)
termination_by n
decreasing_by omega

theorem sev_lt {n : Nat} (h : n < 128) : sev n = [(n : Int)] := by
  rw [sev, dif_pos h]

theorem sev_ge {n : Nat} (h : ¬ n < 128) : sev n = ((128 + n % 128 : Nat) : Int) :: sev (n / 128) := by
  rw [sev, dif_neg h]

/-- One of any kind, folded. -/
def fold2 (n : Int) : Int := if n < 0 then -2 * n - 1 else 2 * n
def unfold2 (n : Int) : Int := if n % 2 ≠ 0 then -((n + 1) / 2) else n / 2

theorem fold_nn (n : Int) : 0 ≤ fold2 n := by
  unfold fold2
  split <;> omega

def U8 (l : List Int) : Prop := ∀ b ∈ l, 0 ≤ b ∧ b ≤ 255

theorem sev_u8 : ∀ (n : Nat), U8 (sev n) := by
  intro n
  induction n using Nat.strongRecOn with
  | _ n ih =>
    by_cases h : n < 128
    · rw [sev_lt h]
      intro b hb
      obtain rfl : b = n := by simpa using hb
      omega
    · rw [sev_ge h]
      intro b hb
      rcases List.mem_cons.1 hb with rfl | hb
      · omega
      · exact ih (n / 128) (by omega) b hb

end Go.Proofs.YtlojfgdpmaigmafDoor

/- Plain mathematics of a merge of two rollups, in integers; no Go in sight. -/
namespace Go.Proofs.YtlojfgdpmaigmafDoor.Plain

def pk (b : Bool) (x y : Int) : Int := if b = true then x else y
theorem pk_t {b : Bool} (x y : Int) (h : b = true) : pk b x y = x := by simp [pk, h]
theorem pk_f {b : Bool} (x y : Int) (h : b = false) : pk b x y = y := by simp [pk, h]

end Go.Proofs.YtlojfgdpmaigmafDoor.Plain
