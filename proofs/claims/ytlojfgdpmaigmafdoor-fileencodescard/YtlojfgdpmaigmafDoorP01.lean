/- Plain mathematics of rollups: what a check, a point and a merge come to, in integers; no Go in sight. -/
import Derived.RowKit
namespace Go.Proofs.YtlojfgdpmaigmafDoor.Plain

/-- n lies from lo to hi. -/
def inB (n lo hi : Int) : Bool := decide (lo ≤ n) && decide (n ≤ hi)

theorem inB_iff (n lo hi : Int) : inB n lo hi = true ↔ lo ≤ n ∧ n ≤ hi := by simp [inB]
theorem inB_not (n lo hi : Int) : inB n lo hi = false ↔ n < lo ∨ hi < n := by
  simp only [inB, Bool.and_eq_false_iff, decide_eq_false_iff_not]; omega

/-- the less, the greater of two. -/
def mn (a b : Int) : Int := if a ≤ b then a else b
def mx (a b : Int) : Int := if a ≤ b then b else a
theorem mn_l {a b : Int} (h : a ≤ b) : mn a b = a := by simp [mn, h]
theorem mn_r {a b : Int} (h : b ≤ a) : mn a b = b := by unfold mn; split <;> omega
theorem mx_r {a b : Int} (h : a ≤ b) : mx a b = b := by simp [mx, h]
theorem mx_l {a b : Int} (h : b ≤ a) : mx a b = a := by unfold mx; split <;> omega

/-- is the first one's last point the later one? -/
def ltr (t l t' l' : Int) : Bool := decide (t' < t) || (decide (t = t') && decide (l' < l))

end Go.Proofs.YtlojfgdpmaigmafDoor.Plain

/- Plain mathematics of a merge of two rollups, in integers; no Go in sight. -/
namespace Go.Proofs.YtlojfgdpmaigmafDoor.Plain

def pk (b : Bool) (x y : Int) : Int := if b = true then x else y
theorem pk_t {b : Bool} (x y : Int) (h : b = true) : pk b x y = x := by simp [pk, h]
theorem pk_f {b : Bool} (x y : Int) (h : b = false) : pk b x y = y := by simp [pk, h]

end Go.Proofs.YtlojfgdpmaigmafDoor.Plain
