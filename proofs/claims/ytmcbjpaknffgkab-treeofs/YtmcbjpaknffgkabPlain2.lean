/- Plain mathematics of a merge of two rollups, in integers; no Go in sight. -/
import Derived.Test.YtmcbjpaknffgkabPlain
namespace Go.Proofs.Ytmcbjpaknffgkab.Plain

def pk (b : Bool) (x y : Int) : Int := if b = true then x else y
theorem pk_t {b : Bool} (x y : Int) (h : b = true) : pk b x y = x := by simp [pk, h]
theorem pk_f {b : Bool} (x y : Int) (h : b = false) : pk b x y = y := by simp [pk, h]

end Go.Proofs.Ytmcbjpaknffgkab.Plain
