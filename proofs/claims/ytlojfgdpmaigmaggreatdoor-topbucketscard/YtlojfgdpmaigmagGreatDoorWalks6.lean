/- What later and together of package roll do. -/
import Derived.Test.YtlojfgdpmaigmagGreatDoorP03
import Derived.Test.YtlojfgdpmaigmagGreatDoorP01
namespace Go.Proofs.YtlojfgdpmaigmagGreatDoor
open Go.RowKit Plain

set_option maxHeartbeats 400000 in
theorem qms(c s lo hi t l c' s' lo' hi' t' l':Int)(w:World)(h:ltr t l t' l'=true):
  Calls Tryz.prog 43 #[.agg #[.int .i64 c,.int .i64 s,.int .i64 lo,.int .i64 hi,.int .i64 t,.int .i64 l],.agg #[.int .i64 c',.int .i64 s',.int .i64 lo',.int .i64 hi',.int .i64 t',.int .i64 l']] w fun e w'=>e=.returned (.agg #[.int .i64 c,.int .i64 s,.int .i64 lo,.int .i64 hi,.int .i64 t,.int .i64 l])/\Below w.heap.size w w':=by
 by_cases h1:t'<t
 ·clear h
  go_enter Tryz.func43,Tryz.ntmps43
  go_wp2;exact bodyPost_ret (v:=.agg #[.int .i64 c,.int .i64 s,.int .i64 lo,.int .i64 hi,.int .i64 t,.int .i64 l]) (by simp[results,Tryz.results43,go_sem]) rfl ⟨rfl,(((Below.refl _ _).alloc (Nat.le_refl _) _).alloc (by simp) _).alloc (by simp;omega) _⟩
 ·have h2:t=t'/\l'<l:=by simpa [ltr,h1] using h
  obtain⟨rfl,h3⟩:=h2;clear h
  go_enter Tryz.func43,Tryz.ntmps43
  go_wp2;exact bodyPost_ret (v:=.agg #[.int .i64 c,.int .i64 s,.int .i64 lo,.int .i64 hi,.int .i64 t,.int .i64 l]) (by simp[results,Tryz.results43,go_sem]) rfl ⟨rfl,(((Below.refl _ _).alloc (Nat.le_refl _) _).alloc (by simp) _).alloc (by simp;omega) _⟩

set_option maxHeartbeats 400000 in
theorem qmm(c s lo hi t l c' s' lo' hi' t' l':Int)(w:World)(h:ltr t l t' l'=false):
  Calls Tryz.prog 43 #[.agg #[.int .i64 c,.int .i64 s,.int .i64 lo,.int .i64 hi,.int .i64 t,.int .i64 l],.agg #[.int .i64 c',.int .i64 s',.int .i64 lo',.int .i64 hi',.int .i64 t',.int .i64 l']] w fun e w'=>e=.returned (.agg #[.int .i64 c',.int .i64 s',.int .i64 lo',.int .i64 hi',.int .i64 t',.int .i64 l'])/\Below w.heap.size w w':=by
 have h':¬t'<t/\(t=t'->l<=l'):=by simpa [ltr] using h
 obtain⟨h1,h2⟩:=h';clear h
 by_cases h3:t=t'
 ·obtain rfl:=h3;have h4:¬l'<l:=by have:=h2 rfl;omega
  clear h2
  go_enter Tryz.func43,Tryz.ntmps43
  go_wp2;exact bodyPost_ret (v:=.agg #[.int .i64 c',.int .i64 s',.int .i64 lo',.int .i64 hi',.int .i64 t,.int .i64 l']) (by simp[results,Tryz.results43,go_sem]) rfl ⟨rfl,(((Below.refl _ _).alloc (Nat.le_refl _) _).alloc (by simp) _).alloc (by simp;omega) _⟩
 ·have h4:(t==t')=false:=by simpa using h3
  clear h2 h3
  go_enter Tryz.func43,Tryz.ntmps43
  go_wp2;exact bodyPost_ret (v:=.agg #[.int .i64 c',.int .i64 s',.int .i64 lo',.int .i64 hi',.int .i64 t',.int .i64 l']) (by simp[results,Tryz.results43,go_sem]) rfl ⟨rfl,(((Below.refl _ _).alloc (Nat.le_refl _) _).alloc (by simp) _).alloc (by simp;omega) _⟩

end Go.Proofs.YtlojfgdpmaigmagGreatDoor
