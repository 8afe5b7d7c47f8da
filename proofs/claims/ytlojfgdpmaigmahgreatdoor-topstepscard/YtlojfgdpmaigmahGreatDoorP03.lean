/- What Check of package roll, and the document's answer to it, do. -/
import Derived.Test.YtlojfgdpmaigmahGreatDoorP02
import Derived.Deep.Light
namespace Go.Proofs.YtlojfgdpmaigmahGreatDoor
section
open Go.RowKit Plain

theorem q8c{W w1:World}(hb:Below W.heap.size W w1):(∀b o,b<W.heap.size->w1.cell? ⟨b,o,none⟩=W.cell? ⟨b,o,none⟩)/\(∀b o,b<W.heap.size->w1.frozen? ⟨b,o,none⟩=W.frozen? ⟨b,o,none⟩):=
 ⟨fun b o h=>hb.cell (p:=⟨b,o,none⟩) h,fun b o h=>hb.frozen (p:=⟨b,o,none⟩) h⟩

theorem q3r{k:IntKind}{a b:Int}(h:a=b):Ending.returned (.int k a)=.returned (.int k b):=by rw[h]

def q1i(c s lo hi t l:Int):Int:=if q6s c s lo hi t l=true then(if qak c s lo hi t l=true then 0 else 4) else 2

set_option maxHeartbeats 400000 in
theorem q1t(c s lo hi t l:Int)(w:World):
  Calls Tryz.prog 77 #[.agg #[.int .i64 c,.int .i64 s,.int .i64 lo,.int .i64 hi,.int .i64 t,.int .i64 l]] w fun e w'=>e=.returned (.int .i64 (q1i c s lo hi t l))/\Below w.heap.size w w':=by
 by_cases h1:q6s c s lo hi t l=true
 ·by_cases h2:qak c s lo hi t l=true
  ·have E0:Hid (q1i c s lo hi t l=0):=by simp[Hid,q1i,h1,h2]
   go_enter Tryz.func77,Tryz.ntmps77
   go_wp2_with (first|(go_at_call 102;refine(q9l _ _ _ _ _ _ _).mono ?_;rintro e w1 ⟨rfl,hb1⟩;obtain⟨hc1,hf1⟩:=q8c hb1)|(go_at_call 103;refine(qf4 _ _ _ _ _ _ _).mono ?_;rintro e w2 ⟨rfl,hb2⟩))
   go_ret
   exact⟨by rw[E0.out];rfl,(((Below.refl _ _).alloc (Nat.le_refl _) _).trans (hb1.mono (by simp))).trans (hb2.mono (by have:=hb1.size;simp at this;omega))⟩
  ·have E0:Hid (q1i c s lo hi t l=4):=by simp[Hid,q1i,h1,h2]
   have h2:qak c s lo hi t l=false:=by simpa using h2
   go_enter Tryz.func77,Tryz.ntmps77
   go_wp2_with (first|(go_at_call 102;refine(q9l _ _ _ _ _ _ _).mono ?_;rintro e w1 ⟨rfl,hb1⟩;obtain⟨hc1,hf1⟩:=q8c hb1)|(go_at_call 103;refine(qf4 _ _ _ _ _ _ _).mono ?_;rintro e w2 ⟨rfl,hb2⟩))
   go_ret
   exact⟨by rw[E0.out];rfl,(((Below.refl _ _).alloc (Nat.le_refl _) _).trans (hb1.mono (by simp))).trans (hb2.mono (by have:=hb1.size;simp at this;omega))⟩
 ·have E0:Hid (q1i c s lo hi t l=2):=by simp[Hid,q1i,h1]
  have h1:q6s c s lo hi t l=false:=by simpa using h1
  go_enter Tryz.func77,Tryz.ntmps77
  go_wp2_with (first|(go_at_call 102;refine(q9l _ _ _ _ _ _ _).mono ?_;rintro e w1 ⟨rfl,hb1⟩))
  go_ret
  exact⟨by rw[E0.out];rfl,(((Below.refl _ _).alloc (Nat.le_refl _) _).trans (hb1.mono (by simp)))⟩

set_option maxHeartbeats 400000 in
theorem z1r(t v:Int)(w:World)(h1:inB t 0 1048575=true)(h2:inB v (-1000000) 1000000=true):
  Calls Tryz.prog 86 #[.int .i64 t,.int .i64 v] w fun e w'=>e=.returned (.tuple #[.agg #[.int .i64 1,.int .i64 v,.int .i64 v,.int .i64 v,.int .i64 t,.int .i64 v],.int .i64 0])/\Below w.heap.size w w':=by
 go_enter Tryz.func86,Tryz.ntmps86
 go_wp2_with (first|(go_at_call 117;refine(qda _ _).mono ?_;rintro e w' ⟨rfl,rfl⟩)|(go_at_call 118;refine(qax _ _).mono ?_;rintro e w' ⟨rfl,rfl⟩))
 exact bodyPost_ret (v:=.tuple #[.agg #[.int .i64 1,.int .i64 v,.int .i64 v,.int .i64 v,.int .i64 t,.int .i64 v],.int .i64 0]) (by simp[results,Tryz.results86,go_sem]) rfl ⟨rfl,(Below.refl _ _).alloc (Nat.le_refl _) _⟩

set_option maxHeartbeats 400000 in
theorem z3e(t v:Int)(w:World)(h1:inB t 0 1048575=false):
  Calls Tryz.prog 86 #[.int .i64 t,.int .i64 v] w fun e w'=>e=.returned (.tuple #[.agg #[.int .i64 0,.int .i64 0,.int .i64 0,.int .i64 0,.int .i64 0,.int .i64 0],.int .i64 2])/\Below w.heap.size w w':=by
 go_enter Tryz.func86,Tryz.ntmps86
 go_wp2_with (first|(go_at_call 117;refine(qda _ _).mono ?_;rintro e w' ⟨rfl,rfl⟩)|(go_at_call 118;refine(qax _ _).mono ?_;rintro e w' ⟨rfl,rfl⟩))
 exact bodyPost_ret (v:=.tuple #[.agg #[.int .i64 0,.int .i64 0,.int .i64 0,.int .i64 0,.int .i64 0,.int .i64 0],.int .i64 2]) (by simp[results,Tryz.results86,go_sem]) rfl ⟨rfl,(Below.refl _ _).alloc (Nat.le_refl _) _⟩

set_option maxHeartbeats 400000 in
theorem z2b(t v:Int)(w:World)(h1:inB t 0 1048575=true)(h2:inB v (-1000000) 1000000=false):
  Calls Tryz.prog 86 #[.int .i64 t,.int .i64 v] w fun e w'=>e=.returned (.tuple #[.agg #[.int .i64 0,.int .i64 0,.int .i64 0,.int .i64 0,.int .i64 0,.int .i64 0],.int .i64 2])/\Below w.heap.size w w':=by
 go_enter Tryz.func86,Tryz.ntmps86
 go_wp2_with (first|(go_at_call 117;refine(qda _ _).mono ?_;rintro e w' ⟨rfl,rfl⟩)|(go_at_call 118;refine(qax _ _).mono ?_;rintro e w' ⟨rfl,rfl⟩))
 exact bodyPost_ret (v:=.tuple #[.agg #[.int .i64 0,.int .i64 0,.int .i64 0,.int .i64 0,.int .i64 0,.int .i64 0],.int .i64 2]) (by simp[results,Tryz.results86,go_sem]) rfl ⟨rfl,(Below.refl _ _).alloc (Nat.le_refl _) _⟩

end
end Go.Proofs.YtlojfgdpmaigmahGreatDoor
