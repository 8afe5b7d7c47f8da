/- What Check of package roll, and the document's answer to it, do. -/
import Derived.Test.YtlojfgdpmaigmagGreatDoorP02
import Derived.Deep.Light
namespace Go.Proofs.YtlojfgdpmaigmagGreatDoor
section
open Go.RowKit Plain

theorem gW{W w1:World}(hb:Below W.heap.size W w1):(∀b o,b<W.heap.size->w1.cell? ⟨b,o,none⟩=W.cell? ⟨b,o,none⟩)/\(∀b o,b<W.heap.size->w1.frozen? ⟨b,o,none⟩=W.frozen? ⟨b,o,none⟩):=
 ⟨fun b o h=>hb.cell (p:=⟨b,o,none⟩) h,fun b o h=>hb.frozen (p:=⟨b,o,none⟩) h⟩

theorem iM{k:IntKind}{a b:Int}(h:a=b):Ending.returned (.int k a)=.returned (.int k b):=by rw[h]

def bU(c s lo hi t l:Int):Int:=if lD c s lo hi t l=true then(if jC c s lo hi t l=true then 0 else 4) else 2

set_option maxHeartbeats 400000 in
theorem iF(c s lo hi t l:Int)(w:World):
  Calls Tryz.prog 26 #[.agg #[.int .i64 c,.int .i64 s,.int .i64 lo,.int .i64 hi,.int .i64 t,.int .i64 l]] w fun e w'=>e=.returned (.int .i64 (bU c s lo hi t l))/\Below w.heap.size w w':=by
 by_cases h1:lD c s lo hi t l=true
 ·by_cases h2:jC c s lo hi t l=true
  ·have E0:Hid (bU c s lo hi t l=0):=by simp[Hid,bU,h1,h2]
   go_enter Tryz.func26,Tryz.ntmps26
   go_wp2_with (first|(go_at_call 41;refine(zB _ _ _ _ _ _ _).mono ?_;rintro e w1 ⟨rfl,hb1⟩;obtain⟨hc1,hf1⟩:=gW hb1)|(go_at_call 42;refine(q3a _ _ _ _ _ _ _).mono ?_;rintro e w2 ⟨rfl,hb2⟩))
   go_ret;exact⟨by rw[E0.out];rfl,(((Below.refl _ _).alloc (Nat.le_refl _) _).trans (hb1.mono (by simp))).trans (hb2.mono (by have:=hb1.size;simp at this;omega))⟩
  ·have E0:Hid (bU c s lo hi t l=4):=by simp[Hid,bU,h1,h2]
   have h2:jC c s lo hi t l=false:=by simpa using h2
   go_enter Tryz.func26,Tryz.ntmps26
   go_wp2_with (first|(go_at_call 41;refine(zB _ _ _ _ _ _ _).mono ?_;rintro e w1 ⟨rfl,hb1⟩;obtain⟨hc1,hf1⟩:=gW hb1)|(go_at_call 42;refine(q3a _ _ _ _ _ _ _).mono ?_;rintro e w2 ⟨rfl,hb2⟩))
   go_ret;exact⟨by rw[E0.out];rfl,(((Below.refl _ _).alloc (Nat.le_refl _) _).trans (hb1.mono (by simp))).trans (hb2.mono (by have:=hb1.size;simp at this;omega))⟩
 ·have E0:Hid (bU c s lo hi t l=2):=by simp[Hid,bU,h1]
  have h1:lD c s lo hi t l=false:=by simpa using h1
  go_enter Tryz.func26,Tryz.ntmps26
  go_wp2_with (first|(go_at_call 41;refine(zB _ _ _ _ _ _ _).mono ?_;rintro e w1 ⟨rfl,hb1⟩))
  go_ret;exact⟨by rw[E0.out];rfl,(((Below.refl _ _).alloc (Nat.le_refl _) _).trans (hb1.mono (by simp)))⟩

set_option maxHeartbeats 400000 in
theorem qr7(t v:Int)(w:World)(h1:inB t 0 1048575=true)(h2:inB v (-1000000) 1000000=true):
  Calls Tryz.prog 14 #[.int .i64 t,.int .i64 v] w fun e w'=>e=.returned (.tuple #[.agg #[.int .i64 1,.int .i64 v,.int .i64 v,.int .i64 v,.int .i64 t,.int .i64 v],.int .i64 0])/\Below w.heap.size w w':=by
 go_enter Tryz.func14,Tryz.ntmps14
 go_wp2_with (first|(go_at_call 24;refine(wW _ _).mono ?_;rintro e w' ⟨rfl,rfl⟩)|(go_at_call 25;refine(wS _ _).mono ?_;rintro e w' ⟨rfl,rfl⟩))
 exact bodyPost_ret (v:=.tuple #[.agg #[.int .i64 1,.int .i64 v,.int .i64 v,.int .i64 v,.int .i64 t,.int .i64 v],.int .i64 0]) (by simp[results,Tryz.results14,go_sem]) rfl ⟨rfl,(Below.refl _ _).alloc (Nat.le_refl _) _⟩

set_option maxHeartbeats 400000 in
theorem qqx(t v:Int)(w:World)(h1:inB t 0 1048575=false):
  Calls Tryz.prog 14 #[.int .i64 t,.int .i64 v] w fun e w'=>e=.returned (.tuple #[.agg #[.int .i64 0,.int .i64 0,.int .i64 0,.int .i64 0,.int .i64 0,.int .i64 0],.int .i64 2])/\Below w.heap.size w w':=by
 go_enter Tryz.func14,Tryz.ntmps14
 go_wp2_with (first|(go_at_call 24;refine(wW _ _).mono ?_;rintro e w' ⟨rfl,rfl⟩)|(go_at_call 25;refine(wS _ _).mono ?_;rintro e w' ⟨rfl,rfl⟩))
 exact bodyPost_ret (v:=.tuple #[.agg #[.int .i64 0,.int .i64 0,.int .i64 0,.int .i64 0,.int .i64 0,.int .i64 0],.int .i64 2]) (by simp[results,Tryz.results14,go_sem]) rfl ⟨rfl,(Below.refl _ _).alloc (Nat.le_refl _) _⟩

set_option maxHeartbeats 400000 in
theorem qq0(t v:Int)(w:World)(h1:inB t 0 1048575=true)(h2:inB v (-1000000) 1000000=false):
  Calls Tryz.prog 14 #[.int .i64 t,.int .i64 v] w fun e w'=>e=.returned (.tuple #[.agg #[.int .i64 0,.int .i64 0,.int .i64 0,.int .i64 0,.int .i64 0,.int .i64 0],.int .i64 2])/\Below w.heap.size w w':=by
 go_enter Tryz.func14,Tryz.ntmps14
 go_wp2_with (first|(go_at_call 24;refine(wW _ _).mono ?_;rintro e w' ⟨rfl,rfl⟩)|(go_at_call 25;refine(wS _ _).mono ?_;rintro e w' ⟨rfl,rfl⟩))
 exact bodyPost_ret (v:=.tuple #[.agg #[.int .i64 0,.int .i64 0,.int .i64 0,.int .i64 0,.int .i64 0,.int .i64 0],.int .i64 2]) (by simp[results,Tryz.results14,go_sem]) rfl ⟨rfl,(Below.refl _ _).alloc (Nat.le_refl _) _⟩

end
end Go.Proofs.YtlojfgdpmaigmagGreatDoor
