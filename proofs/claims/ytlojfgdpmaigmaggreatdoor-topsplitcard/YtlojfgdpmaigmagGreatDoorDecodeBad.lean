/- file.Decode, of bytes that do not stand: its walk. -/
import Derived.Test.YtlojfgdpmaigmagGreatDoorP49
import Derived.Test.YtlojfgdpmaigmagGreatDoorP23
namespace Go.Proofs.YtlojfgdpmaigmagGreatDoor
open Go.RowKit Plain Go.Shelf

theorem qf7{A:Option Addr}{C:Nat}{bs:List Int}{w:World}(h:aX w.heap.size w A C bs)(hu:U8 bs)(hc:dK bs≠0):
  Calls Tryz.prog 123 #[.slice A bs.length C] w fun e w'=>e=.returned (.tuple #[.slice none 0 0,.int .i64 (dK bs)])/\Below w.heap.size w w':=by
 refine(q3x A C bs w h hu).mono ?_;rintro e w' ⟨hb,⟨_,he⟩|⟨h0,_⟩⟩
 ·exact⟨he,hb⟩
 ·exact absurd h0 hc

theorem q7n{A:Option Addr}{C:Nat}{bs:List Int}{w:World}(h:bs.length<6):
  Calls Tryz.prog 123 #[.slice A bs.length C] w fun e w'=>e=.returned (.tuple #[.slice none 0 0,.int .i64 (dK bs)])/\Below w.heap.size w w':=by
 have hc:dK bs=5:=by unfold dK;rw[if_neg (by omega),if_pos h]
 rw[hc];have h1':¬(200000:Int)<(bs.length:Int):=by omega
 have h2':(bs.length:Int)<6:=by omega
 clear hc
 go_enter Tryz.func123,Tryz.ntmps123
 go_wp2;exact bodyPost_ret (v:=.tuple #[.slice none 0 0,.int .i64 5]) (by simp[results,Tryz.results123,go_sem]) rfl ⟨rfl,Below.refl _ _⟩

set_option maxRecDepth 20000 in
set_option maxHeartbeats 4000000 in
theorem qai(A:Option Addr)(C:Nat)(bs:List Int)(w:World)(h:bs=[]\/aX w.heap.size w A C bs)(hu:U8 bs)(hc:dK bs≠0):
  Calls Tryz.prog 102 #[.slice A bs.length C] w fun e w'=>e=.returned (.tuple #[.agg #[.slice none 0 0,.slice none 0 0,.int .i64 0,.slice none 0 0,.int .i64 0,.slice none 0 0,.int .i64 0,.int .i64 0],.int .i64 (dK bs)])/\Below w.heap.size w w':=by
 have b0:∀o:Obj,Below w.heap.size w (w.alloc o):=fun o=>(Below.refl _ _).alloc (Nat.le_refl _) o
 have con:Hid (∀o:Obj,Calls Tryz.prog 123 #[.slice A bs.length C] (w.alloc o) fun e w'=>e=.returned (.tuple #[.slice none 0 0,.int .i64 (dK bs)])/\Below (w.alloc o).heap.size (w.alloc o) w'):=fun o=>by
  rcases h with h|h
  ·exact q7n (by rw[h];decide)
  ·exact qf7 (w:=w.alloc o) ((h.below (b0 o) (Nat.le_refl _)).mono (by simp)) hu hc
 obtain⟨c,hcc⟩:∃c,dK bs=c:=⟨_,rfl⟩;rw[hcc] at con hc ⊢;have hne:(c != 0)=true:=by simpa using hc
 clear h hu hcc hc
 go_enter Tryz.func102,Tryz.ntmps102
 go_upto_region 2 with(first
  |(go_at_call 123;refine(con.out _).mono ?_;rintro e w1 ⟨rfl,hb1⟩;have XB:=aA ((aG w [.slice none 0 0,.slice none 0 0,.int .i64 0,.slice none 0 0,.int .i64 0,.slice none 0 0,.int .i64 0,.int .i64 0] 35).below hb1 (by simp));have x:=fun j=>XB.out.cell j;have lx:=XB.out.lt;have fx:=fun j=>XB.out.frozen j;have HB1:=aA (aC (b0 _) (Nat.le_refl _) hb1);clear hb1))
 go_wp2_with fail;refine bodyPost_ret (v:=.tuple #[.agg #[.slice none 0 0,.slice none 0 0,.int .i64 0,.slice none 0 0,.int .i64 0,.slice none 0 0,.int .i64 0,.int .i64 0],.int .i64 c]) (by simp[results,Tryz.results102,go_sem,x]) rfl ⟨rfl,?_⟩
 exact fA HB1.out (Nat.le_refl _) _ _ _ _ _ _ _ _

end Go.Proofs.YtlojfgdpmaigmagGreatDoor
