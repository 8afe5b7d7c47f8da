/- slices.Grow of no acts; slices.Concat of rows of acts. -/
import Derived.Test.YtlojfgdpmaigmagGreatDoorActsWalk
import Derived.Test.YtlojfgdpmaigmagGreatDoorLaysG
import Derived.Shelf.Spec.SlicesGrow
import Derived.Laws.AppendOwnNone
namespace Go.Proofs.YtlojfgdpmaigmagGreatDoor
open Go.RowKit Plain Go.Shelf

theorem qrt(n:Nat)(w:World)(hn:n<=1000):Calls Tryz.prog 32 #[.slice none 0 0,.int .i64 (n:Int)] w fun e w'=>∃v,e=.returned v/\w'.ownsRow w.heap.size 26 6 v 0 []/\Below w.heap.size w w':=by
 obtain⟨i0,hi0,hz0,hz1,hz2⟩:=info_parts qiy
 by_cases h0:n=0
 ·subst h0
  refine Calls.mono (Any8.slices_Grow_room Tryz.growC none 0 0 0 w (Nat.le_refl _) (by decide) (by decide) (Nat.le_refl _)) ?_
  rintro e w' ⟨rfl,rfl⟩
  exact⟨_,rfl,World.ownsRow_nil _ _ _ _,Below.refl _ _⟩
 ·have h:=Any8.slices_Grow_grow Tryz.growC i0 _ hi0 hz0 (by omega) none 0 0 n [] w (Nat.le_refl _) (by omega) (by rw[hz2];omega) (by omega) (by simp) (fun _=>rfl) (fun a h=>by cases h)
  refine Calls.mono h ?_
  rintro e w' ⟨rfl,rfl⟩
  refine⟨_,rfl,?_,?_⟩
  ·refine World.ownsRow_made w.drew _ _ (Nat.le_refl _) (grownCap_le_maxLen _ _ _ _ (by unfold maxLen;omega)) ?_
   have hge:=grownCap_ge w (0+n) 0 26
   obtain⟨G,hG⟩:∃G,grownCap w (0+n) 0 26=G:=⟨_,rfl⟩
   have hG':grownCap w (0+n) 0 (Tryz.growC_ren.t 25)=G:=hG
   rw[hG] at hge
   rw[hG']
   rw[Array.size_append,Array.size_append,size_zeroCells,size_zeroCells]
   simp[Value.cells]
   omega
  ·exact((Below.refl _ _).drew).alloc (by simp) _

structure Sl where
 A:Option Addr
 C:Nat
 l:List Ac

def Sl.v(x:Sl):Value:=.slice x.A x.l.length x.C
def cat(ls:List Sl):List Ac:=(ls.map Sl.l).flatten

theorem qnc{ls:List Sl}{k:Nat}(h:k<ls.length):cat (ls.take (k+1))=cat (ls.take k)++ls[k].l:=by
 unfold cat
 rw[List.take_succ_eq_append_getElem h,List.map_append,List.flatten_append]
 simp

theorem qf9{ls:List Sl}(k:Nat):(cat (ls.take k)).length<=(cat ls).length:=by
 have e:ls=ls.take k++ls.drop k:=(List.take_append_drop k ls).symm
 have h:cat ls=cat (ls.take k)++cat (ls.drop k):=by
  conv=>lhs;rw[e]
  unfold cat
  rw[List.map_append,List.flatten_append]
 rw[h,List.length_append]
 omega

structure SlAt(w:World)(x:Sl):Prop where
 row:q0i w.heap.size w x.A (q0z x.l)
 nn:x.A=none->x.C=0/\x.l=[]

theorem SlAt.up{w w':World}{x:Sl}(h:SlAt w x)(hb:Below w.heap.size w w'):SlAt w' x:=⟨h.row.up hb,h.nn⟩

set_option maxRecDepth 20000 in
set_option maxHeartbeats 2000000 in
theorem qfv(GA:Option Addr)(GC:Nat)(ls:List Sl)(w:World)(hG:q0i w.heap.size w GA (ls.map Sl.v))(hl:∀x∈ls,SlAt w x)(hn:(cat ls).length<=500)(hls:ls.length<=10):
  Calls Tryz.prog 18 #[.slice GA ls.length GC] w fun e w'=>∃v,e=.returned v/\w'.ownsRow w.heap.size 26 6 v (cat ls).length (q0z (cat ls))/\Below w.heap.size w w':=by
 obtain⟨i0,hi0,hz0,hz1,hz2⟩:=info_parts qiy
 have HG:=q0a hG
 have HL:=q0a hl
 clear hG hl
 go_enter Tryz.func18,Tryz.ntmps18
 go_wp2_with fail
 go_loopw [3,5,11] (fun vs _ vi wr=>∃k:Nat,k<=ls.length/\vi=.int .i64 (k:Int)/\vs=.int .i64 ((cat (ls.take k)).length:Int)/\Below w.heap.size w wr) (fun _ _ vi _=>ls.length-(intOf vi).toNat)
 case atStart=>exact⟨0,Nat.zero_le _,rfl,rfl,Below.refl _ _⟩
 case round=>
  obtain⟨k,hk,rfl,rfl,hbl⟩:=hrel
  by_cases hlt:k<ls.length
  ·have hGb:=HG.out.below hbl (Nat.le_refl _)
   obtain⟨b,o,hA,hbb,hc⟩:∃b o,GA=some ⟨b,o,none⟩/\b<w.heap.size/\wr.cell? ⟨b,o+k,none⟩=some ls[k].v:=by
    rcases hGb with h|⟨b,o,hA,hb,hc⟩
    ·have h2:ls=[]:=by simpa using h
     subst h2
     simp at hlt
    ·exact⟨b,o,hA,hb,hc k _ (by rw[List.getElem?_map,List.getElem?_eq_getElem hlt];rfl)⟩
   subst hA
   have hct:=qnc hlt
   have hcl:=qf9 (ls:=ls) (k+1)
   have HCT:=q0a (congrArg List.length hct)
   rw[hct,List.length_append] at hcl
   have HCL:Hid ((cat (ls.take (k+1))).length=(cat (ls.take k)).length+ls[k].l.length):=by
    show _=_
    rw[hct,List.length_append]
   clear hct HCT hGb
   generalize ls[k]=x at *
   obtain⟨XA,XC,xl⟩:=x
   simp only[Sl.v] at hc hcl HCL
   obtain⟨n,hn1⟩:∃n,(cat (ls.take k)).length=n:=⟨_,rfl⟩
   obtain⟨m,hm1⟩:∃m,xl.length=m:=⟨_,rfl⟩
   rw[hn1,hm1] at hcl HCL
   rw[hn1]
   rw[hm1] at hc
   clear hn1 hm1
   have w0:IntKind.i64.wrap ((n:Int)+(m:Int))=(n:Int)+(m:Int):=by rw[IntKind.wrap_i64];omega
   have nl:¬(n:Int)+(m:Int)<0:=by omega
   have q0:(0:Int)<=(k:Int):=by omega
   have q1:(k:Int)<(ls.length:Int):=by omega
   have hge:=hbl.size
   have lbr:b<wr.heap.size:=by omega
   have HBL:=q0a hbl
   clear hbl
   go_wp2_with fail
   go_roundw
   case rel=>
    go_light
    refine⟨k+1,hlt,by go_num,?_,HBL.out⟩
    first
     |(rw[HCL.out];go_num)
     |(rw[w0,HCL.out];go_num)
   case measure=>simp[intOf];omega
  ·have hkk:k=ls.length:=by omega
   have htk:ls.take k=ls:=by rw[hkk];exact List.take_length
   rw[htk]
   obtain⟨n,hn1⟩:∃n,(cat ls).length=n:=⟨_,rfl⟩
   have HN:=q0a hn1
   rw[hn1] at hn ⊢
   clear hn1 htk hkk
   obtain⟨v0,hv0⟩:∃v0,v0=u5:=⟨_,rfl⟩
   have GR:=q0a (qrt n wr (by omega))
   have HBL:=q0a hbl
   clear hbl
   go_wp2_with (go_at_call 32;refine GR.out.mono ?_;rintro e w2 ⟨v2,rfl,ho2,hb2⟩;have HO2:=q0a ho2;have HB2:=q0a (q0e HBL.out (Nat.le_refl _) hb2);have HW2:=q0a hb2;clear ho2 hb2 GR)
   obtain⟨wl,hwl⟩:∃wl,wl=wr:=⟨_,rfl⟩
   subst hwl
   go_loopw [6,8,27] (fun vo _ vi wq=>∃k:Nat,k<=ls.length/\vi=.int .i64 (k:Int)/\Below wl.heap.size wl wq/\wq.ownsRow wl.heap.size 26 6 vo (cat (ls.take k)).length (q0z (cat (ls.take k)))) (fun _ _ vi _=>ls.length-(intOf vi).toNat)
   case atStart=>exact⟨0,Nat.zero_le _,rfl,HW2.out,HO2.out⟩
   case round=>
    obtain⟨j,hj,rfl,hbq,hoq⟩:=hrel
    have hb0:=q0e HBL.out (Nat.le_refl _) hbq
    by_cases hlt:j<ls.length
    ·have hGb:=HG.out.below hb0 (Nat.le_refl _)
     obtain⟨b,o,hA,hbb,hc⟩:∃b o,GA=some ⟨b,o,none⟩/\b<w.heap.size/\wr.cell? ⟨b,o+j,none⟩=some ls[j].v:=by
      rcases hGb with h|⟨b,o,hA,hb,hc⟩
      ·have h2:ls=[]:=by simpa using h
       subst h2
       simp at hlt
      ·exact⟨b,o,hA,hb,hc j _ (by rw[List.getElem?_map,List.getElem?_eq_getElem hlt];rfl)⟩
     subst hA
     have hct:=q0a (qnc hlt)
     have hcl:=qf9 (ls:=ls) (j+1)
     rw[hct.out,List.length_append] at hcl
     have hsl:=(HL.out _ (List.getElem_mem hlt)).up hb0
     obtain⟨pre,hpre⟩:∃pre,cat (ls.take j)=pre:=⟨_,rfl⟩
     rw[hpre] at hct hcl hoq
     clear hpre hGb
     generalize ls[j]=x at *
     obtain⟨XA,XC,xl⟩:=x
     obtain⟨hrow,hnn⟩:=hsl
     simp only[Sl.v] at hc hcl hct hrow hnn
     have q0:(0:Int)<=(j:Int):=by omega
     have q1:(j:Int)<(ls.length:Int):=by omega
     have lbr:b<wr.heap.size:=by have:=hb0.size;omega
     have hge:=hbq.size
     have HO:=q0a hoq
     have HBQ:=q0a hbq
     have HN2:=HN.out
     clear hoq hbq hb0
     cases XA with
     |none=>
      obtain⟨rfl,rfl⟩:=hnn rfl
      simp only[List.length_nil] at hc
      clear hrow hnn
      go_wp2_with (at_builtin;refine wpList_append_own_none rfl _ _ 23 rfl wl.heap.size 26 i0 6 Tryz.underlying23 hi0 u6 pre.length (q0z pre) rfl HO.out rfl ?_)
      go_roundw
      case rel=>
       go_light
       refine⟨j+1,hlt,by go_num,HBQ.out,?_⟩
       rw[hct.out,List.append_nil]
       exact HO.out
      case measure=>simp[intOf];omega
     |some ad=>
      have hnews:=q0a (qkv hrow)
      have HFL:=q0a (q1c xl)
      have HF1:=q0a (q2q xl)
      obtain⟨fl,hfl⟩:∃fl,q0z xl=fl:=⟨_,rfl⟩
      have HFX:=q0a hfl
      rw[hfl] at hnews HFL HF1
      obtain⟨m,hm⟩:∃m,xl.length=m:=⟨_,rfl⟩
      have HM:=q0a hm
      rw[hm] at hc hcl HFL
      clear hfl hm hrow hnn
      go_wp2_with (at_builtin;refine wpList_append_own _ rfl _ _ 23 rfl wl.heap.size 26 i0 _ 6 56 Tryz.underlying23 hi0 hz0 hz1 hz2 rfl (by decide) u6 pre.length (q0z pre) rfl HO.out ad m XC fl rfl HFL.out hnews.out HF1.out (by unfold maxLen;omega) (by omega) hge ?_;intro v7 w7 hown7 hgrow7 _;have HO7:=q0a hown7;have HG7:=q0a hgrow7;clear hown7 hgrow7)
      go_roundw
      case rel=>
       go_light
       refine⟨j+1,hlt,by go_num,⟨HG7.out.os.trans HBQ.out.os,HG7.out.tape.trans HBQ.out.tape,HG7.out.output.trans HBQ.out.output,Nat.le_trans HBQ.out.size HG7.out.size,fun q hq=>(HG7.out.block q (Nat.lt_of_lt_of_le hq HBQ.out.size) fun e=>by have:=(HO.out.lt q e.symm).1;omega).trans (HBQ.out.block q hq)⟩,?_⟩
       rw[hct.out,List.length_append,q4q,HM.out,HFX.out]
       exact HO7.out
      case measure=>simp[intOf];omega
    ·have hkk:j=ls.length:=by omega
     have htk:ls.take j=ls:=by rw[hkk];exact List.take_length
     rw[htk] at hoq
     have HO:=q0a hoq
     have HB0:=q0a hb0
     clear hoq hb0 htk hbq
     go_wp2_with fail
     go_ret
     exact⟨_,rfl,q0l HO.out HBL.out.size,HB0.out⟩

end Go.Proofs.YtlojfgdpmaigmagGreatDoor
