/- tree.flush. -/
import Derived.Test.YtlojfgdpmaigmahGreatDoorP35
namespace Go.Proofs.YtlojfgdpmaigmahGreatDoor
open Go.RowKit Plain Go.Shelf

set_option maxRecDepth 20000 in
set_option maxHeartbeats 4000000 in
theorem qpd{T h:Nat}(base g C n:Nat)(qs:List PN)(kids:List Int)(lo hi:Int)(P:List Int)(r:Int)(k:Nat)(lf:Bool)(eA:Option Addr)(eN eC:Nat)(kA:Option Addr)(kN kC:Nat)(dA:Option Addr)(dN dC:Nat)(bA:Option Addr)(bC:Nat)(buf:List En)(kd:Int->Nat)(st:Int->Bool)(w:World)(hgl:g<w.heap.size)(hk:k<n)
  (n0:w.cell? ⟨g,k*5,none⟩=some (.bool lf)) (n1:w.cell? ⟨g,k*5+1,none⟩=some (.slice eA eN eC)) (n2:w.cell? ⟨g,k*5+2,none⟩=some (.slice kA kN kC)) (n3:w.cell? ⟨g,k*5+3,none⟩=some (.slice dA dN dC)) (n4:w.cell? ⟨g,k*5+4,none⟩=some (.slice bA buf.length bC)) (hbuf:q0i w.heap.size w bA (q0d buf)) (hfew:buf.length<=8)
  (HST:Hid (∀W,Below w.heap.size w W->∀x∈buf,Calls Tryz.prog 149 #[.agg #[.slice (some ⟨g,0,none⟩) n C,.int .i64 r],.int .i64 (k:Int),.int .i64 x.key] W fun e w'=>e=.returned (.bool (st x.key))/\Below W.heap.size W w'))
  (HKI:Hid (∀W,Below w.heap.size w W->∀x:En,Calls Tryz.prog 127 #[.agg #[.bool lf,.slice eA eN eC,.slice kA kN kC,.slice dA dN dC,.slice bA buf.length bC],.int .i64 x.key] W fun e w'=>e=.returned (.int .i64 (kd x.key:Int))/\Below W.heap.size W w'))
  (HKD:Hid (∀x∈buf,kd x.key<4)) (hn:qs.length=n) (hkP:(k:Int)∈P) (hB:base<=w.heap.size) (HNT:Hid (NT base w g C qs)) (HQB:Hid (∃q,qs[k]? =some q/\q.bA=bA/\q.buf=buf))
  (HD0:Hid (∀f:En->Bool,q4z T (qs.map PN.nd) ((qs.map PN.nd).set k { nth (qs.map PN.nd) (k:Int) with buf:=buf.filter fun x=>!f x }) h (k:Int) lo hi P (buf.filter f)))
  (HDK:Hid (∀ns' rest,q4z T (qs.map PN.nd) ns' h (k:Int) lo hi P rest->(nth ns' (k:Int)).kids=kids)) (HKK:Hid (∀x∈buf,kd x.key<kids.length))
  (HSK:Hid (∀(qs':List PN) (wr:World) (x:En) (rest:List En),NT base wr g C qs'->qs'.length=n->base<=wr.heap.size->q4z T (qs.map PN.nd) (qs'.map PN.nd) h (k:Int) lo hi P (x::rest)->x∈buf->st x.key=false->
   Calls Tryz.prog 91 #[.agg #[.slice (some ⟨g,0,none⟩) n C,.int .i64 r],.int .i64 (kids.getD (kd x.key) 0),.agg #[.int .i64 x.key,.int .i64 x.c,.int .i64 x.s,.int .i64 x.lo,.int .i64 x.hi,.int .i64 x.t,.int .i64 x.l]] wr
    fun e w'=>e=.returned (.tuple #[])/\∃qs'',q1w base wr g C qs' w' qs''/\q4z T (qs.map PN.nd) (qs''.map PN.nd) h (k:Int) lo hi P rest/\∀n:Nat,(n:Int)∉P->qs''[n]? =qs'[n]?)):
  Calls Tryz.prog 126 #[.agg #[.slice (some ⟨g,0,none⟩) n C,.int .i64 r],.int .i64 (k:Int)] w
   fun e w'=>e=.returned (.tuple #[])/\∃qs',q1w base w g C qs w' qs'/\q4z T (qs.map PN.nd) (qs'.map PN.nd) h (k:Int) lo hi P []/\∀n:Nat,(n:Int)∉P->qs'[n]? =qs[n]? :=by
 have i1:(k:Int)<(n:Int):=by omega
 have i0:(0:Int)<=(k:Int):=by omega
 have hb2:∀o1 o2:Obj,Below w.heap.size w ((w.alloc o1).alloc o2):=fun o1 o2=>((Below.refl _ _).alloc (Nat.le_refl _) o1).alloc (by simp) o2
 go_enter Tryz.func126,Tryz.ntmps126
 go_wp2_with fail
 go_loopw [24] (fun vi wr=>∃i:Nat,i<=buf.length/\vi=.int .i64 i/\Hid (FlA w wr g C n r)) (fun vi _=>buf.length-(intOf vi).toNat)
 case atStart=>
  refine⟨0,Nat.zero_le _,rfl,⟨hb2 _ _,?_,0,0,0,0,?_⟩⟩
  ·exact(q0b w [.slice (some ⟨g,0,none⟩) n C,.int .i64 r] _).of_block (Below.heap_alloc _ _ _ (by simp))
  ·have:=q0b (w.alloc (.cells #[.slice (some ⟨g,0,none⟩) n C,.int .i64 r] 43)) [.int .i64 0,.int .i64 0,.int .i64 0,.int .i64 0] 87
   simpa using this
 case round=>
  obtain⟨i,hil,rfl,HA⟩:=hrel
  have hbw:=HA.out.below
  have hsz:=HA.out.size
  have m0:=(hbw.cell (p:=⟨g,k*5,none⟩) hgl).trans n0
  have m1:=(hbw.cell (p:=⟨g,k*5+1,none⟩) hgl).trans n1
  have m2:=(hbw.cell (p:=⟨g,k*5+2,none⟩) hgl).trans n2
  have m3:=(hbw.cell (p:=⟨g,k*5+3,none⟩) hgl).trans n3
  have m4:=(hbw.cell (p:=⟨g,k*5+4,none⟩) hgl).trans n4
  have hgw:g<wr.heap.size:=by omega
  have bx0:wr.cell? ⟨w.heap.size,0,none⟩=some (.slice (some ⟨g,0,none⟩) n C):=HA.out.box.cell 0
  have bx1:wr.cell? ⟨w.heap.size,1,none⟩=some (.int .i64 r):=HA.out.box.cell 1
  have hs0:w.heap.size<wr.heap.size:=by omega
  by_cases hlt:i<buf.length
  ·obtain⟨b,o,rfl,hbl,hen⟩:=(hbuf.below hbw (Nat.le_refl _)).en hlt
   obtain⟨x,hx⟩:∃x,buf[i]=x:=⟨_,rfl⟩
   have hmem:x∈buf:=hx▸List.getElem_mem hlt
   rw[hx] at hen
   obtain⟨c0,c1,c2,c3,c4,c5,c6⟩:=hen
   have hbr:b<wr.heap.size:=by omega
   have hst:=q0a fun W hW=>HST.out W hW x hmem
   have hkd:=q0a fun W hW=>HKI.out W hW x
   have hkl:=HKD.out x hmem
   generalize st x.key=sx at hst
   generalize kd x.key=kx at hkd hkl
   have i3:(0:Int)<=(kx:Int):=by omega
   have i4:(kx:Int)<4:=by omega
   have hlti:(i:Int)<(buf.length:Int):=by omega
   have hii:(0:Int)<=(i:Int):=by omega
   have HX:=q0a hx
   clear hx HST HKI HKD n0 n1 n2 n3 n4 hbuf
   cases sx with
   |true=>
    go_wp2_with (go_at_call 149;refine(hst.out _ (hbw.alloc (by omega) _)).mono ?_;rintro e w1 ⟨rfl,hb1⟩;have HA1:=q0a (HA.out.next (q0e ((Below.refl _ _).alloc (Nat.le_refl _) _) (Nat.le_refl _) hb1));clear hb1)
    refine⟨⟨i+1,by omega,by go_num,HA1⟩,by simp[intOf];omega⟩
   |false=>
    go_wp2_with (go_at_call 149;refine(hst.out _ (hbw.alloc (by omega) _)).mono ?_;rintro e w1 ⟨rfl,hb1⟩;have hba:Below wr.heap.size wr w1:=q0e ((Below.refl _ _).alloc (Nat.le_refl _) _) (Nat.le_refl _) hb1;have HA1:=q0a (HA.out.next hba);have xk:w1.cell? ⟨wr.heap.size,0,none⟩=some (.int .i64 x.key):=(hb1.cell (p:=⟨wr.heap.size,0,none⟩) (by simp)).trans (by simp);have l0:=(hba.cell (p:=⟨g,k*5,none⟩) hgw).trans m0;have l1:=(hba.cell (p:=⟨g,k*5+1,none⟩) hgw).trans m1;have l2:=(hba.cell (p:=⟨g,k*5+2,none⟩) hgw).trans m2;have l3:=(hba.cell (p:=⟨g,k*5+3,none⟩) hgw).trans m3;have l4:=(hba.cell (p:=⟨g,k*5+4,none⟩) hgw).trans m4;have hb1w:=HA1.out.below;clear hb1 m0 m1 m2 m3 m4 c0 c1 c2 c3 c4 c5 c6 bx0 bx1)
    go_region_with (go_at_call 127;refine(hkd.out _ hb1w.drew).mono ?_;rintro e w2 ⟨rfl,hb2'⟩;have HA2:=q0a (HA1.out.next ((Below.refl _ _).drew.trans hb2'));obtain⟨v2,cv2⟩:=HA2.out.at hkl;have fv2:=HA2.out.frozen kx;clear hb2')
    all_goals
     go_wp2
     refine⟨⟨i+1,by omega,by go_num,HA2.out.set hkl _⟩,by simp[intOf];omega⟩
  ·obtain rfl:i=buf.length:=by omega
   have hlti:¬((buf.length:Int)<(buf.length:Int)):=by omega
   obtain⟨a0,a1,a2,a3,hwa⟩:=HA.out.waits
   have q0:wr.cell? ⟨w.heap.size+1,0,none⟩=some (.int .i64 a0):=hwa.cell 0
   have q1:wr.cell? ⟨w.heap.size+1,1,none⟩=some (.int .i64 a1):=hwa.cell 1
   have q2:wr.cell? ⟨w.heap.size+1,2,none⟩=some (.int .i64 a2):=hwa.cell 2
   have q3:wr.cell? ⟨w.heap.size+1,3,none⟩=some (.int .i64 a3):=hwa.cell 3
   have hgr:=q0a fun W=>qi0 a0 a1 a2 a3 W
   clear hwa
   go_wp2_with (go_at_call 150;refine(hgr.out _).mono ?_;rintro e w1 ⟨m,hm4,rfl,hb1⟩;have HA1:=q0a (HA.out.next hb1);have l4:=(hb1.cell (p:=⟨g,k*5+4,none⟩) hgw).trans m4;clear q0 q1 q2 q3 bx0 bx1 hgr)
   obtain⟨f,hf⟩:∃f:En->Bool,f=fun x=>(kd x.key==m)&& !(st x.key):=⟨_,rfl⟩
   have HF:=q0a hf
   clear hf
   go_loopw [9,10,52] (fun vs vd vi wr=>∃i:Nat,i<=buf.length/\vi=.int .i64 i/\Hid (FlB w wr g C n r ((buf.take i).filter fun x=>!f x) ((buf.take i).filter f) vs vd)) (fun _ _ vi _=>buf.length-(intOf vi).toNat)
   case atStart=>
    refine⟨0,Nat.zero_le _,rfl,⟨HA1.out.below,HA1.out.box,HA1.out.size,?_,?_,fun b hb=>by cases hb⟩⟩
    ·exact World.ownsRow_nil _ _ _ _
    ·exact World.ownsRow_nil _ _ _ _
   case round=>
    obtain⟨i,hil,rfl,HB⟩:=hrel
    have hbw:=HB.out.below
    have hsz:=HB.out.hz
    have hs0:w.heap.size<wr.heap.size:=by omega
    have hgw:g<wr.heap.size:=by omega
    by_cases hlt:i<buf.length
    ·obtain⟨b,o,rfl,hbl,hen⟩:=(hbuf.below hbw (Nat.le_refl _)).en hlt
     obtain⟨x,hx⟩:∃x,buf[i]=x:=⟨_,rfl⟩
     have hmem:x∈buf:=hx▸List.getElem_mem hlt
     rw[hx] at hen
     obtain⟨c0,c1,c2,c3,c4,c5,c6⟩:=hen
     have hbr:b<wr.heap.size:=by omega
     have hst:=q0a fun W hW=>HST.out W hW x hmem
     have hkd:=q0a fun W hW=>HKI.out W hW x
     have hfx:f x=((kd x.key==m)&& !(st x.key)):=by rw[HF.out]
     have m0:=(hbw.cell (p:=⟨g,k*5,none⟩) hgl).trans n0
     have m1:=(hbw.cell (p:=⟨g,k*5+1,none⟩) hgl).trans n1
     have m2:=(hbw.cell (p:=⟨g,k*5+2,none⟩) hgl).trans n2
     have m3:=(hbw.cell (p:=⟨g,k*5+3,none⟩) hgl).trans n3
     have m4:=(hbw.cell (p:=⟨g,k*5+4,none⟩) hgl).trans n4
     have bx0:wr.cell? ⟨w.heap.size,0,none⟩=some (.slice (some ⟨g,0,none⟩) n C):=HB.out.box.cell 0
     have bx1:wr.cell? ⟨w.heap.size,1,none⟩=some (.int .i64 r):=HB.out.box.cell 1
     have e1:=qdy hlt hx f
     have e2:=qdy hlt hx fun x=>!f x
     rw[hfx] at e1
     simp only[hfx] at e2
     have hle1:((buf.take i).filter f).length<=8:=Nat.le_trans (List.length_filter_le _ _) (by rw[List.length_take];omega)
     have hle2:((buf.take i).filter fun x=>!f x).length<=8:=Nat.le_trans (List.length_filter_le _ _) (by rw[List.length_take];omega)
     have HE1:=q0a e1
     have HE2:=q0a e2
     clear e1 e2 hfx HF
     generalize (buf.take i).filter f=dn at HB HE1 hle1
     generalize ((buf.take i).filter fun x=>!f x)=sl at HB HE2 hle2
     generalize st x.key=sx at hst HE1 HE2
     generalize kd x.key=kx at hkd HE1 HE2
     have hlti:(i:Int)<(buf.length:Int):=by omega
     have hii:(0:Int)<=(i:Int):=by omega
     have HX:=q0a hx
     obtain⟨i0',hi0,hz0,hz1,hz2⟩:=info_parts qcv
     clear hx HST HKI HKD n0 n1 n2 n3 n4 hbuf l4 HA HA1
     go_upto_region 14 with fail
     go_cut [71] from 56 to 71 (fun v wc=>v=.bool ((kx==m)&& !sx)/\Hid (FlB w wc g C n r sl dn u9 u10)/\Hid (RowL wc wr.heap.size 84 x.vals))
     case first=>
      by_cases hkm:kx=m
      ·subst hkm
       have hkk:((kx:Int)==(kx:Int))=true:=by simp
       have hkq:(kx==kx&& !sx)=!sx:=by simp
       have hgx:¬g=wr.heap.size:=by omega
       have hwx:¬w.heap.size=wr.heap.size:=by omega
       go_region_held3 (fun w'=>w'.cell? ⟨g,k*5,none⟩=some (.bool lf)/\w'.cell? ⟨g,k*5+1,none⟩=some (.slice eA eN eC)/\w'.cell? ⟨g,k*5+2,none⟩=some (.slice kA kN kC)/\w'.cell? ⟨g,k*5+3,none⟩=some (.slice dA dN dC)/\w'.cell? ⟨g,k*5+4,none⟩=some (.slice (some ⟨b,o,none⟩) buf.length bC)/\w'.cell? ⟨wr.heap.size,0,none⟩=some (.int .i64 x.key)/\w'.cell? ⟨w.heap.size,0,none⟩=some (.slice (some ⟨g,0,none⟩) n C)/\w'.cell? ⟨w.heap.size,1,none⟩=some (.int .i64 r)) (go_keep) (first
        |(go_at_call 127;refine(hkd.out _ ((hbw.alloc (by omega) _).drew)).mono ?_;rintro e w2 ⟨rfl,hb2'⟩;have hba:Below wr.heap.size wr w2:=q0e (((Below.refl _ _).alloc (Nat.le_refl _) _).drew) (Nat.le_refl _) hb2';have HB2:=q0a (HB.out.next hba);have hb2w:=HB2.out.below;have y0:w2.cell? ⟨w.heap.size,0,none⟩=some (.slice (some ⟨g,0,none⟩) n C):=HB2.out.box.cell 0;have y1:w2.cell? ⟨w.heap.size,1,none⟩=some (.int .i64 r):=HB2.out.box.cell 1;have X2:=q0a ((q0b wr x.vals 84).of_block (hb2'.block wr.heap.size (by simp)));have t0:=(hba.cell (p:=⟨g,k*5,none⟩) hgw).trans m0;have t1:=(hba.cell (p:=⟨g,k*5+1,none⟩) hgw).trans m1;have t2:=(hba.cell (p:=⟨g,k*5+2,none⟩) hgw).trans m2;have t3:=(hba.cell (p:=⟨g,k*5+3,none⟩) hgw).trans m3;have t4:=(hba.cell (p:=⟨g,k*5+4,none⟩) hgw).trans m4;have xk:w2.cell? ⟨wr.heap.size,0,none⟩=some (.int .i64 x.key):=X2.out.cell 0;clear hb2')
        |(go_at_call 149;refine(hst.out _ hb2w).mono ?_;rintro e w3 ⟨rfl,hb3⟩;have HB3:=q0a (HB2.out.next hb3);have X3:=q0a (X2.out.below hb3 X2.out.lt);have hba3:Below wr.heap.size wr w3:=q0e hba (Nat.le_refl _) hb3;have p0:=(hba3.cell (p:=⟨g,k*5,none⟩) hgw).trans m0;have p1:=(hba3.cell (p:=⟨g,k*5+1,none⟩) hgw).trans m1;have p2:=(hba3.cell (p:=⟨g,k*5+2,none⟩) hgw).trans m2;have p3:=(hba3.cell (p:=⟨g,k*5+3,none⟩) hgw).trans m3;have p4:=(hba3.cell (p:=⟨g,k*5+4,none⟩) hgw).trans m4;have xk3:w3.cell? ⟨wr.heap.size,0,none⟩=some (.int .i64 x.key):=X3.out.cell 0;have z0:w3.cell? ⟨w.heap.size,0,none⟩=some (.slice (some ⟨g,0,none⟩) n C):=HB3.out.box.cell 0;have z1:w3.cell? ⟨w.heap.size,1,none⟩=some (.int .i64 r):=HB3.out.box.cell 1))
       all_goals
        go_wp2
        go_meet
        case rel=>exact⟨by rw[hkq],HB3,X3⟩
      ·have hkk:((kx:Int)==(m:Int))=false:=by simp;omega
       have hkk2:decide ((kx:Int)=(m:Int))=false:=by simp;omega
       have hkk3:decide (kx=m)=false:=by simp[hkm]
       have hkk4:(kx==m)=false:=by simp[hkm]
       have hkk5:¬((kx:Int)=(m:Int)):=by omega
       have hkq:(kx==m&& !sx)=false:=by simp[hkm]
       first
        |(go_region_with (go_at_call 127;refine(hkd.out _ ((hbw.alloc (by omega) _).drew)).mono ?_;rintro e w2 ⟨rfl,hb2'⟩;have hba:Below wr.heap.size wr w2:=q0e (((Below.refl _ _).alloc (Nat.le_refl _) _).drew) (Nat.le_refl _) hb2';have HB2:=q0a (HB.out.next hba);have X2:=q0a ((q0b wr x.vals 84).of_block (hb2'.block wr.heap.size (by simp)));clear hb2'))
        |fail
       all_goals
        go_wp2
        go_meet
        case rel=>exact⟨by rw[hkq],HB2,X2⟩
     case rest=>
      obtain⟨rfl,HB3,X3⟩:=hcut
      have xc:=fun j=>X3.out.cell j
      simp only[En.vals] at xc
      have hs3:wr.heap.size<wc.heap.size:=X3.out.lt
      have hsz3:=HB3.out.hz
      by_cases hfx:((kx==m)&& !sx)=true
      ·rw[hfx]
       have E1:Hid ((buf.take (i+1)).filter f=dn++[x]):=by show _=_;rw[HE1.out,if_pos hfx]
       have E2:Hid (((buf.take (i+1)).filter fun x=>!f x)=sl):=by show _=_;rw[HE2.out,hfx];simp
       go_wp2_with (at_builtin;refine wpList_append_lies _ rfl _ _ 67 rfl (w.heap.size+2) 84 i0' _ 7 56 Tryz.underlying67 hi0 hz0 hz1 hz2 rfl (by decide) u10 dn.length (q0d dn) rfl (q0v HB3.out.od ((Below.refl _ _).alloc (Nat.le_refl _) _)) ⟨wc.heap.size,0,none⟩ 1 1 (q0d [x]) rfl rfl (qzc (q0b wc x.vals _)) (q2a _) (by decide) (by unfold maxLen;omega) (by omega) (by simp;omega) (wc.heap.size+1) (by simp) ?_;intro g' cap w4 hown hgrow hat hlt')
       refine⟨⟨i+1,by omega,by go_num,?_⟩,by simp[intOf];omega⟩
       show FlB _ _ _ _ _ _ _ _ _ _
       rw[E1.out,E2.out]
       exact(HB3.out.next ((Below.refl _ _).alloc (Nat.le_refl _) _)).addD hown hgrow (by simpa using hat)
      ·have hfx':((kx==m)&& !sx)=false:=by simpa using hfx
       rw[hfx']
       have E1:Hid ((buf.take (i+1)).filter f=dn):=by show _=_;rw[HE1.out,hfx'];simp
       have E2:Hid (((buf.take (i+1)).filter fun x=>!f x)=sl++[x]):=by show _=_;rw[HE2.out,hfx'];simp
       go_wp2_with (at_builtin;refine wpList_append_lies _ rfl _ _ 67 rfl (w.heap.size+2) 84 i0' _ 7 56 Tryz.underlying67 hi0 hz0 hz1 hz2 rfl (by decide) u9 sl.length (q0d sl) rfl (q0v HB3.out.os ((Below.refl _ _).alloc (Nat.le_refl _) _)) ⟨wc.heap.size,0,none⟩ 1 1 (q0d [x]) rfl rfl (qzc (q0b wc x.vals _)) (q2a _) (by decide) (by unfold maxLen;omega) (by omega) (by simp;omega) (wc.heap.size+1) (by simp) ?_;intro g' cap w4 hown hgrow hat hlt')
       refine⟨⟨i+1,by omega,by go_num,?_⟩,by simp[intOf];omega⟩
       show FlB _ _ _ _ _ _ _ _ _ _
       rw[E1.out,E2.out]
       exact(HB3.out.next ((Below.refl _ _).alloc (Nat.le_refl _) _)).addS hown hgrow (by simpa using hat)
    ·obtain rfl:i=buf.length:=by omega
     have hlti:¬((buf.length:Int)<(buf.length:Int)):=by omega
     rw[List.take_length] at HB
     have HF2:=q0a (HD0.out f)
     have hle2:(buf.filter fun x=>!f x).length<=8:=Nat.le_trans (List.length_filter_le _ _) hfew
     have hle1:(buf.filter f).length<=8:=Nat.le_trans (List.length_filter_le _ _) hfew
     have hdn:Hid (∀x∈buf.filter f,x∈buf/\kd x.key=m/\st x.key=false):=fun x hx=>by
      obtain⟨h1,h2⟩:=List.mem_filter.1 hx
      rw[HF.out] at h2
      simp at h2
      exact⟨h1,h2.1,h2.2⟩
     generalize buf.filter f=dn at HB HF2 hdn hle1
     generalize (buf.filter fun x=>!f x)=sl at HB HF2 hle2
     obtain⟨As,Cs,hu9,-⟩:=q0g HB.out.os
     obtain⟨Ad,Cd,hu10,-⟩:=q0g HB.out.od
     subst hu9 hu10
     have fz4:wr.frozen? ⟨g,k*5+4,none⟩=false:=(hbw.frozen (p:=⟨g,k*5+4,none⟩) hgl).trans (HNT.out.free _)
     have m4:=(hbw.cell (p:=⟨g,k*5+4,none⟩) hgl).trans n4
     obtain⟨q,hq1,hq2,hq3⟩:=HQB.out
     obtain⟨hk',hqk⟩:=List.getElem?_eq_some_iff.1 hq1
     have HC0:=q0a (qsu HNT.out hk' hqk hB hn hkP HF2.out hle2 HB.out)
     clear HA HA1 l4 HB hq1 hq2 hq3 HQB HST HKI n0 n1 n2 n3 n4 HD0 HF2 hbuf HF
     go_wp2_with fail
     generalize wr.setCell ⟨g,k*5+4,none⟩ (.slice As sl.length Cs)=w1 at HC0 ⊢
     generalize qs.set k { q with buf:=sl,bA:=As,bC:=Cs }=qs0 at HC0
     clear hqk m4 fz4
     go_loopw [87] (fun vj wr=>∃(j:Nat) (qs':List PN),j<=dn.length/\vj=.int .i64 j/\Hid (FlC T h base w w1 wr g C qs k lo hi P r dn (dn.drop j) As Ad Cd qs')) (fun vj _=>dn.length-(intOf vj).toNat)
     case atStart=>exact⟨0,qs0,Nat.zero_le _,rfl,HC0⟩
     case round=>
      obtain⟨j,qs',hjl,rfl,HC⟩:=hrel
      by_cases hjlt:j<dn.length
      ·have ok:=HC.out.ok
       obtain⟨x,hx⟩:∃x,dn[j]=x:=⟨_,rfl⟩
       rw[List.drop_eq_getElem_cons hjlt,hx] at ok
       obtain⟨hxb,hxk,hxs⟩:=hdn.out x (hx▸List.getElem_mem hjlt)
       have hmk:m<kids.length:=by rw[<-hxk];exact HKK.out x hxb
       obtain⟨db,doff,dC',n3,hdl,nk⟩:=HC.out.kid (by omega) (HDK.out _ _ ok) hmk
       obtain⟨b,o,hAd,hbl,hen⟩:=(q3d HC.out.od).1.en hjlt
       rw[hx] at hen
       obtain⟨c0,c1,c2,c3,c4,c5,c6⟩:=hen
       have hsk:=q0a fun W (hW:Below wr.heap.size wr W)=>HSK.out qs' W x _ (HC.out.mem.nt.below hW (Nat.le_refl _)) (HC.out.mem.len.trans hn) (Nat.le_trans (Nat.le_trans hB HC.out.mem.kept.size) hW.size) ok hxb hxs
       rw[hxk] at hsk
       generalize kids.getD m 0=kp at nk hsk
       have bx0:wr.cell? ⟨w.heap.size,0,none⟩=some (.slice (some ⟨g,0,none⟩) n C):=by rw[<-hn];exact HC.out.box.cell 0
       have bx1:wr.cell? ⟨w.heap.size,1,none⟩=some (.int .i64 r):=HC.out.box.cell 1
       have hs0:w.heap.size<wr.heap.size:=HC.out.box.lt
       have hgw:g<wr.heap.size:=by omega
       have hltj:(j:Int)<(dn.length:Int):=by omega
       have hj0:(0:Int)<=(j:Int):=by omega
       have hm0:(0:Int)<=(m:Int):=by omega
       have hm1:(m:Int)<(kids.length:Int):=by omega
       have hb0:∀ob:Obj,Below wr.heap.size wr (wr.alloc ob):=fun ob=>(Below.refl _ _).alloc (Nat.le_refl _) ob
       subst hAd
       clear hxk hxs hxb hx ok HSK HDK HKK HC0 hdn
       go_upto_region 22 with fail
       go_region_with (go_at_call 91;refine(hsk.out _ ((hb0 _).drew)).mono ?_;rintro e w3 ⟨rfl,qs'',hm3,hok3,hpn3⟩;have HC3:=q0a (HC.out.step HNT.out ((hb0 _).drew) hm3 hok3 hpn3);clear hm3 hok3 hpn3)
       all_goals
        go_wp2
        exact⟨⟨j+1,qs'',by omega,by go_num,HC3⟩,by simp[intOf];omega⟩
      ·obtain rfl:j=dn.length:=by omega
       have hltj:¬((dn.length:Int)<(dn.length:Int)):=by omega
       go_wp2_with fail
       go_end0
       have e:=HC.out.ok
       rw[List.drop_length] at e
       exact⟨rfl,qs',HC.out.mem,e,HC.out.pn⟩

end Go.Proofs.YtlojfgdpmaigmahGreatDoor
