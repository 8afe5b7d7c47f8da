/- base.bucketsOf: what comes of points, in buckets of a size. -/
import Derived.Test.YtlojfgdpmaigmafGreatDoorP37
import Derived.Test.YtlojfgdpmaigmafGreatDoorP02
import Derived.Test.YtlojfgdpmaigmafGreatDoorP22
import Derived.BigQuiet
import Derived.Test.YtlojfgdpmaigmafGreatDoorP38
namespace Go.Proofs.YtlojfgdpmaigmafGreatDoor
section
open Go.RowKit Plain

theorem qyg{size:Int}{l:List En}{i:Nat}(hi:i<l.length):(l.map (bk size))[i]'(by simpa using hi)=bk size l[i]:=by simp

theorem qoe{l:List En}(hp:l.Pairwise fun a b=>a.key<b.key){size:Int}(hs:size=1\/size=60\/size=3600):(l.map (bk size)).Pairwise fun a b=>a.key<=b.key:=by
 rcases hs with rfl|hs
 ·rw[List.pairwise_map]
  refine hp.imp fun h=>?_
  rw[qsj,qsj]
  omega
 ·exact qql hp hs

set_option maxRecDepth 20000 in
set_option maxHeartbeats 1000000 in
theorem qc0(A:Option Addr)(C:Nat)(l:List En)(size:Int)(hs:size=1\/size=60\/size=3600)(w:World)(h:q0j w.heap.size w A (q0d l))(hz:l.length<=28000)(hp:l.Pairwise fun a b=>a.key<b.key)(hg:∀x∈l,Good x.ru)(hk:∀x∈l,0<=x.key/\x.key<1099511627776)(Q:Ending->World->Prop)
  (HQ:Hid (∀e w',Below w.heap.size w w'->(∀ys,q1c size l=some ys->∃v,e=.returned (.tuple #[v,.int .i64 0])/\w'.ownsRow w.heap.size 86 7 v ys.length (q0d ys))->(q1c size l=none->e=.returned (.tuple #[.slice none 0 0,.int .i64 1]))->Q e w')):
  Calls Tryz.prog 110 #[.slice A l.length C,.int .i64 size] w Q:=by
 obtain⟨i0,hi0,hz0,hz1,hz2⟩:=info_parts qci
 have HS:Hid ((l.map (bk size)).Pairwise fun a b=>a.key<=b.key):=qoe hp hs
 go_enter Tryz.func110,Tryz.ntmps110
 go_wp2_with fail
 go_loopw [6,15] (fun vo vi wr=>∃(i:Nat) (out:List En),i<=l.length/\vi=.int .i64 i/\Hid (Brg (l.map (bk size)) i out)/\out.length<=i/\wr.ownsRow w.heap.size 86 7 vo out.length (q0d out)/\Below w.heap.size w wr) (fun _ vi _=>l.length-(intOf vi).toNat)
 case atStart=>exact⟨0,[],Nat.zero_le _,rfl,qiq _,by simp,World.ownsRow_nil _ _ _ _,Below.refl _ _⟩
 case round=>
  obtain⟨i,out,hi,rfl,HB,hol,hown,hb⟩:=hrel
  have hsz:=hb.size
  by_cases hlt:i<l.length
  ·obtain⟨b,o,rfl,hbl,c0,c1,c2,c3,c4,c5,c6⟩:=(h.below hb (Nat.le_refl _)).en hlt
   have hbr:b<wr.heap.size:=by omega
   have hki:=hk _ (List.getElem_mem hlt)
   have hgi:=hg _ (List.getElem_mem hlt)
   have hly:i<(l.map (bk size)).length:=by simpa using hlt
   have hyi:=qyg (size:=size) hlt
   obtain⟨x,hx⟩:∃x,l[i]=x:=⟨_,rfl⟩
   rw[hx] at c0 c1 c2 c3 c4 c5 c6 hki hgi hyi
   have hkm:0<=x.key%1048576/\x.key%1048576<1048576:=by omega
   have hkd:0<=x.key/1048576/\x.key/1048576<1048576:=by omega
   obtain⟨tb,htb⟩:∃tb,tb=x.key%1048576-x.key%1048576%size:=⟨_,rfl⟩
   have htbb:0<=tb/\tb<1048576:=by rw[htb];rcases hs with rfl|rfl|rfl<;>omega
   obtain⟨kx,hkx⟩:∃kx,kx=x.key/1048576*1048576+tb:=⟨_,rfl⟩
   have HX:Hid (bk size x=⟨kx,x.c,x.s,x.lo,x.hi,x.t,x.l⟩):=by
    show _=_
    rw[hkx,htb,show x.key/1048576*1048576+(x.key%1048576-x.key%1048576%size)=(bk size x).key from(qxa x size).symm]
    rfl
   have hkxb:0<=kx/\kx<1099511627776:=by omega
   have q1:∀W,Calls Tryz.prog 127 #[.int .i64 x.key] W fun e w'=>e=.returned (.int .i64 (x.key/1048576))/\∃m,w'=W.drewN m:=fun W=>(q4e x.key W hki).mono fun _ _ ⟨a1,a2⟩=>⟨a1,0,by rw[a2];rfl⟩
   have q2:∀W,Calls Tryz.prog 126 #[.int .i64 x.key] W fun e w'=>e=.returned (.int .i64 (x.key%1048576))/\∃m,w'=W.drewN m:=fun W=>(q1z x.key W hki).mono fun _ _ ⟨a1,a2⟩=>⟨a1,0,by rw[a2];rfl⟩
   have q3:∀W,Calls Tryz.prog 101 #[.int .i64 (x.key%1048576),.int .i64 size] W fun e w'=>e=.returned (.int .i64 tb)/\∃m,w'=W.drewN m:=fun W=>(q3m (x.key%1048576) size W (by omega) hs).mono fun _ _ ⟨a1,a2⟩=>⟨by rw[a1,htb],0,by rw[a2];rfl⟩
   have q4:∀W,Calls Tryz.prog 100 #[.int .i64 (x.key/1048576),.int .i64 tb] W fun e w'=>e=.returned (.int .i64 kx)/\∃m,w'=W.drewN m:=fun W=>(q8b (x.key/1048576) tb W hkd htbb).mono fun _ _ ⟨a1,a2⟩=>⟨by rw[a1,hkx],0,by rw[a2];rfl⟩
   clear htb hkx
   rcases List.eq_nil_or_concat out with rfl|⟨l',y,rfl⟩
   ·have HB':Hid (Brg (l.map (bk size)) (i+1) ([]++[En.mk kx x.c x.s x.lo x.hi x.t x.l])):=by
     have q:=qfx HS.out HB.out hly (by rw[hyi];exact hgi) (fun l y e=>by simp at e)
     rw[hyi,HX.out] at q
     exact q
    clear HB
    obtain⟨A0,C0,hv,hr0,hA0⟩:=q0h hown
    simp only[List.length_nil] at hv
    rw[hv]
    go_wp2_with fail
    go_quiet (first|(refine Calls.quiet_of (q1 _))|(refine Calls.quiet_of (q2 _))|(refine Calls.quiet_of (q3 _))|(refine Calls.quiet_of (q4 _)))
    have hownd:(wr.drewN nq).ownsRow w.heap.size 86 7 (.slice A0 0 C0) 0 (q0d []):=by
     rw[<-hv]
     exact q0c hown (fun _ _=>rfl)
    have hbd:=q2b hb nq
    go_wp2_with (at_builtin;refine wpList_append_own _ rfl _ _ 33 rfl w.heap.size 86 i0 _ 7 56 Tryz.underlying33 hi0 hz0 hz1 hz2 rfl (by decide) (.slice A0 0 C0) 0 (q0d []) rfl ((hownd.alloc _).alloc _) ⟨wr.heap.size+1,0,none⟩ 1 1 (En.mk kx x.c x.s x.lo x.hi x.t x.l).vals rfl rfl (qqr (wr.drewN nq) _ (En.mk kx x.c x.s x.lo x.hi x.t x.l)) (q9t _) (by unfold maxLen;omega) (by omega) (by simp;omega) ?_;intro v2 w2 hown2 hgrow2 _)
    have R1:=qaw (out:=[]) (hownd.alloc _) (hbd.alloc (by simpa using hsz) _) (by simp;omega) hgrow2
    go_wp2
    go_roundw
    case rel=>
     go_light
     exact⟨i+1,[]++[En.mk kx x.c x.s x.lo x.hi x.t x.l],by omega,by go_num,HB',by simp,qef (out:=[]) hown2,R1.1⟩
    case measure=>simp[intOf];omega
   ·rw[List.concat_eq_append] at HB hol hown
    obtain⟨g,cap,hv,hgb,hgl⟩:=hown.form (by simp)
    have hl1:(l'++[y]).length=l'.length+1:=by simp
    rw[hl1] at hv hown hol
    subst hv
    have hE:=q9q hown
    obtain⟨d0,d1,d2,d3,d4,d5,d6⟩:=hE
    have hd0:decide ((l'.length:Int)<0)=false:=by simp
    have hngw:¬g=wr.heap.size:=by omega
    by_cases hk0:y.key=kx
    ·have hbs:=qm5 HS.out HB.out hly (by rw[hyi];exact hgi) (by rw[hyi,HX.out];exact hk0)
     simp only[hyi,HX.out] at hbs
     obtain⟨hm,hB1,hN1⟩:=hbs
     clear HB
     obtain⟨J,hJ⟩:∃J:Ru,J=(mrg y.ru x.ru).1:=⟨_,rfl⟩
     obtain⟨ec,hec⟩:∃ec:Int,ec=(mrg y.ru x.ru).2:=⟨_,rfl⟩
     have hm':mrg y.ru x.ru=if y.c+x.c<=1073741824 then(jn y.ru x.ru,0) else(zro,1):=hm
     have HJ:Hid ((ec=0/\Brg (l.map (bk size)) (i+1) (l'++[mkE y.key J]))\/(ec=1/\q1c size l=none)):=by
      by_cases hc:y.c+x.c<=1073741824
      ·left
       rw[hec,hJ,hm',if_pos hc,hk0]
       exact⟨rfl,hB1 hc⟩
      ·right
       rw[hec,hm',if_neg hc]
       exact⟨rfl,hN1 hc⟩
     have con:∀w',Calls Tryz.prog 67 #[.agg #[.int .i64 y.c,.int .i64 y.s,.int .i64 y.lo,.int .i64 y.hi,.int .i64 y.t,.int .i64 y.l],.agg #[.int .i64 x.c,.int .i64 x.s,.int .i64 x.lo,.int .i64 x.hi,.int .i64 x.t,.int .i64 x.l]] w' fun e w''=>e=.returned (.tuple #[.agg #[.int .i64 J.c,.int .i64 J.s,.int .i64 J.lo,.int .i64 J.hi,.int .i64 J.t,.int .i64 J.l],.int .i64 ec])/\Below w'.heap.size w' w'':=by
      intro w'
      have:=q6z y.ru x.ru w'
      rw[<-hJ,<-hec] at this
      exact this
     clear hm hm' hJ hec hB1 hN1
     obtain⟨jc,js,jlo,jhi,jt,jl⟩:=J
     simp only at con
     have hkb:(y.key==kx)=true:=by simpa using hk0
     have hkn:(y.key != kx)=false:=by simpa using hk0
     clear hk0
     go_wp2_with fail
     go_quiet (first|(refine Calls.quiet_of (q1 _))|(refine Calls.quiet_of (q2 _))|(refine Calls.quiet_of (q3 _))|(refine Calls.quiet_of (q4 _)))
     go_wp2_with fail
     obtain⟨wd,hwd⟩:∃wd,wd=(wr.alloc (.cells #[.int .i64 x.key,.int .i64 x.c,.int .i64 x.s,.int .i64 x.lo,.int .i64 x.hi,.int .i64 x.t,.int .i64 x.l] 86)).drewN nq:=⟨_,rfl⟩
     have rx:RowL wd wr.heap.size 86 x.vals:=by
      rw[hwd]
      exact q0b wr x.vals _
     have hbd0:Below wr.heap.size wr wd:=by
      rw[hwd]
      exact q2b ((Below.refl _ _).alloc (Nat.le_refl _) _) nq
     have hbd:Below w.heap.size w wd:=hb.trans (hbd0.mono hsz)
     have hownd:wd.ownsRow w.heap.size 86 7 (.slice (some ⟨g,0,none⟩) (l'.length+1) cap) (l'.length+1) (q0d (l'++[y])):=q0c hown (fun k hk=>hbd0.block k (q6a hown hk).2)
     have hzd:wd.heap.size=wr.heap.size+1:=by rw[hwd];simp
     rw[<-hwd]
     clear hown hb hbd0 c0 c1 c2 c3 c4 c5 c6 d0 d1 d2 d3 d4 d5 d6 hwd
     obtain⟨-,d1,d2,d3,d4,d5,d6⟩:=q9q hownd
     have rxx:=fun j=>rx.cell j
     simp only[En.vals] at rxx
     have x1:=rxx 1
     have x2:=rxx 2
     have x3:=rxx 3
     have x4:=rxx 4
     have x5:=rxx 5
     have x6:=rxx 6
     simp only[List.getElem?_cons_zero,List.getElem?_cons_succ] at x1 x2 x3 x4 x5 x6
     obtain⟨n,hn⟩:∃n,n=wr.heap.size:=⟨_,rfl⟩
     rw[<-hn] at hsz hzd hgl hngw x1 x2 x3 x4 x5 x6 ⊢
     have hgd:g<wd.heap.size:=by omega
     have hnd:n<wd.heap.size:=by omega
     clear rx rxx hbr hn hzd
     have q0:(0:Int)<=(l'.length:Int):=by omega
     obtain⟨m,hm⟩:∃m,m=l'.length+1:=⟨_,rfl⟩
     rw[<-hm]
     have q1:(l'.length:Int)<(m:Int):=by omega
     have HM:Hid (m=l'.length+1):=hm
     clear hm
     have n1:¬g=wd.heap.size:=by omega
     have n2:¬n=wd.heap.size:=by omega
     have hgd1:g<wd.heap.size+1:=by omega
     have hnd1:n<wd.heap.size+1:=by omega
     have KS:∀(W:World) (b' o' j:Nat) (v:Value),¬b'=wd.heap.size->(W.setCell ⟨wd.heap.size,j,none⟩ v).cell? ⟨b',o',none⟩=W.cell? ⟨b',o',none⟩:=fun W b' o' j v hb=>World.cell?_setCell_far _ _ _ _ (fun e=>hb e.symm)
     go_cut [11,12] (fun v8 v9 wc=>∃rb,v8=.pointer (some ⟨rb,0,none⟩)/\v9=.int .i64 ec/\wd.heap.size<=rb/\RowL wc rb 49 [.int .i64 jc,.int .i64 js,.int .i64 jlo,.int .i64 jhi,.int .i64 jt,.int .i64 jl]/\Below wd.heap.size wd wc)
     case first=>
      go_region_held3 (fun w'=>w'.cell? ⟨g,l'.length*7+1,none⟩=some (.int .i64 y.c)/\w'.cell? ⟨g,l'.length*7+2,none⟩=some (.int .i64 y.s)/\w'.cell? ⟨g,l'.length*7+3,none⟩=some (.int .i64 y.lo)/\w'.cell? ⟨g,l'.length*7+4,none⟩=some (.int .i64 y.hi)/\w'.cell? ⟨g,l'.length*7+5,none⟩=some (.int .i64 y.t)/\w'.cell? ⟨g,l'.length*7+6,none⟩=some (.int .i64 y.l)/\w'.cell? ⟨n,1,none⟩=some (.int .i64 x.c)/\w'.cell? ⟨n,2,none⟩=some (.int .i64 x.s)/\w'.cell? ⟨n,3,none⟩=some (.int .i64 x.lo)/\w'.cell? ⟨n,4,none⟩=some (.int .i64 x.hi)/\w'.cell? ⟨n,5,none⟩=some (.int .i64 x.t)/\w'.cell? ⟨n,6,none⟩=some (.int .i64 x.l)) (go_keep) (first|(go_at_call 67;refine(con _).mono ?_;rintro e w3 ⟨rfl,hb3⟩;have T3:=(q0w (hb3.mono (show wd.heap.size<=_ by simp))).1;first|(have T4:=qex (W:=wd.drew) (n:=wd.heap.size) hb3 rfl;obtain⟨T40,T41,T42,T43,T44,T45,U4⟩:=T4)|skip))
      ·go_wp2
       go_meet
       case rel=>
        refine⟨w3.heap.size,rfl,rfl,?_,q0b w3 _ _,?_⟩
        ·have:=hb3.size;simpa using this
        ·have bw:Below wd.heap.size wd w3:=((Below.refl wd.heap.size wd).drew).trans (hb3.mono (by simp))
         exact bw.alloc bw.size _
      ·go_wp2
       go_meet
       case rel=>
        have r0:RowL w3 wd.heap.size 49 [.int .i64 0,.int .i64 0,.int .i64 0,.int .i64 0,.int .i64 0,.int .i64 0]:=RowL.below (q0b wd.drew _ _) hb3 (by simp)
        have bw:Below wd.heap.size wd w3:=(((Below.refl wd.heap.size wd).alloc (Nat.le_refl _) _).drew).trans (hb3.mono (by simp))
        refine⟨wd.heap.size,rfl,rfl,Nat.le_refl _,(((((r0.set 0 _).set 1 _).set 2 _).set 3 _).set 4 _).set 5 _,?_⟩
        exact set6 bw (Nat.le_refl _) _ _ _ _ _ _
     case rest=>
      obtain⟨rb,rfl,rfl,hrb,hrw,hbc⟩:=hcut
      have r0:=hrw.cell 0
      have r1:=hrw.cell 1
      have r2:=hrw.cell 2
      have r3:=hrw.cell 3
      have r4:=hrw.cell 4
      have r5:=hrw.cell 5
      simp only[List.getElem?_cons_zero,List.getElem?_cons_succ] at r0 r1 r2 r3 r4 r5
      have hrl:=hrw.lt
      have hcs:wd.heap.size<=wc.heap.size:=hbc.size
      have hdz:=hbd.size
      have hownc:wc.ownsRow w.heap.size 86 7 (.slice (some ⟨g,0,none⟩) (l'.length+1) cap) (l'.length+1) (q0d (l'++[y])):=q0c hownd (fun k hk=>hbc.block k (q6a hownd hk).2)
      have hbcc:Below w.heap.size w wc:=hbd.trans (hbc.mono hdz)
      obtain⟨-,e1,e2,e3,e4,e5,e6⟩:=q9q hownc
      have ef:=fun j=>hownc.frozenAt j
      have hgc:g<wc.heap.size:=by omega
      have n3:¬rb=g:=by omega
      have n4:¬g=rb:=by omega
      have HO:Hid (wc.ownsRow w.heap.size 86 7 (.slice (some ⟨g,0,none⟩) (l'.length+1) cap) (l'.length+1) (q0d (l'++[y]))):=hownc
      clear hownd hownc d1 d2 d3 d4 d5 d6 x1 x2 x3 x4 x5 x6 con KS
      rcases HJ.out with⟨he,hWA⟩|⟨he,hIN⟩
      ·subst he
       have HW':Hid (Brg (l.map (bk size)) (i+1) (l'++[mkE y.key (Ru.mk jc js jlo jhi jt jl)])):=hWA
       clear HJ hWA
       go_wp2_with fail
       go_roundw
       case rel=>
        go_light
        have hm:=HM.out
        subst hm
        exact⟨i+1,l'++[mkE y.key (Ru.mk jc js jlo jhi jt jl)],by omega,by go_num,HW',by simp;omega,(by
         have q:=qt6 HO.out (Ru.mk jc js jlo jhi jt jl)
         rw[<-show(l'++[mkE y.key (Ru.mk jc js jlo jhi jt jl)]).length=l'.length+1 by simp] at q
         simpa using q),q3i (q3i (q3i (q3i (q3i (q3i hbcc hgb _ _) hgb _ _) hgb _ _) hgb _ _) hgb _ _) hgb _ _⟩
       case measure=>simp[intOf];omega
      ·subst he
       have HN:Hid (q1c size l=none):=hIN
       clear HJ hIN
       go_wp2_with fail
       refine HQ.out _ _ (hbcc) (fun ys hys=>by rw[HN.out] at hys;cases hys) (fun _=>rfl)
    ·have HB':Hid (Brg (l.map (bk size)) (i+1) (l'++[y]++[En.mk kx x.c x.s x.lo x.hi x.t x.l])):=by
      have q:=qfx HS.out HB.out hly (by rw[hyi];exact hgi) (fun l2 y2 e=>by
       obtain⟨_,e2⟩:=List.append_inj' e rfl
       cases e2
       rw[hyi,HX.out]
       exact hk0)
      rw[hyi,HX.out] at q
      exact q
     clear HB
     have hkb:(y.key==kx)=false:=by simpa using hk0
     have hkn:(y.key != kx)=true:=by simpa using hk0
     go_wp2_with fail
     go_quiet (first|(refine Calls.quiet_of (q1 _))|(refine Calls.quiet_of (q2 _))|(refine Calls.quiet_of (q3 _))|(refine Calls.quiet_of (q4 _)))
     have hownd:(wr.drewN nq).ownsRow w.heap.size 86 7 (.slice (some ⟨g,0,none⟩) (l'.length+1) cap) (l'.length+1) (q0d (l'++[y])):=q0c hown (fun _ _=>rfl)
     have hbd:=q2b hb nq
     go_wp2_with (at_builtin;refine wpList_append_own _ rfl _ _ 33 rfl w.heap.size 86 i0 _ 7 56 Tryz.underlying33 hi0 hz0 hz1 hz2 rfl (by decide) (.slice (some ⟨g,0,none⟩) (l'.length+1) cap) (l'.length+1) (q0d (l'++[y])) rfl ((hownd.alloc _).alloc _) ⟨wr.heap.size+1,0,none⟩ 1 1 (En.mk kx x.c x.s x.lo x.hi x.t x.l).vals rfl rfl (qqr (wr.drewN nq) _ (En.mk kx x.c x.s x.lo x.hi x.t x.l)) (q9t _) (by unfold maxLen;omega) (by omega) (by simp;omega) ?_;intro v2 w2 hown2 hgrow2 _)
     have R1:=qaw (out:=l'++[y]) (by rw[hl1];exact hownd.alloc _) (hbd.alloc (by simpa using hsz) _) (by simp;omega) hgrow2
     go_wp2
     go_roundw
     case rel=>
      go_light
      exact⟨i+1,l'++[y]++[En.mk kx x.c x.s x.lo x.hi x.t x.l],by omega,by go_num,HB',by simp;omega,qef (out:=l'++[y]) (by rw[hl1];exact hown2),R1.1⟩
     case measure=>simp[intOf];omega
  ·have HE:Hid (q1c size l=some out):=by
    have q:=HB.out
    rw[show i=(l.map (bk size)).length by simp;omega] at q
    exact qsh q
   clear HB
   go_wp2_with fail
   exact HQ.out _ _ hb (fun ys hys=>by rw[HE.out] at hys;cases hys;exact⟨_,rfl,hown⟩) (fun hn=>by rw[HE.out] at hn;cases hn)

theorem q8i(A:Option Addr)(C:Nat)(l:List En)(size:Int)(hs:size=60\/size=3600)(w:World)(h:q0j w.heap.size w A (q0d l))(hz:l.length<=28000)(hp:l.Pairwise fun a b=>a.key<b.key)(hg:∀x∈l,Good x.ru)(hk:∀x∈l,0<=x.key/\x.key<1099511627776)(Q:Ending->World->Prop)
  (HQ:Hid (∀e w',Below w.heap.size w w'->(∀ys,q1c size l=some ys->∃v,e=.returned (.tuple #[v,.int .i64 0])/\w'.ownsRow w.heap.size 86 7 v ys.length (q0d ys))->(q1c size l=none->e=.returned (.tuple #[.slice none 0 0,.int .i64 1]))->Q e w')):
  Calls Tryz.prog 110 #[.slice A l.length C,.int .i64 size] w Q:=qc0 A C l size (.inr hs) w h hz hp hg hk Q HQ

def qdb(n f:Int)(n0:List Nd)(r0:Int)(n1:List Nd)(r1:Int)(n2:List Nd)(r2:Int):Bool:=
 decide ((allP n0 r0 0 1099511627776).1=0)&&((allP n0 r0 0 1099511627776).2.all (q2d n f)&&(q2z 60 (allP n0 r0 0 1099511627776).2 n1 r1&&q2z 3600 (allP n0 r0 0 1099511627776).2 n2 r2))

theorem quf(n f:Int)(n0:List Nd)(r0:Int)(n1:List Nd)(r1:Int)(n2:List Nd)(r2:Int):qdb n f n0 r0 n1 r1 n2 r2=q9c n f n0 r0 n1 r1 n2 r2:=by
 unfold qdb q9c
 cases hb:q7b n0 r0 n f with
 |some l=>
  obtain⟨h1,h2,h3⟩:=q6t hb
  show _=(q2z 1 l n0 r0&&(q2z 60 l n1 r1&&q2z 3600 l n2 r2))
  rw[qng hb,h1,h2,h3]
  simp
 |none=>
  unfold q7b at hb
  split at hb
  ·cases hb
  ·rename_i hc
   by_cases h1:(allP n0 r0 0 1099511627776).1=0
   ·have h2:(allP n0 r0 0 1099511627776).2.all (q2d n f)=false:=by
     cases h:(allP n0 r0 0 1099511627776).2.all (q2d n f) with
     |false=>rfl
     |true=>exact absurd ⟨h1,h⟩ hc
    rw[h2]
    simp
   ·simp[h1]

set_option maxRecDepth 20000 in
set_option maxHeartbeats 1000000 in
theorem qej(A:Option Addr)(C:Nat)(ss:List ByteArray)(t0 t1 t2:TR)(f:Int)(w:World)(hZ:SzAt w)(h0:t0.ok w)(h1:t1.ok w)(h2:t2.ok w):
  Calls Tryz.prog 60 #[.agg (q0l A C ss t0 t1 t2 f).toArray] w fun e w'=>e=.returned (.bool (qdb ss.length f (t0.ps.map PN.nd) t0.r (t1.ps.map PN.nd) t1.r (t2.ps.map PN.nd) t2.r))/\Below w.heap.size w w':=by
 have b0:∀o:Obj,Below w.heap.size w (w.alloc o):=fun o=>(Below.refl _ _).alloc (Nat.le_refl _) o
 obtain⟨nb,hnb⟩:∃nb,nb=qdb ss.length f (t0.ps.map PN.nd) t0.r (t1.ps.map PN.nd) t1.r (t2.ps.map PN.nd) t2.r:=⟨_,rfl⟩
 have HN:Hid (nb=qdb ss.length f (t0.ps.map PN.nd) t0.r (t1.ps.map PN.nd) t1.r (t2.ps.map PN.nd) t2.r):=hnb
 rw[<-hnb]
 clear hnb
 have ptc:=fun(VA:Option Addr) (VC:Nat) (L:List En) w' h' hz hk hg=>qon (ss.length:Int) f VA VC L w' h' hz hk hg
 obtain⟨A0,C0,p0,r0⟩:=t0
 obtain⟨A1,C1,p1,r1⟩:=t1
 obtain⟨A2,C2,p2,r2⟩:=t2
 obtain⟨n0,f0,-⟩:=h0
 obtain⟨n1,f1,-⟩:=h1
 obtain⟨n2,f2,-⟩:=h2
 simp only[q0l] at *
 have g0:=fun w' hN=>qcs A0 C0 r0 p0 w' hN f0
 have hfc:=q1d (ns:=p0.map PN.nd) (r:=r0) (low:=0) (high:=1099511627776)
 have hlen:=q4u (p0.map PN.nd) r0 0 1099511627776
 have HT:Hid (nb=(decide ((allP (p0.map PN.nd) r0 0 1099511627776).1=0)&&((allP (p0.map PN.nd) r0 0 1099511627776).2.all (q2d ss.length f)&&(q2z 60 (allP (p0.map PN.nd) r0 0 1099511627776).2 (p1.map PN.nd) r1&&q2z 3600 (allP (p0.map PN.nd) r0 0 1099511627776).2 (p2.map PN.nd) r2)))):=HN.out
 generalize allP (p0.map PN.nd) r0 0 1099511627776=P at g0 hfc hlen HT
 obtain⟨c,L⟩:=P
 simp only at g0 hfc hlen HT
 clear HN
 have bx:∀w',Below (w.alloc (.cells #[.slice A ss.length C,.slice A0 p0.length C0,.int .i64 r0,.slice A1 p1.length C1,.int .i64 r1,.slice A2 p2.length C2,.int .i64 r2,.int .i64 f] 29)).heap.size (w.alloc (.cells #[.slice A ss.length C,.slice A0 p0.length C0,.int .i64 r0,.slice A1 p1.length C1,.int .i64 r1,.slice A2 p2.length C2,.int .i64 r2,.int .i64 f] 29)) w'->RowL w' w.heap.size 29 [.slice A ss.length C,.slice A0 p0.length C0,.int .i64 r0,.slice A1 p1.length C1,.int .i64 r1,.slice A2 p2.length C2,.int .i64 r2,.int .i64 f]:=fun w' hb=>(q0b w _ _).below hb (by simp)
 have BX:=qob bx
 clear bx
 by_cases hc:c=0
 ·subst hc
  have pt:=fun VA VC w' h'=>ptc VA VC L w' h' hlen hfc.2.2 hfc.2.1
  cases hpb:L.all (q2d ss.length f) with
  |false=>
   have H1:Hid (nb=false):=by
    show _=_
    rw[HT.out,hpb]
    simp
   simp only[hpb] at pt
   clear HT ptc
   go_enter Tryz.func60,Tryz.ntmps60
   go_wp2_with (first
    |(go_at_call 109;refine(g0 _ (n0.up (b0 _))).mono ?_;rintro e w1 ⟨hb1,v,rfl,ho⟩;obtain⟨VA,VC,hvv,-,-,-,hrow⟩:=q0h ho;subst hvv;have hw1:Below w.heap.size w w1:=q0e (b0 _) (Nat.le_refl _) hb1;have rb:=BX.out _ hb1;have yy:=(fun j=>rb.cell j);have lb:=rb.lt)
    |(go_at_call 82;refine(pt VA VC _ hrow).mono ?_;rintro e w2 ⟨rfl,hb2⟩))
   go_ret
   exact⟨by rw[H1.out];rfl,q0e hw1 (Nat.le_refl _) hb2⟩
  |true=>
   have HT2:Hid (nb=(q2z 60 L (p1.map PN.nd) r1&&q2z 3600 L (p2.map PN.nd) r2)):=by
    show _=_
    rw[HT.out,hpb]
    simp
   simp only[hpb] at pt
   clear HT ptc
   go_enter Tryz.func60,Tryz.ntmps60
   go_wp2_with (first
    |(go_at_call 109;refine(g0 _ (n0.up (b0 _))).mono ?_;rintro e w1 ⟨hb1,v,rfl,ho⟩;obtain⟨VA,VC,hvv,-,-,-,hrow⟩:=q0h ho;subst hvv;have hw1:Below w.heap.size w w1:=q0e (b0 _) (Nat.le_refl _) hb1;have rb:=BX.out _ hb1;have yy:=(fun j=>rb.cell j);have lb:=rb.lt)
    |(go_at_call 82;refine(pt VA VC _ hrow).mono ?_;rintro e w2 ⟨rfl,hb2⟩))
   have rb2:=rb.below hb2 lb
   have lb2:=rb2.lt
   have hw2:Below w.heap.size w w2:=q0e hw1 (Nat.le_refl _) hb2
   have hrow2:=hrow.up hb2
   clear yy rb lb hb2 hb1 hw1 hrow pt g0 hpb
   go_loopw [5] (fun v5 wr=>∃k:Nat,1<=k/\k<=3/\v5=.int .i64 k/\Hid ((1<k->q2z 60 L (p1.map PN.nd) r1=true)/\(2<k->q2z 3600 L (p2.map PN.nd) r2=true))/\Below w2.heap.size w2 wr) (fun v5 _=>3-(intOf v5).toNat)
   case atStart=>exact⟨1,by omega,by omega,rfl,⟨fun h=>by omega,fun h=>by omega⟩,Below.refl _ _⟩
   case round=>
    obtain⟨k,hk1,hk3,rfl,HP,hb⟩:=hrel
    have hwr:Below w.heap.size w wr:=q0e hw2 (Nat.le_refl _) hb
    have rb1:=rb2.below hb lb2
    have lb1:=rb1.lt
    have yy:=fun j=>rb1.cell j
    have hrw:=hrow2.up hb
    rcases(show k=1\/k=2\/k=3 by omega) with rfl|rfl|rfl
    ·have gk:=fun w' hN=>qcs A1 C1 r1 p1 w' hN f1
     have hll:=q4u (p1.map PN.nd) r1 0 1099511627776
     have HS:Hid (q2z 60 L (p1.map PN.nd) r1=match q1c 60 L with|none=>false|some W=>decide ((allP (p1.map PN.nd) r1 0 1099511627776).1=0)&&decide (W=(allP (p1.map PN.nd) r1 0 1099511627776).2)):=rfl
     have HFk:Hid (q2z 60 L (p1.map PN.nd) r1=false->nb=false):=fun q=>by
      rw[HT2.out,q]
      simp
     generalize allP (p1.map PN.nd) r1 0 1099511627776=P at gk hll HS
     obtain⟨c,M⟩:=P
     simp only at gk hll HS
     by_cases hc:c=0
     ·subst hc
      cases hroll:q1c 60 L with
      |none=>
       have HF:Hid (nb=false):=HFk.out (by rw[HS.out,hroll])
       have conB:∀w',q0j w'.heap.size w' VA (q0d L)->Calls Tryz.prog 110 #[.slice VA L.length VC,.int .i64 60] w' fun e w''=>e=.returned (.tuple #[.slice none 0 0,.int .i64 1])/\Below w'.heap.size w' w'':=fun w' hr=>q8i VA VC L 60 (Or.inl rfl) w' hr hlen hfc.1 hfc.2.1 hfc.2.2 _ (fun e w'' q1 _ q3=>⟨q3 hroll,q1⟩)
       clear HS HFk hroll HT2 HP
       go_wp2_with (first|(go_at_call 109;refine(gk _ (n1.up hwr)).mono ?_;rintro e w3 ⟨hb3,v3,rfl,ho3⟩;obtain⟨LA,LC,hv3,-,-,-,hr3⟩:=q0h ho3;subst hv3;have hw3:Below w.heap.size w w3:=q0e hwr (Nat.le_refl _) hb3;have zs:=hZ.below hw3;have zi:=qqx;have hrw3:=hrw.up hb3)|(go_at_call 99;refine(q3a _ zs).mono ?_;rintro e ws ⟨rfl,hbs⟩;have hws:Below w.heap.size w ws:=q0e hw3 (Nat.le_refl _) hbs;have hrws:=hrw3.up hbs)|(go_at_call 110;refine(conB _ hrws).mono ?_;rintro e w4 ⟨rfl,hb4⟩))
       go_ret
       exact⟨by rw[HF.out];rfl,q0e hws (Nat.le_refl _) hb4⟩
      |some W=>
       have hWl:=qau hfc.2.1 hroll
       have conB:∀w',q0j w'.heap.size w' VA (q0d L)->Calls Tryz.prog 110 #[.slice VA L.length VC,.int .i64 60] w' fun e w''=>(∃v,e=.returned (.tuple #[v,.int .i64 0])/\w''.ownsRow w'.heap.size 86 7 v W.length (q0d W))/\Below w'.heap.size w' w'':=fun w' hr=>q8i VA VC L 60 (Or.inl rfl) w' hr hlen hfc.1 hfc.2.1 hfc.2.2 _ (fun e w'' q1 q2 _=>⟨q2 W hroll,q1⟩)
       have HSW:Hid (q2z 60 L (p1.map PN.nd) r1=decide (W=M)):=by
        show _=_
        rw[HS.out,hroll]
        simp
       clear HS hroll
       have sm:=fun A' B' C' D' w' h1 h2=>qfh A' B' C' D' M W w' h1 h2 (by omega) (by omega)
       by_cases hWL:W=M
       ·have HS1:q2z 60 L (p1.map PN.nd) r1=true:=by
         rw[HSW.out]
         simpa using hWL
        have HP':Hid ((1<2->q2z 60 L (p1.map PN.nd) r1=true)/\(2<2->q2z 3600 L (p2.map PN.nd) r2=true)):=⟨fun _=>HS1,fun h=>by omega⟩
        have hd:decide (M=W)=true:=by simpa using hWL.symm
        simp only[hd] at sm
        have SM:=qob sm
        clear HSW HFk HT2 HP hd hWL HS1 sm
        go_wp2_with (first|(go_at_call 109;refine(gk _ (n1.up hwr)).mono ?_;rintro e w3 ⟨hb3,v3,rfl,ho3⟩;obtain⟨LA,LC,hv3,-,-,-,hr3⟩:=q0h ho3;subst hv3;have hw3:Below w.heap.size w w3:=q0e hwr (Nat.le_refl _) hb3;have zs:=hZ.below hw3;have zi:=qqx;have hrw3:=hrw.up hb3)|(go_at_call 99;refine(q3a _ zs).mono ?_;rintro e ws ⟨rfl,hbs⟩;have hws:Below w.heap.size w ws:=q0e hw3 (Nat.le_refl _) hbs;have hrws:=hrw3.up hbs)|(go_at_call 110;refine(conB _ hrws).mono ?_;rintro e w4 ⟨⟨v4,rfl,ho4⟩,hb4⟩;obtain⟨WA,WC,hv4,-,-,-,hr4⟩:=q0h ho4;subst hv4)|(go_at_call 111;refine(SM.out _ _ _ _ _ ((hr3.up hbs).up hb4) hr4).mono ?_;rintro e w6 ⟨rfl,hb6⟩))
        exact⟨⟨2,by omega,by omega,by go_num,HP',q0e (q0e (q0e (q0e hb (Nat.le_refl _) hb3) (Nat.le_refl _) hbs) (Nat.le_refl _) hb4) (Nat.le_refl _) hb6⟩,by simp only[intOf];omega⟩
       ·have HF:Hid (nb=false):=HFk.out (by rw[HSW.out];simpa using hWL)
        have hd:decide (M=W)=false:=by simpa using fun e=>hWL e.symm
        simp only[hd] at sm
        have SM:=qob sm
        clear HSW HFk HT2 HP hd hWL sm
        go_wp2_with (first|(go_at_call 109;refine(gk _ (n1.up hwr)).mono ?_;rintro e w3 ⟨hb3,v3,rfl,ho3⟩;obtain⟨LA,LC,hv3,-,-,-,hr3⟩:=q0h ho3;subst hv3;have hw3:Below w.heap.size w w3:=q0e hwr (Nat.le_refl _) hb3;have zs:=hZ.below hw3;have zi:=qqx;have hrw3:=hrw.up hb3)|(go_at_call 99;refine(q3a _ zs).mono ?_;rintro e ws ⟨rfl,hbs⟩;have hws:Below w.heap.size w ws:=q0e hw3 (Nat.le_refl _) hbs;have hrws:=hrw3.up hbs)|(go_at_call 110;refine(conB _ hrws).mono ?_;rintro e w4 ⟨⟨v4,rfl,ho4⟩,hb4⟩;obtain⟨WA,WC,hv4,-,-,-,hr4⟩:=q0h ho4;subst hv4)|(go_at_call 111;refine(SM.out _ _ _ _ _ ((hr3.up hbs).up hb4) hr4).mono ?_;rintro e w6 ⟨rfl,hb6⟩))
        go_ret
        exact⟨by rw[HF.out];rfl,q0e (q0e hws (Nat.le_refl _) hb4) (Nat.le_refl _) hb6⟩
     ·have HF:Hid (nb=false):=HFk.out (by
       rw[HS.out]
       cases q1c 60 L with
       |none=>rfl
       |some W=>simp[hc])
      have hc':(c != 0)=true:=by simpa using hc
      clear HS HFk HT2 HP
      go_wp2_with (first|(go_at_call 109;refine(gk _ (n1.up hwr)).mono ?_;rintro e w3 ⟨hb3,v3,rfl,ho3⟩;obtain⟨LA,LC,hv3,-,-,-,hr3⟩:=q0h ho3;subst hv3;have hw3:Below w.heap.size w w3:=q0e hwr (Nat.le_refl _) hb3;have hrw3:=hrw.up hb3))
      go_ret
      exact⟨by rw[HF.out];rfl,hw3⟩
    ·have gk:=fun w' hN=>qcs A2 C2 r2 p2 w' hN f2
     have hll:=q4u (p2.map PN.nd) r2 0 1099511627776
     have HS:Hid (q2z 3600 L (p2.map PN.nd) r2=match q1c 3600 L with|none=>false|some W=>decide ((allP (p2.map PN.nd) r2 0 1099511627776).1=0)&&decide (W=(allP (p2.map PN.nd) r2 0 1099511627776).2)):=rfl
     have HFk:Hid (q2z 3600 L (p2.map PN.nd) r2=false->nb=false):=fun q=>by
      rw[HT2.out,q]
      simp
     generalize allP (p2.map PN.nd) r2 0 1099511627776=P at gk hll HS
     obtain⟨c,M⟩:=P
     simp only at gk hll HS
     by_cases hc:c=0
     ·subst hc
      cases hroll:q1c 3600 L with
      |none=>
       have HF:Hid (nb=false):=HFk.out (by rw[HS.out,hroll])
       have conB:∀w',q0j w'.heap.size w' VA (q0d L)->Calls Tryz.prog 110 #[.slice VA L.length VC,.int .i64 3600] w' fun e w''=>e=.returned (.tuple #[.slice none 0 0,.int .i64 1])/\Below w'.heap.size w' w'':=fun w' hr=>q8i VA VC L 3600 (Or.inr rfl) w' hr hlen hfc.1 hfc.2.1 hfc.2.2 _ (fun e w'' q1 _ q3=>⟨q3 hroll,q1⟩)
       clear HS HFk hroll HT2 HP
       go_wp2_with (first|(go_at_call 109;refine(gk _ (n2.up hwr)).mono ?_;rintro e w3 ⟨hb3,v3,rfl,ho3⟩;obtain⟨LA,LC,hv3,-,-,-,hr3⟩:=q0h ho3;subst hv3;have hw3:Below w.heap.size w w3:=q0e hwr (Nat.le_refl _) hb3;have zs:=hZ.below hw3;have zi:=qnz;have hrw3:=hrw.up hb3)|(go_at_call 99;refine(q3a _ zs).mono ?_;rintro e ws ⟨rfl,hbs⟩;have hws:Below w.heap.size w ws:=q0e hw3 (Nat.le_refl _) hbs;have hrws:=hrw3.up hbs)|(go_at_call 110;refine(conB _ hrws).mono ?_;rintro e w4 ⟨rfl,hb4⟩))
       go_ret
       exact⟨by rw[HF.out];rfl,q0e hws (Nat.le_refl _) hb4⟩
      |some W=>
       have hWl:=qau hfc.2.1 hroll
       have conB:∀w',q0j w'.heap.size w' VA (q0d L)->Calls Tryz.prog 110 #[.slice VA L.length VC,.int .i64 3600] w' fun e w''=>(∃v,e=.returned (.tuple #[v,.int .i64 0])/\w''.ownsRow w'.heap.size 86 7 v W.length (q0d W))/\Below w'.heap.size w' w'':=fun w' hr=>q8i VA VC L 3600 (Or.inr rfl) w' hr hlen hfc.1 hfc.2.1 hfc.2.2 _ (fun e w'' q1 q2 _=>⟨q2 W hroll,q1⟩)
       have HSW:Hid (q2z 3600 L (p2.map PN.nd) r2=decide (W=M)):=by
        show _=_
        rw[HS.out,hroll]
        simp
       clear HS hroll
       have sm:=fun A' B' C' D' w' h1 h2=>qfh A' B' C' D' M W w' h1 h2 (by omega) (by omega)
       by_cases hWL:W=M
       ·have HS1:q2z 3600 L (p2.map PN.nd) r2=true:=by
         rw[HSW.out]
         simpa using hWL
        have HP':Hid ((1<3->q2z 60 L (p1.map PN.nd) r1=true)/\(2<3->q2z 3600 L (p2.map PN.nd) r2=true)):=⟨fun _=>HP.out.1 (by omega),fun _=>HS1⟩
        have hd:decide (M=W)=true:=by simpa using hWL.symm
        simp only[hd] at sm
        have SM:=qob sm
        clear HSW HFk HT2 HP hd hWL HS1 sm
        go_wp2_with (first|(go_at_call 109;refine(gk _ (n2.up hwr)).mono ?_;rintro e w3 ⟨hb3,v3,rfl,ho3⟩;obtain⟨LA,LC,hv3,-,-,-,hr3⟩:=q0h ho3;subst hv3;have hw3:Below w.heap.size w w3:=q0e hwr (Nat.le_refl _) hb3;have zs:=hZ.below hw3;have zi:=qnz;have hrw3:=hrw.up hb3)|(go_at_call 99;refine(q3a _ zs).mono ?_;rintro e ws ⟨rfl,hbs⟩;have hws:Below w.heap.size w ws:=q0e hw3 (Nat.le_refl _) hbs;have hrws:=hrw3.up hbs)|(go_at_call 110;refine(conB _ hrws).mono ?_;rintro e w4 ⟨⟨v4,rfl,ho4⟩,hb4⟩;obtain⟨WA,WC,hv4,-,-,-,hr4⟩:=q0h ho4;subst hv4)|(go_at_call 111;refine(SM.out _ _ _ _ _ ((hr3.up hbs).up hb4) hr4).mono ?_;rintro e w6 ⟨rfl,hb6⟩))
        exact⟨⟨3,by omega,by omega,by go_num,HP',q0e (q0e (q0e (q0e hb (Nat.le_refl _) hb3) (Nat.le_refl _) hbs) (Nat.le_refl _) hb4) (Nat.le_refl _) hb6⟩,by simp only[intOf];omega⟩
       ·have HF:Hid (nb=false):=HFk.out (by rw[HSW.out];simpa using hWL)
        have hd:decide (M=W)=false:=by simpa using fun e=>hWL e.symm
        simp only[hd] at sm
        have SM:=qob sm
        clear HSW HFk HT2 HP hd hWL sm
        go_wp2_with (first|(go_at_call 109;refine(gk _ (n2.up hwr)).mono ?_;rintro e w3 ⟨hb3,v3,rfl,ho3⟩;obtain⟨LA,LC,hv3,-,-,-,hr3⟩:=q0h ho3;subst hv3;have hw3:Below w.heap.size w w3:=q0e hwr (Nat.le_refl _) hb3;have zs:=hZ.below hw3;have zi:=qnz;have hrw3:=hrw.up hb3)|(go_at_call 99;refine(q3a _ zs).mono ?_;rintro e ws ⟨rfl,hbs⟩;have hws:Below w.heap.size w ws:=q0e hw3 (Nat.le_refl _) hbs;have hrws:=hrw3.up hbs)|(go_at_call 110;refine(conB _ hrws).mono ?_;rintro e w4 ⟨⟨v4,rfl,ho4⟩,hb4⟩;obtain⟨WA,WC,hv4,-,-,-,hr4⟩:=q0h ho4;subst hv4)|(go_at_call 111;refine(SM.out _ _ _ _ _ ((hr3.up hbs).up hb4) hr4).mono ?_;rintro e w6 ⟨rfl,hb6⟩))
        go_ret
        exact⟨by rw[HF.out];rfl,q0e (q0e hws (Nat.le_refl _) hb4) (Nat.le_refl _) hb6⟩
     ·have HF:Hid (nb=false):=HFk.out (by
       rw[HS.out]
       cases q1c 3600 L with
       |none=>rfl
       |some W=>simp[hc])
      have hc':(c != 0)=true:=by simpa using hc
      clear HS HFk HT2 HP
      go_wp2_with (first|(go_at_call 109;refine(gk _ (n2.up hwr)).mono ?_;rintro e w3 ⟨hb3,v3,rfl,ho3⟩;obtain⟨LA,LC,hv3,-,-,-,hr3⟩:=q0h ho3;subst hv3;have hw3:Below w.heap.size w w3:=q0e hwr (Nat.le_refl _) hb3;have hrw3:=hrw.up hb3))
      go_ret
      exact⟨by rw[HF.out];rfl,hw3⟩
    ·have H1:Hid (nb=true):=by
      show _=_
      rw[HT2.out,HP.out.1 (by omega),HP.out.2 (by omega)]
      rfl
     clear HP HT2
     go_wp2_with fail
     go_ret
     exact⟨by rw[H1.out];rfl,hwr⟩
 ·have H1:Hid (nb=false):=by
   show _=_
   rw[HT.out]
   simp[hc]
  have hc':(c != 0)=true:=by simpa using hc
  clear HT ptc
  go_enter Tryz.func60,Tryz.ntmps60
  go_wp2_with (first
   |(go_at_call 109;refine(g0 _ (n0.up (b0 _))).mono ?_;rintro e w1 ⟨hb1,v,rfl,ho⟩;obtain⟨VA,VC,hvv,-,-,-,hrow⟩:=q0h ho;subst hvv))
  go_ret
  exact⟨by rw[H1.out];rfl,q0e (b0 _) (Nat.le_refl _) hb1⟩

theorem SzAt.alloc{w:World}(h:SzAt w)(o:Obj):SzAt (w.alloc o):=h.below ((Below.refl _ _).alloc (Nat.le_refl _) o)

set_option maxRecDepth 20000 in
set_option maxHeartbeats 1000000 in
theorem q6l(A:Option Addr)(C:Nat)(ss:List ByteArray)(t0 t1 t2:TR)(f:Int)(w:World)(hZ:SzAt w)(hC:ss.length<=C)(hS:q2v w.heap.size w A ss)(h0:t0.ok w)(h1:t1.ok w)(h2:t2.ok w)(bb:Bool)(hbb:Hid (q2o ss f (t0.ps.map PN.nd) t0.r (t1.ps.map PN.nd) t1.r (t2.ps.map PN.nd) t2.r=bb)):
  Calls Tryz.prog 15 #[.agg (q0l A C ss t0 t1 t2 f).toArray] w fun e w'=>e=.returned (.int .i64 (if bb=true then 0 else 7))/\Below w.heap.size w w':=by
 have b0:∀o:Obj,Below w.heap.size w (w.alloc o):=fun o=>(Below.refl _ _).alloc (Nat.le_refl _) o
 obtain⟨res,hres⟩:∃res:Int,res=if bb=true then 0 else 7:=⟨_,rfl⟩
 have HR:Hid (res=if bb=true then 0 else 7):=hres
 rw[<-hres]
 clear hres
 have HB:Hid (bb=((decide (ss.length<=16)&&q5j ss)&&(inB f 0 1048575&&(decide (f%3600=0)&&qdb ss.length f (t0.ps.map PN.nd) t0.r (t1.ps.map PN.nd) t1.r (t2.ps.map PN.nd) t2.r)))):=by
  show _=_
  rw[<-hbb.out,quf]
  unfold q2o
  cases decide (ss.length<=16)<;>cases inB f 0 1048575<;>cases decide (f%3600=0)<;>cases q5j ss<;>rfl
 have okup:∀(t:TR) (W:World),Below w.heap.size w W->t.ok w->t.ok W:=fun t W hW ht=>⟨ht.1.up hW,ht.2.1,ht.2.2⟩
 have nmc:=fun o=>qeh A C ss (w.alloc o) (hS.up (b0 o)) hC
 have trc:=fun W (hW:Below w.heap.size w W)=>qej A C ss t0 t1 t2 f W (hZ.below hW) (okup t0 W hW h0) (okup t1 W hW h1) (okup t2 W hW h2)
 generalize qdb ss.length f (t0.ps.map PN.nd) t0.r (t1.ps.map PN.nd) t1.r (t2.ps.map PN.nd) t2.r=tb at trc HB
 generalize (decide (ss.length<=16)&&q5j ss)=nb at nmc HB
 obtain⟨A0,C0,p0,r0⟩:=t0
 obtain⟨A1,C1,p1,r1⟩:=t1
 obtain⟨A2,C2,p2,r2⟩:=t2
 simp only[q0l] at *
 clear hbb okup h0 h1 h2
 cases nb with
 |false=>
  have H1:Hid (res=7):=by
   show _=_
   rw[HR.out,HB.out]
   rfl
  clear HR HB trc
  go_enter Tryz.func15,Tryz.ntmps15
  go_wp2_with (first|(go_at_call 57;refine(nmc _).mono ?_;rintro e w1 ⟨rfl,hw1⟩;subst w1))
  go_ret
  exact⟨by rw[H1.out];rfl,b0 _⟩
 |true=>
  cases hf:inB f 0 1048575 with
  |false=>
   have H1:Hid (res=7):=by
    show _=_
    rw[HR.out,HB.out,hf]
    rfl
   clear HR HB trc
   go_enter Tryz.func15,Tryz.ntmps15
   go_wp2_with (first|(go_at_call 57;refine(nmc _).mono ?_;rintro e w1 ⟨rfl,hw1⟩;subst w1)|(go_at_call 58;refine(q7w _ _).mono ?_;rintro e w1 ⟨rfl,hw1⟩;subst w1))
   go_ret
   exact⟨by rw[H1.out];rfl,b0 _⟩
  |true=>
   have hff:=(q3o _ _ _).1 hf
   have hff':0<=f/\f<1099511627776:=by omega
   have flc:=fun o=>qdp f (w.alloc o) (hZ.alloc o) hff'
   cases hm:decide (f%3600=0) with
   |false=>
    have H1:Hid (res=7):=by
     show _=_
     rw[HR.out,HB.out,hf,hm]
     rfl
    simp only[hm] at flc
    clear HR HB trc hm
    go_enter Tryz.func15,Tryz.ntmps15
    go_wp2_with (first|(go_at_call 57;refine(nmc _).mono ?_;rintro e w1 ⟨rfl,hw1⟩;subst w1)|(go_at_call 58;refine(q7w _ _).mono ?_;rintro e w1 ⟨rfl,hw1⟩;subst w1)|(go_at_call 59;refine(flc _).mono ?_;rintro e wf ⟨rfl,hbf⟩;have hwf:Below w.heap.size w wf:=q0e (b0 _) (Nat.le_refl _) hbf;have fb:=fun j=>((q0w hbf).1 w.heap.size j (by simp));have lf:w.heap.size<wf.heap.size:=Nat.lt_of_lt_of_le (by simp) hbf.size))
    go_ret
    exact⟨by rw[H1.out];rfl,hwf⟩
   |true=>
    have H1:Hid (res=if tb=true then 0 else 7):=by
     show _=_
     rw[HR.out,HB.out,hf,hm]
     rfl
    simp only[hm] at flc
    clear HR HB hm
    cases tb with
    |false=>
     have H2:Hid (res=7):=H1.out
     clear H1
     go_enter Tryz.func15,Tryz.ntmps15
     go_wp2_with (first|(go_at_call 57;refine(nmc _).mono ?_;rintro e w1 ⟨rfl,hw1⟩;subst w1)|(go_at_call 58;refine(q7w _ _).mono ?_;rintro e w1 ⟨rfl,hw1⟩;subst w1)|(go_at_call 59;refine(flc _).mono ?_;rintro e wf ⟨rfl,hbf⟩;have hwf:Below w.heap.size w wf:=q0e (b0 _) (Nat.le_refl _) hbf;have fb:=fun j=>((q0w hbf).1 w.heap.size j (by simp));have lf:w.heap.size<wf.heap.size:=Nat.lt_of_lt_of_le (by simp) hbf.size)|(go_at_call 60;refine(trc _ hwf).mono ?_;rintro e w2 ⟨rfl,hb2⟩))
     go_ret
     exact⟨by rw[H2.out];rfl,q0e hwf (Nat.le_refl _) hb2⟩
    |true=>
     have H2:Hid (res=0):=H1.out
     clear H1
     go_enter Tryz.func15,Tryz.ntmps15
     go_wp2_with (first|(go_at_call 57;refine(nmc _).mono ?_;rintro e w1 ⟨rfl,hw1⟩;subst w1)|(go_at_call 58;refine(q7w _ _).mono ?_;rintro e w1 ⟨rfl,hw1⟩;subst w1)|(go_at_call 59;refine(flc _).mono ?_;rintro e wf ⟨rfl,hbf⟩;have hwf:Below w.heap.size w wf:=q0e (b0 _) (Nat.le_refl _) hbf;have fb:=fun j=>((q0w hbf).1 w.heap.size j (by simp));have lf:w.heap.size<wf.heap.size:=Nat.lt_of_lt_of_le (by simp) hbf.size)|(go_at_call 60;refine(trc _ hwf).mono ?_;rintro e w2 ⟨rfl,hb2⟩))
     go_ret
     exact⟨by rw[H2.out];rfl,q0e hwf (Nat.le_refl _) hb2⟩

theorem qh9(A:Option Addr)(C:Nat)(ss:List ByteArray)(x:ByteArray)(w:World)(h:q2v w.heap.size w A ss):
  Calls Tryz.prog 98 #[.slice A ss.length C,.string x] w fun e w'=>e=.returned (.int .i64 (Lib.idxOfS ss x))/\w'=w:=by
 have hz:=h.z
 cases ss with
 |nil=>exact Any.slices_Index_string_empty Tryz.indexS A C x w
 |cons s r=>
  obtain⟨b,o,rfl,_,_,hc⟩:=h.row.str (k:=0) (by simp)
  have q:=Any.slices_Index_string Tryz.indexS b o (s::r).length C (s::r) x w (Nat.le_refl _) (by omega) hc
  rw[List.take_length] at q
  exact q

set_option maxRecDepth 20000 in
set_option maxHeartbeats 1000000 in
theorem q4y(A:Option Addr)(C:Nat)(ss:List ByteArray)(t0 t1 t2:TR)(f:Int)(x:ByteArray)(w:World)(hZ:SzAt w)(hC:ss.length<=C)(hS:q2v w.heap.size w A ss)(h0:t0.ok w)(h1:t1.ok w)(h2:t2.ok w)(bb:Bool)(hbb:Hid (q2o ss f (t0.ps.map PN.nd) t0.r (t1.ps.map PN.nd) t1.r (t2.ps.map PN.nd) t2.r=bb)):
  Calls Tryz.prog 61 #[.agg (q0l A C ss t0 t1 t2 f).toArray,.string x] w fun e w'=>e=.returned (.tuple #[.int .i64 (if bb=true then(if Lib.idxOfS ss x<0 then 0 else Lib.idxOfS ss x) else 0),.int .i64 (if bb=true then(if Lib.idxOfS ss x<0 then 6 else 0) else 7)])/\Below w.heap.size w w':=by
 have b0:∀o:Obj,Below w.heap.size w (w.alloc o):=fun o=>(Below.refl _ _).alloc (Nat.le_refl _) o
 have okup:∀(t:TR) (w':World),Below w.heap.size w w'->t.ok w->t.ok w':=fun t w' hb ht=>⟨ht.1.up hb,ht.2.1,ht.2.2⟩
 have cc:=fun w' (hb:Below w.heap.size w w')=>q6l A C ss t0 t1 t2 f w' (hZ.below hb) hC (hS.up hb) (okup t0 w' hb h0) (okup t1 w' hb h1) (okup t2 w' hb h2) bb hbb
 have ix:=fun w' (hb:Below w.heap.size w w')=>qh9 A C ss x w' (hS.up hb)
 generalize Lib.idxOfS ss x=p at ix ⊢
 clear hbb okup h0 h1 h2 hS hC hZ
 obtain⟨A0,C0,p0,r0⟩:=t0
 obtain⟨A1,C1,p1,r1⟩:=t1
 obtain⟨A2,C2,p2,r2⟩:=t2
 simp only[q0l] at *
 have IX:=qob ix
 clear ix
 cases bb with
 |false=>
  simp only[Bool.false_eq_true,if_false] at cc ⊢
  go_enter Tryz.func61,Tryz.ntmps61
  go_wp2_with (first
   |(go_at_call 15;refine(cc _ (b0 _)).mono ?_;rintro e w1 ⟨rfl,hb1⟩))
  exact bodyPost_ret (v:=.tuple #[.int .i64 0,.int .i64 7]) (by simp[results,Tryz.results61,go_sem]) rfl ⟨rfl,q0e (b0 _) (Nat.le_refl _) hb1⟩
 |true=>
  simp only[if_true] at cc ⊢
  by_cases hp:p<0
  ·simp only[hp,if_true]
   go_enter Tryz.func61,Tryz.ntmps61
   go_wp2_with (first
    |(go_at_call 15;refine(cc _ (b0 _)).mono ?_;rintro e w1 ⟨rfl,hb1⟩;have hw1:Below w.heap.size w w1:=q0e (b0 _) (Nat.le_refl _) hb1;have yy:=(q0w hb1).1;have z1:=sz1 hb1)
    |(go_at_call 98;refine(IX.out _ hw1).mono ?_;rintro e w2 ⟨rfl,hw2⟩;subst w2))
   exact bodyPost_ret (v:=.tuple #[.int .i64 0,.int .i64 6]) (by simp[results,Tryz.results61,go_sem]) rfl ⟨rfl,hw1⟩
  ·simp only[hp,if_false]
   go_enter Tryz.func61,Tryz.ntmps61
   go_wp2_with (first
    |(go_at_call 15;refine(cc _ (b0 _)).mono ?_;rintro e w1 ⟨rfl,hb1⟩;have hw1:Below w.heap.size w w1:=q0e (b0 _) (Nat.le_refl _) hb1;have yy:=(q0w hb1).1;have z1:=sz1 hb1)
    |(go_at_call 98;refine(IX.out _ hw1).mono ?_;rintro e w2 ⟨rfl,hw2⟩;subst w2))
   exact bodyPost_ret (v:=.tuple #[.int .i64 p,.int .i64 0]) (by simp[results,Tryz.results61,go_sem]) rfl ⟨rfl,hw1⟩

def q5s(a b:Int):Bool:=decide (0<=a)&&(decide (a<=b)&&decide (b<=1048575))

theorem q6e(a b:Int)(w:World):Calls Tryz.prog 62 #[.int .i64 a,.int .i64 b] w fun e w'=>e=.returned (.bool (q5s a b))/\w'=w:=by
 unfold q5s
 by_cases h1:0<=a<;>by_cases h2:a<=b<;>by_cases h3:b<=1048575<;>
 ·go_enter Tryz.func62,Tryz.ntmps62
  go_wp2
  go_ret
  exact⟨by simp[h1,h2,h3],rfl⟩

set_option maxHeartbeats 1000000 in
theorem q4m(s:Int)(w:World)(hZ:SzAt w):Calls Tryz.prog 151 #[.int .i64 s] w fun e w'=>e=.returned (.tuple #[.int .i64 (if s=1 then 0 else if s=60 then 1 else if s=3600 then 2 else 0),.bool (decide (s=1\/s=60\/s=3600))])/\w'=w:=by
 obtain⟨c0,c1,c2,hl⟩:=hZ
 have i0:∀(a b c:Value) (w:World),(Instr.index 156 (.agg #[a,b,c]) (.int .i64 0)).run Tryz.prog w=.ok a w:=fun _ _ _ _=>by kernel_rfl
 have i1:∀(a b c:Value) (w:World),(Instr.index 156 (.agg #[a,b,c]) (.int .i64 1)).run Tryz.prog w=.ok b w:=fun _ _ _ _=>by kernel_rfl
 have i2:∀(a b c:Value) (w:World),(Instr.index 156 (.agg #[a,b,c]) (.int .i64 2)).run Tryz.prog w=.ok c w:=fun _ _ _ _=>by kernel_rfl
 by_cases h1:s=1
 ·subst h1
  go_enter Tryz.func151,Tryz.ntmps151
  go_wp2_with fail
  go_rounds 1
  go_ret2
  exact⟨rfl,rfl⟩
 ·by_cases h2:s=60
  ·subst h2
   go_enter Tryz.func151,Tryz.ntmps151
   go_wp2_with fail
   go_rounds 2
   go_ret2
   exact⟨rfl,rfl⟩
  ·by_cases h3:s=3600
   ·subst h3
    go_enter Tryz.func151,Tryz.ntmps151
    go_wp2_with fail
    go_rounds 3
    go_ret2
    exact⟨rfl,rfl⟩
   ·have k1:(1==s)=false:=by simpa using fun e=>h1 e.symm
    have k2:(60==s)=false:=by simpa using fun e=>h2 e.symm
    have k3:(3600==s)=false:=by simpa using fun e=>h3 e.symm
    go_enter Tryz.func151,Tryz.ntmps151
    go_wp2_with fail
    go_rounds 4
    go_ret2
    exact⟨by simp,rfl⟩

end
end Go.Proofs.YtlojfgdpmaigmafGreatDoor
