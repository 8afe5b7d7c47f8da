/- A reader's names: their walk. -/
import Derived.Test.YtlojfgdpmaigmagGreatDoorP20
import Derived.Test.YtlojfgdpmaigmagGreatDoorP08
import Derived.Test.YtlojfgdpmaigmagGreatDoorBaseCopyWalk
import Derived.Laws.IdiomStrings
import Derived.Laws.BytesArg
import Derived.Test.YtlojfgdpmaigmagGreatDoorP07
import Derived.Lib.SlBytesConst
import Derived.BigQuiet
namespace Go.Proofs.YtlojfgdpmaigmagGreatDoor
section
open Go.RowKit Plain

theorem zD{B C:Nat}{w:World}{A:Option Addr}{l:List Int}(h:aX B w A C l)(hu:U8 l):(convert 60 9 (.slice A l.length C)).run Tryz.prog w=.ok (.string (iP l)) w:=by
 obtain⟨h1,h2,h3⟩:=h;rcases h3 with⟨rfl,rfl⟩|⟨b,o,rfl,hb,hc⟩
 ·obtain rfl:l=[]:=List.eq_nil_of_length_eq_zero (by omega)
  exact run_convert_bytes_nil (P:=Tryz.prog) w _ _ Tryz.underlying60 (by kernel_rfl) _ _ _ (by kernel_rfl)
 ·have k:=run_convert_bytes_back (P:=Tryz.prog) w 60 9 5 ⟨b,o,none⟩ C (l.map fun b=>UInt8.ofNat b.toNat) Tryz.underlying60 (by kernel_rfl) (by kernel_rfl) (fun j hj=>by
   have hj':j<l.length:=by simpa using hj
   rw[Addr.add_lit];rw[hc j (.int .u8 l[j]) (by simp[u8s,List.getElem?_eq_getElem hj'])]
   obtain⟨g0,g1⟩:=hu _ (List.getElem_mem hj');have hm:l[j].toNat%256=l[j].toNat:=Nat.mod_eq_of_lt (by omega)
   simp[hm];omega)
  rw[List.length_map] at k;exact k

theorem RdTo.grown{rb:Nat}{s:Rs}{w wr w':World}{row:Option Nat}(h:RdTo rb s w wr)(hl:rb<w.heap.size)(hg:wr.grownBy w' row)(hr:∀k,row=some k->w.heap.size<=k):RdTo rb s w w':=by
 have hz:=h.kp.size;have hb:∀k,k<w.heap.size->w'.heap[k]? =wr.heap[k]? :=fun k hk=>hg.block k (by omega) (fun e=>by have:=hr k e.symm;omega)
 exact⟨h.rd.blocks fun k hk=>hb k (by omega),⟨hg.os.trans h.kp.os,hg.tape.trans h.kp.tape,hg.output.trans h.kp.output,Nat.le_trans h.kp.size hg.size,fun k hk hn=>(hb k hk).trans (h.kp.block k hk hn)⟩⟩

def NmTo(rb:Nat)(s:Rs)(w:World)(e:Ending)(w':World):Prop:=
 ∃v,e=.returned v/\w'.ownsRow w.heap.size 9 1 v (fB (cnt 16 s).1.toNat (cnt 16 s).2).1.length (strs (fB (cnt 16 s).1.toNat (cnt 16 s).2).1)/\RdTo rb (fB (cnt 16 s).1.toNat (cnt 16 s).2).2 w w'

theorem qd7(l:List ByteArray)(x:ByteArray):strs l++[.string x]=strs (l++[x]):=by simp[strs]

set_option maxRecDepth 20000 in
set_option maxHeartbeats 2000000 in
theorem qd0(rb:Nat)(s:Rs)(w:World)(h:RdAt w rb s):
  Calls Tryz.prog 124 #[.pointer (some ⟨rb,0,none⟩)] w (NmTo rb s w):=by
 obtain⟨i0,hi0,hz0,hz1,hz2⟩:=info_parts q8p;have con1:=aF (q0j rb 16 s w h);have hr:=qa9 (m:=16) (by decide) h.u8
 have hu1:=rO (m:=16) h.u8;have hs1:=q1u (m:=16) h.still;unfold NmTo;obtain⟨n,hn⟩:∃n:Nat,(cnt 16 s).1=(n:Int):=⟨(cnt 16 s).1.toNat,by omega⟩
 obtain⟨s1,hs⟩:∃s1,(cnt 16 s).2=s1:=⟨_,rfl⟩;rw[hn] at con1 hr ⊢;rw[hs] at con1 hu1 hs1 ⊢;rw[Int.toNat_natCast];obtain⟨NL,NS,hN⟩:∃NL NS,fB n s1=(NL,NS):=⟨_,_,rfl⟩;rw[hN];show Calls _ _ _ _ fun e w'=>∃v,e=.returned v/\w'.ownsRow w.heap.size 9 1 v NL.length (strs NL)/\RdTo rb NS w w'
 have HN:=aF hN;have hn16:n<=16:=by omega
 have hlw:=h.lt;clear hN hn hs h hr
 go_enter Tryz.func124,Tryz.ntmps124
 go_wp2_with (first
  |(go_at_call 150;refine con1.out.mono ?_;rintro e w1 ⟨rfl,hT1⟩))
 go_loopw [3,6] (fun vo vi wr=>∃(i:Nat) (s':Rs) (xs:List ByteArray),i<=n/\vi=.int .i64 (i:Int)/\xs.length=i/\Hid ((xs++(fB (n-i) s').1,(fB (n-i) s').2)=(NL,NS))/\wr.ownsRow w.heap.size 9 1 vo i (strs xs)/\RdTo rb s' w wr) (fun _ vi _=>n-(intOf vi).toNat)
 case atStart=>exact⟨0,s1,[],Nat.zero_le _,rfl,rfl,HN.out,World.ownsRow_nil _ _ _ _,hT1⟩
 case round=>
  obtain⟨i,s',xs,hi,rfl,hxl,HE,hown,hT⟩:=hrel
  by_cases hlt:i<n
  ·have hlt':(i:Int)<(n:Int):=by omega
   have hrc:=qa9 (m:=10) (by decide) hT.rd.u8
   have hu2:=rO (m:=10) hT.rd.u8;obtain⟨k,hk⟩:∃k:Nat,(cnt 10 s').1=(k:Int):=⟨(cnt 10 s').1.toNat,by omega⟩
   have HE2:Hid ((xs++(iP (tk k (cnt 10 s').2).1::(fB (n-(i+1)) (tk k (cnt 10 s').2).2).1),(fB (n-(i+1)) (tk k (cnt 10 s').2).2).2)=(NL,NS)):=by
    have h1:=HE.out;rw[show n-i=(n-(i+1))+1 by omega] at h1
    unfold fB at h1;rw[hk,Int.toNat_natCast] at h1;exact h1
   have con2:=aF (q0j rb 10 s' wr hT.rd);rw[hk] at con2 hrc;have hu3:=(yQ (n:=k) hu2).2;obtain⟨s2,hs2⟩:∃s2,(cnt 10 s').2=s2:=⟨_,rfl⟩;rw[hs2] at HE2 con2 hu3;have con3:=aF fun W (hW:RdAt W rb s2)=>qck rb k s2 W (by omega) hW
   obtain⟨bs,hbs⟩:∃bs,(tk k s2).1=bs:=⟨_,rfl⟩;obtain⟨s3,hs3⟩:∃s3,(tk k s2).2=s3:=⟨_,rfl⟩;unfold TkTo at con3;rw[hbs,hs3] at HE2 con3;rw[hbs] at hu3;have HT:=aF hT;have HO:=aF hown;have HV:=aF (fun k=>hown.lt k)
   clear hs2 hbs hs3 hk hrc HE hT hown hu2
   go_wp2_with (first
    |(go_at_call 150;refine con2.out.mono ?_;rintro e w2 ⟨rfl,hT2⟩)
    |(go_at_call 151;refine(con3.out _ hT2.rd).mono ?_;rintro e w3 ⟨A,C,rfl,hby,hT3⟩;have kc:=zD hby hu3)
    |(at_builtin;have hown3:=aW (w':=w3) HO.out (fun k hk=>(hT2.kp.trans hT3.kp).block k (HV.out k hk).2 (by have:=(HV.out k hk).1;simp;omega));refine wpList_append_own _ rfl _ _ 29 rfl w.heap.size 9 i0 _ 1 16 Tryz.underlying29 hi0 hz0 hz1 hz2 rfl (by decide) u3 i (strs xs) rfl (hown3.alloc _) ⟨w3.heap.size,0,none⟩ 1 1 [.string (iP bs)] rfl rfl (q8w w3 _) (by intro u hu;simp at hu;subst hu;rfl) (by unfold maxLen;omega) (by omega) (by have:=(HT.out.step hT2).kp.size;have:=hT3.kp.size;simp;omega) ?_;intro v4 w4 hown4 hgrow4 _))
   have hT4:RdTo rb s3 w w4:=(((HT.out.step hT2).step hT3).below ((Below.refl _ _).alloc (Nat.le_refl _) _)).grown hlw hgrow4 (fun k hk=>(HV.out k hk).1)
   rw[qd7] at hown4;exact⟨⟨i+1,s3,xs++[iP bs],by omega,by go_num,by simp[hxl],by rw[List.append_assoc];exact HE2.out,hown4,hT4⟩,by simp only[intOf];omega⟩
  ·have hlt':¬((i:Int)<(n:Int)):=by omega
   have h1:=HE.out;rw[show n-i=0 by omega] at h1
   obtain⟨e1,e2⟩:=Prod.mk.inj h1
   have e1':xs=NL:=by
    rw[<-e1];simp[fB]
   have e2':s'=NS:=e2;have hx:i=NL.length:=by rw[<-e1',hxl]
   clear h1 e1 e2 HE HN;go_wp2_with fail;go_ret;subst e1' e2';rw[hx] at hown;exact⟨_,rfl,hown,hT⟩

theorem q2h(l:List En)(x:En):aB l++aB [x]=aB (l++[x]):=(jU l [x]).symm

theorem qmg{w:World}{vb:Nat}{x:En}(hv:RowL w vb 132 x.vals):∀j u,(aB [x])[j]? =some u->w.cell? (Addr.add ⟨vb,0,none⟩ j)=some u:=by
 intro j u hu;rw[WideShapes.add_plain,Nat.zero_add,hv.cell]
 simpa [aB] using hu

def PsTo(rb:Nat)(s:Rs)(w:World)(e:Ending)(w':World):Prop:=
 ∃v,e=.returned v/\w'.ownsRow w.heap.size 132 7 v (dD (cnt 10000 s).1.toNat true 0 (cnt 10000 s).2).1.length (aB (dD (cnt 10000 s).1.toNat true 0 (cnt 10000 s).2).1)/\RdTo rb (dD (cnt 10000 s).1.toNat true 0 (cnt 10000 s).2).2 w w'

theorem q5v{k:Nat}{first:Bool}{ahead:Int}{s:Rs}(h:(dX first ahead s).code≠0):dD (k+1) first ahead s=([],dX first ahead s):=by
 unfold dD;rw[if_neg h]

theorem qdn{k:Nat}{first:Bool}{ahead:Int}{s:Rs}(h:(dX first ahead s).code=0):dD (k+1) first ahead s=(if (dD k false (dF ahead s).key (dX first ahead s)).2.code=0 then dF ahead s::(dD k false (dF ahead s).key (dX first ahead s)).1 else[],(dD k false (dF ahead s).key (dX first ahead s)).2):=by
 rw[dD,if_pos h]

def kR(xs:List En)(p:List En × Rs):List En × Rs:=(if p.2.code=0 then xs++p.1 else[],p.2)

theorem qie{xs:List En}{k:Nat}{first:Bool}{ahead:Int}{s:Rs}(h:(dX first ahead s).code=0):kR xs (dD (k+1) first ahead s)=kR (xs++[dF ahead s]) (dD k false (dF ahead s).key (dX first ahead s)):=by
 rw[qdn h];unfold kR
 by_cases h0:(dD k false (dF ahead s).key (dX first ahead s)).2.code=0
 ·simp only[h0,if_true,List.append_assoc,List.singleton_append]
 ·simp only[h0,if_false]

theorem qgb(k:Nat)(ahead:Int)(s:Rs):kR [] (dD k true ahead s)=dD k true ahead s:=by
 unfold kR
 split
 ·simp
 ·rename_i h
  rw[<-qa5 k true ahead s h]

set_option maxRecDepth 20000 in
set_option maxHeartbeats 4000000 in
theorem q8m(rb:Nat)(s:Rs)(w:World)(h:RdAt w rb s):
  Calls Tryz.prog 126 #[.pointer (some ⟨rb,0,none⟩)] w (PsTo rb s w):=by
 obtain⟨i0,hi0,hz0,hz1,hz2⟩:=info_parts kK;have con1:=aF (q0j rb 10000 s w h);have hr:=qa9 (m:=10000) (by decide) h.u8
 unfold PsTo;obtain⟨n,hn⟩:∃n:Nat,(cnt 10000 s).1=(n:Int):=⟨(cnt 10000 s).1.toNat,by omega⟩
 obtain⟨s1,hs⟩:∃s1,(cnt 10000 s).2=s1:=⟨_,rfl⟩;rw[hn] at con1 hr ⊢;rw[hs] at con1 ⊢;rw[Int.toNat_natCast];obtain⟨NL,NS,hN⟩:∃NL NS,dD n true 0 s1=(NL,NS):=⟨_,_,rfl⟩;rw[hN];show Calls _ _ _ _ fun e w'=>∃v,e=.returned v/\w'.ownsRow w.heap.size 132 7 v NL.length (aB NL)/\RdTo rb NS w w'
 have HN:=aF hN;have hn1:n<=10000:=by omega
 have hlw:=h.lt;clear hN hn hs h hr
 go_enter Tryz.func126,Tryz.ntmps126
 go_wp2_with (first
  |(go_at_call 150;refine con1.out.mono ?_;rintro e w1 ⟨rfl,hT1⟩))
 go_loopw [3,4,5,6,9] (fun vo va _ _ vi wr=>∃(i:Nat) (s':Rs) (xs:List En) (ahead:Int),i<=n/\vi=.int .i64 (i:Int)/\va=.int .i64 ahead/\(0<=ahead/\ahead<1099511627776)/\xs.length=i/\(i=0\/s'.code=0)/\Hid (kR xs (dD (n-i) (decide (i=0)) ahead s')=(NL,NS))/\wr.ownsRow w.heap.size 132 7 vo i (aB xs)/\RdTo rb s' w wr) (fun _ _ _ _ vi _=>n-(intOf vi).toNat)
 case atStart=>exact⟨0,s1,[],0,Nat.zero_le _,rfl,rfl,by decide,rfl,.inl rfl,by rw[show decide (0=0)=true from rfl,qgb];exact HN.out,World.ownsRow_nil _ _ _ _,hT1⟩
 case round=>
  obtain⟨i,s',xs,ahead,hi,rfl,rfl,hah,hxl,hcz,HE,hown,hT⟩:=hrel
  by_cases hlt:i<n
  ·have hlt':(i:Int)<(n:Int):=by omega
   have con2:=aF (qfk rb ahead s' wr hah hT.rd);have hu:=hT.rd.u8
   have kd:0<=(dF ahead s').key:=by
    have:=yJ hu;show 0<=ahead+(num s').1;omega
   have h1:=HE.out;rw[show n-i=(n-(i+1))+1 by omega] at h1
   have H1:=aF h1;have HBD:Hid (badP (decide (i=0)) ahead (dF ahead s')=(decide (1099511627776<=(dF ahead s').key)||((!(decide (i=0))&&decide ((dF ahead s').key=ahead))||decide ((dF ahead s').c=0)))):=rfl
   have HA:Hid (dX (decide (i=0)) ahead s'=if badP (decide (i=0)) ahead (dF ahead s')=true then bZ 7 (six s') else six s'):=rfl
   have HST:=aF fun hc=>q5v (k:=n-(i+1)) (first:=decide (i=0)) (ahead:=ahead) (s:=s') hc
   have HGO:=aF fun hc=>qie (xs:=xs) (k:=n-(i+1)) (first:=decide (i=0)) (ahead:=ahead) (s:=s') hc
   obtain⟨aft,haft⟩:∃aft,dX (decide (i=0)) ahead s'=aft:=⟨_,rfl⟩;rw[haft] at HA HST HGO;obtain⟨x,hx⟩:∃x,dF ahead s'=x:=⟨_,rfl⟩;rw[hx] at con2 kd HBD HA HGO;obtain⟨s6,hs6⟩:∃s6,six s'=s6:=⟨_,rfl⟩;rw[hs6] at con2 HA;have HT:=aF hT;have HO:=aF hown;have HV:=aF (fun k=>hown.lt k)
   have HX:=aF hxl;clear hx hs6 haft h1 HE hT hown hu hxl hcz;obtain⟨key,c,ss,lo,hi',tt,l⟩:=x;simp only at kd HBD;have con2:Hid (Calls Tryz.prog 154 #[.pointer (some ⟨rb,0,none⟩),.int .i64 ahead] wr fun e w'=>e=.returned (.agg #[.int .i64 key,.int .i64 c,.int .i64 ss,.int .i64 lo,.int .i64 hi',.int .i64 tt,.int .i64 l])/\RdTo rb s6 wr w'):=con2
   have con3:=aF fun W (hW:RdAt W rb s6)=>oI rb 7 s6 W hW
   have e4':True:=trivial;have hc:(c==0)=true\/(c==0)=false:=by cases (c==0)<;>simp
   have hk:(key==ahead)=true\/(key==ahead)=false:=by cases (key==ahead)<;>simp
   by_cases hbad:badP (decide (i=0)) ahead ⟨key,c,ss,lo,hi',tt,l⟩=true
   ·have haf:aft=bZ 7 s6:=by rw[HA.out,if_pos hbad]
    have hcode:(bZ 7 s6).code≠0:=pR (by decide) _
    subst haf
    have hjp:NL=[]/\NS=bZ 7 s6:=by
     have h2:=H1.out;rw[HST.out hcode] at h2;unfold kR at h2;simp only[hcode,if_false] at h2;obtain⟨e1,e2⟩:=Prod.mk.inj h2;exact⟨e1.symm,e2.symm⟩
    obtain⟨rfl,rfl⟩:=hjp;have hne:((bZ 7 s6).code != 0)=true:=by simpa using hcode
    rw[HBD.out] at hbad;clear HST HGO HA H1 HN HX HBD
    by_cases hb1:1099511627776<=key
    ·clear hbad
     go_upto_region 10 with(first
      |(go_at_call 154;refine con2.out.mono ?_;rintro e w2 ⟨rfl,hT2⟩;have hT3:=(HT.out.step hT2).below ((Below.refl w2.heap.size w2).alloc (Nat.le_refl _) (.cells #[.int .i64 key,.int .i64 c,.int .i64 ss,.int .i64 lo,.int .i64 hi',.int .i64 tt,.int .i64 l] 132)))
      |(go_at_call 153;refine(con3.out _ hT3.rd).mono ?_;rintro e w3 ⟨rfl,hT5⟩;have hT4:=hT3.step hT5;obtain⟨A4,C4,row4,-⟩:=hT4.rd.at';have e4:=row4.cell 1;have l4:=row4.lt;simp only[List.getElem?_cons_zero,List.getElem?_cons_succ] at e4))
     repeat go_step
     refine bodyPost_ret (v:=.slice none 0 0) (by simp[results,Tryz.results126,go_sem]) rfl ⟨_,rfl,World.ownsRow_nil _ _ _ _,hT4⟩
    ·by_cases h0:(0:Int)<(i:Int)
     ·rcases hk with hk|hk
      ·clear hbad
       go_upto_region 10 with(first
        |(go_at_call 154;refine con2.out.mono ?_;rintro e w2 ⟨rfl,hT2⟩;have hT3:=(HT.out.step hT2).below ((Below.refl w2.heap.size w2).alloc (Nat.le_refl _) (.cells #[.int .i64 key,.int .i64 c,.int .i64 ss,.int .i64 lo,.int .i64 hi',.int .i64 tt,.int .i64 l] 132)))
        |(go_at_call 153;refine(con3.out _ hT3.rd).mono ?_;rintro e w3 ⟨rfl,hT5⟩;have hT4:=hT3.step hT5;obtain⟨A4,C4,row4,-⟩:=hT4.rd.at';have e4:=row4.cell 1;have l4:=row4.lt;simp only[List.getElem?_cons_zero,List.getElem?_cons_succ] at e4))
       repeat go_step
       refine bodyPost_ret (v:=.slice none 0 0) (by simp[results,Tryz.results126,go_sem]) rfl ⟨_,rfl,World.ownsRow_nil _ _ _ _,hT4⟩
      ·have hc1:(c==0)=true:=by
        have hk':key≠ahead:=by simpa using hk
        simp only[hb1,hk',decide_false,Bool.false_or,Bool.and_false,decide_eq_true_eq] at hbad
        simpa using hbad
       clear hbad hc
       go_upto_region 10 with(first
        |(go_at_call 154;refine con2.out.mono ?_;rintro e w2 ⟨rfl,hT2⟩;have hT3:=(HT.out.step hT2).below ((Below.refl w2.heap.size w2).alloc (Nat.le_refl _) (.cells #[.int .i64 key,.int .i64 c,.int .i64 ss,.int .i64 lo,.int .i64 hi',.int .i64 tt,.int .i64 l] 132)))
        |(go_at_call 153;refine(con3.out _ hT3.rd).mono ?_;rintro e w3 ⟨rfl,hT5⟩;have hT4:=hT3.step hT5;obtain⟨A4,C4,row4,-⟩:=hT4.rd.at';have e4:=row4.cell 1;have l4:=row4.lt;simp only[List.getElem?_cons_zero,List.getElem?_cons_succ] at e4))
       repeat go_step
       refine bodyPost_ret (v:=.slice none 0 0) (by simp[results,Tryz.results126,go_sem]) rfl ⟨_,rfl,World.ownsRow_nil _ _ _ _,hT4⟩
     ·have hc1:(c==0)=true:=by
       have hi0:i=0:=by omega
       simp only[hb1,hi0,decide_false,decide_true,Bool.false_or,Bool.not_true,Bool.false_and,decide_eq_true_eq] at hbad
       simpa using hbad
      clear hbad hc
      go_upto_region 10 with(first
       |(go_at_call 154;refine con2.out.mono ?_;rintro e w2 ⟨rfl,hT2⟩;have hT3:=(HT.out.step hT2).below ((Below.refl w2.heap.size w2).alloc (Nat.le_refl _) (.cells #[.int .i64 key,.int .i64 c,.int .i64 ss,.int .i64 lo,.int .i64 hi',.int .i64 tt,.int .i64 l] 132)))
       |(go_at_call 153;refine(con3.out _ hT3.rd).mono ?_;rintro e w3 ⟨rfl,hT5⟩;have hT4:=hT3.step hT5;obtain⟨A4,C4,row4,-⟩:=hT4.rd.at';have e4:=row4.cell 1;have l4:=row4.lt;simp only[List.getElem?_cons_zero,List.getElem?_cons_succ] at e4))
      repeat go_step
      refine bodyPost_ret (v:=.slice none 0 0) (by simp[results,Tryz.results126,go_sem]) rfl ⟨_,rfl,World.ownsRow_nil _ _ _ _,hT4⟩
   ·have haf:aft=s6:=by rw[HA.out,if_neg hbad]
    subst haf;rw[HBD.out] at hbad;simp only[Bool.not_eq_true,Bool.or_eq_false_iff,Bool.and_eq_false_iff,decide_eq_false_iff_not,Bool.not_eq_false'] at hbad;obtain⟨hb1,hb2,hb3⟩:=hbad;have hc1:(c==0)=false:=by simpa using hb3
    have hne:=hc1;clear hc
    by_cases hcode:aft.code=0
    ·have HJ:=aF (HGO.out hcode▸H1.out:kR (xs++[⟨key,c,ss,lo,hi',tt,l⟩]) (dD (n-(i+1)) false key aft)=(NL,NS));have hcd:(aft.code != 0)=false:=by simpa using hcode
     rw[hcode] at hcd;have HC:=aF hcode;clear HST HGO HA H1 HN HBD hk
     by_cases h0:(0:Int)<(i:Int)
     ·have hk1:(key==ahead)=false:=by
       rcases hb2 with hb2|hb2
       ·simp only[decide_eq_true_eq] at hb2;omega
       ·simpa using hb2
      clear hb2
      go_wp2_with (first
       |(go_at_call 154;refine con2.out.mono ?_;rintro e w2 ⟨rfl,hT2⟩;have hT3:=(HT.out.step hT2).below ((Below.refl w2.heap.size w2).alloc (Nat.le_refl _) (.cells #[.int .i64 key,.int .i64 c,.int .i64 ss,.int .i64 lo,.int .i64 hi',.int .i64 tt,.int .i64 l] 132));obtain⟨A4,C4,row4,-⟩:=hT3.rd.at';have e4:=row4.cell 1;have l4:=row4.lt;simp only[List.getElem?_cons_zero,List.getElem?_cons_succ] at e4;have V2:=aG w2 [.int .i64 key,.int .i64 c,.int .i64 ss,.int .i64 lo,.int .i64 hi',.int .i64 tt,.int .i64 l] 132;have hown3:=dI (aW (w':=w2) HO.out (fun k hk=>hT2.kp.block k (HV.out k hk).2 (by have:=(HV.out k hk).1;simp;omega))) ((Below.refl w2.heap.size w2).alloc (Nat.le_refl _) (.cells #[.int .i64 key,.int .i64 c,.int .i64 ss,.int .i64 lo,.int .i64 hi',.int .i64 tt,.int .i64 l] 132)))
       |(at_builtin;refine wpList_append_own _ rfl _ _ 103 rfl w.heap.size 132 i0 _ 7 56 Tryz.underlying103 hi0 hz0 hz1 hz2 rfl (by decide) u3 i (aB xs) rfl (hown3.alloc _) ⟨w2.heap.size+1,0,none⟩ 1 1 (aB [⟨key,c,ss,lo,hi',tt,l⟩]) rfl rfl (qmg (x:=⟨key,c,ss,lo,hi',tt,l⟩) (by have h5:=aG (w2.alloc (.cells #[.int .i64 key,.int .i64 c,.int .i64 ss,.int .i64 lo,.int .i64 hi',.int .i64 tt,.int .i64 l] 132)) [.int .i64 key,.int .i64 c,.int .i64 ss,.int .i64 lo,.int .i64 hi',.int .i64 tt,.int .i64 l] 132;rw[show(w2.alloc (.cells #[.int .i64 key,.int .i64 c,.int .i64 ss,.int .i64 lo,.int .i64 hi',.int .i64 tt,.int .i64 l] 132)).heap.size=w2.heap.size+1 by simp] at h5;exact h5)) (iK _) (by unfold maxLen;omega) (by omega) (by have:=HT.out.kp.size;have:=hT2.kp.size;simp;omega) ?_;intro v4 w4 hown4 hgrow4 _;have row4':=(V2.below ((Below.refl _ _).alloc (Nat.le_refl _) (.cells #[.int .i64 key,.int .i64 c,.int .i64 ss,.int .i64 lo,.int .i64 hi',.int .i64 tt,.int .i64 l] 132)) V2.lt).of_block (w':=w4) (hgrow4.block _ (by simp;omega) (fun e=>by have:=(HV.out _ e.symm).2;have:=hT2.kp.size;omega));have d4:=fun j=>row4'.cell j;have m4:=row4'.lt))
      go_roundw
      case rel=>
       refine⟨i+1,aft,xs++[⟨key,c,ss,lo,hi',tt,l⟩],key,by omega,by go_num,rfl,⟨kd,by omega⟩,by rw[List.length_append,HX.out];rfl,.inr HC.out,?_,?_,?_⟩
       ·show kR _ _=_;rw[show decide (i+1=0)=false from rfl,<-HJ.out]
       ·rw[<-q2h];exact hown4
       ·exact(hT3.below ((Below.refl _ _).alloc (Nat.le_refl _) (.cells #[.int .i64 key,.int .i64 c,.int .i64 ss,.int .i64 lo,.int .i64 hi',.int .i64 tt,.int .i64 l] 132))).grown hlw hgrow4 (fun k hk=>(HV.out k hk).1)
      case measure=>simp[intOf];omega
     ·clear hb2
      go_wp2_with (first
       |(go_at_call 154;refine con2.out.mono ?_;rintro e w2 ⟨rfl,hT2⟩;have hT3:=(HT.out.step hT2).below ((Below.refl w2.heap.size w2).alloc (Nat.le_refl _) (.cells #[.int .i64 key,.int .i64 c,.int .i64 ss,.int .i64 lo,.int .i64 hi',.int .i64 tt,.int .i64 l] 132));obtain⟨A4,C4,row4,-⟩:=hT3.rd.at';have e4:=row4.cell 1;have l4:=row4.lt;simp only[List.getElem?_cons_zero,List.getElem?_cons_succ] at e4;have V2:=aG w2 [.int .i64 key,.int .i64 c,.int .i64 ss,.int .i64 lo,.int .i64 hi',.int .i64 tt,.int .i64 l] 132;have hown3:=dI (aW (w':=w2) HO.out (fun k hk=>hT2.kp.block k (HV.out k hk).2 (by have:=(HV.out k hk).1;simp;omega))) ((Below.refl w2.heap.size w2).alloc (Nat.le_refl _) (.cells #[.int .i64 key,.int .i64 c,.int .i64 ss,.int .i64 lo,.int .i64 hi',.int .i64 tt,.int .i64 l] 132)))
       |(at_builtin;refine wpList_append_own _ rfl _ _ 103 rfl w.heap.size 132 i0 _ 7 56 Tryz.underlying103 hi0 hz0 hz1 hz2 rfl (by decide) u3 i (aB xs) rfl (hown3.alloc _) ⟨w2.heap.size+1,0,none⟩ 1 1 (aB [⟨key,c,ss,lo,hi',tt,l⟩]) rfl rfl (qmg (x:=⟨key,c,ss,lo,hi',tt,l⟩) (by have h5:=aG (w2.alloc (.cells #[.int .i64 key,.int .i64 c,.int .i64 ss,.int .i64 lo,.int .i64 hi',.int .i64 tt,.int .i64 l] 132)) [.int .i64 key,.int .i64 c,.int .i64 ss,.int .i64 lo,.int .i64 hi',.int .i64 tt,.int .i64 l] 132;rw[show(w2.alloc (.cells #[.int .i64 key,.int .i64 c,.int .i64 ss,.int .i64 lo,.int .i64 hi',.int .i64 tt,.int .i64 l] 132)).heap.size=w2.heap.size+1 by simp] at h5;exact h5)) (iK _) (by unfold maxLen;omega) (by omega) (by have:=HT.out.kp.size;have:=hT2.kp.size;simp;omega) ?_;intro v4 w4 hown4 hgrow4 _;have row4':=(V2.below ((Below.refl _ _).alloc (Nat.le_refl _) (.cells #[.int .i64 key,.int .i64 c,.int .i64 ss,.int .i64 lo,.int .i64 hi',.int .i64 tt,.int .i64 l] 132)) V2.lt).of_block (w':=w4) (hgrow4.block _ (by simp;omega) (fun e=>by have:=(HV.out _ e.symm).2;have:=hT2.kp.size;omega));have d4:=fun j=>row4'.cell j;have m4:=row4'.lt))
      go_roundw
      case rel=>
       refine⟨i+1,aft,xs++[⟨key,c,ss,lo,hi',tt,l⟩],key,by omega,by go_num,rfl,⟨kd,by omega⟩,by rw[List.length_append,HX.out];rfl,.inr HC.out,?_,?_,?_⟩
       ·show kR _ _=_;rw[show decide (i+1=0)=false from rfl,<-HJ.out]
       ·rw[<-q2h];exact hown4
       ·exact(hT3.below ((Below.refl _ _).alloc (Nat.le_refl _) (.cells #[.int .i64 key,.int .i64 c,.int .i64 ss,.int .i64 lo,.int .i64 hi',.int .i64 tt,.int .i64 l] 132))).grown hlw hgrow4 (fun k hk=>(HV.out k hk).1)
      case measure=>simp[intOf];omega
    ·have hjp:NL=[]/\NS=aft:=by
      have h2:=H1.out;rw[HST.out hcode] at h2;unfold kR at h2;simp only[hcode,if_false] at h2;obtain⟨e1,e2⟩:=Prod.mk.inj h2;exact⟨e1.symm,e2.symm⟩
     obtain⟨rfl,rfl⟩:=hjp;have hcd:=bne_iff_ne.2 hcode;clear HST HGO HA H1 HN HX HBD hk
     by_cases h0:(0:Int)<(i:Int)
     ·have hk1:(key==ahead)=false:=by
       rcases hb2 with hb2|hb2
       ·simp only[decide_eq_true_eq] at hb2;omega
       ·simpa using hb2
      clear hb2
      go_upto_region 10 with(first
       |(go_at_call 154;refine con2.out.mono ?_;rintro e w2 ⟨rfl,hT2⟩;have hT3:=(HT.out.step hT2).below ((Below.refl w2.heap.size w2).alloc (Nat.le_refl _) (.cells #[.int .i64 key,.int .i64 c,.int .i64 ss,.int .i64 lo,.int .i64 hi',.int .i64 tt,.int .i64 l] 132));obtain⟨A4,C4,row4,-⟩:=hT3.rd.at';have e4:=row4.cell 1;have l4:=row4.lt;simp only[List.getElem?_cons_zero,List.getElem?_cons_succ] at e4))
      repeat go_step
      refine bodyPost_ret (v:=.slice none 0 0) (by simp[results,Tryz.results126,go_sem]) rfl ⟨_,rfl,World.ownsRow_nil _ _ _ _,hT3⟩
     ·clear hb2
      go_upto_region 10 with(first
       |(go_at_call 154;refine con2.out.mono ?_;rintro e w2 ⟨rfl,hT2⟩;have hT3:=(HT.out.step hT2).below ((Below.refl w2.heap.size w2).alloc (Nat.le_refl _) (.cells #[.int .i64 key,.int .i64 c,.int .i64 ss,.int .i64 lo,.int .i64 hi',.int .i64 tt,.int .i64 l] 132));obtain⟨A4,C4,row4,-⟩:=hT3.rd.at';have e4:=row4.cell 1;have l4:=row4.lt;simp only[List.getElem?_cons_zero,List.getElem?_cons_succ] at e4))
      repeat go_step
      refine bodyPost_ret (v:=.slice none 0 0) (by simp[results,Tryz.results126,go_sem]) rfl ⟨_,rfl,World.ownsRow_nil _ _ _ _,hT3⟩
  ·have hlt':¬((i:Int)<(n:Int)):=by omega
   have h1:=HE.out;rw[show n-i=0 by omega] at h1
   have e1:xs=NL/\s'=NS:=by
    unfold kR at h1;obtain⟨e1,e2⟩:=Prod.mk.inj h1;refine⟨?_,e2⟩;rw[<-e1];show xs=if s'.code=0 then xs++[] else[]
    rcases hcz with h0|h0
    ·subst h0;obtain rfl:xs=[]:=List.eq_nil_of_length_eq_zero hxl
     split<;>rfl
    ·rw[if_pos h0,List.append_nil]
   have HO2:=aF (show wr.ownsRow w.heap.size 132 7 u3 xs.length (aB xs) by rw[hxl];exact hown)
   obtain⟨rfl,rfl⟩:=e1;clear h1 HE HN hown hxl;go_wp2_with fail;go_ret;exact⟨_,rfl,HO2.out,hT⟩

theorem qg1{bs:List Int}{i:Nat}(h:i<bs.length):(bs.take (i+1)).foldl iI (1,0)=iI ((bs.take i).foldl iI (1,0)) bs[i]:=by
 rw[List.take_succ_eq_append_getElem h,List.foldl_append]
 rfl

theorem qhu(bs:List Int)(i:Nat):0<=((bs.take i).foldl iI (1,0)).1/\((bs.take i).foldl iI (1,0)).1<65521/\0<=((bs.take i).foldl iI (1,0)).2/\((bs.take i).foldl iI (1,0)).2<65521:=q7l (bs.take i)

set_option maxRecDepth 20000 in
set_option maxHeartbeats 2000000 in
theorem qbp(A:Option Addr)(C:Nat)(bs:List Int)(w:World)(h:aX w.heap.size w A C bs)(hu:U8 bs):
  Calls Tryz.prog 60 #[.slice A bs.length C] w fun e w'=>∃g,e=.returned (.slice (some ⟨g,0,none⟩) 4 4)/\w.heap.size<=g/\RowL w' g 5 (u8s (iH bs))/\Below w.heap.size w w':=by
 have hz:=h.1;have hz2:=h.2.1
 go_enter Tryz.func60,Tryz.ntmps60
 go_wp2_with fail
 go_loopw [3,4,6,9] (fun vx vy _ vi wr=>∃i:Nat,i<=bs.length/\vi=.int .i64 (i:Int)/\vx=.int .i64 ((bs.take i).foldl iI (1,0)).1/\vy=.int .i64 ((bs.take i).foldl iI (1,0)).2/\wr=w) (fun _ _ _ vi _=>bs.length-(intOf vi).toNat)
 case atStart=>exact⟨0,Nat.zero_le _,rfl,rfl,rfl,rfl⟩
 case round=>
  obtain⟨i,hi,rfl,rfl,rfl,rfl⟩:=hrel;obtain⟨x0,x1,y0,y1⟩:=qhu bs i
  by_cases hlt:i<bs.length
  ·obtain⟨b,o,rfl,hbl,hc⟩:=h.row.byte hlt;obtain⟨c0,c1⟩:=hu _ (List.getElem_mem hlt);have HE:=aF (qg1 hlt);obtain⟨P,hP⟩:∃P,(bs.take i).foldl iI (1,0)=P:=⟨_,rfl⟩;rw[hP] at HE x0 x1 y0 y1 ⊢;obtain⟨x,y⟩:=P;obtain⟨c,hcc⟩:∃c,bs[i]=c:=⟨_,rfl⟩;rw[hcc] at HE hc c0 c1;simp only at x0 x1 y0 y1 ⊢;have k0:IntKind.i64.wrap c=c:=by rw[IntKind.wrap_i64];omega
   have k1:IntKind.i64.wrap (x+c)=x+c:=by rw[IntKind.wrap_i64];omega
   have k2:(x+c).tmod 65521=(x+c)%65521:=Int.tmod_eq_emod_of_nonneg (by omega)
   have k3:IntKind.i64.wrap (y+(x+c)%65521)=y+(x+c)%65521:=by rw[IntKind.wrap_i64];omega
   have k4:(y+(x+c)%65521).tmod 65521=(y+(x+c)%65521)%65521:=Int.tmod_eq_emod_of_nonneg (by omega)
   clear hP hcc hu h;have q0:(0:Int)<=(i:Int):=by omega
   have q1:(i:Int)<(bs.length:Int):=by omega
   go_wp2_with fail;exact⟨⟨i+1,hlt,by go_num,by rw[HE.out];rfl,by rw[HE.out];exact congrArg _ (show _=(y+(x+c)%65521)%65521 by omega),trivial⟩,by simp only[intOf];omega⟩
  ·have hni:¬((i:Int)<(bs.length:Int)):=by omega
   rw[List.take_of_length_le (show bs.length<=i by omega)] at x0 x1 y0 y1 ⊢
   have HP:Hid (iH bs=yR (bs.foldl iI (1,0))):=rfl;obtain⟨P,hP⟩:∃P,bs.foldl iI (1,0)=P:=⟨_,rfl⟩;rw[hP] at HP x0 x1 y0 y1 ⊢;obtain⟨x,y⟩:=P;simp only at x0 x1 y0 y1 ⊢;clear hP;go_wp2_with fail;go_ret;refine⟨wr.heap.size,rfl,Nat.le_refl _,?_,(Below.refl _ _).alloc (Nat.le_refl _) _⟩;rw[HP.out];exact aG wr _ _

theorem qex{a b:List Int}(ha:U8 a)(hb:U8 b)(h:iP a=iP b):a=b:=by
 rw[<-q5a ha,<-q5a hb,h]

set_option maxRecDepth 20000 in
theorem q6q(A B:Option Addr)(C D:Nat)(a b:List Int)(w:World)(hA:aX w.heap.size w A C a)(hB:aX w.heap.size w B D b)(ua:U8 a)(ub:U8 b):
  Calls Tryz.prog 149 #[.slice A a.length C,.slice B b.length D] w fun e w'=>e=.returned (.bool (decide (a=b)))/\w'=w:=by
 have k1:=zD hA ua;have k2:=zD hB ub
 by_cases h:a=b
 ·subst h;rw[decide_eq_true rfl];clear hA hB
  go_enter Tryz.func149,Tryz.ntmps149
  go_wp2;go_ret;exact⟨by simp,rfl⟩
 ·have h':¬(iP a).toList=(iP b).toList:=fun e=>h (qex ua ub (by
   apply ByteArray.ext;apply Array.toList_inj.1;rw[<-ByteArray.toList_eq,<-ByteArray.toList_eq];exact e))
  rw[decide_eq_false h];clear hA hB
  go_enter Tryz.func149,Tryz.ntmps149
  go_wp2;go_ret;exact⟨by simp[h'],rfl⟩

theorem qof:U8 mark:=fun x hx=>by
 simp only[mark,List.mem_cons,List.not_mem_nil,or_false] at hx;omega

theorem qnd{w:World}{g:Nat}(hg:g=w.heap.size)(fr:Nat × Nat):aX (g+1) (w.alloc (.cells #[.int .u8 119,.int .u8 110] 5 fr)) (some ⟨g,0,none⟩) 2 mark:=by
 subst hg;refine⟨by decide,by decide,.inr ⟨w.heap.size,0,rfl,by omega,fun j u hu=>?_⟩⟩
 rw[Nat.zero_add,World.cell?_alloc_mark]
 have h2:(u8s mark)[j]? =(#[Value.int .u8 119,Value.int .u8 110]:Array Value)[j]? :=by
  show([Value.int .u8 119,Value.int .u8 110]:List Value)[j]? =_;simp
 rw[<-h2];exact hu

set_option maxRecDepth 20000 in
set_option maxHeartbeats 1000000 in
theorem qcz(b o C D g:Nat)(bs:List Int)(w:World)(hA:aX w.heap.size w (some ⟨b,o,none⟩) C bs)(hB:aX w.heap.size w (some ⟨g,0,none⟩) D mark)(hu:U8 bs)(hl:2<=bs.length):
  Calls Tryz.prog 148 #[.slice (some ⟨b,o,none⟩) bs.length C,.slice (some ⟨g,0,none⟩) 2 D] w fun e w'=>e=.returned (.bool (decide (bs.take 2=mark)))/\w'=w:=by
 have hle:=hA.1;have con:=aF fun W (hW:W=w)=>q6q (some ⟨b,o,none⟩) (some ⟨g,0,none⟩) C D (bs.take 2) mark W (by rw[hW];exact hA.take 2) (by rw[hW];exact hB) (uO hu 2) qof
 have tl:(bs.take 2).length=2:=by rw[List.length_take];omega
 rw[tl,show mark.length=2 from rfl] at con;have q0:(2:Int)<=(bs.length:Int):=by omega
 have q1:(2:Int)<=(C:Int):=by omega
 have hC0:¬C=0:=by omega
 obtain⟨v,hv⟩:∃v,decide (bs.take 2=mark)=v:=⟨_,rfl⟩;rw[hv] at con ⊢;clear hA hB tl hv
 go_enter Tryz.func148,Tryz.ntmps148
 go_wp2_with (first
  |(go_at_call 149;refine(con.out _ rfl).mono ?_;rintro e wx ⟨rfl,hwx⟩;subst wx))
 go_ret;exact⟨rfl,rfl⟩

def UnTo(b:List Int)(w:World)(e:Ending)(w':World):Prop:=
 Below w.heap.size w w'/\((dK b≠0/\e=.returned (.tuple #[.slice none 0 0,.int .i64 (dK b)]))\/(dK b=0/\∃A C,e=.returned (.tuple #[.slice A (aU b).length C,.int .i64 0])/\aX w.heap.size w' A C (aU b)))

set_option maxRecDepth 20000 in
set_option maxHeartbeats 2000000 in
theorem q3x(A:Option Addr)(C:Nat)(bs:List Int)(w:World)(h:aX w.heap.size w A C bs)(hu:U8 bs):
  Calls Tryz.prog 123 #[.slice A bs.length C] w (UnTo bs w):=by
 by_cases h1:200000<bs.length
 ·have hc:dK bs=1:=by unfold dK;rw[if_pos h1]
  have h1':(200000:Int)<(bs.length:Int):=by omega
  have HC:=aF hc;clear h hu hc
  go_enter Tryz.func123,Tryz.ntmps123
  go_wp2;exact bodyPost_ret (v:=.tuple #[.slice none 0 0,.int .i64 1]) (by simp[results,Tryz.results123,go_sem]) rfl ⟨Below.refl _ _,.inl ⟨by rw[HC.out];decide,by rw[HC.out]⟩⟩
 ·by_cases h2:bs.length<6
  ·have hc:dK bs=5:=by unfold dK;rw[if_neg h1,if_pos h2]
   have h1':¬(200000:Int)<(bs.length:Int):=by omega
   have h2':(bs.length:Int)<6:=by omega
   have HC:=aF hc;clear h hu hc
   go_enter Tryz.func123,Tryz.ntmps123
   go_wp2;exact bodyPost_ret (v:=.tuple #[.slice none 0 0,.int .i64 5]) (by simp[results,Tryz.results123,go_sem]) rfl ⟨Below.refl _ _,.inl ⟨by rw[HC.out];decide,by rw[HC.out]⟩⟩
  ·have h1':¬(200000:Int)<(bs.length:Int):=by omega
   have h2':¬(bs.length:Int)<6:=by omega
   obtain⟨b,o,rfl⟩:∃b o,A=some ⟨b,o,none⟩:=by
    obtain⟨b,o,hA,-⟩:=h.row.byte (k:=0) (by omega)
    exact⟨b,o,hA⟩
   have kc:=fun(C':Array Value) (n c:Nat)=>Lib.run_convert_bytes_const (P:=Tryz.prog) w 60 5 C' n c Tryz.underlying60 (by kernel_rfl)
   have b1:∀o':Obj,Below w.heap.size w (w.alloc o'):=fun o'=>(Below.refl _ _).alloc (Nat.le_refl _) o'
   have con1:=aF fun W (hW:W=w.alloc (.cells #[.int .u8 119,.int .u8 110] 5 (2,3)))=>qcz b o C 2 w.heap.size bs W (by rw[hW];exact(h.below (b1 _) (Nat.le_refl _)).mono (by simp)) (by rw[hW];have:=qnd (w:=w) rfl (2,3);simpa using this) hu (by omega)
   by_cases h3:bs.take 2=mark
   ·rw[decide_eq_true h3] at con1;obtain⟨m,hm⟩:∃m:Nat,m=bs.length-4:=⟨_,rfl⟩;have kw:IntKind.i64.wrap ((bs.length:Int)-4)=(m:Int):=by rw[IntKind.wrap_i64];omega
    have kw2:(bs.length:Int)-4=(m:Int):=by omega
    have hle:=h.1;have q0:(0:Int)<=(m:Int):=by omega
    have q1:(m:Int)<=(C:Int):=by omega
    have q2:(m:Int)<=(bs.length:Int):=by omega
    have q3:(2:Int)<=(m:Int):=by omega
    have hC0:¬C=0:=by omega
    have hCm:¬C=m:=by omega
    have hC2:¬C=2:=by omega
    have tl:(bs.take m).length=m:=by rw[List.length_take];omega
    have dl:(bs.drop m).length=4:=by rw[List.length_drop];omega
    have hd4:bs.length-m=4:=by omega
    have con2:=aF fun W (hW:Below w.heap.size w W)=>qbp (some ⟨b,o,none⟩) C (bs.take m) W (((h.take m).below hW (Nat.le_refl _)).mono hW.size) (uO hu m)
    rw[tl] at con2;have con3:=aF fun(g:Nat) W (hW:Below w.heap.size w W) (hg:RowL W g 5 (u8s (iH (bs.take m))))=>q6q (some ⟨g,0,none⟩) (some ⟨b,o+m,none⟩) 4 (C-m) (iH (bs.take m)) (bs.drop m) W ⟨Nat.le_refl _,by decide,.inr ⟨g,0,rfl,hg.lt,fun j u hu=>by rw[Nat.zero_add,hg.cell];exact hu⟩⟩ (((h.drop (by omega)).below hW (Nat.le_refl _)).mono hW.size) (qaz _) (xZ hu m)
    rw[dl,show(iH (bs.take m)).length=4 from rfl] at con3;have HB:=aF h
    have HSC:Hid (dK bs=if iH (bs.take m)=bs.drop m then 0 else 9):=by
     show _=_;unfold dK mV;rw[if_neg h1,if_neg h2,if_pos h3,hm]
    have HBP:Hid (aU bs=(bs.take m).drop 2):=by
     show _=_;unfold aU mV;rw[hm]
    obtain⟨v,hv⟩:∃v,decide (iH (bs.take m)=bs.drop m)=v:=⟨_,rfl⟩;rw[hv] at con3;have HV:=aF hv;clear hv h hu h3 hm tl dl hle
    go_enter Tryz.func123,Tryz.ntmps123
    go_upto_region 8 with(first
     |(go_at_call 148;refine(con1.out _ rfl).mono ?_;rintro e wx ⟨rfl,hwx⟩;subst wx))
    have HB1:Hid (Below w.heap.size w (w.alloc (.cells #[.int .u8 119,.int .u8 110] 5 (2,3)))):=b1 _;obtain⟨wd,hwd⟩:∃wd,wd=w.alloc (.cells #[.int .u8 119,.int .u8 110] 5 (2,3)):=⟨_,rfl⟩;rw[<-hwd] at HB1 ⊢;clear hwd con1 kc b1
    go_region_with (first
     |(go_at_call 60;refine(con2.out _ (HB1.out.drew)).mono ?_;rintro e w2 ⟨g,rfl,hg,hrow,hb2⟩;have HB2:Hid (Below w.heap.size w w2):=aC HB1.out.drew (Nat.le_refl _) hb2)
     |(go_at_call 149;refine(con3.out _ _ HB2.out hrow).mono ?_;rintro e wx ⟨rfl,hwx⟩;subst wx))
    have hlen:(aU bs).length=m-2:=by
     rw[HBP.out,List.length_drop,List.length_take];omega
    have HL:=aF hlen;cases v with
    |true=>
     have hs0:dK bs=0:=by rw[HSC.out,if_pos (of_decide_eq_true HV.out)]
     have HS0:=aF hs0;clear hs0 hlen;go_wp2;refine bodyPost_ret (v:=.tuple #[.slice (some ⟨b,o+2,none⟩) (m-2) (C-2),.int .i64 0]) (by simp[results,Tryz.results123,go_sem]) rfl ⟨HB2.out,.inr ⟨HS0.out,some ⟨b,o+2,none⟩,C-2,by rw[HL.out],?_⟩⟩
     rw[HBP.out];exact((HB.out.take m).drop (by rw[List.length_take];omega)).below HB2.out (Nat.le_refl _)
    |false=>
     have hs0:dK bs=9:=by rw[HSC.out,if_neg (of_decide_eq_false HV.out)]
     have HS0:=aF hs0;clear hs0 hlen;go_wp2;exact bodyPost_ret (v:=.tuple #[.slice none 0 0,.int .i64 9]) (by simp[results,Tryz.results123,go_sem]) rfl ⟨HB2.out,.inl ⟨by rw[HS0.out];decide,by rw[HS0.out]⟩⟩
   ·have hc:dK bs=4:=by unfold dK;rw[if_neg h1,if_neg h2,if_neg h3]
    have HC:=aF hc;rw[decide_eq_false h3] at con1;clear h hu hc h3
    go_enter Tryz.func123,Tryz.ntmps123
    go_wp2_with (first
     |(go_at_call 148;refine(con1.out _ rfl).mono ?_;rintro e wx ⟨rfl,hwx⟩;subst wx))
    exact bodyPost_ret (v:=.tuple #[.slice none 0 0,.int .i64 4]) (by simp[results,Tryz.results123,go_sem]) rfl ⟨b1 _,.inl ⟨by rw[HC.out];decide,by rw[HC.out]⟩⟩

end
section
open Go.RowKit Plain Go.Shelf

def sJ:List Value:=[.slice none 0 0,.slice none 0 0,.int .i64 0,.slice none 0 0,.int .i64 0,.slice none 0 0,.int .i64 0,.int .i64 0]

theorem q3z{A:Option Addr}{C:Nat}{bs:List Int}{w:World}(h:aX w.heap.size w A C bs)(hu:U8 bs)(hc:dK bs=0):
  Calls Tryz.prog 123 #[.slice A bs.length C] w fun e w'=>∃A' C',e=.returned (.tuple #[.slice A' (aU bs).length C',.int .i64 0])/\aX w.heap.size w' A' C' (aU bs)/\Below w.heap.size w w':=by
 refine(q3x A C bs w h hu).mono ?_;rintro e w' ⟨hb,⟨h0,_⟩|⟨_,A',C',he,hb'⟩⟩
 ·exact absurd hc h0
 ·exact⟨A',C',he,hb',hb⟩

structure qrs(body:List Int)(rb:Nat)(s1 s2 s3 s4:Rs)(ss:List ByteArray)(f:Int)(L:List En):Prop where
 nm:∀W,RdAt W rb ⟨body,0⟩->Calls Tryz.prog 124 #[.pointer (some ⟨rb,0,none⟩)] W fun e w'=>∃v,e=.returned v/\w'.ownsRow W.heap.size 9 1 v ss.length (strs ss)/\RdTo rb s1 W w'
 fl:∀W,RdAt W rb s1->Calls Tryz.prog 125 #[.pointer (some ⟨rb,0,none⟩)] W fun e w'=>e=.returned (.int .i64 f)/\RdTo rb s2 W w'
 pt:∀W,RdAt W rb s2->Calls Tryz.prog 126 #[.pointer (some ⟨rb,0,none⟩)] W fun e w'=>∃v,e=.returned v/\w'.ownsRow W.heap.size 132 7 v L.length (aB L)/\RdTo rb s3 W w'
 en:∀W,RdAt W rb s3->Calls Tryz.prog 127 #[.pointer (some ⟨rb,0,none⟩)] W fun e w'=>e=.returned (.tuple #[])/\RdTo rb s4 W w'

theorem reads(body:List Int)(rb:Nat):qrs body rb (cZ body).2 (dP body).2 (dL body).2 (kM body) (cZ body).1 (dP body).1 (dL body).1:=
 ⟨fun W h=>qd0 rb ⟨body,0⟩ W h,fun W h=>sU rb _ W h,fun W h=>q8m rb _ W h,fun W h=>qo4 rb _ W h⟩

theorem qb8{w:World}{A:Option Addr}{C:Nat}{body:List Int}(h:aX w.heap.size w A C body)(hu:U8 body):RdAt (w.alloc (.cells #[.slice A body.length C,.int .i64 0] 184)) w.heap.size ⟨body,0⟩:=
 ⟨⟨A,C,aG w [.slice A body.length C,.int .i64 0] 184,h.blocks fun _ hk=>Below.heap_alloc _ _ _ hk⟩,fun h=>absurd rfl h,hu⟩

structure qre(w:World)(bx rb:Nat)(B2 B4:Nat)(NA:Value)(ss:List ByteArray)(VA:Value)(L:List En)(s:Rs)(w':World):Prop where
 below:Below w.heap.size w w'
 box:RowL w' bx 35 sJ
 rd:RdAt w' rb s
 nm:w'.ownsRow B2 9 1 NA ss.length (strs ss)
 pt:w'.ownsRow B4 132 7 VA L.length (aB L)
 b2:w.heap.size+1<=B2
 b4:w.heap.size+1<=B4

theorem tY{B rb n sz:Nat}{t:TypeId}{v:Value}{us:List Value}{w w':World}(h:w.ownsRow B t sz v n us)(hk:Kept [rb] w w')(hr:rb<B):w'.ownsRow B t sz v n us:=
 aW h fun k hk'=>hk.block k (h.lt k hk').2 (by have:=(h.lt k hk').1;simp;omega)

theorem qhl{w w1 w2 w3 w4 w5 w6:World}{bx rb:Nat}{NA VA:Value}{ss:List ByteArray}{L:List En}{s1 s2 s3 s4:Rs}(h1:Below w.heap.size w w1)(hx:RowL w1 bx 35 sJ)(hxr:bx<rb)(hw:w.heap.size<=rb)(h2:Below w1.heap.size w1 w2)(hl:rb<w2.heap.size)(k3:RdTo rb s1 w2 w3)(hn:w3.ownsRow w2.heap.size 9 1 NA ss.length (strs ss))(k4:RdTo rb s2 w3 w4)
  (k5:RdTo rb s3 w4 w5) (hp:w5.ownsRow w4.heap.size 132 7 VA L.length (aB L)) (k6:RdTo rb s4 w5 w6):qre w bx rb w2.heap.size w4.heap.size NA ss VA L s4 w6:=by
 have z3:=k3.kp.size;have z4:=k4.kp.size;have kk:=((k3.kp.trans k4.kp).trans k5.kp).trans k6.kp;have hb2:=aC h1 (Nat.le_refl _) h2;have z2:=hb2.size;refine⟨hb2.trans (kk.below (by omega) (by simpa using hw)),kk.row (hx.below h2 hx.lt) (by simp;omega),k6.rd,tY (tY (tY hn k4.kp hl) k5.kp hl) k6.kp hl,tY hp k6.kp (by omega),by omega,by omega⟩

set_option maxRecDepth 20000 in
set_option maxHeartbeats 4000000 in
theorem q9d(A:Option Addr)(C:Nat)(bs:List Int)(w:World)(h:aX w.heap.size w A C bs)(hu:U8 bs)(hs:dK bs=0)(hc:(kM (aU bs)).code≠0):
  Calls Tryz.prog 102 #[.slice A bs.length C] w fun e w'=>e=.returned (.tuple #[.agg #[.slice none 0 0,.slice none 0 0,.int .i64 0,.slice none 0 0,.int .i64 0,.slice none 0 0,.int .i64 0,.int .i64 0],.int .i64 (kM (aU bs)).code])/\Below w.heap.size w w':=by
 have b0:∀o:Obj,Below w.heap.size w (w.alloc o):=fun o=>(Below.refl _ _).alloc (Nat.le_refl _) o
 have con:=aF fun o=>q3z (w:=w.alloc o) ((h.below (b0 o) (Nat.le_refl _)).mono (by simp)) hu hs
 have hub:U8 (aU bs):=xZ (uO hu _) 2;obtain⟨body,hbody⟩:∃body,aU bs=body:=⟨_,rfl⟩;rw[hbody] at con hub hc ⊢;have RDS:=aF (reads body);obtain⟨s1,g1⟩:∃s1,(cZ body).2=s1:=⟨_,rfl⟩;obtain⟨s2,g2⟩:∃s2,(dP body).2=s2:=⟨_,rfl⟩;obtain⟨s3,g3⟩:∃s3,(dL body).2=s3:=⟨_,rfl⟩;obtain⟨s4,g4⟩:∃s4,kM body=s4:=⟨_,rfl⟩;obtain⟨ss,g5⟩:∃ss,(cZ body).1=ss:=⟨_,rfl⟩;obtain⟨f,g6⟩:∃f,(dP body).1=f:=⟨_,rfl⟩;obtain⟨L,g7⟩:∃L,(dL body).1=L:=⟨_,rfl⟩;rw[g1,g2,g3,g4,g5,g6,g7] at RDS;rw[g4] at hc ⊢;obtain⟨c,hcc⟩:∃c,s4.code=c:=⟨_,rfl⟩;rw[hcc] at hc ⊢;have HCC:=aF hcc;have hne:(c != 0)=true:=by simpa using hc
 have HU:=aF hub;clear h hu hs hub hbody g1 g2 g3 g4 g5 g6 g7 hcc hc
 go_enter Tryz.func102,Tryz.ntmps102
 go_upto_region 3 with(first
  |(go_at_call 123;refine(con.out _).mono ?_;rintro e w1 ⟨A1,C1,rfl,hby,hb1⟩;have XB:=aF ((aG w [.slice none 0 0,.slice none 0 0,.int .i64 0,.slice none 0 0,.int .i64 0,.slice none 0 0,.int .i64 0,.int .i64 0] 35).below hb1 (by simp));have HB1:=aF (aC (b0 _) (Nat.le_refl _) hb1);have HY:=aF (hby.mono hb1.size);have lx:=XB.out.lt;clear hb1 hby))
 go_upto_region 5 with fail;have HS:=aF (qb8 HY.out HU.out);have HW2:=aF (show Below w1.heap.size w1 (w1.alloc (.cells #[.slice A1 body.length C1,.int .i64 0] 184)) from(Below.refl _ _).alloc (Nat.le_refl _) _);have hrl:w1.heap.size<(w1.alloc (.cells #[.slice A1 body.length C1,.int .i64 0] 184)).heap.size:=by simp
 obtain⟨w2,hw2⟩:∃w2,w2=w1.alloc (.cells #[.slice A1 body.length C1,.int .i64 0] 184):=⟨_,rfl⟩;rw[<-hw2] at HS HW2 hrl ⊢;have RD:=aF (RDS.out w1.heap.size);have HHH:=aF (show w.heap.size<w1.heap.size/\w1.heap.size<w2.heap.size from⟨lx,hrl⟩);obtain⟨rb,hrb⟩:∃rb,rb=w1.heap.size:=⟨_,rfl⟩;rw[<-hrb] at HS RD HHH ⊢;have HRB:=aF hrb;clear hw2 RDS hrl lx hrb HY con b0
 go_upto_region 9 with(first
  |(go_at_call 124;refine(RD.out.nm _ HS.out).mono ?_;rintro e w3 ⟨v3,rfl,hn3,hk3⟩;have K3:=aF hk3;have N3:=aF hn3;clear hn3 hk3)
  |(go_at_call 125;refine(RD.out.fl _ K3.out.rd).mono ?_;rintro e w4 ⟨rfl,hk4⟩;have K4:=aF hk4;clear hk4)
  |(go_at_call 126;refine(RD.out.pt _ K4.out.rd).mono ?_;rintro e w5 ⟨v5,rfl,hp5,hk5⟩;have K5:=aF hk5;have N5:=aF hp5;clear hp5 hk5)
  |(go_at_call 127;refine(RD.out.en _ K5.out.rd).mono ?_;rintro e w6 ⟨rfl,hk6⟩;have K6:=aF hk6;clear hk6))
 have RI:=aF (qhl (w:=w) (bx:=w.heap.size) HB1.out XB.out (by have:=HHH.out;omega) (by have:=HHH.out;omega) HW2.out (by have:=HHH.out;omega) K3.out N3.out K4.out K5.out N5.out K6.out)
 obtain⟨⟨A6,C6,hrow,_⟩,_,_⟩:=RI.out.rd;have r1:=hrow.cell 1;have b:=fun j=>RI.out.box.cell j
 have bf:=fun j=>RI.out.box.frozen j
 have lb:=RI.out.box.lt;have lr:=hrow.lt;simp only[List.getElem?_cons_zero,List.getElem?_cons_succ] at r1;simp only[sJ] at b;rw[HCC.out] at r1;have hbr:w.heap.size<rb:=by have:=HHH.out;omega
 clear hrow HHH K3 N3 K4 K5 N5 K6;go_upto_region 10 with fail
 go_region
 go_wp2;refine bodyPost_ret (v:=.tuple #[.agg #[.slice none 0 0,.slice none 0 0,.int .i64 0,.slice none 0 0,.int .i64 0,.slice none 0 0,.int .i64 0,.int .i64 0],.int .i64 c]) (by simp[results,Tryz.results102,go_sem,b]) rfl ⟨rfl,?_⟩
 exact(eY RI.out.below (Nat.le_refl _) _ _ _ _ _ _ _ _).drew

def BoIn(Q:Option Addr->Nat->World->World->List Value->Int->Prop)(A:Option Addr)(C:Nat)(W:World)(e:Ending)(w':World):Prop:=
 ∃(M:Option Addr) (m D:Nat) (X0:Option Addr) (x0 Y0:Nat) (z0:Int) (X1:Option Addr) (x1 Y1:Nat) (z1:Int) (X2:Option Addr) (x2 Y2:Nat) (z2 z c:Int),e=.returned (.tuple #[.agg #[.slice M m D,.slice X0 x0 Y0,.int .i64 z0,.slice X1 x1 Y1,.int .i64 z1,.slice X2 x2 Y2,.int .i64 z2,.int .i64 z],.int .i64 c])/\Below W.heap.size W w'/\Q A C W w' [.slice M m D,.slice X0 x0 Y0,.int .i64 z0,.slice X1 x1 Y1,.int .i64 z1,.slice X2 x2 Y2,.int .i64 z2,.int .i64 z] c

def DeIn(Q:Option Addr->Nat->World->World->List Value->Int->Prop)(ss:List ByteArray)(w:World)(e:Ending)(w':World):Prop:=
 ∃(M:Option Addr) (m D:Nat) (X0:Option Addr) (x0 Y0:Nat) (z0:Int) (X1:Option Addr) (x1 Y1:Nat) (z1:Int) (X2:Option Addr) (x2 Y2:Nat) (z2 z c:Int) (A:Option Addr) (C:Nat) (W w7:World),e=.returned (.tuple #[.agg #[.slice M m D,.slice X0 x0 Y0,.int .i64 z0,.slice X1 x1 Y1,.int .i64 z1,.slice X2 x2 Y2,.int .i64 z2,.int .i64 z],.int .i64 c])/\Below w.heap.size w w'/\Below w.heap.size w W/\w.heap.size<W.heap.size/\W.ownsRow (w.heap.size+1) 9 1 (.slice A ss.length C) ss.length (strs ss)/\Below W.heap.size W w7/\Q A C W w7 [.slice M m D,.slice X0 x0 Y0,.int .i64 z0,.slice X1 x1 Y1,.int .i64 z1,.slice X2 x2 Y2,.int .i64 z2,.int .i64 z] c/\∀k,k≠w.heap.size->w'.heap[k]? =w7.heap[k]?

set_option maxRecDepth 20000 in
set_option maxHeartbeats 4000000 in
theorem q9o(Q:Option Addr->Nat->World->World->List Value->Int->Prop)(A:Option Addr)(C:Nat)(bs:List Int)(w:World)(h:aX w.heap.size w A C bs)(hu:U8 bs)(hs:dK bs=0)(hc:(kM (aU bs)).code=0)
  (BO:∀(NA VA:Option Addr) (NC VC:Nat) (W:World),Below w.heap.size w W->(cZ (aU bs)).1.length<=NC->aH W.heap.size W NA (strs (cZ (aU bs)).1)->aH W.heap.size W VA (aB (dL (aU bs)).1)->
   Calls Tryz.prog 128 #[.slice NA (cZ (aU bs)).1.length NC,.int .i64 (dP (aU bs)).1,.slice VA (dL (aU bs)).1.length VC] W (BoIn Q NA NC W)):
  Calls Tryz.prog 102 #[.slice A bs.length C] w (DeIn Q (cZ (aU bs)).1 w):=by
 have b0:∀o:Obj,Below w.heap.size w (w.alloc o):=fun o=>(Below.refl _ _).alloc (Nat.le_refl _) o
 have con:=aF fun o=>q3z (w:=w.alloc o) ((h.below (b0 o) (Nat.le_refl _)).mono (by simp)) hu hs
 have hub:U8 (aU bs):=xZ (uO hu _) 2;obtain⟨body,hbody⟩:∃body,aU bs=body:=⟨_,rfl⟩;rw[hbody] at con hub hc BO ⊢;have RDS:=aF (reads body);obtain⟨s1,g1⟩:∃s1,(cZ body).2=s1:=⟨_,rfl⟩;obtain⟨s2,g2⟩:∃s2,(dP body).2=s2:=⟨_,rfl⟩;obtain⟨s3,g3⟩:∃s3,(dL body).2=s3:=⟨_,rfl⟩;obtain⟨s4,g4⟩:∃s4,kM body=s4:=⟨_,rfl⟩;obtain⟨ss,g5⟩:∃ss,(cZ body).1=ss:=⟨_,rfl⟩;obtain⟨f,g6⟩:∃f,(dP body).1=f:=⟨_,rfl⟩;obtain⟨L,g7⟩:∃L,(dL body).1=L:=⟨_,rfl⟩;rw[g1,g2,g3,g4,g5,g6,g7] at RDS;rw[g5,g6,g7] at BO;rw[g5];have BO':=aF BO;clear BO;rw[g4] at hc;have HCC:=aF hc;unfold DeIn;have HU:=aF hub;clear h hu hs hub hbody g1 g2 g3 g4 g5 g6 g7 hc
 go_enter Tryz.func102,Tryz.ntmps102
 go_upto_region 3 with(first
  |(go_at_call 123;refine(con.out _).mono ?_;rintro e w1 ⟨A1,C1,rfl,hby,hb1⟩;have XB:=aF ((aG w [.slice none 0 0,.slice none 0 0,.int .i64 0,.slice none 0 0,.int .i64 0,.slice none 0 0,.int .i64 0,.int .i64 0] 35).below hb1 (by simp));have HB1:=aF (aC (b0 _) (Nat.le_refl _) hb1);have HY:=aF (hby.mono hb1.size);have lx:=XB.out.lt;clear hb1 hby))
 go_upto_region 5 with fail;have HS:=aF (qb8 HY.out HU.out);have HW2:=aF (show Below w1.heap.size w1 (w1.alloc (.cells #[.slice A1 body.length C1,.int .i64 0] 184)) from(Below.refl _ _).alloc (Nat.le_refl _) _);have hrl:w1.heap.size<(w1.alloc (.cells #[.slice A1 body.length C1,.int .i64 0] 184)).heap.size:=by simp
 obtain⟨w2,hw2⟩:∃w2,w2=w1.alloc (.cells #[.slice A1 body.length C1,.int .i64 0] 184):=⟨_,rfl⟩;rw[<-hw2] at HS HW2 hrl ⊢;have RD:=aF (RDS.out w1.heap.size);have HHH:=aF (show w.heap.size<w1.heap.size/\w1.heap.size<w2.heap.size from⟨lx,hrl⟩);obtain⟨rb,hrb⟩:∃rb,rb=w1.heap.size:=⟨_,rfl⟩;rw[<-hrb] at HS RD HHH ⊢;have HRB:=aF hrb;clear hw2 RDS hrl lx hrb HY con b0
 go_upto_region 9 with(first
  |(go_at_call 124;refine(RD.out.nm _ HS.out).mono ?_;rintro e w3 ⟨v3,rfl,hn3,hk3⟩;have K3:=aF hk3;have N3:=aF hn3;clear hn3 hk3)
  |(go_at_call 125;refine(RD.out.fl _ K3.out.rd).mono ?_;rintro e w4 ⟨rfl,hk4⟩;have K4:=aF hk4;clear hk4)
  |(go_at_call 126;refine(RD.out.pt _ K4.out.rd).mono ?_;rintro e w5 ⟨v5,rfl,hp5,hk5⟩;have K5:=aF hk5;have N5:=aF hp5;clear hp5 hk5)
  |(go_at_call 127;refine(RD.out.en _ K5.out.rd).mono ?_;rintro e w6 ⟨rfl,hk6⟩;have K6:=aF hk6;clear hk6))
 have RI:=aF (qhl (w:=w) (bx:=w.heap.size) HB1.out XB.out (by have:=HHH.out;omega) (by have:=HHH.out;omega) HW2.out (by have:=HHH.out;omega) K3.out N3.out K4.out K5.out N5.out K6.out)
 obtain⟨NA,NC,rfl,_,hnl,_,hnr⟩:=aN RI.out.nm;obtain⟨VA,VC,rfl,_,_,_,hvr⟩:=aN RI.out.pt;obtain⟨⟨A6,C6,hrow,_⟩,_,_⟩:=RI.out.rd;have r1:=hrow.cell 1;have lr:=hrow.lt;simp only[List.getElem?_cons_zero,List.getElem?_cons_succ] at r1;rw[HCC.out] at r1;have BC:=aF (BO'.out NA VA NC VC w6 RI.out.below hnl hnr hvr);have hbr:w.heap.size<rb:=by have:=HHH.out;omega
 have hwl:=aF (Nat.lt_trans hbr lr);clear hrow HHH K3 N3 K4 K5 N5 K6 BO' hnl hnr hvr;unfold BoIn at BC
 go_wp2_with (first
  |(go_at_call 128;refine BC.out.mono ?_;rintro e w7 ⟨M,m,D,X0,x0,Y0,z0,X1,x1,Y1,z1,X2,x2,Y2,z2,z,c,rfl,hb7,hQ⟩;have HB7:=aF hb7;have HQ:=aF hQ;have RX:=aF (RI.out.box.below hb7 RI.out.box.lt);have b:=fun j=>RX.out.cell j;have bf:=fun j=>RX.out.frozen j;have lb:=RX.out.lt;simp only[sJ] at b;clear hb7 hQ BC))
 refine bodyPost_ret (v:=.tuple #[.agg #[.slice M m D,.slice X0 x0 Y0,.int .i64 z0,.slice X1 x1 Y1,.int .i64 z1,.slice X2 x2 Y2,.int .i64 z2,.int .i64 z],.int .i64 c]) (by simp[results,Tryz.results102,go_sem,b]) rfl ?_
 exact⟨M,m,D,X0,x0,Y0,z0,X1,x1,Y1,z1,X2,x2,Y2,z2,z,c,NA,NC,w6,w7,rfl,eY (aC RI.out.below (Nat.le_refl _) HB7.out) (Nat.le_refl _) _ _ _ _ _ _ _ _,RI.out.below,hwl.out,bP RI.out.nm RI.out.b2,HB7.out,HQ.out,fun k hk=>fM _ _ _ _ _ _ _ _ _ _ k hk⟩

end
end Go.Proofs.YtlojfgdpmaigmagGreatDoor
