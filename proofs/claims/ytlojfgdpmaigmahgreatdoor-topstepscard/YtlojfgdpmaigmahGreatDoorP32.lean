/- A reader's names: their walk. -/
import Derived.Test.YtlojfgdpmaigmahGreatDoorP20
import Derived.Test.YtlojfgdpmaigmahGreatDoorP08
import Derived.Test.YtlojfgdpmaigmahGreatDoorBaseCopyWalk
import Derived.Laws.IdiomStrings
import Derived.Laws.BytesArg
import Derived.Test.YtlojfgdpmaigmahGreatDoorP07
import Derived.Lib.SlBytesConst
import Derived.BigQuiet
import Derived.Deep.Upon
namespace Go.Proofs.YtlojfgdpmaigmahGreatDoor
section
open Go.RowKit Plain

theorem q5q{B C:Nat}{w:World}{A:Option Addr}{l:List Int}(h:q0m B w A C l)(hu:U8 l):(convert 33 9 (.slice A l.length C)).run Tryz.prog w=.ok (.string (q9b l)) w:=by
 obtain⟨h1,h2,h3⟩:=h
 rcases h3 with⟨rfl,rfl⟩|⟨b,o,rfl,hb,hc⟩
 ·obtain rfl:l=[]:=List.eq_nil_of_length_eq_zero (by omega)
  exact run_convert_bytes_nil (P:=Tryz.prog) w _ _ Tryz.underlying33 (by kernel_rfl) _ _ _ (by kernel_rfl)
 ·have k:=run_convert_bytes_back (P:=Tryz.prog) w 33 9 5 ⟨b,o,none⟩ C (l.map fun b=>UInt8.ofNat b.toNat) Tryz.underlying33 (by kernel_rfl) (by kernel_rfl) (fun j hj=>by
   have hj':j<l.length:=by simpa using hj
   rw[Addr.add_lit]
   rw[hc j (.int .u8 l[j]) (by simp[u8s,List.getElem?_eq_getElem hj'])]
   obtain⟨g0,g1⟩:=hu _ (List.getElem_mem hj')
   have hm:l[j].toNat%256=l[j].toNat:=Nat.mod_eq_of_lt (by omega)
   simp[hm]
   omega)
  rw[List.length_map] at k
  exact k

theorem RdTo.grown{rb:Nat}{s:Rs}{w wr w':World}{row:Option Nat}(h:RdTo rb s w wr)(hl:rb<w.heap.size)(hg:wr.grownBy w' row)(hr:∀k,row=some k->w.heap.size<=k):RdTo rb s w w':=by
 have hz:=h.kp.size
 have hb:∀k,k<w.heap.size->w'.heap[k]? =wr.heap[k]? :=fun k hk=>hg.block k (by omega) (fun e=>by have:=hr k e.symm;omega)
 exact⟨h.rd.blocks fun k hk=>hb k (by omega),⟨hg.os.trans h.kp.os,hg.tape.trans h.kp.tape,hg.output.trans h.kp.output,Nat.le_trans h.kp.size hg.size,fun k hk hn=>(hb k hk).trans (h.kp.block k hk hn)⟩⟩

def NmTo(rb:Nat)(s:Rs)(w:World)(e:Ending)(w':World):Prop:=
 ∃v,e=.returned v/\w'.ownsRow w.heap.size 9 1 v (q3p (cnt 16 s).1.toNat (cnt 16 s).2).1.length (strs (q3p (cnt 16 s).1.toNat (cnt 16 s).2).1)/\RdTo rb (q3p (cnt 16 s).1.toNat (cnt 16 s).2).2 w w'

theorem qps(l:List ByteArray)(x:ByteArray):strs l++[.string x]=strs (l++[x]):=by simp[strs]

set_option maxRecDepth 20000 in
set_option maxHeartbeats 2000000 in
theorem qpa(rb:Nat)(s:Rs)(w:World)(h:RdAt w rb s):
  Calls Tryz.prog 97 #[.pointer (some ⟨rb,0,none⟩)] w (NmTo rb s w):=by
 obtain⟨i0,hi0,hz0,hz1,hz2⟩:=info_parts qlk
 have con1:=q0f (qbz rb 16 s w h)
 have hr:=qkv (m:=16) (by decide) h.u8
 have hu1:=qgf (m:=16) h.u8
 have hs1:=qdi (m:=16) h.still
 unfold NmTo
 obtain⟨n,hn⟩:∃n:Nat,(cnt 16 s).1=(n:Int):=⟨(cnt 16 s).1.toNat,by omega⟩
 obtain⟨s1,hs⟩:∃s1,(cnt 16 s).2=s1:=⟨_,rfl⟩
 rw[hn] at con1 hr ⊢
 rw[hs] at con1 hu1 hs1 ⊢
 rw[Int.toNat_natCast]
 obtain⟨NL,NS,hN⟩:∃NL NS,q3p n s1=(NL,NS):=⟨_,_,rfl⟩
 rw[hN]
 show Calls _ _ _ _ fun e w'=>∃v,e=.returned v/\w'.ownsRow w.heap.size 9 1 v NL.length (strs NL)/\RdTo rb NS w w'
 have HN:=q0f hN
 have hn16:n<=16:=by omega
 have hlw:=h.lt
 clear hN hn hs h hr
 go_enter Tryz.func97,Tryz.ntmps97
 go_wp2_with (first
  |(go_at_call 135;refine con1.out.mono ?_;rintro e w1 ⟨rfl,hT1⟩))
 go_loopw [3,6] (fun vo vi wr=>∃(i:Nat) (s':Rs) (xs:List ByteArray),i<=n/\vi=.int .i64 (i:Int)/\xs.length=i/\Hid ((xs++(q3p (n-i) s').1,(q3p (n-i) s').2)=(NL,NS))/\wr.ownsRow w.heap.size 9 1 vo i (strs xs)/\RdTo rb s' w wr) (fun _ vi _=>n-(intOf vi).toNat)
 case atStart=>exact⟨0,s1,[],Nat.zero_le _,rfl,rfl,HN.out,World.ownsRow_nil _ _ _ _,hT1⟩
 case round=>
  obtain⟨i,s',xs,hi,rfl,hxl,HE,hown,hT⟩:=hrel
  by_cases hlt:i<n
  ·have hlt':(i:Int)<(n:Int):=by omega
   have hrc:=qkv (m:=10) (by decide) hT.rd.u8
   have hu2:=qgf (m:=10) hT.rd.u8
   obtain⟨k,hk⟩:∃k:Nat,(cnt 10 s').1=(k:Int):=⟨(cnt 10 s').1.toNat,by omega⟩
   have HE2:Hid ((xs++(q9b (tk k (cnt 10 s').2).1::(q3p (n-(i+1)) (tk k (cnt 10 s').2).2).1),(q3p (n-(i+1)) (tk k (cnt 10 s').2).2).2)=(NL,NS)):=by
    have h1:=HE.out
    rw[show n-i=(n-(i+1))+1 by omega] at h1
    unfold q3p at h1
    rw[hk,Int.toNat_natCast] at h1
    exact h1
   have con2:=q0f (qbz rb 10 s' wr hT.rd)
   rw[hk] at con2 hrc
   have hu3:=(qvx (n:=k) hu2).2
   obtain⟨s2,hs2⟩:∃s2,(cnt 10 s').2=s2:=⟨_,rfl⟩
   rw[hs2] at HE2 con2 hu3
   have con3:=q0f fun W (hW:RdAt W rb s2)=>qmi rb k s2 W (by omega) hW
   obtain⟨bs,hbs⟩:∃bs,(tk k s2).1=bs:=⟨_,rfl⟩
   obtain⟨s3,hs3⟩:∃s3,(tk k s2).2=s3:=⟨_,rfl⟩
   unfold TkTo at con3
   rw[hbs,hs3] at HE2 con3
   rw[hbs] at hu3
   have HT:=q0f hT
   have HO:=q0f hown
   have HV:=q0f (fun k=>hown.lt k)
   clear hs2 hbs hs3 hk hrc HE hT hown hu2
   go_wp2_with (first
    |(go_at_call 135;refine con2.out.mono ?_;rintro e w2 ⟨rfl,hT2⟩)
    |(go_at_call 136;refine(con3.out _ hT2.rd).mono ?_;rintro e w3 ⟨A,C,rfl,hby,hT3⟩;have kc:=q5q hby hu3)
    |(at_builtin;have hown3:=q0c (w':=w3) HO.out (fun k hk=>(hT2.kp.trans hT3.kp).block k (HV.out k hk).2 (by have:=(HV.out k hk).1;simp;omega));refine wpList_append_own _ rfl _ _ 40 rfl w.heap.size 9 i0 _ 1 16 Tryz.underlying40 hi0 hz0 hz1 hz2 rfl (by decide) u3 i (strs xs) rfl (hown3.alloc _) ⟨w3.heap.size,0,none⟩ 1 1 [.string (q9b bs)] rfl rfl (qlj w3 _) (by intro u hu;simp at hu;subst hu;rfl) (by unfold maxLen;omega) (by omega) (by have:=(HT.out.step hT2).kp.size;have:=hT3.kp.size;simp;omega) ?_;intro v4 w4 hown4 hgrow4 _))
   have hT4:RdTo rb s3 w w4:=(((HT.out.step hT2).step hT3).below ((Below.refl _ _).alloc (Nat.le_refl _) _)).grown hlw hgrow4 (fun k hk=>(HV.out k hk).1)
   rw[qps] at hown4
   exact⟨⟨i+1,s3,xs++[q9b bs],by omega,by go_num,by simp[hxl],by rw[List.append_assoc];exact HE2.out,hown4,hT4⟩,by simp only[intOf];omega⟩
  ·have hlt':¬((i:Int)<(n:Int)):=by omega
   have h1:=HE.out
   rw[show n-i=0 by omega] at h1
   obtain⟨e1,e2⟩:=Prod.mk.inj h1
   have e1':xs=NL:=by
    rw[<-e1]
    simp[q3p]
   have e2':s'=NS:=e2
   have hx:i=NL.length:=by rw[<-e1',hxl]
   clear h1 e1 e2 HE HN
   go_wp2_with fail
   go_ret
   subst e1' e2'
   rw[hx] at hown
   exact⟨_,rfl,hown,hT⟩

theorem qe9(l:List En)(x:En):q0d l++q0d [x]=q0d (l++[x]):=(q1r l [x]).symm

theorem qxz{w:World}{vb:Nat}{x:En}(hv:RowL w vb 84 x.vals):∀j u,(q0d [x])[j]? =some u->w.cell? (Addr.add ⟨vb,0,none⟩ j)=some u:=by
 intro j u hu
 rw[WideShapes.add_plain,Nat.zero_add,hv.cell]
 simpa [q0d] using hu

def PsTo(rb:Nat)(s:Rs)(w:World)(e:Ending)(w':World):Prop:=
 ∃v,e=.returned v/\w'.ownsRow w.heap.size 84 7 v (q1h (cnt 10000 s).1.toNat true 0 (cnt 10000 s).2).1.length (q0d (q1h (cnt 10000 s).1.toNat true 0 (cnt 10000 s).2).1)/\RdTo rb (q1h (cnt 10000 s).1.toNat true 0 (cnt 10000 s).2).2 w w'

theorem qjd{k:Nat}{first:Bool}{ahead:Int}{s:Rs}(h:(q2w first ahead s).code≠0):q1h (k+1) first ahead s=([],q2w first ahead s):=by
 unfold q1h
 rw[if_neg h]

theorem qph{k:Nat}{first:Bool}{ahead:Int}{s:Rs}(h:(q2w first ahead s).code=0):q1h (k+1) first ahead s=(if (q1h k false (q2d ahead s).key (q2w first ahead s)).2.code=0 then q2d ahead s::(q1h k false (q2d ahead s).key (q2w first ahead s)).1 else[],(q1h k false (q2d ahead s).key (q2w first ahead s)).2):=by
 rw[q1h,if_pos h]

def qcq(xs:List En)(p:List En × Rs):List En × Rs:=(if p.2.code=0 then xs++p.1 else[],p.2)

theorem quy{xs:List En}{k:Nat}{first:Bool}{ahead:Int}{s:Rs}(h:(q2w first ahead s).code=0):qcq xs (q1h (k+1) first ahead s)=qcq (xs++[q2d ahead s]) (q1h k false (q2d ahead s).key (q2w first ahead s)):=by
 rw[qph h]
 unfold qcq
 by_cases h0:(q1h k false (q2d ahead s).key (q2w first ahead s)).2.code=0
 ·simp only[h0,if_true,List.append_assoc,List.singleton_append]
 ·simp only[h0,if_false]

theorem qs6(k:Nat)(ahead:Int)(s:Rs):qcq [] (q1h k true ahead s)=q1h k true ahead s:=by
 unfold qcq
 split
 ·simp
 ·rename_i h
  rw[<-qku k true ahead s h]

set_option maxRecDepth 20000 in
set_option maxHeartbeats 4000000 in
theorem qkw(rb:Nat)(s:Rs)(w:World)(h:RdAt w rb s):
  Calls Tryz.prog 99 #[.pointer (some ⟨rb,0,none⟩)] w (PsTo rb s w):=by
 obtain⟨i0,hi0,hz0,hz1,hz2⟩:=info_parts qcv
 have con1:=q0f (qbz rb 10000 s w h)
 have hr:=qkv (m:=10000) (by decide) h.u8
 unfold PsTo
 obtain⟨n,hn⟩:∃n:Nat,(cnt 10000 s).1=(n:Int):=⟨(cnt 10000 s).1.toNat,by omega⟩
 obtain⟨s1,hs⟩:∃s1,(cnt 10000 s).2=s1:=⟨_,rfl⟩
 rw[hn] at con1 hr ⊢
 rw[hs] at con1 ⊢
 rw[Int.toNat_natCast]
 obtain⟨NL,NS,hN⟩:∃NL NS,q1h n true 0 s1=(NL,NS):=⟨_,_,rfl⟩
 rw[hN]
 show Calls _ _ _ _ fun e w'=>∃v,e=.returned v/\w'.ownsRow w.heap.size 84 7 v NL.length (q0d NL)/\RdTo rb NS w w'
 have HN:=q0f hN
 have hn1:n<=10000:=by omega
 have hlw:=h.lt
 clear hN hn hs h hr
 go_enter Tryz.func99,Tryz.ntmps99
 go_wp2_with (first
  |(go_at_call 135;refine con1.out.mono ?_;rintro e w1 ⟨rfl,hT1⟩))
 go_loopw [3,4,5,6,9] (fun vo va _ _ vi wr=>∃(i:Nat) (s':Rs) (xs:List En) (ahead:Int),i<=n/\vi=.int .i64 (i:Int)/\va=.int .i64 ahead/\(0<=ahead/\ahead<1099511627776)/\xs.length=i/\(i=0\/s'.code=0)/\Hid (qcq xs (q1h (n-i) (decide (i=0)) ahead s')=(NL,NS))/\wr.ownsRow w.heap.size 84 7 vo i (q0d xs)/\RdTo rb s' w wr) (fun _ _ _ _ vi _=>n-(intOf vi).toNat)
 case atStart=>exact⟨0,s1,[],0,Nat.zero_le _,rfl,rfl,by decide,rfl,.inl rfl,by rw[show decide (0=0)=true from rfl,qs6];exact HN.out,World.ownsRow_nil _ _ _ _,hT1⟩
 case round=>
  obtain⟨i,s',xs,ahead,hi,rfl,rfl,hah,hxl,hcz,HE,hown,hT⟩:=hrel
  by_cases hlt:i<n
  ·have hlt':(i:Int)<(n:Int):=by omega
   have con2:=q0f (qsy rb ahead s' wr hah hT.rd)
   have hu:=hT.rd.u8
   have kd:0<=(q2d ahead s').key:=by
    have:=qny hu
    show 0<=ahead+(num s').1
    omega
   have h1:=HE.out
   rw[show n-i=(n-(i+1))+1 by omega] at h1
   have H1:=q0f h1
   have HBD:Hid (badP (decide (i=0)) ahead (q2d ahead s')=(decide (1099511627776<=(q2d ahead s').key)||((!(decide (i=0))&&decide ((q2d ahead s').key=ahead))||decide ((q2d ahead s').c=0)))):=rfl
   have HA:Hid (q2w (decide (i=0)) ahead s'=if badP (decide (i=0)) ahead (q2d ahead s')=true then q1q 7 (six s') else six s'):=rfl
   have HST:=q0f fun hc=>qjd (k:=n-(i+1)) (first:=decide (i=0)) (ahead:=ahead) (s:=s') hc
   have HGO:=q0f fun hc=>quy (xs:=xs) (k:=n-(i+1)) (first:=decide (i=0)) (ahead:=ahead) (s:=s') hc
   obtain⟨aft,haft⟩:∃aft,q2w (decide (i=0)) ahead s'=aft:=⟨_,rfl⟩
   rw[haft] at HA HST HGO
   obtain⟨x,hx⟩:∃x,q2d ahead s'=x:=⟨_,rfl⟩
   rw[hx] at con2 kd HBD HA HGO
   obtain⟨s6,hs6⟩:∃s6,six s'=s6:=⟨_,rfl⟩
   rw[hs6] at con2 HA
   have HT:=q0f hT
   have HO:=q0f hown
   have HV:=q0f (fun k=>hown.lt k)
   have HX:=q0f hxl
   clear hx hs6 haft h1 HE hT hown hu hxl hcz
   obtain⟨key,c,ss,lo,hi',tt,l⟩:=x
   simp only at kd HBD
   have con2:Hid (Calls Tryz.prog 139 #[.pointer (some ⟨rb,0,none⟩),.int .i64 ahead] wr fun e w'=>e=.returned (.agg #[.int .i64 key,.int .i64 c,.int .i64 ss,.int .i64 lo,.int .i64 hi',.int .i64 tt,.int .i64 l])/\RdTo rb s6 wr w'):=con2
   have con3:=q0f fun W (hW:RdAt W rb s6)=>q4o rb 7 s6 W hW
   have e4':True:=trivial
   have hc:(c==0)=true\/(c==0)=false:=by cases (c==0)<;>simp
   have hk:(key==ahead)=true\/(key==ahead)=false:=by cases (key==ahead)<;>simp
   by_cases hbad:badP (decide (i=0)) ahead ⟨key,c,ss,lo,hi',tt,l⟩=true
   ·have haf:aft=q1q 7 s6:=by rw[HA.out,if_pos hbad]
    have hcode:(q1q 7 s6).code≠0:=q5h (by decide) _
    subst haf
    have hjp:NL=[]/\NS=q1q 7 s6:=by
     have h2:=H1.out
     rw[HST.out hcode] at h2
     unfold qcq at h2
     simp only[hcode,if_false] at h2
     obtain⟨e1,e2⟩:=Prod.mk.inj h2
     exact⟨e1.symm,e2.symm⟩
    obtain⟨rfl,rfl⟩:=hjp
    have hne:((q1q 7 s6).code != 0)=true:=by simpa using hcode
    rw[HBD.out] at hbad
    clear HST HGO HA H1 HN HX HBD
    by_cases hb1:1099511627776<=key
    ·clear hbad
     go_upto_region 10 with(first
      |(go_at_call 139;refine con2.out.mono ?_;rintro e w2 ⟨rfl,hT2⟩;have hT3:=(HT.out.step hT2).below ((Below.refl w2.heap.size w2).alloc (Nat.le_refl _) (.cells #[.int .i64 key,.int .i64 c,.int .i64 ss,.int .i64 lo,.int .i64 hi',.int .i64 tt,.int .i64 l] 84)))
      |(go_at_call 138;refine(con3.out _ hT3.rd).mono ?_;rintro e w3 ⟨rfl,hT5⟩;have hT4:=hT3.step hT5;obtain⟨A4,C4,row4,-⟩:=hT4.rd.at';have e4:=row4.cell 1;have l4:=row4.lt;simp only[List.getElem?_cons_zero,List.getElem?_cons_succ] at e4))
     repeat go_step
     refine bodyPost_ret (v:=.slice none 0 0) (by simp[results,Tryz.results99,go_sem]) rfl ⟨_,rfl,World.ownsRow_nil _ _ _ _,hT4⟩
    ·by_cases h0:(0:Int)<(i:Int)
     ·rcases hk with hk|hk
      ·clear hbad
       go_upto_region 10 with(first
        |(go_at_call 139;refine con2.out.mono ?_;rintro e w2 ⟨rfl,hT2⟩;have hT3:=(HT.out.step hT2).below ((Below.refl w2.heap.size w2).alloc (Nat.le_refl _) (.cells #[.int .i64 key,.int .i64 c,.int .i64 ss,.int .i64 lo,.int .i64 hi',.int .i64 tt,.int .i64 l] 84)))
        |(go_at_call 138;refine(con3.out _ hT3.rd).mono ?_;rintro e w3 ⟨rfl,hT5⟩;have hT4:=hT3.step hT5;obtain⟨A4,C4,row4,-⟩:=hT4.rd.at';have e4:=row4.cell 1;have l4:=row4.lt;simp only[List.getElem?_cons_zero,List.getElem?_cons_succ] at e4))
       repeat go_step
       refine bodyPost_ret (v:=.slice none 0 0) (by simp[results,Tryz.results99,go_sem]) rfl ⟨_,rfl,World.ownsRow_nil _ _ _ _,hT4⟩
      ·have hc1:(c==0)=true:=by
        have hk':key≠ahead:=by simpa using hk
        simp only[hb1,hk',decide_false,Bool.false_or,Bool.and_false,decide_eq_true_eq] at hbad
        simpa using hbad
       clear hbad hc
       go_upto_region 10 with(first
        |(go_at_call 139;refine con2.out.mono ?_;rintro e w2 ⟨rfl,hT2⟩;have hT3:=(HT.out.step hT2).below ((Below.refl w2.heap.size w2).alloc (Nat.le_refl _) (.cells #[.int .i64 key,.int .i64 c,.int .i64 ss,.int .i64 lo,.int .i64 hi',.int .i64 tt,.int .i64 l] 84)))
        |(go_at_call 138;refine(con3.out _ hT3.rd).mono ?_;rintro e w3 ⟨rfl,hT5⟩;have hT4:=hT3.step hT5;obtain⟨A4,C4,row4,-⟩:=hT4.rd.at';have e4:=row4.cell 1;have l4:=row4.lt;simp only[List.getElem?_cons_zero,List.getElem?_cons_succ] at e4))
       repeat go_step
       refine bodyPost_ret (v:=.slice none 0 0) (by simp[results,Tryz.results99,go_sem]) rfl ⟨_,rfl,World.ownsRow_nil _ _ _ _,hT4⟩
     ·have hc1:(c==0)=true:=by
       have hi0:i=0:=by omega
       simp only[hb1,hi0,decide_false,decide_true,Bool.false_or,Bool.not_true,Bool.false_and,decide_eq_true_eq] at hbad
       simpa using hbad
      clear hbad hc
      go_upto_region 10 with(first
       |(go_at_call 139;refine con2.out.mono ?_;rintro e w2 ⟨rfl,hT2⟩;have hT3:=(HT.out.step hT2).below ((Below.refl w2.heap.size w2).alloc (Nat.le_refl _) (.cells #[.int .i64 key,.int .i64 c,.int .i64 ss,.int .i64 lo,.int .i64 hi',.int .i64 tt,.int .i64 l] 84)))
       |(go_at_call 138;refine(con3.out _ hT3.rd).mono ?_;rintro e w3 ⟨rfl,hT5⟩;have hT4:=hT3.step hT5;obtain⟨A4,C4,row4,-⟩:=hT4.rd.at';have e4:=row4.cell 1;have l4:=row4.lt;simp only[List.getElem?_cons_zero,List.getElem?_cons_succ] at e4))
      repeat go_step
      refine bodyPost_ret (v:=.slice none 0 0) (by simp[results,Tryz.results99,go_sem]) rfl ⟨_,rfl,World.ownsRow_nil _ _ _ _,hT4⟩
   ·have haf:aft=s6:=by rw[HA.out,if_neg hbad]
    subst haf
    rw[HBD.out] at hbad
    simp only[Bool.not_eq_true,Bool.or_eq_false_iff,Bool.and_eq_false_iff,decide_eq_false_iff_not,Bool.not_eq_false'] at hbad
    obtain⟨hb1,hb2,hb3⟩:=hbad
    have hc1:(c==0)=false:=by simpa using hb3
    have hne:=hc1
    clear hc
    by_cases hcode:aft.code=0
    ·have HJ:=q0f (HGO.out hcode▸H1.out:qcq (xs++[⟨key,c,ss,lo,hi',tt,l⟩]) (q1h (n-(i+1)) false key aft)=(NL,NS))
     have hcd:(aft.code != 0)=false:=by simpa using hcode
     rw[hcode] at hcd
     have HC:=q0f hcode
     clear HST HGO HA H1 HN HBD hk
     by_cases h0:(0:Int)<(i:Int)
     ·have hk1:(key==ahead)=false:=by
       rcases hb2 with hb2|hb2
       ·simp only[decide_eq_true_eq] at hb2;omega
       ·simpa using hb2
      clear hb2
      go_wp2_with (first
       |(go_at_call 139;refine con2.out.mono ?_;rintro e w2 ⟨rfl,hT2⟩;have hT3:=(HT.out.step hT2).below ((Below.refl w2.heap.size w2).alloc (Nat.le_refl _) (.cells #[.int .i64 key,.int .i64 c,.int .i64 ss,.int .i64 lo,.int .i64 hi',.int .i64 tt,.int .i64 l] 84));obtain⟨A4,C4,row4,-⟩:=hT3.rd.at';have e4:=row4.cell 1;have l4:=row4.lt;simp only[List.getElem?_cons_zero,List.getElem?_cons_succ] at e4;have V2:=q0b w2 [.int .i64 key,.int .i64 c,.int .i64 ss,.int .i64 lo,.int .i64 hi',.int .i64 tt,.int .i64 l] 84;have hown3:=q0v (q0c (w':=w2) HO.out (fun k hk=>hT2.kp.block k (HV.out k hk).2 (by have:=(HV.out k hk).1;simp;omega))) ((Below.refl w2.heap.size w2).alloc (Nat.le_refl _) (.cells #[.int .i64 key,.int .i64 c,.int .i64 ss,.int .i64 lo,.int .i64 hi',.int .i64 tt,.int .i64 l] 84)))
       |(at_builtin;refine wpList_append_own _ rfl _ _ 67 rfl w.heap.size 84 i0 _ 7 56 Tryz.underlying67 hi0 hz0 hz1 hz2 rfl (by decide) u3 i (q0d xs) rfl (hown3.alloc _) ⟨w2.heap.size+1,0,none⟩ 1 1 (q0d [⟨key,c,ss,lo,hi',tt,l⟩]) rfl rfl (qxz (x:=⟨key,c,ss,lo,hi',tt,l⟩) (by have h5:=q0b (w2.alloc (.cells #[.int .i64 key,.int .i64 c,.int .i64 ss,.int .i64 lo,.int .i64 hi',.int .i64 tt,.int .i64 l] 84)) [.int .i64 key,.int .i64 c,.int .i64 ss,.int .i64 lo,.int .i64 hi',.int .i64 tt,.int .i64 l] 84;rw[show(w2.alloc (.cells #[.int .i64 key,.int .i64 c,.int .i64 ss,.int .i64 lo,.int .i64 hi',.int .i64 tt,.int .i64 l] 84)).heap.size=w2.heap.size+1 by simp] at h5;exact h5)) (q2a _) (by unfold maxLen;omega) (by omega) (by have:=HT.out.kp.size;have:=hT2.kp.size;simp;omega) ?_;intro v4 w4 hown4 hgrow4 _;have row4':=(V2.below ((Below.refl _ _).alloc (Nat.le_refl _) (.cells #[.int .i64 key,.int .i64 c,.int .i64 ss,.int .i64 lo,.int .i64 hi',.int .i64 tt,.int .i64 l] 84)) V2.lt).of_block (w':=w4) (hgrow4.block _ (by simp;omega) (fun e=>by have:=(HV.out _ e.symm).2;have:=hT2.kp.size;omega));have d4:=fun j=>row4'.cell j;have m4:=row4'.lt))
      go_roundw
      case rel=>
       refine⟨i+1,aft,xs++[⟨key,c,ss,lo,hi',tt,l⟩],key,by omega,by go_num,rfl,⟨kd,by omega⟩,by rw[List.length_append,HX.out];rfl,.inr HC.out,?_,?_,?_⟩
       ·show qcq _ _=_
        rw[show decide (i+1=0)=false from rfl,<-HJ.out]
       ·rw[<-qe9]
        exact hown4
       ·exact(hT3.below ((Below.refl _ _).alloc (Nat.le_refl _) (.cells #[.int .i64 key,.int .i64 c,.int .i64 ss,.int .i64 lo,.int .i64 hi',.int .i64 tt,.int .i64 l] 84))).grown hlw hgrow4 (fun k hk=>(HV.out k hk).1)
      case measure=>simp[intOf];omega
     ·clear hb2
      go_wp2_with (first
       |(go_at_call 139;refine con2.out.mono ?_;rintro e w2 ⟨rfl,hT2⟩;have hT3:=(HT.out.step hT2).below ((Below.refl w2.heap.size w2).alloc (Nat.le_refl _) (.cells #[.int .i64 key,.int .i64 c,.int .i64 ss,.int .i64 lo,.int .i64 hi',.int .i64 tt,.int .i64 l] 84));obtain⟨A4,C4,row4,-⟩:=hT3.rd.at';have e4:=row4.cell 1;have l4:=row4.lt;simp only[List.getElem?_cons_zero,List.getElem?_cons_succ] at e4;have V2:=q0b w2 [.int .i64 key,.int .i64 c,.int .i64 ss,.int .i64 lo,.int .i64 hi',.int .i64 tt,.int .i64 l] 84;have hown3:=q0v (q0c (w':=w2) HO.out (fun k hk=>hT2.kp.block k (HV.out k hk).2 (by have:=(HV.out k hk).1;simp;omega))) ((Below.refl w2.heap.size w2).alloc (Nat.le_refl _) (.cells #[.int .i64 key,.int .i64 c,.int .i64 ss,.int .i64 lo,.int .i64 hi',.int .i64 tt,.int .i64 l] 84)))
       |(at_builtin;refine wpList_append_own _ rfl _ _ 67 rfl w.heap.size 84 i0 _ 7 56 Tryz.underlying67 hi0 hz0 hz1 hz2 rfl (by decide) u3 i (q0d xs) rfl (hown3.alloc _) ⟨w2.heap.size+1,0,none⟩ 1 1 (q0d [⟨key,c,ss,lo,hi',tt,l⟩]) rfl rfl (qxz (x:=⟨key,c,ss,lo,hi',tt,l⟩) (by have h5:=q0b (w2.alloc (.cells #[.int .i64 key,.int .i64 c,.int .i64 ss,.int .i64 lo,.int .i64 hi',.int .i64 tt,.int .i64 l] 84)) [.int .i64 key,.int .i64 c,.int .i64 ss,.int .i64 lo,.int .i64 hi',.int .i64 tt,.int .i64 l] 84;rw[show(w2.alloc (.cells #[.int .i64 key,.int .i64 c,.int .i64 ss,.int .i64 lo,.int .i64 hi',.int .i64 tt,.int .i64 l] 84)).heap.size=w2.heap.size+1 by simp] at h5;exact h5)) (q2a _) (by unfold maxLen;omega) (by omega) (by have:=HT.out.kp.size;have:=hT2.kp.size;simp;omega) ?_;intro v4 w4 hown4 hgrow4 _;have row4':=(V2.below ((Below.refl _ _).alloc (Nat.le_refl _) (.cells #[.int .i64 key,.int .i64 c,.int .i64 ss,.int .i64 lo,.int .i64 hi',.int .i64 tt,.int .i64 l] 84)) V2.lt).of_block (w':=w4) (hgrow4.block _ (by simp;omega) (fun e=>by have:=(HV.out _ e.symm).2;have:=hT2.kp.size;omega));have d4:=fun j=>row4'.cell j;have m4:=row4'.lt))
      go_roundw
      case rel=>
       refine⟨i+1,aft,xs++[⟨key,c,ss,lo,hi',tt,l⟩],key,by omega,by go_num,rfl,⟨kd,by omega⟩,by rw[List.length_append,HX.out];rfl,.inr HC.out,?_,?_,?_⟩
       ·show qcq _ _=_
        rw[show decide (i+1=0)=false from rfl,<-HJ.out]
       ·rw[<-qe9]
        exact hown4
       ·exact(hT3.below ((Below.refl _ _).alloc (Nat.le_refl _) (.cells #[.int .i64 key,.int .i64 c,.int .i64 ss,.int .i64 lo,.int .i64 hi',.int .i64 tt,.int .i64 l] 84))).grown hlw hgrow4 (fun k hk=>(HV.out k hk).1)
      case measure=>simp[intOf];omega
    ·have hjp:NL=[]/\NS=aft:=by
      have h2:=H1.out
      rw[HST.out hcode] at h2
      unfold qcq at h2
      simp only[hcode,if_false] at h2
      obtain⟨e1,e2⟩:=Prod.mk.inj h2
      exact⟨e1.symm,e2.symm⟩
     obtain⟨rfl,rfl⟩:=hjp
     have hcd:=bne_iff_ne.2 hcode
     clear HST HGO HA H1 HN HX HBD hk
     by_cases h0:(0:Int)<(i:Int)
     ·have hk1:(key==ahead)=false:=by
       rcases hb2 with hb2|hb2
       ·simp only[decide_eq_true_eq] at hb2;omega
       ·simpa using hb2
      clear hb2
      go_upto_region 10 with(first
       |(go_at_call 139;refine con2.out.mono ?_;rintro e w2 ⟨rfl,hT2⟩;have hT3:=(HT.out.step hT2).below ((Below.refl w2.heap.size w2).alloc (Nat.le_refl _) (.cells #[.int .i64 key,.int .i64 c,.int .i64 ss,.int .i64 lo,.int .i64 hi',.int .i64 tt,.int .i64 l] 84));obtain⟨A4,C4,row4,-⟩:=hT3.rd.at';have e4:=row4.cell 1;have l4:=row4.lt;simp only[List.getElem?_cons_zero,List.getElem?_cons_succ] at e4))
      repeat go_step
      refine bodyPost_ret (v:=.slice none 0 0) (by simp[results,Tryz.results99,go_sem]) rfl ⟨_,rfl,World.ownsRow_nil _ _ _ _,hT3⟩
     ·clear hb2
      go_upto_region 10 with(first
       |(go_at_call 139;refine con2.out.mono ?_;rintro e w2 ⟨rfl,hT2⟩;have hT3:=(HT.out.step hT2).below ((Below.refl w2.heap.size w2).alloc (Nat.le_refl _) (.cells #[.int .i64 key,.int .i64 c,.int .i64 ss,.int .i64 lo,.int .i64 hi',.int .i64 tt,.int .i64 l] 84));obtain⟨A4,C4,row4,-⟩:=hT3.rd.at';have e4:=row4.cell 1;have l4:=row4.lt;simp only[List.getElem?_cons_zero,List.getElem?_cons_succ] at e4))
      repeat go_step
      refine bodyPost_ret (v:=.slice none 0 0) (by simp[results,Tryz.results99,go_sem]) rfl ⟨_,rfl,World.ownsRow_nil _ _ _ _,hT3⟩
  ·have hlt':¬((i:Int)<(n:Int)):=by omega
   have h1:=HE.out
   rw[show n-i=0 by omega] at h1
   have e1:xs=NL/\s'=NS:=by
    unfold qcq at h1
    obtain⟨e1,e2⟩:=Prod.mk.inj h1
    refine⟨?_,e2⟩
    rw[<-e1]
    show xs=if s'.code=0 then xs++[] else[]
    rcases hcz with h0|h0
    ·subst h0
     obtain rfl:xs=[]:=List.eq_nil_of_length_eq_zero hxl
     split<;>rfl
    ·rw[if_pos h0,List.append_nil]
   have HO2:=q0f (show wr.ownsRow w.heap.size 84 7 u3 xs.length (q0d xs) by rw[hxl];exact hown)
   obtain⟨rfl,rfl⟩:=e1
   clear h1 HE HN hown hxl
   go_wp2_with fail
   go_ret
   exact⟨_,rfl,HO2.out,hT⟩

theorem qtz{bs:List Int}{i:Nat}(h:i<bs.length):(bs.take (i+1)).foldl q9c (1,0)=q9c ((bs.take i).foldl q9c (1,0)) bs[i]:=by
 rw[List.take_succ_eq_append_getElem h,List.foldl_append]
 rfl

theorem qrl(bs:List Int)(i:Nat):0<=((bs.take i).foldl q9c (1,0)).1/\((bs.take i).foldl q9c (1,0)).1<65521/\0<=((bs.take i).foldl q9c (1,0)).2/\((bs.take i).foldl q9c (1,0)).2<65521:=qit (bs.take i)

set_option maxRecDepth 20000 in
set_option maxHeartbeats 2000000 in
theorem qm8(A:Option Addr)(C:Nat)(bs:List Int)(w:World)(h:q0m w.heap.size w A C bs)(hu:U8 bs):
  Calls Tryz.prog 25 #[.slice A bs.length C] w fun e w'=>∃g,e=.returned (.slice (some ⟨g,0,none⟩) 4 4)/\w.heap.size<=g/\RowL w' g 5 (u8s (q8z bs))/\Below w.heap.size w w':=by
 have hz:=h.1
 have hz2:=h.2.1
 go_enter Tryz.func25,Tryz.ntmps25
 go_wp2_with fail
 go_loopw [3,4,6,9] (fun vx vy _ vi wr=>∃i:Nat,i<=bs.length/\vi=.int .i64 (i:Int)/\vx=.int .i64 ((bs.take i).foldl q9c (1,0)).1/\vy=.int .i64 ((bs.take i).foldl q9c (1,0)).2/\wr=w) (fun _ _ _ vi _=>bs.length-(intOf vi).toNat)
 case atStart=>exact⟨0,Nat.zero_le _,rfl,rfl,rfl,rfl⟩
 case round=>
  obtain⟨i,hi,rfl,rfl,rfl,rfl⟩:=hrel
  obtain⟨x0,x1,y0,y1⟩:=qrl bs i
  by_cases hlt:i<bs.length
  ·obtain⟨b,o,rfl,hbl,hc⟩:=h.row.byte hlt
   obtain⟨c0,c1⟩:=hu _ (List.getElem_mem hlt)
   have HE:=q0f (qtz hlt)
   obtain⟨P,hP⟩:∃P,(bs.take i).foldl q9c (1,0)=P:=⟨_,rfl⟩
   rw[hP] at HE x0 x1 y0 y1 ⊢
   obtain⟨x,y⟩:=P
   obtain⟨c,hcc⟩:∃c,bs[i]=c:=⟨_,rfl⟩
   rw[hcc] at HE hc c0 c1
   simp only at x0 x1 y0 y1 ⊢
   have k0:IntKind.i64.wrap c=c:=by rw[IntKind.wrap_i64];omega
   have k1:IntKind.i64.wrap (x+c)=x+c:=by rw[IntKind.wrap_i64];omega
   have k2:(x+c).tmod 65521=(x+c)%65521:=Int.tmod_eq_emod_of_nonneg (by omega)
   have k3:IntKind.i64.wrap (y+(x+c)%65521)=y+(x+c)%65521:=by rw[IntKind.wrap_i64];omega
   have k4:(y+(x+c)%65521).tmod 65521=(y+(x+c)%65521)%65521:=Int.tmod_eq_emod_of_nonneg (by omega)
   clear hP hcc hu h
   have q0:(0:Int)<=(i:Int):=by omega
   have q1:(i:Int)<(bs.length:Int):=by omega
   go_wp2_with fail
   exact⟨⟨i+1,hlt,by go_num,by rw[HE.out];rfl,by rw[HE.out];exact congrArg _ (show _=(y+(x+c)%65521)%65521 by omega),trivial⟩,by simp only[intOf];omega⟩
  ·have hni:¬((i:Int)<(bs.length:Int)):=by omega
   rw[List.take_of_length_le (show bs.length<=i by omega)] at x0 x1 y0 y1 ⊢
   have HP:Hid (q8z bs=qux (bs.foldl q9c (1,0))):=rfl
   obtain⟨P,hP⟩:∃P,bs.foldl q9c (1,0)=P:=⟨_,rfl⟩
   rw[hP] at HP x0 x1 y0 y1 ⊢
   obtain⟨x,y⟩:=P
   simp only at x0 x1 y0 y1 ⊢
   clear hP
   go_wp2_with fail
   go_ret
   refine⟨wr.heap.size,rfl,Nat.le_refl _,?_,(Below.refl _ _).alloc (Nat.le_refl _) _⟩
   rw[HP.out]
   exact q0b wr _ _

theorem qs8{a b:List Int}(ha:U8 a)(hb:U8 b)(h:q9b a=q9b b):a=b:=by
 rw[<-qhq ha,<-qhq hb,h]

set_option maxRecDepth 20000 in
theorem qjv(A B:Option Addr)(C D:Nat)(a b:List Int)(w:World)(hA:q0m w.heap.size w A C a)(hB:q0m w.heap.size w B D b)(ua:U8 a)(ub:U8 b):
  Calls Tryz.prog 134 #[.slice A a.length C,.slice B b.length D] w fun e w'=>e=.returned (.bool (decide (a=b)))/\w'=w:=by
 have k1:=q5q hA ua
 have k2:=q5q hB ub
 by_cases h:a=b
 ·subst h
  rw[decide_eq_true rfl]
  clear hA hB
  go_enter Tryz.func134,Tryz.ntmps134
  go_wp2
  go_ret
  exact⟨by simp,rfl⟩
 ·have h':¬(q9b a).toList=(q9b b).toList:=fun e=>h (qs8 ua ub (by
   apply ByteArray.ext
   apply Array.toList_inj.1
   rw[<-ByteArray.toList_eq,<-ByteArray.toList_eq]
   exact e))
  rw[decide_eq_false h]
  clear hA hB
  go_enter Tryz.func134,Tryz.ntmps134
  go_wp2
  go_ret
  exact⟨by simp[h'],rfl⟩

theorem z0f:U8 mark:=fun x hx=>by
 simp only[mark,List.mem_cons,List.not_mem_nil,or_false] at hx
 omega

theorem z0j{w:World}{g:Nat}(hg:g=w.heap.size)(fr:Nat × Nat):q0m (g+1) (w.alloc (.cells #[.int .u8 119,.int .u8 110] 5 fr)) (some ⟨g,0,none⟩) 2 mark:=by
 subst hg
 refine⟨by decide,by decide,.inr ⟨w.heap.size,0,rfl,by omega,fun j u hu=>?_⟩⟩
 rw[Nat.zero_add,World.cell?_alloc_mark]
 have h2:(u8s mark)[j]? =(#[Value.int .u8 119,Value.int .u8 110]:Array Value)[j]? :=by
  show([Value.int .u8 119,Value.int .u8 110]:List Value)[j]? =_
  simp
 rw[<-h2]
 exact hu

set_option maxRecDepth 20000 in
set_option maxHeartbeats 1000000 in
theorem qp8(b o C D g:Nat)(bs:List Int)(w:World)(hA:q0m w.heap.size w (some ⟨b,o,none⟩) C bs)(hB:q0m w.heap.size w (some ⟨g,0,none⟩) D mark)(hu:U8 bs)(hl:2<=bs.length):
  Calls Tryz.prog 133 #[.slice (some ⟨b,o,none⟩) bs.length C,.slice (some ⟨g,0,none⟩) 2 D] w fun e w'=>e=.returned (.bool (decide (bs.take 2=mark)))/\w'=w:=by
 have hle:=hA.1
 have con:=q0f fun W (hW:W=w)=>qjv (some ⟨b,o,none⟩) (some ⟨g,0,none⟩) C D (bs.take 2) mark W (by rw[hW];exact hA.take 2) (by rw[hW];exact hB) (qe8 hu 2) z0f
 have tl:(bs.take 2).length=2:=by rw[List.length_take];omega
 rw[tl,show mark.length=2 from rfl] at con
 have q0:(2:Int)<=(bs.length:Int):=by omega
 have q1:(2:Int)<=(C:Int):=by omega
 have hC0:¬C=0:=by omega
 obtain⟨v,hv⟩:∃v,decide (bs.take 2=mark)=v:=⟨_,rfl⟩
 rw[hv] at con ⊢
 clear hA hB tl hv
 go_enter Tryz.func133,Tryz.ntmps133
 go_wp2_with (first
  |(go_at_call 134;refine(con.out _ rfl).mono ?_;rintro e wx ⟨rfl,hwx⟩;subst wx))
 go_ret
 exact⟨rfl,rfl⟩

def UnTo(b:List Int)(w:World)(e:Ending)(w':World):Prop:=
 Below w.heap.size w w'/\((q4c b≠0/\e=.returned (.tuple #[.slice none 0 0,.int .i64 (q4c b)]))\/(q4c b=0/\∃A C,e=.returned (.tuple #[.slice A (q1j b).length C,.int .i64 0])/\q0m w.heap.size w' A C (q1j b)))

set_option maxRecDepth 20000 in
set_option maxHeartbeats 2000000 in
theorem qfy(A:Option Addr)(C:Nat)(bs:List Int)(w:World)(h:q0m w.heap.size w A C bs)(hu:U8 bs):
  Calls Tryz.prog 96 #[.slice A bs.length C] w (UnTo bs w):=by
 by_cases h1:200000<bs.length
 ·have hc:q4c bs=1:=by unfold q4c;rw[if_pos h1]
  have h1':(200000:Int)<(bs.length:Int):=by omega
  have HC:=q0f hc
  clear h hu hc
  go_enter Tryz.func96,Tryz.ntmps96
  go_wp2
  exact bodyPost_ret (v:=.tuple #[.slice none 0 0,.int .i64 1]) (by simp[results,Tryz.results96,go_sem]) rfl ⟨Below.refl _ _,.inl ⟨by rw[HC.out];decide,by rw[HC.out]⟩⟩
 ·by_cases h2:bs.length<6
  ·have hc:q4c bs=5:=by unfold q4c;rw[if_neg h1,if_pos h2]
   have h1':¬(200000:Int)<(bs.length:Int):=by omega
   have h2':(bs.length:Int)<6:=by omega
   have HC:=q0f hc
   clear h hu hc
   go_enter Tryz.func96,Tryz.ntmps96
   go_wp2
   exact bodyPost_ret (v:=.tuple #[.slice none 0 0,.int .i64 5]) (by simp[results,Tryz.results96,go_sem]) rfl ⟨Below.refl _ _,.inl ⟨by rw[HC.out];decide,by rw[HC.out]⟩⟩
  ·have h1':¬(200000:Int)<(bs.length:Int):=by omega
   have h2':¬(bs.length:Int)<6:=by omega
   obtain⟨b,o,rfl⟩:∃b o,A=some ⟨b,o,none⟩:=by
    obtain⟨b,o,hA,-⟩:=h.row.byte (k:=0) (by omega)
    exact⟨b,o,hA⟩
   have kc:=fun(C':Array Value) (n c:Nat)=>Lib.run_convert_bytes_const (P:=Tryz.prog) w 33 5 C' n c Tryz.underlying33 (by kernel_rfl)
   have b1:∀o':Obj,Below w.heap.size w (w.alloc o'):=fun o'=>(Below.refl _ _).alloc (Nat.le_refl _) o'
   have con1:=q0f fun W (hW:W=w.alloc (.cells #[.int .u8 119,.int .u8 110] 5 (2,3)))=>qp8 b o C 2 w.heap.size bs W (by rw[hW];exact(h.below (b1 _) (Nat.le_refl _)).mono (by simp)) (by rw[hW];have:=z0j (w:=w) rfl (2,3);simpa using this) hu (by omega)
   by_cases h3:bs.take 2=mark
   ·rw[decide_eq_true h3] at con1
    obtain⟨m,hm⟩:∃m:Nat,m=bs.length-4:=⟨_,rfl⟩
    have kw:IntKind.i64.wrap ((bs.length:Int)-4)=(m:Int):=by rw[IntKind.wrap_i64];omega
    have kw2:(bs.length:Int)-4=(m:Int):=by omega
    have hle:=h.1
    have q0:(0:Int)<=(m:Int):=by omega
    have q1:(m:Int)<=(C:Int):=by omega
    have q2:(m:Int)<=(bs.length:Int):=by omega
    have q3:(2:Int)<=(m:Int):=by omega
    have hC0:¬C=0:=by omega
    have hCm:¬C=m:=by omega
    have hC2:¬C=2:=by omega
    have tl:(bs.take m).length=m:=by rw[List.length_take];omega
    have dl:(bs.drop m).length=4:=by rw[List.length_drop];omega
    have hd4:bs.length-m=4:=by omega
    have con2:=q0f fun W (hW:Below w.heap.size w W)=>qm8 (some ⟨b,o,none⟩) C (bs.take m) W (((h.take m).below hW (Nat.le_refl _)).mono hW.size) (qe8 hu m)
    rw[tl] at con2
    have con3:=q0f fun(g:Nat) W (hW:Below w.heap.size w W) (hg:RowL W g 5 (u8s (q8z (bs.take m))))=>qjv (some ⟨g,0,none⟩) (some ⟨b,o+m,none⟩) 4 (C-m) (q8z (bs.take m)) (bs.drop m) W ⟨Nat.le_refl _,by decide,.inr ⟨g,0,rfl,hg.lt,fun j u hu=>by rw[Nat.zero_add,hg.cell];exact hu⟩⟩ (((h.drop (by omega)).below hW (Nat.le_refl _)).mono hW.size) (qnt _) (qgp hu m)
    rw[dl,show(q8z (bs.take m)).length=4 from rfl] at con3
    have HB:=q0f h
    have HSC:Hid (q4c bs=if q8z (bs.take m)=bs.drop m then 0 else 9):=by
     show _=_
     unfold q4c qex
     rw[if_neg h1,if_neg h2,if_pos h3,hm]
    have HBP:Hid (q1j bs=(bs.take m).drop 2):=by
     show _=_
     unfold q1j qex
     rw[hm]
    obtain⟨v,hv⟩:∃v,decide (q8z (bs.take m)=bs.drop m)=v:=⟨_,rfl⟩
    rw[hv] at con3
    have HV:=q0f hv
    clear hv h hu h3 hm tl dl hle
    go_enter Tryz.func96,Tryz.ntmps96
    go_upto_region 8 with(first
     |(go_at_call 133;refine(con1.out _ rfl).mono ?_;rintro e wx ⟨rfl,hwx⟩;subst wx))
    have HB1:Hid (Below w.heap.size w (w.alloc (.cells #[.int .u8 119,.int .u8 110] 5 (2,3)))):=b1 _
    obtain⟨wd,hwd⟩:∃wd,wd=w.alloc (.cells #[.int .u8 119,.int .u8 110] 5 (2,3)):=⟨_,rfl⟩
    rw[<-hwd] at HB1 ⊢
    clear hwd con1 kc b1
    go_region_with (first
     |(go_at_call 25;refine(con2.out _ (HB1.out.drew)).mono ?_;rintro e w2 ⟨g,rfl,hg,hrow,hb2⟩;have HB2:Hid (Below w.heap.size w w2):=q0e HB1.out.drew (Nat.le_refl _) hb2)
     |(go_at_call 134;refine(con3.out _ _ HB2.out hrow).mono ?_;rintro e wx ⟨rfl,hwx⟩;subst wx))
    have hlen:(q1j bs).length=m-2:=by
     rw[HBP.out,List.length_drop,List.length_take]
     omega
    have HL:=q0f hlen
    cases v with
    |true=>
     have hs0:q4c bs=0:=by rw[HSC.out,if_pos (of_decide_eq_true HV.out)]
     have HS0:=q0f hs0
     clear hs0 hlen
     go_wp2
     refine bodyPost_ret (v:=.tuple #[.slice (some ⟨b,o+2,none⟩) (m-2) (C-2),.int .i64 0]) (by simp[results,Tryz.results96,go_sem]) rfl ⟨HB2.out,.inr ⟨HS0.out,some ⟨b,o+2,none⟩,C-2,by rw[HL.out],?_⟩⟩
     rw[HBP.out]
     exact((HB.out.take m).drop (by rw[List.length_take];omega)).below HB2.out (Nat.le_refl _)
    |false=>
     have hs0:q4c bs=9:=by rw[HSC.out,if_neg (of_decide_eq_false HV.out)]
     have HS0:=q0f hs0
     clear hs0 hlen
     go_wp2
     exact bodyPost_ret (v:=.tuple #[.slice none 0 0,.int .i64 9]) (by simp[results,Tryz.results96,go_sem]) rfl ⟨HB2.out,.inl ⟨by rw[HS0.out];decide,by rw[HS0.out]⟩⟩
   ·have hc:q4c bs=4:=by unfold q4c;rw[if_neg h1,if_neg h2,if_neg h3]
    have HC:=q0f hc
    rw[decide_eq_false h3] at con1
    clear h hu hc h3
    go_enter Tryz.func96,Tryz.ntmps96
    go_wp2_with (first
     |(go_at_call 133;refine(con1.out _ rfl).mono ?_;rintro e wx ⟨rfl,hwx⟩;subst wx))
    exact bodyPost_ret (v:=.tuple #[.slice none 0 0,.int .i64 4]) (by simp[results,Tryz.results96,go_sem]) rfl ⟨b1 _,.inl ⟨by rw[HC.out];decide,by rw[HC.out]⟩⟩

end
section
open Go.RowKit Plain

theorem z5a:(Tryz.prog.info? 5).map (fun i=>(i.zero,i.size,i.bytes))=some (some (.int .u8 0),1,1):=by kernel_rfl

def q3b(B:Nat)(w:World)(v:Value)(bs:List Int):Prop:=
 ∃g cap,v=.slice (some ⟨g,0,none⟩) bs.length cap/\B<=g/\g<w.heap.size/\bs.length<=cap/\cap<=9223372036854775807/\(∀j,j<cap->(w.cell? ⟨g,j,none⟩).isSome=true/\w.frozen? ⟨g,j,none⟩=false)/\∀j u,(u8s bs)[j]? =some u->w.cell? ⟨g,j,none⟩=some u

structure Grew(w w':World)(v v':Value):Prop where
 os:w'.os=w.os
 tape:w'.tape=w.tape
 output:w'.output=w.output
 size:w.heap.size<=w'.heap.size
 block:∀k,k<w.heap.size->some k≠v.ownBlock->w'.heap[k]? =w.heap[k]?
 own:v'.ownBlock=v.ownBlock\/∀k,v'.ownBlock=some k->w.heap.size<=k

section
variable {B : Nat} {w w' w1 w2 : World} {v v' v1 v2 : Value} {bs : List Int}

theorem Grew.refl(w:World)(v:Value):Grew w w v v:=⟨rfl,rfl,rfl,Nat.le_refl _,fun _ _ _=>rfl,.inl rfl⟩

theorem Grew.trans(h1:Grew w w1 v v1)(h2:Grew w1 w2 v1 v2):Grew w w2 v v2:=by
 have hs:=h1.size
 refine⟨h2.os.trans h1.os,h2.tape.trans h1.tape,h2.output.trans h1.output,Nat.le_trans hs h2.size,fun k hk hn=>(h2.block k (by omega) fun e=>?_).trans (h1.block k hk hn),?_⟩
 ·rcases h1.own with h|h
  ·exact hn (e.trans h)
  ·have:=h k e.symm
   omega
 ·rcases h2.own with h|h
  ·rcases h1.own with h'|h'
   ·exact .inl (h.trans h')
   ·exact .inr fun k hk=>h' k (h.symm.trans hk)
  ·exact .inr fun k hk=>Nat.le_trans hs (h k hk)

theorem Grew.ahead(hb:Below w.heap.size w w1)(h:Grew w1 w2 v v2):Grew w w2 v v2:=
 Grew.trans ⟨hb.os,hb.tape,hb.output,hb.size,fun k hk _=>hb.block k hk,.inl rfl⟩ h

theorem Grew.behind(h:Grew w w1 v v1)(hb:Below w1.heap.size w1 w2):Grew w w2 v v1:=
 Grew.trans h ⟨hb.os,hb.tape,hb.output,hb.size,fun k hk _=>hb.block k hk,.inl rfl⟩

theorem q3b.own(h:q3b B w v bs):∃g,v.ownBlock=some g/\B<=g/\g<w.heap.size:=by
 obtain⟨g,cap,rfl,hg,hl,_⟩:=h
 exact⟨g,rfl,hg,hl⟩

theorem Grew.below(h:Grew w w' v v')(hv:q3b B w v bs):Below B w w':=by
 obtain⟨g,e,hg,_⟩:=hv.own
 refine⟨h.os,h.tape,h.output,h.size,fun k hk=>h.block k (by omega) ?_⟩
 rw[e]
 intro q
 cases q
 omega

theorem Grew.kept(h:Grew w w' v v')(hv:q3b B w1 v bs){k:Nat}(hk:w1.heap.size<=k)(hl:k<w.heap.size):w'.heap[k]? =w.heap[k]? :=by
 obtain⟨g,e,_,hg⟩:=hv.own
 refine h.block k hl ?_
 rw[e]
 intro q
 cases q
 omega

theorem q3b.blocks(h:q3b B w v bs)(hk:∀k,B<=k->k<w.heap.size->w'.heap[k]? =w.heap[k]?)(hs:w.heap.size<=w'.heap.size):q3b B w' v bs:=by
 obtain⟨g,cap,hv,hB,hg,h1,h2,h3,h4⟩:=h
 have e:=hk g hB hg
 refine⟨g,cap,hv,hB,Nat.lt_of_lt_of_le hg hs,h1,h2,fun j hj=>?_,fun j u hu=>(World.cell?_of_block (a:=⟨g,j,none⟩) e).trans (h4 j u hu)⟩
 rw[World.cell?_of_block (a:=⟨g,j,none⟩) e,World.frozen?_of_block (a:=⟨g,j,none⟩) e]
 exact h3 j hj

theorem q3b.below(h:q3b B w v bs)(hb:Below w.heap.size w w'):q3b B w' v bs:=h.blocks (fun k _ hk=>hb.block k hk) hb.size

theorem q3b.alloc(h:q3b B w v bs)(o:Obj):q3b B (w.alloc o) v bs:=h.below ((Below.refl _ _).alloc (Nat.le_refl _) o)

theorem q3b.bytes(h:q3b B w v bs):∃g cap,v=.slice (some ⟨g,0,none⟩) bs.length cap/\q0m w.heap.size w (some ⟨g,0,none⟩) cap bs:=by
 obtain⟨g,cap,hv,hB,hg,h1,h2,h3,h4⟩:=h
 exact⟨g,cap,hv,h1,h2,.inr ⟨g,0,rfl,hg,fun j u hu=>by rw[Nat.zero_add];exact h4 j u hu⟩⟩

theorem qb4(g:Nat):∀(vs:List Value) (o:Nat) (w:World),(w.setCells g o vs).tape=w.tape
 |[],_,_=>rfl
 |v::r,o,w=>qb4 g r (o+1) (w.setCell ⟨g,o,none⟩ v)

theorem q4q(g:Nat):∀(vs:List Value) (o:Nat) (w:World),(w.setCells g o vs).heap.size=w.heap.size
 |[],_,_=>rfl
 |v::r,o,w=>(q4q g r (o+1) (w.setCell ⟨g,o,none⟩ v)).trans (by simp)

theorem isSome_setCells(g:Nat):∀(vs:List Value) (o:Nat) (w:World) (x:Addr),(w.cell? x).isSome=true->((w.setCells g o vs).cell? x).isSome=true
 |[],_,_,_,h=>h
 |v::r,o,w,x,h=>isSome_setCells g r (o+1) _ x (by
   by_cases e:x=⟨g,o,none⟩
   ·obtain⟨u,hu⟩:=Option.isSome_iff_exists.1 h
    rw[e] at hu ⊢
    rw[World.cell?_setCell_same _ _ _ hu]
    rfl
   ·rw[World.cell?_setCell_other _ _ _ _ (fun h=>e (by simpa using h.symm))]
    exact h)

theorem qyt(h:q3b B w v bs)(hB:B<=w.heap.size){tx ty:TypeId}{x:Value}{xs:List Int}(hs:Src Tryz.prog 1 tx x xs.length (u8s xs) w)(hz:bs.length+xs.length<=1000000000):
  ∃v' w',(Builtin.append_ #[33,tx] ty #[v,x]).run Tryz.prog w=.ok v' w'/\q3b B w' v' (bs++xs)/\Grew w w' v v':=by
 obtain⟨i,hi,hz0,hz1,hz2⟩:=info_parts z5a
 obtain⟨g,cap,rfl,hg,hgl,h1,h2,h3,h4⟩:=h
 have hl1:=q6n bs
 have hl2:=q6n xs
 by_cases hr:bs.length+xs.length<=cap
 ·have hrun:=run_append_room_src (P:=Tryz.prog) w 33 tx ty 5 i Tryz.underlying33 hi g 0 bs.length cap x xs.length (u8s xs) (by rw[hz1];exact hs) hr
   (fun j hj=>by rw[hz1,Nat.zero_add,Nat.mul_one];exact(h3 _ (by omega)).1) (fun j hj=>by rw[hz1,Nat.zero_add,Nat.mul_one];exact(h3 _ (by omega)).2)
  rw[hz1,Nat.zero_add,Nat.mul_one] at hrun
  refine⟨_,_,hrun,⟨g,cap,by rw[List.length_append],hg,by rw[q4q];exact hgl,by rw[List.length_append];exact hr,h2,fun j hj=>⟨isSome_setCells g _ _ _ _ (h3 j hj).1,by rw[World.frozen?_setCells];exact(h3 j hj).2⟩,fun j u hu=>?_⟩,?_⟩
  ·rw[qc5] at hu
   by_cases hj:j<bs.length
   ·rw[World.cell?_setCells_out g _ _ _ _ (fun _ _=>.inl hj)]
    rw[List.getElem?_append_left (by omega)] at hu
    exact h4 j u hu
   ·rw[List.getElem?_append_right (by omega),hl1] at hu
    obtain⟨hjl,hju⟩:=List.getElem?_eq_some_iff.1 hu
    have k:=World.cell?_setCells_in g (u8s xs) bs.length w (fun j' hj'=>(h3 _ (by omega)).1) (j-bs.length) hjl
    rw[show bs.length+(j-bs.length)=j by omega] at k
    rw[k,hju]
  ·exact⟨World.os_setCells _ _ _ _,qb4 _ _ _ _,World.output_setCells _ _ _ _,by rw[q4q];exact Nat.le_refl _,fun k hk hn=>World.heap_setCells_other _ _ _ _ hk (fun e=>hn (by rw[e];rfl)),.inl rfl⟩
 ·have hrun:=run_append_grow_src (P:=Tryz.prog) w 33 tx ty 5 i (.int .u8 0) Tryz.underlying33 hi hz0 (some ⟨g,0,none⟩) bs.length cap (u8s bs)
   (by rw[hz1];exact run_firstCells_some (P:=Tryz.prog) w.drew 1 bs.length ⟨g,0,none⟩ bs.length cap (u8s bs) (by omega) (fun j u hu=>by rw[Addr.add_lit,Nat.zero_add];exact h4 j u hu)) x xs.length (u8s xs) (by rw[hz1];exact hs) (by omega) (by omega) (by rw[hz2];exact growslice_fits (by omega) (by omega))
  have hge:=grownCap_ge w (bs.length+xs.length) cap 5
  have hcm:grownCap w (bs.length+xs.length) cap 5<=maxLen:=grownCap_le_maxLen w (bs.length+xs.length) cap 5 (by unfold maxLen;omega)
  obtain⟨D,hD⟩:∃D,grownCap w (bs.length+xs.length) cap 5=D:=⟨_,rfl⟩
  rw[hD] at hrun hge hcm
  obtain⟨ar,har⟩:∃ar,(u8s bs++u8s xs).toArray++Builtin.zeroCells (Value.int .u8 0).cells (D-(bs.length+xs.length))=ar:=⟨_,rfl⟩
  have hn:(w.drew.alloc (.cells ar 5)).heap[w.heap.size]? =some (.cells ar 5 (0,0)):=heap_alloc_new w.drew _
  have hsz:ar.size=D:=by
   rw[<-har,Array.size_append,size_zeroCells,List.size_toArray,List.length_append,hl1,hl2,show(Value.int IntKind.u8 0).cells.size=1 from rfl]
   omega
  rw[har] at hrun
  have hc:∀j,(w.drew.alloc (.cells ar 5)).cell? ⟨w.heap.size,j,none⟩=ar[j]? :=fun j=>cell_of_row _ _ _ _ _ _ hn
  refine⟨_,_,hrun,⟨w.heap.size,D,by rw[List.length_append],hB,by simp,by rw[List.length_append];exact hge,by unfold maxLen at hcm;omega,fun j hj=>⟨by rw[hc,Array.getElem?_eq_getElem (by omega)];rfl,?_⟩,fun j u hu=>?_⟩,?_⟩
  ·unfold World.frozen?
   rw[hn]
   simp
  ·rw[hc,<-har,Array.getElem?_append_left (by rw[List.size_toArray,List.length_append];rw[qc5] at hu;have:=(List.getElem?_eq_some_iff.1 hu).1;rw[List.length_append] at this;omega),List.getElem?_toArray,<-qc5]
   exact hu
  ·exact⟨rfl,rfl,rfl,by simp,fun k hk _=>heap_alloc_old w.drew _ (show k<w.heap.size by omega),.inr fun k hk=>by cases hk;exact Nat.le_refl _⟩
end

theorem qm6(w:World)(x:Int):Src Tryz.prog 1 33 (.slice (some ⟨w.heap.size,0,none⟩) 1 1) [x].length (u8s [x]) (w.alloc (.cells #[.int .u8 x] 5)):=
 Src.ofSlice _ Tryz.underlying33 _ _ _ _ rfl (fun j u hu=>by
  cases j with
  |zero=>
   cases hu
   simp[Addr.add]
  |succ j=>simp[u8s] at hu) (qqq [x])

theorem qzl(w:World)(s:ByteArray):Src Tryz.prog 1 9 (.string s) (q6u s).length (u8s (q6u s)) w:=by
 have h:=Src.ofString (P:=Tryz.prog) w (tx:=9) (by kernel_rfl) s
 have e:byteCells s=u8s (q6u s):=by
  unfold byteCells u8s q6u
  rw[List.map_map]
  rfl
 have l:(q6u s).length=s.size:=by
  have:=byteCells_length s
  rw[e,q6n] at this
  exact this
 rw[l,<-e]
 exact h

theorem z0c{w:World}{g n:Nat}{xs:List Int}(h:RowL w g 5 (u8s xs))(hn:n=xs.length)(C:Nat):Src Tryz.prog 1 33 (.slice (some ⟨g,0,none⟩) n C) xs.length (u8s xs) w:=by
 subst hn
 refine Src.ofSlice _ Tryz.underlying33 _ _ _ _ (by rw[q6n,Nat.mul_one]) (fun j u hu=>?_) (qqq xs)
 rw[Addr.add_lit,Nat.zero_add,h.cell j]
 exact hu

theorem q3w{w:World}{ops:Array Oper}{rest:List Oper}{o:Oper}{a:Act}{Q:Exit->Act->World->Prop}(hgd:o.guard=none)(sl x:Operand)(tx:TypeId)
  (ho:o.op=.call { callee:=.builtin .append,args:=#[sl,x],argTypes:=#[33,tx] })
  (B:Nat) (v vx:Value) (bs xs:List Int) (hs:a.eval sl=v) (hbuf:q3b B w v bs) (hx:a.eval x=vx) (hsrc:Src Tryz.prog 1 tx vx xs.length (u8s xs) w) (hB:B<=w.heap.size) (hz:bs.length+xs.length<=1000000000)
  (h:∀v' w',q3b B w' v' (bs++xs)->Grew w w' v v'->wpList Tryz.prog ops Q rest (a.put o.dst v') w'):wpList Tryz.prog ops Q (o::rest) a w:=by
 refine wpList_plain hgd fun K hK=>?_
 obtain⟨v',w',hr,h2,h3⟩:=qyt hbuf hB (ty:=o.type) hsrc hz
 unfold Oper.wp execOp
 simp only[ho,resolve,invoke,builtin,Sem.run_bind,Sem.run_pure,Result.andThen_ok,List.map_toArray,List.map_cons,List.map_nil,hs,hx,hr]
 exact hK _ _ (h v' w' h2 h3)

end
section
open Go.RowKit Plain

def qcp(B:Nat)(v:Value)(bs:List Int)(w:World)(e:Ending)(w':World):Prop:=∃v',e=.returned v'/\q3b B w' v' bs/\Grew w w' v v'

theorem q6x{n:Nat}(k:Nat)(h:n<128 ^ k)(hk:0<k):(sev n).length<=k:=by
 induction k generalizing n with
 |zero=>omega
 |succ k ih=>
  rw[sev]
  split
  ·simp
  ·rw[List.length_cons]
   by_cases h0:k=0
   ·subst h0
    simp at h
    omega
   ·have:=ih (n:=n/128) (by rw[Nat.div_lt_iff_lt_mul (by omega),<-Nat.pow_succ];exact h) (by omega)
    omega

set_option maxRecDepth 20000 in
set_option maxHeartbeats 2000000 in
theorem q4l(B:Nat)(v:Value)(bs:List Int)(n:Nat)(w:World)(hB:B<=w.heap.size)(h:q3b B w v bs)(hn:n<9223372036854775808)(hz:bs.length<=900000000):
  Calls Tryz.prog 23 #[v,.int .i64 (n:Int)] w (qcp B v (bs++sev n) w):=by
 have hlen:(sev n).length<=9:=q6x 9 (by omega) (by omega)
 obtain⟨all,hall⟩:∃all,bs++sev n=all:=⟨_,rfl⟩
 rw[hall]
 have hallL:all.length<=900000009:=by rw[<-hall,List.length_append];omega
 unfold qcp
 have HA:=q0f hall
 have HBf:=q0f h
 clear hall h hlen
 go_enter Tryz.func23,Tryz.ntmps23
 go_wp2_with fail
 go_loopw [0,1] (fun vl vn wr=>∃(m:Nat) (xs:List Int),m<9223372036854775808/\vn=.int .i64 (m:Int)/\Hid (xs++sev m=all)/\Hid (q3b B wr vl xs)/\Hid (Grew w wr v vl)) (fun _ vn _=>(intOf vn).toNat)
 case atStart=>exact⟨n,bs,hn,rfl,HA.out,HBf.out,Grew.refl _ _⟩
 case round=>
  obtain⟨m,xs,hm,rfl,HE,HX,HW⟩:=hrel
  have hxl:xs.length<=900000009:=by
   have:=congrArg List.length HE.out
   rw[List.length_append] at this
   omega
  have hBr:B<=wr.heap.size:=Nat.le_trans hB HW.out.size
  by_cases hlt:128<=m
  ·have q:(128:Int)<=(m:Int):=by omega
   have HE2:Hid ((xs++[(m:Int)%128+128])++sev (m/128)=all):=by
    have h1:=HE.out
    rw[sev,dif_neg (by omega)] at h1
    rw[List.append_assoc]
    rw[show((128+m%128:Nat):Int)=(m:Int)%128+128 by omega] at h1
    exact h1
   have k1:(m:Int).tmod 128=(m:Int)%128:=Int.tmod_eq_emod_of_nonneg (by omega)
   have k2:IntKind.i64.wrap ((m:Int)%128+128)=(m:Int)%128+128:=by rw[IntKind.wrap_i64];omega
   have k3:IntKind.u8.wrap ((m:Int)%128+128)=(m:Int)%128+128:=by simp[IntKind.wrap,IntKind.bits,IntKind.signed];omega
   have k4:(m:Int).tdiv 128=(m:Int)/128:=Int.tdiv_eq_ediv_of_nonneg (by omega)
   clear HE
   go_wp2_with (first
    |(at_builtin;refine q3w rfl _ _ 33 rfl B _ _ xs [(m:Int)%128+128] rfl (HX.out.alloc _) rfl (qm6 wr _) (by simp;omega) (by simp;omega) ?_;intro v4 w4 hbuf4 hb4))
   exact⟨⟨m/128,xs++[(m:Int)%128+128],by omega,by go_num,HE2,hbuf4,HW.out.trans (Grew.ahead ((Below.refl _ _).alloc (Nat.le_refl _) _) hb4)⟩,by simp only[intOf];omega⟩
  ·have q:¬(128:Int)<=(m:Int):=by omega
   have HE2:Hid (xs++[(m:Int)]=all):=by
    have h1:=HE.out
    rw[qmm (by omega)] at h1
    exact h1
   have k3:IntKind.u8.wrap (m:Int)=(m:Int):=by simp[IntKind.wrap,IntKind.bits,IntKind.signed];omega
   clear HE
   go_wp2_with (first
    |(at_builtin;refine q3w rfl _ _ 33 rfl B _ _ xs [(m:Int)] rfl (HX.out.alloc _) rfl (qm6 wr (m:Int)) (by simp;omega) (by simp;omega) ?_;intro v4 w4 hbuf4 hb4))
   go_ret
   rw[HE2.out] at hbuf4
   exact⟨_,rfl,hbuf4,HW.out.trans (Grew.ahead ((Below.refl _ _).alloc (Nat.le_refl _) _) hb4)⟩

theorem qws(n:Int)(w:World)(h:big n):Calls Tryz.prog 36 #[.int .i64 n] w fun e w'=>e=.returned (.int .i64 (((q7g n).toNat:Nat):Int))/\w'=w:=by
 have hf:=qdm n
 rw[show(((q7g n).toNat:Nat):Int)=q7g n by omega]
 clear hf
 obtain⟨h0,h1⟩:=h
 unfold q7g
 by_cases hn:n<0
 ·rw[if_pos hn]
  have k1:IntKind.i64.wrap (-2*n)=-2*n:=by rw[IntKind.wrap_i64];omega
  have k2:IntKind.i64.wrap (-2*n-1)=-2*n-1:=by rw[IntKind.wrap_i64];omega
  go_enter Tryz.func36,Tryz.ntmps36
  go_wp2
  go_ret
  exact⟨rfl,rfl⟩
 ·rw[if_neg hn]
  have k1:IntKind.i64.wrap (2*n)=2*n:=by rw[IntKind.wrap_i64];omega
  go_enter Tryz.func36,Tryz.ntmps36
  go_wp2
  go_ret
  exact⟨rfl,rfl⟩

set_option maxRecDepth 20000 in
set_option maxHeartbeats 2000000 in
theorem qel(B:Nat)(v:Value)(bs:List Int)(A:Option Addr)(C:Nat)(ss:List ByteArray)(w:World)(hB:B<=w.heap.size)(h:q3b B w v bs)(hS:q0i B w A (strs ss))(hz:(bs++q5j ss).length<=900000000)(hn:ss.length<9223372036854775808):
  Calls Tryz.prog 22 #[v,.slice A ss.length C] w (qcp B v (bs++q5j ss) w):=by
 have hbl:bs.length<=900000000:=by rw[List.length_append] at hz;omega
 have hE:(bs++sev ss.length)++(ss.drop 0).flatMap q2f=bs++q5j ss:=by rw[List.append_assoc,List.drop_zero];rfl
 obtain⟨all,hall⟩:∃all,bs++q5j ss=all:=⟨_,rfl⟩
 rw[hall] at hE hz ⊢
 unfold qcp
 have HE0:=q0f hE
 have con:=q0f (q4l B v bs ss.length w hB h hn hbl)
 have HSR:=q0f hS
 have HBf:=q0f h
 unfold qcp at con
 clear hall hE h hS
 go_enter Tryz.func22,Tryz.ntmps22
 go_wp2_with (first
  |(go_at_call 23;refine con.out.mono ?_;rintro e w1 ⟨v1,rfl,hbuf1,hg1⟩))
 go_loopw [0,6,13] (fun vl _ vi wr=>∃(i:Nat) (xs:List Int),i<=ss.length/\vi=.int .i64 (i:Int)/\Hid (xs++(ss.drop i).flatMap q2f=all)/\Hid (q3b B wr vl xs)/\Hid (Grew w wr v vl)) (fun _ _ vi _=>ss.length-(intOf vi).toNat)
 case atStart=>exact⟨0,_,Nat.zero_le _,rfl,HE0.out,hbuf1,hg1⟩
 case round=>
  obtain⟨i,xs,hi,rfl,HE,HX,HW⟩:=hrel
  have HL:Hid (Below B w wr):=HW.out.below HBf.out
  have hBr:B<=wr.heap.size:=Nat.le_trans hB HW.out.size
  by_cases hlt:i<ss.length
  ·obtain⟨sb,so,rfl,hsb,hc,-⟩:=(HSR.out.below HL.out (Nat.le_refl _)).str hlt
   have h1:=HE.out
   rw[List.drop_eq_getElem_cons hlt,List.flatMap_cons] at h1
   obtain⟨s,hs⟩:∃s,ss[i]=s:=⟨_,rfl⟩
   rw[hs] at h1 hc
   have HE2:Hid (((xs++sev s.size)++q6u s)++(ss.drop (i+1)).flatMap q2f=all):=by
    show _=_
    rw[<-h1]
    simp only[q2f,List.append_assoc]
   have hlen:xs.length+(sev s.size).length+(q6u s).length<=900000000:=by
    have:=congrArg List.length HE2.out
    simp only[List.length_append] at this
    omega
   have hss:(q6u s).length=s.size:=by
    have:=byteCells_length s
    have e:byteCells s=u8s (q6u s):=by
     unfold byteCells u8s q6u
     rw[List.map_map]
     rfl
    rw[e,q6n] at this
    exact this
   have con2:=q0f (q4l B u0 xs s.size wr hBr HX.out (by omega) (by omega))
   unfold qcp at con2
   have hBr':sb<wr.heap.size:=by omega
   have hll:(xs++sev s.size).length+(q6u s).length<=1000000000:=by rw[List.length_append];omega
   clear h1 hs HE HX hlen hss
   go_wp2_with (first
    |(go_at_call 23;refine con2.out.mono ?_;rintro e w2 ⟨v2,rfl,hbuf2,hg2⟩;have hB2:B<=w2.heap.size:=Nat.le_trans hBr hg2.size)
    |(at_builtin;refine q3w rfl _ _ 9 rfl B _ _ (xs++sev s.size) (q6u s) rfl hbuf2 rfl (qzl w2 s) hB2 hll ?_;intro v4 w4 hbuf4 hb4))
   exact⟨⟨i+1,_,hlt,by go_num,HE2,hbuf4,HW.out.trans (hg2.trans hb4)⟩,by simp only[intOf];omega⟩
  ·have hni:¬((i:Int)<(ss.length:Int)):=by omega
   have h1:=HE.out
   rw[List.drop_of_length_le (by omega),List.flatMap_nil,List.append_nil] at h1
   clear HE
   go_wp2_with fail
   go_ret
   rw[h1] at HX
   exact⟨_,rfl,HX.out,HW.out⟩

theorem q6c(B:Nat)(v:Value)(bs:List Int)(n:Int)(w:World)(hB:B<=w.heap.size)(h:q3b B w v bs)(h0:0<=n)(hn:n<9223372036854775808)(hz:bs.length<=900000000):
  Calls Tryz.prog 23 #[v,.int .i64 n] w (qcp B v (bs++sev n.toNat) w):=by
 have k:=q4l B v bs n.toNat w hB h (by omega) hz
 rw[show((n.toNat:Nat):Int)=n by omega] at k
 exact k

theorem qtp(n:Int)(w:World)(h:big n):Calls Tryz.prog 36 #[.int .i64 n] w fun e w'=>e=.returned (.int .i64 (q7g n))/\w'=w:=by
 have k:=qws n w h
 rw[show(((q7g n).toNat:Nat):Int)=q7g n by have:=qdm n;omega] at k
 exact k

theorem qnx{n:Int}(h:big n):0<=q7g n/\q7g n<9223372036854775808:=by
 have:=qkh h
 have:=qdm n
 omega

def qby(x:En):List Int:=[x.s,x.lo,x.hi,x.l]

theorem qrd(a:Int)(x:En)(xs:List Int):((xs++sev (x.key-a).toNat)++sev x.c.toNat)++((qby x).drop 0).flatMap zig=xs++encP a x:=by
 simp[qby,encP,List.append_assoc]

structure Told(x:En):Prop where
 k0:0<=x.key
 k1:x.key<1099511627776
 c0:0<=x.c
 c1:x.c<72057594037927936
 s:big x.s
 lo:big x.lo
 hi:big x.hi
 l:big x.l

set_option maxRecDepth 20000 in
set_option maxHeartbeats 4000000 in
theorem qcr(B:Nat)(v:Value)(bs:List Int)(A:Option Addr)(C:Nat)(L:List En)(w:World)(hB:B<=w.heap.size)(h:q3b B w v bs)(hS:q0i B w A (q0d L))(hz:(bs++(sev L.length++q3t 0 L)).length<=900000000)(hn:L.length<9223372036854775808)
  (hp:L.Pairwise fun a b=>a.key<b.key) (ht:∀x∈L,Told x):
  Calls Tryz.prog 24 #[v,.slice A L.length C] w (qcp B v (bs++(sev L.length++q3t 0 L)) w):=by
 have hbl:bs.length<=900000000:=by rw[List.length_append] at hz;omega
 have hE:(bs++sev L.length)++q3t 0 (L.drop 0)=bs++(sev L.length++q3t 0 L):=by rw[List.append_assoc,List.drop_zero]
 obtain⟨all,hall⟩:∃all,bs++(sev L.length++q3t 0 L)=all:=⟨_,rfl⟩
 rw[hall] at hE hz ⊢
 unfold qcp
 have HE0:=q0f hE
 have con:=q0f (q4l B v bs L.length w hB h hn hbl)
 have HSR:=q0f hS
 have HBf:=q0f h
 have HP:=q0f hp
 have HT:=q0f ht
 have HK0:Hid ((0:Int)<=0/\∀x∈L.drop 0,(0:Int)<=x.key):=⟨Int.le_refl 0,fun x hx=>(ht x (by simpa using hx)).k0⟩
 unfold qcp at con
 clear hall hE h hS hp ht
 go_enter Tryz.func24,Tryz.ntmps24
 go_wp2_with (first
  |(go_at_call 23;refine con.out.mono ?_;rintro e w1 ⟨v1,rfl,hbuf1,hg1⟩))
 go_loopw [0,5,16] (fun vl va vi wr=>∃(i:Nat) (a:Int) (xs:List Int),i<=L.length/\vi=.int .i64 (i:Int)/\va=.int .i64 a/\Hid (0<=a/\∀x∈L.drop i,a<=x.key)/\Hid (xs++q3t a (L.drop i)=all)/\Hid (q3b B wr vl xs)/\Hid (Grew w wr v vl)) (fun _ _ vi _=>L.length-(intOf vi).toNat)
 case atStart=>exact⟨0,0,_,Nat.zero_le _,rfl,rfl,HK0.out,HE0.out,hbuf1,hg1⟩
 case round=>
  obtain⟨i,a,xs,hi,rfl,rfl,HK,HE,HX,HW⟩:=hrel
  obtain⟨vo,hvo⟩:∃vo,vo=u0:=⟨_,rfl⟩
  subst hvo
  have HL:Hid (Below B w wr):=HW.out.below HBf.out
  have hBr:B<=wr.heap.size:=Nat.le_trans hB HW.out.size
  by_cases hlt:i<L.length
  ·obtain⟨sb,so,rfl,hsb,d0,d1,d2,d3,d4,d5,d6⟩:=(HSR.out.below HL.out (Nat.le_refl _)).en hlt
   have h1:=HE.out
   have h2:=HK.out.2
   have h3:(L.drop i).Pairwise fun a b=>a.key<b.key:=HP.out.sublist (List.drop_sublist i L)
   have ht:=HT.out _ (List.getElem_mem hlt)
   rw[List.drop_eq_getElem_cons hlt] at h1 h2 h3
   obtain⟨x,hx⟩:∃x,L[i]=x:=⟨_,rfl⟩
   rw[hx] at h1 h2 h3 ht d0 d1 d2 d3 d4 d5 d6
   have HE2:Hid ((xs++encP a x)++q3t x.key (L.drop (i+1))=all):=by
    show _=_
    rw[<-h1,List.append_assoc]
    rfl
   have HK2:Hid (0<=x.key/\∀y∈L.drop (i+1),x.key<=y.key):=⟨ht.k0,fun y hy=>Int.le_of_lt ((List.pairwise_cons.1 h3).1 y hy)⟩
   have hax:a<=x.key:=h2 x (by simp)
   have ha0:=HK.out.1
   have hk1:=ht.k1
   obtain⟨mid,hmid⟩:∃mid,xs++encP a x=mid:=⟨_,rfl⟩
   have HM:Hid (((xs++sev (x.key-a).toNat)++sev x.c.toNat)++((qby x).drop 0).flatMap zig=mid):=by
    show _=_
    rw[qrd,hmid]
   rw[hmid] at HE2
   have HE3:=HE2
   have hml:mid.length<=900000000:=by
    have:=congrArg List.length HE2.out
    rw[List.length_append] at this
    omega
   have hl1:=congrArg List.length HM.out
   simp only[List.length_append] at hl1
   have HTx:=q0f ht
   have k1:IntKind.i64.wrap (x.key-a)=x.key-a:=by rw[IntKind.wrap_i64];omega
   have hsr:sb<wr.heap.size:=by omega
   clear h1 h2 h3 ht hx HE HK hmid
   have q0:(0:Int)<=(i:Int):=by omega
   have q1:(i:Int)<(L.length:Int):=by omega
   go_upto_region 6 with fail
   obtain⟨wb,hwb⟩:∃wb,wb=wr.alloc (.cells #[.int .i64 x.key,.int .i64 x.c,.int .i64 x.s,.int .i64 x.lo,.int .i64 x.hi,.int .i64 x.t,.int .i64 x.l] 84):=⟨_,rfl⟩
   obtain⟨xb,hxb⟩:∃xb,xb=wr.heap.size:=⟨_,rfl⟩
   have HBw:Hid (Below wr.heap.size wr wb):=by rw[hwb];exact(Below.refl _ _).alloc (Nat.le_refl _) _
   have XB:Hid (RowL wb xb 84 [.int .i64 x.key,.int .i64 x.c,.int .i64 x.s,.int .i64 x.lo,.int .i64 x.hi,.int .i64 x.t,.int .i64 x.l]):=by rw[hwb,hxb];exact q0b wr _ _
   have HBb:Hid (q3b B wb vo xs):=HX.out.below HBw.out
   have HG:Hid (Grew w wb v vo):=HW.out.behind HBw.out
   have HXk:Hid (∀W v',Grew wb W vo v'->RowL W xb 84 [.int .i64 x.key,.int .i64 x.c,.int .i64 x.s,.int .i64 x.lo,.int .i64 x.hi,.int .i64 x.t,.int .i64 x.l]):=fun W v' hW=>XB.out.of_block (hW.kept HX.out (by omega) XB.out.lt)
   have hBb:B<=wb.heap.size:=Nat.le_trans hBr HBw.out.size
   have conA:=q0f (q6c B vo xs (x.key-a) wb hBb HBb.out (by omega) (by omega) (by omega))
   unfold qcp at conA
   rw[<-hwb,<-hxb]
   clear hwb hxb HBw d0 d1 d2 d3 d4 d5 d6
   have b:=fun j=>XB.out.cell j
   have lb:=XB.out.lt
   have P0:True:=trivial
   go_upto_region 8 with(first
    |(go_at_call 23;have kk:=P0;clear kk;refine conA.out.mono ?_;rintro e w1 ⟨v1,rfl,hbuf1,hg1⟩;have X1:=q0f (HXk.out _ _ hg1);have b1:=fun j=>X1.out.cell j;have lb1:=X1.out.lt;have conB:=q0f (q6c B v1 _ x.c w1 (Nat.le_trans hBb hg1.size) hbuf1 HTx.out.c0 (by have:=HTx.out.c1;omega) (by rw[List.length_append];omega));unfold qcp at conB;have P1:True:=trivial;clear P0 b lb)
    |(go_at_call 23;have kk:=P1;clear kk;refine conB.out.mono ?_;rintro e w2 ⟨v2,rfl,hbuf2,hg2⟩;have HG2:=q0f (hg1.trans hg2);have X2:=q0f (HXk.out _ _ HG2.out);have b2:=fun j=>X2.out.cell j;have lb2:=X2.out.lt;clear P1 b1 lb1))
   have i0:∀w,(Instr.index 87 (.agg #[.int .i64 x.s,.int .i64 x.lo,.int .i64 x.hi,.int .i64 x.l]) (.int .i64 0)).run Tryz.prog w=.ok (.int .i64 x.s) w:=fun _=>by kernel_rfl
   have i1:∀w,(Instr.index 87 (.agg #[.int .i64 x.s,.int .i64 x.lo,.int .i64 x.hi,.int .i64 x.l]) (.int .i64 1)).run Tryz.prog w=.ok (.int .i64 x.lo) w:=fun _=>by kernel_rfl
   have i2:∀w,(Instr.index 87 (.agg #[.int .i64 x.s,.int .i64 x.lo,.int .i64 x.hi,.int .i64 x.l]) (.int .i64 2)).run Tryz.prog w=.ok (.int .i64 x.hi) w:=fun _=>by kernel_rfl
   have i3:∀w,(Instr.index 87 (.agg #[.int .i64 x.s,.int .i64 x.lo,.int .i64 x.hi,.int .i64 x.l]) (.int .i64 3)).run Tryz.prog w=.ok (.int .i64 x.l) w:=fun _=>by kernel_rfl
   go_wp2_with fail
   go_loopw [0,44] (fun vl vj ws=>∃(j:Nat) (ys:List Int),j<=4/\vj=.int .i64 (j:Int)/\Hid (ys++((qby x).drop j).flatMap zig=mid)/\Hid (q3b B ws vl ys)/\Hid (Grew wb ws vo vl)) (fun _ vj _=>4-(intOf vj).toNat)
   case atStart=>exact⟨0,_,Nat.zero_le _,rfl,HM.out,hbuf2,HG2.out⟩
   case round=>
    obtain⟨j,ys,hj,rfl,HEj,HXj,HWj⟩:=hrel
    have hyl:ys.length<=900000000:=by
     have:=congrArg List.length HEj.out
     rw[List.length_append] at this
     omega
    have hBs:B<=wr.heap.size:=Nat.le_trans hBb HWj.out.size
    have step:∀(n:Int),big n->Hid (∀W,W=wr->Calls Tryz.prog 36 #[.int .i64 n] W fun e w'=>e=.returned (.int .i64 (q7g n))/\w'=W)/\Hid (Calls Tryz.prog 23 #[u0,.int .i64 (q7g n)] wr fun e w'=>∃v',e=.returned v'/\q3b B w' v' (ys++zig n)/\Grew wr w' u0 v'):=fun n hn=>by
     have k:=q6c B u0 ys (q7g n) wr hBs HXj.out (qnx hn).1 (qnx hn).2 hyl
     exact⟨fun W _=>qtp n W hn,k⟩
    rcases(show j=0\/j=1\/j=2\/j=3\/j=4 by omega) with rfl|rfl|rfl|rfl|rfl
    ·have HE2:Hid ((ys++zig x.s)++((qby x).drop 1).flatMap zig=mid):=by
      show _=_
      rw[<-HEj.out]
      simp[qby,List.append_assoc]
     obtain⟨con1,con2⟩:=step _ HTx.out.s
     clear HEj step
     go_wp2_with (first
      |(go_at_call 36;refine(con1.out _ rfl).mono ?_;rintro e wx ⟨rfl,hwx⟩;subst wx)
      |(go_at_call 23;refine con2.out.mono ?_;rintro e w3 ⟨v3,rfl,hbuf3,hg3⟩))
     exact⟨⟨1,_,by omega,by go_num,HE2,hbuf3,HWj.out.trans hg3⟩,by simp only[intOf];omega⟩
    ·have HE2:Hid ((ys++zig x.lo)++((qby x).drop 2).flatMap zig=mid):=by
      show _=_
      rw[<-HEj.out]
      simp[qby,List.append_assoc]
     obtain⟨con1,con2⟩:=step _ HTx.out.lo
     clear HEj step
     go_wp2_with (first
      |(go_at_call 36;refine(con1.out _ rfl).mono ?_;rintro e wx ⟨rfl,hwx⟩;subst wx)
      |(go_at_call 23;refine con2.out.mono ?_;rintro e w3 ⟨v3,rfl,hbuf3,hg3⟩))
     exact⟨⟨2,_,by omega,by go_num,HE2,hbuf3,HWj.out.trans hg3⟩,by simp only[intOf];omega⟩
    ·have HE2:Hid ((ys++zig x.hi)++((qby x).drop 3).flatMap zig=mid):=by
      show _=_
      rw[<-HEj.out]
      simp[qby,List.append_assoc]
     obtain⟨con1,con2⟩:=step _ HTx.out.hi
     clear HEj step
     go_wp2_with (first
      |(go_at_call 36;refine(con1.out _ rfl).mono ?_;rintro e wx ⟨rfl,hwx⟩;subst wx)
      |(go_at_call 23;refine con2.out.mono ?_;rintro e w3 ⟨v3,rfl,hbuf3,hg3⟩))
     exact⟨⟨3,_,by omega,by go_num,HE2,hbuf3,HWj.out.trans hg3⟩,by simp only[intOf];omega⟩
    ·have HE2:Hid ((ys++zig x.l)++((qby x).drop 4).flatMap zig=mid):=by
      show _=_
      rw[<-HEj.out]
      simp[qby]
     obtain⟨con1,con2⟩:=step _ HTx.out.l
     clear HEj step
     go_wp2_with (first
      |(go_at_call 36;refine(con1.out _ rfl).mono ?_;rintro e wx ⟨rfl,hwx⟩;subst wx)
      |(go_at_call 23;refine con2.out.mono ?_;rintro e w3 ⟨v3,rfl,hbuf3,hg3⟩))
     exact⟨⟨4,_,by omega,by go_num,HE2,hbuf3,HWj.out.trans hg3⟩,by simp only[intOf];omega⟩
    ·have HE2:Hid (ys=mid):=by
      show _=_
      rw[<-HEj.out]
      simp[qby]
     have X3:=q0f (HXk.out _ _ HWj.out)
     have b3:=fun j=>X3.out.cell j
     have lb3:=X3.out.lt
     clear HEj step
     go_wp2_with fail
     rw[HE2.out] at HXj
     exact⟨⟨i+1,x.key,mid,hlt,by go_num,rfl,HK2,HE3,HXj,HG.out.trans HWj.out⟩,by simp only[intOf];omega⟩
  ·have hni:¬((i:Int)<(L.length:Int)):=by omega
   have h1:=HE.out
   rw[List.drop_of_length_le (by omega)] at h1
   unfold q3t at h1
   rw[List.append_nil] at h1
   clear HE
   go_wp2_with fail
   go_ret
   rw[h1] at HX
   exact⟨_,rfl,HX.out,HW.out⟩

end
section
open Go.RowKit Plain Go.Shelf

def qqc:List Value:=[.slice none 0 0,.slice none 0 0,.int .i64 0,.slice none 0 0,.int .i64 0,.slice none 0 0,.int .i64 0,.int .i64 0]

theorem qgh{A:Option Addr}{C:Nat}{bs:List Int}{w:World}(h:q0m w.heap.size w A C bs)(hu:U8 bs)(hc:q4c bs=0):
  Calls Tryz.prog 96 #[.slice A bs.length C] w fun e w'=>∃A' C',e=.returned (.tuple #[.slice A' (q1j bs).length C',.int .i64 0])/\q0m w.heap.size w' A' C' (q1j bs)/\Below w.heap.size w w':=by
 refine(qfy A C bs w h hu).mono ?_
 rintro e w' ⟨hb,⟨h0,_⟩|⟨_,A',C',he,hb'⟩⟩
 ·exact absurd hc h0
 ·exact⟨A',C',he,hb',hb⟩

structure z5b(body:List Int)(rb:Nat)(s1 s2 s3 s4:Rs)(ss:List ByteArray)(f:Int)(L:List En):Prop where
 nm:∀W,RdAt W rb ⟨body,0⟩->Calls Tryz.prog 97 #[.pointer (some ⟨rb,0,none⟩)] W fun e w'=>∃v,e=.returned v/\w'.ownsRow W.heap.size 9 1 v ss.length (strs ss)/\RdTo rb s1 W w'
 fl:∀W,RdAt W rb s1->Calls Tryz.prog 98 #[.pointer (some ⟨rb,0,none⟩)] W fun e w'=>e=.returned (.int .i64 f)/\RdTo rb s2 W w'
 pt:∀W,RdAt W rb s2->Calls Tryz.prog 99 #[.pointer (some ⟨rb,0,none⟩)] W fun e w'=>∃v,e=.returned v/\w'.ownsRow W.heap.size 84 7 v L.length (q0d L)/\RdTo rb s3 W w'
 en:∀W,RdAt W rb s3->Calls Tryz.prog 100 #[.pointer (some ⟨rb,0,none⟩)] W fun e w'=>e=.returned (.tuple #[])/\RdTo rb s4 W w'

theorem reads(body:List Int)(rb:Nat):z5b body rb (q1e body).2 (q1m body).2 (q0z body).2 (qct body) (q1e body).1 (q1m body).1 (q0z body).1:=
 ⟨fun W h=>qpa rb ⟨body,0⟩ W h,fun W h=>q8h rb _ W h,fun W h=>qkw rb _ W h,fun W h=>qze rb _ W h⟩

theorem qml{w:World}{A:Option Addr}{C:Nat}{body:List Int}(h:q0m w.heap.size w A C body)(hu:U8 body):RdAt (w.alloc (.cells #[.slice A body.length C,.int .i64 0] 157)) w.heap.size ⟨body,0⟩:=
 ⟨⟨A,C,q0b w [.slice A body.length C,.int .i64 0] 157,h.blocks fun _ hk=>Below.heap_alloc _ _ _ hk⟩,fun h=>absurd rfl h,hu⟩

structure z3r(w:World)(bx rb:Nat)(B2 B4:Nat)(NA:Value)(ss:List ByteArray)(VA:Value)(L:List En)(s:Rs)(w':World):Prop where
 below:Below w.heap.size w w'
 box:RowL w' bx 46 qqc
 rd:RdAt w' rb s
 nm:w'.ownsRow B2 9 1 NA ss.length (strs ss)
 pt:w'.ownsRow B4 84 7 VA L.length (q0d L)
 b2:w.heap.size+1<=B2
 b4:w.heap.size+1<=B4

theorem qbb{B rb n sz:Nat}{t:TypeId}{v:Value}{us:List Value}{w w':World}(h:w.ownsRow B t sz v n us)(hk:Kept [rb] w w')(hr:rb<B):w'.ownsRow B t sz v n us:=
 q0c h fun k hk'=>hk.block k (h.lt k hk').2 (by have:=(h.lt k hk').1;simp;omega)

theorem qrt{w w1 w2 w3 w4 w5 w6:World}{bx rb:Nat}{NA VA:Value}{ss:List ByteArray}{L:List En}{s1 s2 s3 s4:Rs}(h1:Below w.heap.size w w1)(hx:RowL w1 bx 46 qqc)(hxr:bx<rb)(hw:w.heap.size<=rb)(h2:Below w1.heap.size w1 w2)(hl:rb<w2.heap.size)(k3:RdTo rb s1 w2 w3)(hn:w3.ownsRow w2.heap.size 9 1 NA ss.length (strs ss))(k4:RdTo rb s2 w3 w4)
  (k5:RdTo rb s3 w4 w5) (hp:w5.ownsRow w4.heap.size 84 7 VA L.length (q0d L)) (k6:RdTo rb s4 w5 w6):z3r w bx rb w2.heap.size w4.heap.size NA ss VA L s4 w6:=by
 have z3:=k3.kp.size
 have z4:=k4.kp.size
 have kk:=((k3.kp.trans k4.kp).trans k5.kp).trans k6.kp
 have hb2:=q0e h1 (Nat.le_refl _) h2
 have z2:=hb2.size
 refine⟨hb2.trans (kk.below (by omega) (by simpa using hw)),kk.row (hx.below h2 hx.lt) (by simp;omega),k6.rd,qbb (qbb (qbb hn k4.kp hl) k5.kp hl) k6.kp hl,qbb hp k6.kp (by omega),by omega,by omega⟩

set_option maxRecDepth 20000 in
set_option maxHeartbeats 4000000 in
theorem qkq(A:Option Addr)(C:Nat)(bs:List Int)(w:World)(h:q0m w.heap.size w A C bs)(hu:U8 bs)(hs:q4c bs=0)(hc:(qct (q1j bs)).code≠0):
  Calls Tryz.prog 74 #[.slice A bs.length C] w fun e w'=>e=.returned (.tuple #[.agg #[.slice none 0 0,.slice none 0 0,.int .i64 0,.slice none 0 0,.int .i64 0,.slice none 0 0,.int .i64 0,.int .i64 0],.int .i64 (qct (q1j bs)).code])/\Below w.heap.size w w':=by
 have b0:∀o:Obj,Below w.heap.size w (w.alloc o):=fun o=>(Below.refl _ _).alloc (Nat.le_refl _) o
 have con:=q0f fun o=>qgh (w:=w.alloc o) ((h.below (b0 o) (Nat.le_refl _)).mono (by simp)) hu hs
 have hub:U8 (q1j bs):=qgp (qe8 hu _) 2
 obtain⟨body,hbody⟩:∃body,q1j bs=body:=⟨_,rfl⟩
 rw[hbody] at con hub hc ⊢
 have RDS:=q0f (reads body)
 obtain⟨s1,g1⟩:∃s1,(q1e body).2=s1:=⟨_,rfl⟩
 obtain⟨s2,g2⟩:∃s2,(q1m body).2=s2:=⟨_,rfl⟩
 obtain⟨s3,g3⟩:∃s3,(q0z body).2=s3:=⟨_,rfl⟩
 obtain⟨s4,g4⟩:∃s4,qct body=s4:=⟨_,rfl⟩
 obtain⟨ss,g5⟩:∃ss,(q1e body).1=ss:=⟨_,rfl⟩
 obtain⟨f,g6⟩:∃f,(q1m body).1=f:=⟨_,rfl⟩
 obtain⟨L,g7⟩:∃L,(q0z body).1=L:=⟨_,rfl⟩
 rw[g1,g2,g3,g4,g5,g6,g7] at RDS
 rw[g4] at hc ⊢
 obtain⟨c,hcc⟩:∃c,s4.code=c:=⟨_,rfl⟩
 rw[hcc] at hc ⊢
 have HCC:=q0f hcc
 have hne:(c != 0)=true:=by simpa using hc
 have HU:=q0f hub
 clear h hu hs hub hbody g1 g2 g3 g4 g5 g6 g7 hcc hc
 go_enter Tryz.func74,Tryz.ntmps74
 go_upto_region 3 with(first
  |(go_at_call 96;refine(con.out _).mono ?_;rintro e w1 ⟨A1,C1,rfl,hby,hb1⟩;have XB:=q0f ((q0b w [.slice none 0 0,.slice none 0 0,.int .i64 0,.slice none 0 0,.int .i64 0,.slice none 0 0,.int .i64 0,.int .i64 0] 46).below hb1 (by simp));have HB1:=q0f (q0e (b0 _) (Nat.le_refl _) hb1);have HY:=q0f (hby.mono hb1.size);have lx:=XB.out.lt;clear hb1 hby))
 go_upto_region 5 with fail
 have HS:=q0f (qml HY.out HU.out)
 have HW2:=q0f (show Below w1.heap.size w1 (w1.alloc (.cells #[.slice A1 body.length C1,.int .i64 0] 157)) from(Below.refl _ _).alloc (Nat.le_refl _) _)
 have hrl:w1.heap.size<(w1.alloc (.cells #[.slice A1 body.length C1,.int .i64 0] 157)).heap.size:=by simp
 obtain⟨w2,hw2⟩:∃w2,w2=w1.alloc (.cells #[.slice A1 body.length C1,.int .i64 0] 157):=⟨_,rfl⟩
 rw[<-hw2] at HS HW2 hrl ⊢
 have RD:=q0f (RDS.out w1.heap.size)
 have HHH:=q0f (show w.heap.size<w1.heap.size/\w1.heap.size<w2.heap.size from⟨lx,hrl⟩)
 obtain⟨rb,hrb⟩:∃rb,rb=w1.heap.size:=⟨_,rfl⟩
 rw[<-hrb] at HS RD HHH ⊢
 have HRB:=q0f hrb
 clear hw2 RDS hrl lx hrb HY con b0
 go_upto_region 9 with(first
  |(go_at_call 97;refine(RD.out.nm _ HS.out).mono ?_;rintro e w3 ⟨v3,rfl,hn3,hk3⟩;have K3:=q0f hk3;have N3:=q0f hn3;clear hn3 hk3)
  |(go_at_call 98;refine(RD.out.fl _ K3.out.rd).mono ?_;rintro e w4 ⟨rfl,hk4⟩;have K4:=q0f hk4;clear hk4)
  |(go_at_call 99;refine(RD.out.pt _ K4.out.rd).mono ?_;rintro e w5 ⟨v5,rfl,hp5,hk5⟩;have K5:=q0f hk5;have N5:=q0f hp5;clear hp5 hk5)
  |(go_at_call 100;refine(RD.out.en _ K5.out.rd).mono ?_;rintro e w6 ⟨rfl,hk6⟩;have K6:=q0f hk6;clear hk6))
 have RI:=q0f (qrt (w:=w) (bx:=w.heap.size) HB1.out XB.out (by have:=HHH.out;omega) (by have:=HHH.out;omega) HW2.out (by have:=HHH.out;omega) K3.out N3.out K4.out K5.out N5.out K6.out)
 obtain⟨⟨A6,C6,hrow,_⟩,_,_⟩:=RI.out.rd
 have r1:=hrow.cell 1
 have b:=fun j=>RI.out.box.cell j
 have bf:=fun j=>RI.out.box.frozen j
 have lb:=RI.out.box.lt
 have lr:=hrow.lt
 simp only[List.getElem?_cons_zero,List.getElem?_cons_succ] at r1
 simp only[qqc] at b
 rw[HCC.out] at r1
 have hbr:w.heap.size<rb:=by have:=HHH.out;omega
 clear hrow HHH K3 N3 K4 K5 N5 K6
 go_upto_region 10 with fail
 go_region
 go_wp2
 refine bodyPost_ret (v:=.tuple #[.agg #[.slice none 0 0,.slice none 0 0,.int .i64 0,.slice none 0 0,.int .i64 0,.slice none 0 0,.int .i64 0,.int .i64 0],.int .i64 c]) (by simp[results,Tryz.results74,go_sem,b]) rfl ⟨rfl,?_⟩
 exact(q0t RI.out.below (Nat.le_refl _) _ _ _ _ _ _ _ _).drew

def BoIn(Q:Option Addr->Nat->World->World->List Value->Int->Prop)(A:Option Addr)(C:Nat)(W:World)(e:Ending)(w':World):Prop:=
 ∃(M:Option Addr) (m D:Nat) (X0:Option Addr) (x0 Y0:Nat) (z0:Int) (X1:Option Addr) (x1 Y1:Nat) (z1:Int) (X2:Option Addr) (x2 Y2:Nat) (z2 z c:Int),e=.returned (.tuple #[.agg #[.slice M m D,.slice X0 x0 Y0,.int .i64 z0,.slice X1 x1 Y1,.int .i64 z1,.slice X2 x2 Y2,.int .i64 z2,.int .i64 z],.int .i64 c])/\Below W.heap.size W w'/\Q A C W w' [.slice M m D,.slice X0 x0 Y0,.int .i64 z0,.slice X1 x1 Y1,.int .i64 z1,.slice X2 x2 Y2,.int .i64 z2,.int .i64 z] c

def DeIn(Q:Option Addr->Nat->World->World->List Value->Int->Prop)(ss:List ByteArray)(w:World)(e:Ending)(w':World):Prop:=
 ∃(M:Option Addr) (m D:Nat) (X0:Option Addr) (x0 Y0:Nat) (z0:Int) (X1:Option Addr) (x1 Y1:Nat) (z1:Int) (X2:Option Addr) (x2 Y2:Nat) (z2 z c:Int) (A:Option Addr) (C:Nat) (W w7:World),e=.returned (.tuple #[.agg #[.slice M m D,.slice X0 x0 Y0,.int .i64 z0,.slice X1 x1 Y1,.int .i64 z1,.slice X2 x2 Y2,.int .i64 z2,.int .i64 z],.int .i64 c])/\Below w.heap.size w w'/\Below w.heap.size w W/\w.heap.size<W.heap.size/\W.ownsRow (w.heap.size+1) 9 1 (.slice A ss.length C) ss.length (strs ss)/\Below W.heap.size W w7/\Q A C W w7 [.slice M m D,.slice X0 x0 Y0,.int .i64 z0,.slice X1 x1 Y1,.int .i64 z1,.slice X2 x2 Y2,.int .i64 z2,.int .i64 z] c/\∀k,k≠w.heap.size->w'.heap[k]? =w7.heap[k]?

set_option maxRecDepth 20000 in
set_option maxHeartbeats 4000000 in
theorem qlc(Q:Option Addr->Nat->World->World->List Value->Int->Prop)(A:Option Addr)(C:Nat)(bs:List Int)(w:World)(h:q0m w.heap.size w A C bs)(hu:U8 bs)(hs:q4c bs=0)(hc:(qct (q1j bs)).code=0)
  (BO:∀(NA VA:Option Addr) (NC VC:Nat) (W:World),Below w.heap.size w W->(q1e (q1j bs)).1.length<=NC->q0i W.heap.size W NA (strs (q1e (q1j bs)).1)->q0i W.heap.size W VA (q0d (q0z (q1j bs)).1)->
   Calls Tryz.prog 101 #[.slice NA (q1e (q1j bs)).1.length NC,.int .i64 (q1m (q1j bs)).1,.slice VA (q0z (q1j bs)).1.length VC] W (BoIn Q NA NC W)):
  Calls Tryz.prog 74 #[.slice A bs.length C] w (DeIn Q (q1e (q1j bs)).1 w):=by
 have b0:∀o:Obj,Below w.heap.size w (w.alloc o):=fun o=>(Below.refl _ _).alloc (Nat.le_refl _) o
 have con:=q0f fun o=>qgh (w:=w.alloc o) ((h.below (b0 o) (Nat.le_refl _)).mono (by simp)) hu hs
 have hub:U8 (q1j bs):=qgp (qe8 hu _) 2
 obtain⟨body,hbody⟩:∃body,q1j bs=body:=⟨_,rfl⟩
 rw[hbody] at con hub hc BO ⊢
 have RDS:=q0f (reads body)
 obtain⟨s1,g1⟩:∃s1,(q1e body).2=s1:=⟨_,rfl⟩
 obtain⟨s2,g2⟩:∃s2,(q1m body).2=s2:=⟨_,rfl⟩
 obtain⟨s3,g3⟩:∃s3,(q0z body).2=s3:=⟨_,rfl⟩
 obtain⟨s4,g4⟩:∃s4,qct body=s4:=⟨_,rfl⟩
 obtain⟨ss,g5⟩:∃ss,(q1e body).1=ss:=⟨_,rfl⟩
 obtain⟨f,g6⟩:∃f,(q1m body).1=f:=⟨_,rfl⟩
 obtain⟨L,g7⟩:∃L,(q0z body).1=L:=⟨_,rfl⟩
 rw[g1,g2,g3,g4,g5,g6,g7] at RDS
 rw[g5,g6,g7] at BO
 rw[g5]
 have BO':=q0f BO
 clear BO
 rw[g4] at hc
 have HCC:=q0f hc
 unfold DeIn
 have HU:=q0f hub
 clear h hu hs hub hbody g1 g2 g3 g4 g5 g6 g7 hc
 go_enter Tryz.func74,Tryz.ntmps74
 go_upto_region 3 with(first
  |(go_at_call 96;refine(con.out _).mono ?_;rintro e w1 ⟨A1,C1,rfl,hby,hb1⟩;have XB:=q0f ((q0b w [.slice none 0 0,.slice none 0 0,.int .i64 0,.slice none 0 0,.int .i64 0,.slice none 0 0,.int .i64 0,.int .i64 0] 46).below hb1 (by simp));have HB1:=q0f (q0e (b0 _) (Nat.le_refl _) hb1);have HY:=q0f (hby.mono hb1.size);have lx:=XB.out.lt;clear hb1 hby))
 go_upto_region 5 with fail
 have HS:=q0f (qml HY.out HU.out)
 have HW2:=q0f (show Below w1.heap.size w1 (w1.alloc (.cells #[.slice A1 body.length C1,.int .i64 0] 157)) from(Below.refl _ _).alloc (Nat.le_refl _) _)
 have hrl:w1.heap.size<(w1.alloc (.cells #[.slice A1 body.length C1,.int .i64 0] 157)).heap.size:=by simp
 obtain⟨w2,hw2⟩:∃w2,w2=w1.alloc (.cells #[.slice A1 body.length C1,.int .i64 0] 157):=⟨_,rfl⟩
 rw[<-hw2] at HS HW2 hrl ⊢
 have RD:=q0f (RDS.out w1.heap.size)
 have HHH:=q0f (show w.heap.size<w1.heap.size/\w1.heap.size<w2.heap.size from⟨lx,hrl⟩)
 obtain⟨rb,hrb⟩:∃rb,rb=w1.heap.size:=⟨_,rfl⟩
 rw[<-hrb] at HS RD HHH ⊢
 have HRB:=q0f hrb
 clear hw2 RDS hrl lx hrb HY con b0
 go_upto_region 9 with(first
  |(go_at_call 97;refine(RD.out.nm _ HS.out).mono ?_;rintro e w3 ⟨v3,rfl,hn3,hk3⟩;have K3:=q0f hk3;have N3:=q0f hn3;clear hn3 hk3)
  |(go_at_call 98;refine(RD.out.fl _ K3.out.rd).mono ?_;rintro e w4 ⟨rfl,hk4⟩;have K4:=q0f hk4;clear hk4)
  |(go_at_call 99;refine(RD.out.pt _ K4.out.rd).mono ?_;rintro e w5 ⟨v5,rfl,hp5,hk5⟩;have K5:=q0f hk5;have N5:=q0f hp5;clear hp5 hk5)
  |(go_at_call 100;refine(RD.out.en _ K5.out.rd).mono ?_;rintro e w6 ⟨rfl,hk6⟩;have K6:=q0f hk6;clear hk6))
 have RI:=q0f (qrt (w:=w) (bx:=w.heap.size) HB1.out XB.out (by have:=HHH.out;omega) (by have:=HHH.out;omega) HW2.out (by have:=HHH.out;omega) K3.out N3.out K4.out K5.out N5.out K6.out)
 obtain⟨NA,NC,rfl,_,hnl,_,hnr⟩:=q0g RI.out.nm
 obtain⟨VA,VC,rfl,_,_,_,hvr⟩:=q0g RI.out.pt
 obtain⟨⟨A6,C6,hrow,_⟩,_,_⟩:=RI.out.rd
 have r1:=hrow.cell 1
 have lr:=hrow.lt
 simp only[List.getElem?_cons_zero,List.getElem?_cons_succ] at r1
 rw[HCC.out] at r1
 have BC:=q0f (BO'.out NA VA NC VC w6 RI.out.below hnl hnr hvr)
 have hbr:w.heap.size<rb:=by have:=HHH.out;omega
 have hwl:=q0f (Nat.lt_trans hbr lr)
 clear hrow HHH K3 N3 K4 K5 N5 K6 BO' hnl hnr hvr
 unfold BoIn at BC
 go_wp2_with (first
  |(go_at_call 101;refine BC.out.mono ?_;rintro e w7 ⟨M,m,D,X0,x0,Y0,z0,X1,x1,Y1,z1,X2,x2,Y2,z2,z,c,rfl,hb7,hQ⟩;have HB7:=q0f hb7;have HQ:=q0f hQ;have RX:=q0f (RI.out.box.below hb7 RI.out.box.lt);have b:=fun j=>RX.out.cell j;have bf:=fun j=>RX.out.frozen j;have lb:=RX.out.lt;simp only[qqc] at b;clear hb7 hQ BC))
 refine bodyPost_ret (v:=.tuple #[.agg #[.slice M m D,.slice X0 x0 Y0,.int .i64 z0,.slice X1 x1 Y1,.int .i64 z1,.slice X2 x2 Y2,.int .i64 z2,.int .i64 z],.int .i64 c]) (by simp[results,Tryz.results74,go_sem,b]) rfl ?_
 exact⟨M,m,D,X0,x0,Y0,z0,X1,x1,Y1,z1,X2,x2,Y2,z2,z,c,NA,NC,w6,w7,rfl,q0t (q0e RI.out.below (Nat.le_refl _) HB7.out) (Nat.le_refl _) _ _ _ _ _ _ _ _,RI.out.below,hwl.out,q0n RI.out.nm RI.out.b2,HB7.out,HQ.out,fun k hk=>q1s _ _ _ _ _ _ _ _ _ _ k hk⟩

end
section
open Go.RowKit Plain

end
end Go.Proofs.YtlojfgdpmaigmahGreatDoor
