/- slices.DeleteFunc over entries: what the row holds on its way. -/
import Derived.Test.YtlojfgdpmaigmafGreatDoorP24
import Derived.Test.YtlojfgdpmaigmafGreatDoorP02
import Derived.BigQuiet
namespace Go.Proofs.YtlojfgdpmaigmafGreatDoor
section
open Go.RowKit Plain Go.Shelf

structure Dl(del:En->Bool)(xs:List En)(i j:Nat)(R:List En):Prop where
 len:R.length=xs.length
 lt:i<j
 le:j<=xs.length
 tk:R.take i=(xs.take j).filter fun x=>!del x
 dr:R.drop j=xs.drop j

theorem Dl.get{del:En->Bool}{xs R:List En}{i j:Nat}(h:Dl del xs i j R)(hj:j<xs.length):R[j]'(by rw[h.len];exact hj)=xs[j]:=by
 have h1:R[j]? =xs[j]? :=by
  have e:(R.drop j)[0]? =(xs.drop j)[0]? :=by rw[h.dr]
  simpa using e
 rw[List.getElem?_eq_getElem (by rw[h.len];exact hj),List.getElem?_eq_getElem hj] at h1
 exact Option.some.inj h1

theorem Dl.start{del:En->Bool}{xs:List En}{k:Nat}(hk:k<xs.length)(hd:del xs[k]=true)(hn:∀x∈xs.take k,del x=false):Dl del xs k (k+1) xs:=by
 refine⟨rfl,by omega,hk,?_,rfl⟩
 rw[List.take_succ_eq_append_getElem hk,List.filter_append,List.filter_eq_self.2 (fun x hx=>by rw[hn x hx];rfl)]
 simp[hd]

theorem Dl.skip{del:En->Bool}{xs R:List En}{i j:Nat}(h:Dl del xs i j R)(hj:j<xs.length)(hd:del xs[j]=true):Dl del xs i (j+1) R:=by
 refine⟨h.len,by have:=h.lt;omega,hj,?_,?_⟩
 ·rw[List.take_succ_eq_append_getElem hj,List.filter_append,<-h.tk]
  simp[hd]
 ·have:=h.dr
  rw[<-List.drop_drop,<-List.drop_drop,this]

theorem Dl.keep{del:En->Bool}{xs R:List En}{i j:Nat}(h:Dl del xs i j R)(hj:j<xs.length)(hd:del xs[j]=false):Dl del xs (i+1) (j+1) (R.set i xs[j]):=by
 have hl:=h.lt
 have hn:=h.len
 refine⟨by rw[List.length_set,hn],by omega,hj,?_,?_⟩
 ·rw[List.take_succ_eq_append_getElem hj,List.filter_append,<-h.tk,List.take_succ_eq_append_getElem (show i<(R.set i xs[j]).length by rw[List.length_set];omega),List.take_set_of_le (Nat.le_refl _)]
  simp[hd]
 ·rw[List.drop_set_of_lt (by omega),<-List.drop_drop,<-List.drop_drop,h.dr]

theorem Dl.done{del:En->Bool}{xs R:List En}{i:Nat}(h:Dl del xs i xs.length R):R.take i=xs.filter fun x=>!del x:=by
 have:=h.tk
 rwa [List.take_length] at this

theorem Dl.count{del:En->Bool}{xs R:List En}{i:Nat}(h:Dl del xs i xs.length R):(xs.filter fun x=>!del x).length=i:=by
 rw[<-h.done,List.length_take]
 have:=h.lt
 have:=h.len
 omega

theorem z3n(n:Nat):(Builtin.zeroCells (Value.agg #[.int .i64 0,.int .i64 0,.int .i64 0,.int .i64 0,.int .i64 0,.int .i64 0,.int .i64 0]).cells n).toList=List.replicate (n*7) (.int .i64 0):=by
 have hz:(Value.agg #[.int .i64 0,.int .i64 0,.int .i64 0,.int .i64 0,.int .i64 0,.int .i64 0,.int .i64 0]).cells=#[.int .i64 0,.int .i64 0,.int .i64 0,.int .i64 0,.int .i64 0,.int .i64 0,.int .i64 0]:=by simp[Value.cells]
 rw[hz]
 apply List.ext_getElem
 ·simp[Builtin.zeroCells]
 ·intro i h1 h2
  have h3:i%7=0\/i%7=1\/i%7=2\/i%7=3\/i%7=4\/i%7=5\/i%7=6:=by omega
  rcases h3 with h3|h3|h3|h3|h3|h3|h3<;>simp[Builtin.zeroCells,h3]

theorem qou(w:World)(ty:TypeId)(b o n c:Nat)(hn:0<n)
  (hc:∀j,j<n*7->(w.cell? ⟨b,o+j,none⟩).isSome=true) (hf:∀j,j<n*7->w.frozen? ⟨b,o+j,none⟩=false):
  (Builtin.clear_ #[33] ty #[.slice (some ⟨b,o,none⟩) n c]).run Tryz.prog w=.ok (.tuple #[]) (w.setCells b o (List.replicate (n*7) (.int .i64 0))):=by
 have hst:=run_storeCells_cells (P:=Tryz.prog) b o (List.replicate (n*7) (.int .i64 0)) 0 w (by simpa using hc) (by simpa using hf) (by intro v hv';rw[List.eq_of_mem_replicate hv'];rfl)
 simp only[Nat.add_zero] at hst
 obtain⟨m,rfl⟩:∃m,n=m+1:=⟨n-1,by omega⟩
 simp[Builtin.clear_,run_underlying Tryz.underlying33,z3n,hst]

theorem qn0:∀(vs l:List Value) (o k:Nat),k<=o->(ovr l o vs).take k=l.take k
 |[],_,_,_,_=>rfl
 |v::r,l,o,k,h=>by
  rw[ovr,qn0 r _ _ _ (by omega),List.take_set_of_le h]

theorem qsk{w:World}{base g C n i m:Nat}{xs:List En}{zs:List Value}(h:w.ownsRow base 86 7 (.slice (some ⟨g,0,none⟩) n C) n (q0d xs))(hn:xs.length=n)(hi:i<=n)(hm:m=i):
  (w.setCells g (i*7) zs).ownsRow base 86 7 (.slice (some ⟨g,0,none⟩) m C) m (q0d (xs.take i)):=by
 subst hm
 refine⟨by rw[q0u,List.length_take];omega,.inr ?_⟩
 rcases h.2 with⟨hv,_⟩|⟨g',cap,cur,hv,hb,hg,hl,hmm,hs,ht⟩
 ·cases hv
 ·cases hv
  have h1:=q2k g 86 zs (m*7) cur w hg
  refine⟨g,C,_,rfl,hb,h1,by omega,hmm,by simp[q3b,hs],?_⟩
  rw[q9o,<-ht,List.take_take,Nat.min_eq_left (by omega)]
  show(ovr cur.toList (m*7) zs).take (m*7)=_
  exact qn0 _ _ _ _ (Nat.le_refl _)

def oldB(t:Int)(x:En):Bool:=decide (x.key%1048576<t)

set_option maxRecDepth 20000 in
set_option maxHeartbeats 1000000 in
theorem qix(key c s lo hi tt l:Int)(tb:Nat)(t:Int)(w:World)(hx:0<=key/\key<1099511627776)(ht:w.cell? ⟨tb,0,none⟩=some (.int .i64 t)):
  Calls Tryz.prog 174 #[.agg #[.int .i64 key,.int .i64 c,.int .i64 s,.int .i64 lo,.int .i64 hi,.int .i64 tt,.int .i64 l],.pointer (some ⟨tb,0,none⟩)] w fun e w'=>e=.returned (.bool (oldB t ⟨key,c,s,lo,hi,tt,l⟩))/\Below w.heap.size w w':=by
 have b0:∀o:Obj,Below w.heap.size w (w.alloc o):=fun o=>(Below.refl _ _).alloc (Nat.le_refl _) o
 have hl:tb<w.heap.size:=World.block_lt_of_cell? _ _ ht
 have con:=q0k fun W=>q1z key W hx
 show Calls _ _ _ _ fun e w'=>e=.returned (.bool (decide (key%1048576<t)))/\_
 clear hx
 go_enter Tryz.func174,Tryz.ntmps174
 go_wp2_with fail
 go_quiet (refine Calls.quiet_of ((con.out _).mono (fun _ _ h=>⟨h.1,0,h.2⟩)))
 go_wp2
 go_ret
 exact⟨rfl,q2b (b0 _) _⟩

def z0r(del:En->Bool)(xs:List En)(z:Int):Prop:=(z=-1/\∀x∈xs,del x=false)\/∃k:Nat,z=k/\∃h:k<xs.length,del xs[k]=true/\∀x∈xs.take k,del x=false

set_option maxRecDepth 20000 in
set_option maxHeartbeats 2000000 in
theorem qn3(A:Option Addr)(C:Nat)(xs:List En)(tb:Nat)(t:Int)(w:World)(h:q0j w.heap.size w A (q0d xs))(hz:xs.length*56<=140737488351232)(hk:∀x∈xs,0<=x.key/\x.key<1099511627776)(ht:w.cell? ⟨tb,0,none⟩=some (.int .i64 t)):
  Calls Tryz.prog 196 #[.slice A xs.length C,.func (.func 174) #[] #[.pointer (some ⟨tb,0,none⟩)]] w
   fun e w'=>∃z,e=.returned (.int .i64 z)/\z0r (oldB t) xs z/\Below w.heap.size w w':=by
 have htl:tb<w.heap.size:=World.block_lt_of_cell? _ _ ht
 go_enter Tryz.func196,Tryz.ntmps196
 go_wp2_with fail
 go_loopw [5,8] (fun _ vi wr=>∃k:Nat,k<=xs.length/\vi=.int .i64 (k:Int)/\Hid (∀x∈xs.take k,oldB t x=false)/\Below w.heap.size w wr) (fun _ vi _=>xs.length-(intOf vi).toNat)
 case atStart=>exact⟨0,Nat.zero_le _,rfl,fun x hx=>by simp at hx,Below.refl _ _⟩
 case round=>
  obtain⟨k,hkn,rfl,HI,hb⟩:=hrel
  by_cases hlt:k<xs.length
  ·obtain⟨b,o,rfl,hbl,hat⟩:=(h.below hb (Nat.le_refl _)).en hlt
   have hbw:b<wr.heap.size:=Nat.lt_of_lt_of_le hbl hb.size
   have hkx:=hk _ (List.getElem_mem hlt)
   have HX:Hid (∀v,oldB t xs[k]=v->v=false->∀x∈xs.take (k+1),oldB t x=false):=fun v e1 e2 x hx=>by
    rw[List.take_succ_eq_append_getElem hlt] at hx
    rcases List.mem_append.1 hx with hx|hx
    ·exact HI.out x hx
    ·obtain rfl:x=xs[k]:=by simpa using hx
     rw[e1,e2]
   have HY:Hid (oldB t xs[k]=true->z0r (oldB t) xs (k:Int)):=fun e=>.inr ⟨k,rfl,hlt,e,HI.out⟩
   obtain⟨x,hx⟩:∃x,xs[k]=x:=⟨_,rfl⟩
   rw[hx] at hat hkx HX HY
   clear hx
   obtain⟨key,c,s,lo,hi,tt,l⟩:=x
   obtain⟨c0,c1,c2,c3,c4,c5,c6⟩:=hat
   simp only at c0 c1 c2 c3 c4 c5 c6 hkx
   have q0:(0:Int)<=(k:Int):=by omega
   have q1:(k:Int)<(xs.length:Int):=by omega
   have hcon:=qix key c s lo hi tt l tb t wr hkx ((hb.cell (p:=⟨tb,0,none⟩) htl).trans ht)
   generalize oldB t ⟨key,c,s,lo,hi,tt,l⟩=v at hcon HX HY
   have HC:=q0k hcon
   clear hcon hkx h hk ht
   cases v with
   |true=>
    go_wp2_with (go_at_call 174;refine HC.out.mono ?_;rintro e w1 ⟨rfl,hb1⟩)
    go_ret
    exact⟨_,rfl,HY.out (by simp),q0e hb (Nat.le_refl _) hb1⟩
   |false=>
    go_wp2_with (go_at_call 174;refine HC.out.mono ?_;rintro e w1 ⟨rfl,hb1⟩)
    go_roundw
    case rel=>exact⟨k+1,hlt,by go_num,HX.out false (by simp) (by simp),q0e hb (Nat.le_refl _) hb1⟩
    case measure=>simp[intOf];omega
  ·have hlt':¬((k:Int)<(xs.length:Int)):=by omega
   go_wp2_with fail
   go_ret
   refine⟨_,rfl,.inl ⟨rfl,fun x hx=>HI.out x ?_⟩,hb⟩
   rw[List.take_of_length_le (by omega)]
   exact hx

theorem qox{g:Nat}{w wr:World}(h:Kept [g] w wr)(a:Nat)(vs:List Value):Kept [g] w (wr.setCells g a vs):=h.trans (q1n g vs a wr)

theorem qfq{ex:List Nat}{w wr w':World}(h:Kept ex w wr)(hb:Below wr.heap.size wr w'):Kept ex w w':=
 ⟨hb.os.trans h.os,hb.tape.trans h.tape,hb.output.trans h.output,Nat.le_trans h.size hb.size,fun k hk hne=>(hb.block k (Nat.lt_of_lt_of_le hk h.size)).trans (h.block k hk hne)⟩

set_option maxRecDepth 20000 in
set_option maxHeartbeats 4000000 in
theorem qv4(base g C:Nat)(xs:List En)(tb:Nat)(t:Int)(w:World)(h:w.ownsRow base 86 7 (.slice (some ⟨g,0,none⟩) xs.length C) xs.length (q0d xs))(hz:xs.length*56<=140737488351232)(hk:∀x∈xs,0<=x.key/\x.key<1099511627776)(ht:w.cell? ⟨tb,0,none⟩=some (.int .i64 t))(htg:tb≠g):
  Calls Tryz.prog 173 #[.slice (some ⟨g,0,none⟩) xs.length C,.func (.func 174) #[] #[.pointer (some ⟨tb,0,none⟩)]] w
   fun e w'=>e=.returned (.slice (some ⟨g,0,none⟩) (xs.filter fun x=>!oldB t x).length C)/\w'.ownsRow base 86 7 (.slice (some ⟨g,0,none⟩) (xs.filter fun x=>!oldB t x).length C) (xs.filter fun x=>!oldB t x).length (q0d (xs.filter fun x=>!oldB t x))/\Kept [g] w w':=by
 obtain⟨M,hM⟩:∃M,(xs.filter fun x=>!oldB t x)=M:=⟨_,rfl⟩
 rw[hM]
 have HM:=q0k hM
 clear hM
 have htl:tb<w.heap.size:=World.block_lt_of_cell? _ _ ht
 have gl:g<w.heap.size:=(h.lt g rfl).2
 have lC:xs.length<=C:=by
  obtain⟨A',C',e,_,hl,_⟩:=q0h h
  cases e
  exact hl
 have HI:=q0k (qn3 _ C xs tb t w (q3e h).1 hz hk ht)
 go_enter Tryz.func173,Tryz.ntmps173
 have HW:=q0k h
 clear h
 go_upto_region 2 with(first|(go_at_call 196;refine HI.out.mono ?_;rintro e w1 ⟨z,rfl,hI,hb1⟩))
 rcases hI with⟨rfl,hall⟩|⟨k,rfl,hkl,hd,hn⟩
 ·go_wp2_with fail
  go_ret
  have e:M=xs:=by
   rw[<-HM.out]
   exact List.filter_eq_self.2 fun x hx=>by rw[hall x hx];rfl
  subst e
  exact⟨rfl,q0v HW.out hb1,Kept.of_below hb1⟩
 ·have hk1:((k:Int)== -1)=false:=beq_eq_false_iff_ne.2 (by omega)
  have HS:=q0k (Dl.start (del:=oldB t) hkl hd hn)
  have HB1:=q0k hb1
  clear hd hn hb1 HI
  go_wp2_with fail
  go_loopw [5,6,7] (fun vi vj _ wr=>∃(i j:Nat) (R:List En),vi=.int .i64 (i:Int)/\vj=.int .i64 (j:Int)/\Dl (oldB t) xs i j R/\wr.ownsRow base 86 7 (.slice (some ⟨g,0,none⟩) R.length C) R.length (q0d R)/\Kept [g] w wr) (fun _ vj _ _=>xs.length-(intOf vj).toNat)
  case atStart=>exact⟨k,k+1,xs,rfl,by go_num,HS.out,q0v HW.out HB1.out,Kept.of_below HB1.out⟩
  case round=>
   obtain⟨i,j,R,rfl,rfl,hD,hown,hkp⟩:=hrel
   have hij:=hD.lt
   have hjn:=hD.le
   have hRl:=hD.len
   have gw:g<wr.heap.size:=Nat.lt_of_lt_of_le gl hkp.size
   have tw:wr.cell? ⟨tb,0,none⟩=some (.int .i64 t):=(World.cell?_of_block (a:=⟨tb,0,none⟩) (hkp.block tb htl (by simp[htg]))).trans ht
   by_cases hlt:j<xs.length
   ·obtain⟨b,o,hA,hbl,hat⟩:=(q3e hown).1.en (k:=j) (by omega)
    cases hA
    rw[hD.get hlt] at hat
    have hkx:=hk _ (List.getElem_mem hlt)
    have HK:=q0k (fun e=>hD.keep hlt e)
    have HN:=q0k (fun e=>hD.skip hlt e)
    obtain⟨x,hx⟩:∃x,xs[j]=x:=⟨_,rfl⟩
    rw[hx] at hat hkx HK HN
    clear hx
    rw[Nat.zero_add] at hat
    have q0:(0:Int)<=(j:Int):=by omega
    have q1:(j:Int)<(xs.length:Int):=by omega
    have q2:(0:Int)<=(i:Int):=by omega
    have q3:(i:Int)<(xs.length:Int):=by omega
    have k1:IntKind.i64.wrap ((i:Int)+1)=(i:Int)+1:=by rw[IntKind.wrap_i64];omega
    have k2:IntKind.i64.wrap ((j:Int)+1)=(j:Int)+1:=by rw[IntKind.wrap_i64];omega
    obtain⟨key,c,s,lo,hi,tt,l⟩:=x
    obtain⟨c0,c1,c2,c3,c4,c5,c6⟩:=hat
    simp only at c0 c1 c2 c3 c4 c5 c6 hkx
    have hcon:=q0k fun W (hW:Below wr.heap.size wr W)=>qix key c s lo hi tt l tb t W hkx ((hW.cell (p:=⟨tb,0,none⟩) (Nat.lt_of_lt_of_le htl hkp.size)).trans tw)
    have HO:=q0k hown
    have HP:=q0k hkp
    obtain⟨v,hv⟩:∃v,oldB t ⟨key,c,s,lo,hi,tt,l⟩=v:=⟨_,rfl⟩
    rw[hv] at hcon HK HN
    have hiR:i<R.length:=by omega
    clear hkx hown hkp tw hk ht hv hD HW HS
    cases v with
    |true=>
     clear HK
     go_wp2_with (first|(go_at_call 174;refine(hcon.out _ ((Below.refl _ _).alloc (Nat.le_refl _) _)).mono ?_;rintro e w2 ⟨rfl,hb2⟩))
     go_roundw
     case rel=>
      have hb3:Below wr.heap.size wr w2:=q0e ((Below.refl _ _).alloc (Nat.le_refl _) _) (Nat.le_refl _) hb2
      exact⟨i,j+1,R,rfl,by go_num,HN.out (by simp),q0v HO.out hb3,qfq HP.out hb3⟩
     case measure=>simp[intOf];omega
    |false=>
     clear HN
     go_upto_region 9 with(first|(go_at_call 174;refine(hcon.out _ ((Below.refl _ _).alloc (Nat.le_refl _) _)).mono ?_;rintro e w2 ⟨rfl,hb2⟩))
     have hb3:Below wr.heap.size wr w2:=q0e ((Below.refl _ _).alloc (Nat.le_refl _) _) (Nat.le_refl _) hb2
     have O2:=q0k (q0v HO.out hb3)
     have P2:=q0k (qfq HP.out hb3)
     have V2:RowL w2 wr.heap.size 86 [.int .i64 key,.int .i64 c,.int .i64 s,.int .i64 lo,.int .i64 hi,.int .i64 tt,.int .i64 l]:=(q0b wr [.int .i64 key,.int .i64 c,.int .i64 s,.int .i64 lo,.int .i64 hi,.int .i64 tt,.int .i64 l] 86).below hb2 (by simp)
     have d0:=fun o=>V2.cell o
     have s2:wr.heap.size<w2.heap.size:=V2.lt
     have g2:g<w2.heap.size:=by omega
     have f2:∀o,w2.frozen? ⟨g,o,none⟩=false:=fun o=>O2.out.frozenAt o
     have gn:¬wr.heap.size=g:=by omega
     have gn':¬g=wr.heap.size:=by omega
     have hz7:EnAt w2 g (i*7) (R[i]'hiR):=by
      obtain⟨b',o',hA',-,hat'⟩:=(q3e O2.out).1.en hiR
      cases hA'
      rw[Nat.zero_add] at hat'
      exact hat'
     obtain⟨z0,z1,z2,z3,z4,z5,z6⟩:=hz7
     clear hb2 hb3 c0 c1 c2 c3 c4 c5 c6 V2
     go_wp2_with fail
     go_roundw
     case rel=>
      go_light
      exact⟨i+1,j+1,R.set i ⟨key,c,s,lo,hi,tt,l⟩,by go_num,by go_num,HK.out (by simp),qvs (x:=⟨key,c,s,lo,hi,tt,l⟩) O2.out hiR,qqi P2.out (i*7) ⟨key,c,s,lo,hi,tt,l⟩⟩
     case measure=>simp[intOf];omega
   ·obtain rfl:j=xs.length:=by omega
    have hlt':¬((xs.length:Int)<(xs.length:Int)):=by omega
    have hcnt:M.length=i:=by rw[<-HM.out];exact hD.count
    have hdone:R.take i=M:=hD.done.trans HM.out
    have hCi:¬C=i:=by omega
    have hC0:¬C=0:=by omega
    have q2:(0:Int)<=(i:Int):=by omega
    have q3:(i:Int)<=(xs.length:Int):=by omega
    have q4:(i:Int)<=(C:Int):=by omega
    have hcell:∀m,m<(xs.length-i)*7->(wr.cell? ⟨g,i*7+m,none⟩).isSome=true:=fun m hm=>by
     have hfl:=q0u R
     rcases(q3e hown).1 with h0|⟨b',o',hA,_,hc⟩
     ·have:(q0d R).length=0:=by rw[h0];rfl
      omega
     ·cases hA
      have hlt2:i*7+m<(q0d R).length:=by rw[hfl,hRl,Nat.sub_mul] at *;omega
      have:=hc (i*7+m) _ (List.getElem?_eq_getElem hlt2)
      rw[Nat.zero_add] at this
      rw[this];rfl
    have hcl:=fun ty=>qou wr ty g (i*7) (xs.length-i) (C-i) (by omega) hcell (fun m _=>hown.frozenAt _)
    have HO:=q0k (qsk (zs:=List.replicate ((xs.length-i)*7) (.int .i64 0)) hown rfl (show i<=R.length by omega) rfl)
    have HP:=q0k (qox hkp (i*7) (List.replicate ((xs.length-i)*7) (.int .i64 0)))
    have HD:=q0k hdone
    clear hcell hown hkp hdone hD hk ht HW HS tw HB1
    go_wp2_with fail
    go_ret
    obtain rfl:=hcnt
    refine⟨rfl,?_,HP.out⟩
    have h9:=HO.out
    rw[HD.out] at h9
    exact h9

set_option maxRecDepth 20000 in
set_option maxHeartbeats 1000000 in
theorem qwt(base:Nat)(A:Option Addr)(C:Nat)(xs:List En)(tb:Nat)(t:Int)(w:World)(h:w.ownsRow base 86 7 (.slice A xs.length C) xs.length (q0d xs))(hz:xs.length*56<=140737488351232)(hk:∀x∈xs,0<=x.key/\x.key<1099511627776)(ht:w.cell? ⟨tb,0,none⟩=some (.int .i64 t))(htg:∀g,A=some ⟨g,0,none⟩->tb≠g):
  Calls Tryz.prog 173 #[.slice A xs.length C,.func (.func 174) #[] #[.pointer (some ⟨tb,0,none⟩)]] w
   fun e w'=>e=.returned (.slice A (xs.filter fun x=>!oldB t x).length C)/\w'.ownsRow base 86 7 (.slice A (xs.filter fun x=>!oldB t x).length C) (xs.filter fun x=>!oldB t x).length (q0d (xs.filter fun x=>!oldB t x))/\Kept (obk A) w w':=by
 rcases h.2 with⟨hv,hn⟩|⟨g,cap,cur,hv,hb,hg,hl,hm,hs,htk⟩
 ·have e0:xs=[]:=List.eq_nil_of_length_eq_zero hn
  subst e0
  obtain⟨rfl,rfl⟩:A=none/\C=0:=by simpa using hv
  have HI:=q0k (qn3 none 0 [] tb t w (.inl rfl) (by simp) hk ht)
  go_enter Tryz.func173,Tryz.ntmps173
  go_upto_region 2 with(first|(go_at_call 196;refine HI.out.mono ?_;rintro e w1 ⟨z,rfl,hI,hb1⟩))
  rcases hI with⟨rfl,hall⟩|⟨k,rfl,hkl,hd,hn⟩
  ·go_wp2_with fail
   go_ret
   exact⟨rfl,World.ownsRow_nil _ _ _ _,Kept.of_below hb1⟩
  ·simp at hkl
 ·obtain⟨rfl,rfl⟩:A=some ⟨g,0,none⟩/\C=cap:=by simpa using hv
  exact qv4 base g C xs tb t w h hz hk ht (htg g rfl)

end
end Go.Proofs.YtlojfgdpmaigmafGreatDoor
