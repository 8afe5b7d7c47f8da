/- What the functions of package roll, and of the document's answer to it, do: a contract each. -/
import Derived.Test.YtlojfgdpmaigmagGreatDoorRows
import Derived.Test.YtlojfgdpmaigmagGreatDoorP01
import Derived.WalkKit
import Derived.WalkSpells
import Derived.WalkLawsBesides
namespace Go.Proofs.YtlojfgdpmaigmagGreatDoor
section
open Go.RowKit Plain

set_option maxHeartbeats 400000 in
theorem qN(n lo hi:Int)(w:World):
  Calls Tryz.prog 40 #[.int .i64 n,.int .i64 lo,.int .i64 hi] w fun e w'=>e=.returned (.bool (inB n lo hi))/\w'=w:=by
 by_cases h1:lo<=n<;>by_cases h2:n<=hi<;>
 ·go_enter Tryz.func40,Tryz.ntmps40
  go_wp2;go_ret;exact⟨by simp[inB,h1,h2],rfl⟩

set_option maxHeartbeats 400000 in
theorem wQ(n:Int)(w:World):
  Calls Tryz.prog 28 #[.int .i64 n] w fun e w'=>e=.returned (.bool (inB n (0) 1073741824))/\w'=w:=by
 go_enter Tryz.func28,Tryz.ntmps28
 go_wp2_with (go_at_call 40;refine(qN _ _ _ _).mono ?_;rintro e w' ⟨rfl,rfl⟩);go_ret;exact⟨rfl,rfl⟩

set_option maxHeartbeats 400000 in
theorem xQ(n:Int)(w:World):
  Calls Tryz.prog 29 #[.int .i64 n] w fun e w'=>e=.returned (.bool (inB n (-1125899906842624) 1125899906842624))/\w'=w:=by
 go_enter Tryz.func29,Tryz.ntmps29
 go_wp2_with (go_at_call 40;refine(qN _ _ _ _).mono ?_;rintro e w' ⟨rfl,rfl⟩);go_ret;exact⟨rfl,rfl⟩

set_option maxHeartbeats 400000 in
theorem wW(n:Int)(w:World):
  Calls Tryz.prog 24 #[.int .i64 n] w fun e w'=>e=.returned (.bool (inB n (0) 1048575))/\w'=w:=by
 go_enter Tryz.func24,Tryz.ntmps24
 go_wp2_with (go_at_call 40;refine(qN _ _ _ _).mono ?_;rintro e w' ⟨rfl,rfl⟩);go_ret;exact⟨rfl,rfl⟩

set_option maxHeartbeats 400000 in
theorem wS(n:Int)(w:World):
  Calls Tryz.prog 25 #[.int .i64 n] w fun e w'=>e=.returned (.bool (inB n (-1000000) 1000000))/\w'=w:=by
 go_enter Tryz.func25,Tryz.ntmps25
 go_wp2_with (go_at_call 40;refine(qN _ _ _ _).mono ?_;rintro e w' ⟨rfl,rfl⟩);go_ret;exact⟨rfl,rfl⟩

def lD(c s lo hi t l:Int):Bool:=inB c 0 1073741824&&inB s (-1125899906842624) 1125899906842624&&inB t 0 1048575&&inB lo (-1000000) 1000000&&inB hi (-1000000) 1000000&&inB l (-1000000) 1000000

set_option maxHeartbeats 400000 in
theorem zB(c s lo hi t l:Int)(w:World):
  Calls Tryz.prog 41 #[.agg #[.int .i64 c,.int .i64 s,.int .i64 lo,.int .i64 hi,.int .i64 t,.int .i64 l]] w fun e w'=>e=.returned (.bool (lD c s lo hi t l))/\Below w.heap.size w w':=by
 go_enter Tryz.func41,Tryz.ntmps41
 go_wp2_with (first|(go_at_call 28;refine(wQ _ _).mono ?_;rintro e w' ⟨rfl,rfl⟩)|(go_at_call 29;refine(xQ _ _).mono ?_;rintro e w' ⟨rfl,rfl⟩)|(go_at_call 24;refine(wW _ _).mono ?_;rintro e w' ⟨rfl,rfl⟩)|(go_at_call 25;refine(wS _ _).mono ?_;rintro e w' ⟨rfl,rfl⟩))
 all_goals (go_ret;exact⟨by simp[lD, *],(Below.refl _ _).alloc (Nat.le_refl _) _⟩)

def eqR(c s lo hi t l c' s' lo' hi' t' l':Int):Bool:=c==c'&&s==s'&&lo==lo'&&hi==hi'&&t==t'&&l==l'

def jC(c s lo hi t l:Int):Bool:=if c=0 then eqR c s lo hi t l 0 0 0 0 0 0 else inB l lo hi&&inB s (wrap64 (c*lo)) (wrap64 (c*hi))

set_option maxHeartbeats 400000 in
theorem q3a(c s lo hi t l:Int)(w:World):
  Calls Tryz.prog 42 #[.agg #[.int .i64 c,.int .i64 s,.int .i64 lo,.int .i64 hi,.int .i64 t,.int .i64 l]] w fun e w'=>e=.returned (.bool (jC c s lo hi t l))/\Below w.heap.size w w':=by
 by_cases hc:c=0
 ·subst hc
  go_enter Tryz.func42,Tryz.ntmps42
  go_wp2
  all_goals (go_ret;exact⟨by simp[jC,eqR, *],(Below.refl _ _).alloc (Nat.le_refl _) _⟩)
 ·have h0:(c==0)=false:=by simpa using hc
  have e0:jC c s lo hi t l=(inB l lo hi&&inB s (wrap64 (c*lo)) (wrap64 (c*hi))):=by simp[jC,hc]
  have E0:Hid (jC c s lo hi t l=(inB l lo hi&&inB s (wrap64 (c*lo)) (wrap64 (c*hi)))):=e0;clear e0 hc
  by_cases h1:inB l lo hi=true
  ·go_enter Tryz.func42,Tryz.ntmps42
   go_wp2_with (first|(go_at_call 40;refine(qN _ _ _ _).mono ?_;rintro e w' ⟨rfl,rfl⟩))
   go_ret;exact⟨by rw[E0.out,h1];rfl,(Below.refl _ _).alloc (Nat.le_refl _) _⟩
  ·have h1:inB l lo hi=false:=by simpa using h1
   go_enter Tryz.func42,Tryz.ntmps42
   go_wp2_with (first|(go_at_call 40;refine(qN _ _ _ _).mono ?_;rintro e w' ⟨rfl,rfl⟩))
   go_ret;exact⟨by rw[E0.out,h1];rfl,(Below.refl _ _).alloc (Nat.le_refl _) _⟩

end
section
open Go.RowKit

theorem sz1{w w1:World}{a:Obj}(hb:Below (w.alloc a).heap.size (w.alloc a) w1):w.heap.size<w1.heap.size:=by
 have:=hb.size;simp at this;omega
theorem sz2{w w1:World}{a b:Obj}(hb:Below ((w.alloc a).alloc b).heap.size ((w.alloc a).alloc b) w1):w.heap.size<w1.heap.size/\w.heap.size+1<w1.heap.size:=by
 have:=hb.size;simp at this;omega
theorem sz3{w w1:World}{a b c:Obj}(hb:Below (((w.alloc a).alloc b).alloc c).heap.size (((w.alloc a).alloc b).alloc c) w1):w.heap.size<w1.heap.size/\w.heap.size+1<w1.heap.size/\w.heap.size+2<w1.heap.size:=by
 have:=hb.size;simp at this;omega

theorem set6{B:Nat}{a w:World}(h:Below B a w){b:Nat}(hp:B<=b)(v0 v1 v2 v3 v4 v5:Value):
  Below B a ((((((w.setCell ⟨b,0,none⟩ v0).setCell ⟨b,1,none⟩ v1).setCell ⟨b,2,none⟩ v2).setCell ⟨b,3,none⟩ v3).setCell ⟨b,4,none⟩ v4).setCell ⟨b,5,none⟩ v5):=
 (((((h.setCell hp _).setCell hp _).setCell hp _).setCell hp _).setCell hp _).setCell hp _

theorem up3{w w1:World}{a b c:Obj}(hb:Below (((w.alloc a).alloc b).alloc c).heap.size (((w.alloc a).alloc b).alloc c) w1):Below w.heap.size w w1:=
 ((((Below.refl _ _).alloc (Nat.le_refl _) _).alloc (by simp) _).alloc (by simp;omega) _).trans (hb.mono (by simp;omega))
theorem up{w w1 w2:World}(h:Below w.heap.size w w1)(hb:Below w1.heap.size w1 w2):Below w.heap.size w w2:=h.trans (hb.mono h.size)

end
section
open Go.RowKit Plain

def chB(c:Int):Bool:=inB c 97 122||inB c 48 57||decide (c=46)
def gX(s:ByteArray):Bool:=inB s.size 1 10&&s.data.toList.all fun c=>chB c.toNat

theorem q5z(s:ByteArray)(f:UInt8->Bool):s.data.toList.all f=true↔∀j (hj:j<s.size),f s[j]=true:=by
 rw[List.all_eq_true];constructor
 ·intro h j hj;exact h _ (by rw[ByteArray.getElem_eq_getElem_data];simp)
 ·intro h x hx;obtain⟨j,hj,rfl⟩:=List.getElem_of_mem hx;have:=h j (by simpa using hj)
  rw[ByteArray.getElem_eq_getElem_data] at this
  simpa using this

theorem qk9{s:ByteArray}(h:inB s.size 1 10=true)(ha:∀j (hj:j<s.size),j<s.size->chB s[j].toNat=true):gX s=true:=by
 unfold gX;rw[h,Bool.true_and,q5z];exact fun j hj=>ha j hj hj

theorem qo6{s:ByteArray}{k:Nat}(hk:k<s.size)(hc:chB s[k].toNat=false):gX s=false:=by
 cases hn:gX s with
 |false=>rfl
 |true=>
  unfold gX at hn;rw[Bool.and_eq_true,q5z] at hn;have:=hn.2 k hk;rw[hc] at this;cases this

theorem qhf{s:ByteArray}(h:inB s.size 1 10=false):gX s=false:=by
 unfold gX;rw[h,Bool.false_and]

theorem q2x(c:Int)(w:World):Calls Tryz.prog 129 #[.int .u8 c] w fun e w'=>e=.returned (.bool (chB c))/\w'=w:=by
 unfold chB inB
 by_cases h1:97<=c<;>by_cases h2:c<=122<;>by_cases h3:48<=c<;>by_cases h4:c<=57<;>by_cases h5:c=46<;>
 ·have h5':(c==46)=decide (c=46):=rfl
  go_enter Tryz.func129,Tryz.ntmps129
  go_wp2;go_ret;exact⟨by simp[*],rfl⟩

def Upto(s:ByteArray)(k:Nat):Prop:=∀j (hj:j<s.size),j<k->chB s[j].toNat=true

theorem Upto.next{s:ByteArray}{k:Nat}(h:Upto s k)(hk:k<s.size)(hc:chB s[k].toNat=true):Upto s (k+1):=fun j hj hjk=>by
 by_cases e:j=k
 ·subst e;exact hc
 ·exact h j hj (by omega)

set_option maxRecDepth 20000 in
set_option maxHeartbeats 4000000 in
theorem qcf(s:ByteArray)(w:World):Calls Tryz.prog 104 #[.string s] w fun e w'=>e=.returned (.bool (gX s))/\w'=w:=by
 obtain⟨nb,hnb⟩:∃nb,nb=gX s:=⟨_,rfl⟩;have HN:Hid (nb=gX s):=hnb;rw[<-hnb];clear hnb
 by_cases h:inB s.size 1 10=true
 ·have h':=(gI _ _ _).1 h;have hd1:decide ((s.size:Int)<1)=false:=by simp;omega
  have hd2:decide (10<(s.size:Int))=false:=by simp;omega
  go_enter Tryz.func104,Tryz.ntmps104
  go_wp2_with fail
  go_loopw [14] (fun vi wr=>∃k:Nat,k<=s.size/\vi=.int .i64 k/\Hid (Upto s k)/\wr=w) (fun vi _=>s.size-(intOf vi).toNat)
  case atStart=>exact⟨0,Nat.zero_le _,rfl,(fun j _ hj=>by omega),rfl⟩
  case round=>
   obtain⟨k,hk,rfl,HA,hw⟩:=hrel;subst hw
   by_cases hlt:k<s.size
   ·by_cases hc:chB s[k].toNat=true
    ·have HB:Hid (Upto s (k+1)):=HA.out.next hlt hc;go_wp2_with (go_at_call 129;refine(q2x _ _).mono ?_;rintro e w1 ⟨rfl,hw1⟩;subst w1);exact⟨⟨k+1,hlt,by go_num,HB,by trivial⟩,by simp only[intOf];omega⟩
    ·have hc':chB s[k].toNat=false:=by simpa using hc
     have HF:Hid (nb=false):=HN.out.trans (qo6 hlt hc');clear hc;go_wp2_with (go_at_call 129;refine(q2x _ _).mono ?_;rintro e w1 ⟨rfl,hw1⟩;subst w1);go_ret;exact⟨by rw[HF.out];rfl,rfl⟩
   ·have HT:Hid (nb=true):=HN.out.trans (qk9 h (fun j hj _=>HA.out j hj (by omega)))
    go_wp2_with fail;go_ret;exact⟨by rw[HT.out];rfl,rfl⟩
 ·have h0:inB s.size 1 10=false:=by simpa using h
  have HF:Hid (nb=false):=HN.out.trans (qhf h0);have h':=(qhm _ _ _).1 h0;clear h h0;rcases h' with h'|h'
  ·have h2:¬(10<(s.size:Int)):=by omega
   go_enter Tryz.func104,Tryz.ntmps104
   go_wp2_with fail;go_ret;exact⟨by rw[HF.out];rfl,rfl⟩
  ·have h2:¬((s.size:Int)<1):=by omega
   go_enter Tryz.func104,Tryz.ntmps104
   go_wp2_with fail;go_ret;exact⟨by rw[HF.out];rfl,rfl⟩

theorem aI{p:Prop}(h:p):Hid p:=h

theorem qV(t:Int)(w:World):Calls Tryz.prog 76 #[.int .i64 t] w fun e w'=>e=.returned (.bool (inB t 0 1048575))/\w'=w:=by
 by_cases h1:0<=t<;>by_cases h2:t<=1048575<;>
 ·go_enter Tryz.func76,Tryz.ntmps76
  go_wp2;go_ret;exact⟨by simp[inB,h1,h2],rfl⟩

theorem lX(k:Int)(w:World)(h:0<=k/\k<1099511627776):Calls Tryz.prog 130 #[.int .i64 k] w fun e w'=>e=.returned (.int .i64 (k/1048576))/\w'=w:=by
 go_enter Tryz.func130,Tryz.ntmps130
 go_wp2;go_ret;exact⟨rfl,rfl⟩

theorem jF(k:Int)(w:World)(h:0<=k/\k<1099511627776):Calls Tryz.prog 95 #[.int .i64 k] w fun e w'=>e=.returned (.int .i64 (k%1048576))/\w'=w:=by
 go_enter Tryz.func95,Tryz.ntmps95
 go_wp2;go_ret;exact⟨rfl,rfl⟩

theorem lU(t s:Int)(w:World)(h:0<=t/\t<1099511627776)(hs:s=1\/s=60\/s=3600):Calls Tryz.prog 90 #[.int .i64 t,.int .i64 s] w fun e w'=>e=.returned (.int .i64 (t-t%s))/\w'=w:=by
 have hm:∀q:Int,q=1\/q=60\/q=3600->0<=t%q/\t%q<=t:=by
  rintro q (rfl|rfl|rfl)<;>omega
 have hq:=hm s hs;rcases hs with rfl|rfl|rfl<;>
 ·go_enter Tryz.func90,Tryz.ntmps90
  go_wp2;go_ret
  first|exact⟨rfl,rfl⟩|exact⟨by simp,rfl⟩

theorem qU(p t:Int)(w:World)(hp:0<=p/\p<1048576)(ht:0<=t/\t<1048576):Calls Tryz.prog 89 #[.int .i64 p,.int .i64 t] w fun e w'=>e=.returned (.int .i64 (p*1048576+t))/\w'=w:=by
 go_enter Tryz.func89,Tryz.ntmps89
 go_wp2;go_ret;exact⟨rfl,rfl⟩

structure SzAt(w:World):Prop where
 c0:w.cell? ⟨0,0,none⟩=some (.int .i64 1)
 c1:w.cell? ⟨0,1,none⟩=some (.int .i64 60)
 c2:w.cell? ⟨0,2,none⟩=some (.int .i64 3600)
 lt:0<w.heap.size

theorem SzAt.below{w w':World}(h:SzAt w)(hb:Below w.heap.size w w'):SzAt w':=
 ⟨(hb.cell (p:=⟨0,0,none⟩) h.lt).trans h.c0,(hb.cell (p:=⟨0,1,none⟩) h.lt).trans h.c1,(hb.cell (p:=⟨0,2,none⟩) h.lt).trans h.c2,Nat.lt_of_lt_of_le h.lt hb.size⟩

theorem jJ(w:World)(hs:SzAt w):Calls Tryz.prog 87 #[] w fun e w'=>e=.returned (.agg #[.int .i64 1,.int .i64 60,.int .i64 3600])/\Below w.heap.size w w':=by
 obtain⟨c0,c1,c2,hl⟩:=hs
 go_enter Tryz.func87,Tryz.ntmps87
 go_wp2;exact bodyPost_ret (v:=.agg #[.int .i64 1,.int .i64 60,.int .i64 3600]) (by simp[results,Tryz.results87,go_sem]) rfl ⟨rfl,(Below.refl _ _).alloc (Nat.le_refl _) _⟩

theorem qr1(w:World):(Instr.index 142 (.agg #[.int .i64 1,.int .i64 60,.int .i64 3600]) (.int .i64 0)).run Tryz.prog w=.ok (.int .i64 1) w:=by kernel_rfl
theorem vC(w:World):(Instr.index 142 (.agg #[.int .i64 1,.int .i64 60,.int .i64 3600]) (.int .i64 1)).run Tryz.prog w=.ok (.int .i64 60) w:=by kernel_rfl
theorem rY(w:World):(Instr.index 142 (.agg #[.int .i64 1,.int .i64 60,.int .i64 3600]) (.int .i64 2)).run Tryz.prog w=.ok (.int .i64 3600) w:=by kernel_rfl

theorem q1j(t:Int)(w:World)(hs:SzAt w)(ht:0<=t/\t<1099511627776):Calls Tryz.prog 77 #[.int .i64 t] w fun e w'=>e=.returned (.bool (decide (t%3600=0)))/\Below w.heap.size w w':=by
 have e2:=rY
 by_cases h:t%3600=0
 ·have h':(t%3600==0)=true:=by simpa using h
  go_enter Tryz.func77,Tryz.ntmps77
  go_wp2_with (go_at_call 87;refine(jJ _ hs).mono ?_;rintro e w1 ⟨rfl,hb1⟩);go_ret;exact⟨by simp[h],hb1⟩
 ·have h':(t%3600==0)=false:=by simpa using h
  go_enter Tryz.func77,Tryz.ntmps77
  go_wp2_with (go_at_call 87;refine(jJ _ hs).mono ?_;rintro e w1 ⟨rfl,hb1⟩);go_ret;exact⟨by simp[h],hb1⟩

end
section
open Go.RowKit

def pick(n many:Int):Int:=if n<0 then(-(n+1))%many else n%many
theorem jZ(n:Int){many:Int}(h:0<many):0<=pick n many/\pick n many<many:=by
 unfold pick
 split
 ·exact⟨Int.emod_nonneg _ (by omega),Int.emod_lt_of_pos _ h⟩
 ·exact⟨Int.emod_nonneg _ (by omega),Int.emod_lt_of_pos _ h⟩
theorem qld{n:Int}(many:Int)(h:n<0):pick n many=(-(n+1))%many:=by simp[pick,h]
theorem ql2{n:Int}(many:Int)(h:0<=n):pick n many=n%many:=by unfold pick;rw[if_neg (by omega)]

set_option maxHeartbeats 400000 in
theorem qQ(n many:Int)(w:World)(h1: -9223372036854775808<=n)(h2:n<=9223372036854775807)(h3:0<many)(h4:many<=1000000):
  Calls Tryz.prog 22 #[.int .i64 n,.int .i64 many] w fun e w'=>e=.returned (.int .i64 (pick n many))/\w'=w:=by
 by_cases hn:n<0
 ·have e:(-(n+1))%many=-((n+1).tmod many):=by rw[<-Int.neg_tmod,Int.tmod_eq_emod_of_nonneg (by omega)]
  rw[qld many hn,e];clear e
  go_enter Tryz.func22,Tryz.ntmps22
  go_wp2;go_ret;exact⟨rfl,rfl⟩
 ·rw[ql2 many (by omega)]
  go_enter Tryz.func22,Tryz.ntmps22
  go_wp2;go_ret;exact⟨rfl,rfl⟩

end
end Go.Proofs.YtlojfgdpmaigmagGreatDoor
