/- How many nodes there are when all that hold too much are split. In plain terms. -/
import Derived.Test.YtlojfgdpmaigmagGreatDoorP29
import Derived.Test.YtlojfgdpmaigmagGreatDoorP33
import Derived.Test.YtlojfgdpmaigmagGreatDoorP31
namespace Go.Proofs.YtlojfgdpmaigmagGreatDoor
section
open Go.RowKit Plain

def wt(x:Nd):Nat:=if x.leaf=true then(if x.ents.length<=6 then 6 else x.ents.length+5) else 0
def wts:List Nd->Nat
 |[]=>0
 |x::r=>wt x+wts r

theorem sS:∀a b:List Nd,wts (a++b)=wts a+wts b
 |[],b=>by simp[wts]
 |x::r,b=>by simp only[List.cons_append,wts,sS r b];omega

theorem qgt{ns:List Nd}{i:Nat}(hi:i<ns.length)(y:Nd):wts (ns.set i y)+wt ns[i]=wts ns+wt y:=by
 obtain⟨e1,e2⟩:=jV ns i y hi;rw[e2];have:wts ns=wts (ns.take i++ns[i]::ns.drop (i+1)):=by rw[<-e1]
 rw[this,sS,sS,wts,wts];omega

theorem q7c{x:Nd}(hl:x.leaf=true){mn s:Nat}:∀(bs:List Nat) (a:Nat),lF mn 6 s a bs->wts (dV x a bs)=6*bs.length
 |[],_,_=>rfl
 |b::bs,a,h=>by
  obtain⟨_,h2,h3⟩:=h
  have e:wt (fJ x a b)=6:=by
   have hle:((x.ents.drop a).take (b-a)).length<=6:=by rw[List.length_take];omega
   simp only[fJ,hl,if_true,wt];rw[if_pos hle]
  rw[dV,wts,e,q7c hl bs b h3,List.length_cons];omega

theorem q2u{x:Nd}(hl:x.leaf=false):∀(bs:List Nat) (a:Nat),wts (dV x a bs)=0
 |[],_=>rfl
 |b::bs,a=>by
  have e:wt (fJ x a b)=0:=by simp[fJ,hl,wt]
  rw[dV,wts,e,q2u hl bs b]

theorem q1v(ns:List Nd)(p:Int):wts (aQ ns p).1<=wts ns:=by
 unfold aQ
 split
 ·exact Nat.le_refl _
 ·rename_i hgt
  have hpn:p.toNat<ns.length:=by
   apply Classical.byContradiction;intro hn
   have e:nth ns p=default:=by
    unfold nth;rw[List.getD_eq_getElem?_getD,List.getElem?_eq_none (by omega)]
    rfl
   rw[e] at hgt;exact hgt (by decide)
  have hx:ns[p.toNat]=nth ns p:=by
   unfold nth;rw[List.getD_eq_getElem?_getD,List.getElem?_eq_getElem hpn]
   rfl
  generalize hX:nth ns p=x at *;have hlen:(dV x 0 (eH x)).length=aN x:=by rw[qL];exact nX _ _ _ _
  have hsum:wts (dV x 0 (eH x))<=wt x:=by
   cases hl:x.leaf with
   |false=>rw[q2u hl];omega
   |true=>
    have hs:aZ x=x.ents.length:=by simp[aZ,hl]
    have hm:bP x=6:=by simp[bP,hl]
    rw[hs,hm] at hgt;have hq:aN x=(x.ents.length+6-1)/6:=by unfold aN;rw[hs,hm]
    obtain⟨q1,q2,q3,q4⟩:=sK (s:=x.ents.length) (m:=6) (mn:=1) (.inl ⟨rfl,rfl⟩) (by omega)
    have hc:lF 1 6 x.ents.length 0 (eH x):=by
     unfold eH;rw[hs,hq];have:=xH (s:=x.ents.length) (q:=(x.ents.length+6-1)/6) (m:=6) (mn:=1) (by omega) q2 q3 ((x.ents.length+6-1)/6) 0 (by omega)
     rwa [qA _ _ (by omega)] at this
    rw[q7c hl _ _ hc,show(eH x).length=aN x from nX _ _ _ _,hq];unfold wt;rw[if_pos hl,if_neg (by omega)]
    omega
  simp only;rw[sS];cases hp:dV x 0 (eH x) with
  |nil=>
   have hq1:aN x=0:=by rw[<-hlen,hp];rfl
   exfalso
   have:1<=bP x:=by unfold bP;split<;>omega
   unfold aN at hq1;rcases Nat.div_eq_zero_iff.1 hq1 with e|e<;>omega
  |cons y ys=>
   rw[hp] at hsum;have:=qgt hpn y;rw[hx] at this;simp only[List.headD_cons,List.tail_cons,wts] at hsum ⊢;omega

theorem qj2(ns:List Nd)(p:Int)(i:Nat)(more:List (Int × Int)):wts (iT ns p i more)=wts ns:=by
 unfold iT
 by_cases hpn:p.toNat<ns.length
 ·have hx:ns[p.toNat]=nth ns p:=by
   unfold nth;rw[List.getD_eq_getElem?_getD,List.getElem?_eq_getElem hpn]
   rfl
  have:=qgt hpn (oP (nth ns p) i more);rw[hx] at this;have e:wt (oP (nth ns p) i more)=wt (nth ns p):=rfl;omega
 ·rw[List.set_eq_of_length_le (by omega)]

theorem qal{rec:List Nd->Int->List Nd × List (Int × Int)}(hr:∀ns p,wts (rec ns p).1<=wts ns)(p:Int):∀(i:Nat) (ns:List Nd),wts (iY rec p i ns)<=wts ns
 |0,_=>Nat.le_refl _
 |i+1,ns=>by
  rw[iY];refine Nat.le_trans (qal hr p i _) ?_;rw[qj2];exact hr ns _

theorem q0w:∀(h:Nat) (ns:List Nd) (p:Int),wts (bI h ns p).1<=wts ns
 |0,ns,p=>q1v ns p
 |h+1,ns,p=>Nat.le_trans (q1v _ p) (qal (q0w h) p _ ns)

theorem qb0:∀(f:Nat) (ns:List Nd) (root:Int) (more:List (Int × Int)),wts (eY f ns root more).1<=wts ns
 |0,_,_,_=>Nat.le_refl _
 |f+1,ns,root,more=>by
  unfold eY
  split
  ·exact Nat.le_refl _
  ·refine Nat.le_trans (qb0 f _ _ _) (Nat.le_trans (q1v _ _) ?_);rw[sS];simp[wts,wt,bT]

def wtP(ns:List Nd):List Int->Nat
 |[]=>0
 |n::P=>wt (nth ns n)+wtP ns P

theorem q3x(ns:List Nd):∀a b:List Int,wtP ns (a++b)=wtP ns a+wtP ns b
 |[],b=>by simp[wtP]
 |x::r,b=>by simp only[List.cons_append,wtP,q3x ns r b];omega

theorem qjr{ns:List Nd}{a b:List Int}(h:a.Perm b):wtP ns a=wtP ns b:=by
 induction h with
 |nil=>rfl
 |cons x _ ih=>simp only[wtP,ih]
 |swap x y l=>simp only[wtP];omega
 |trans _ _ h1 h2=>rw[h1,h2]

theorem q2w:∀(r pre:List Nd),wtP (pre++r) (aS pre.length r.length)=wts r
 |[],_=>rfl
 |x::r,pre=>by
  have e:nth (pre++x::r) (pre.length:Int)=x:=by
   unfold nth;simp
  have ih:=q2w r (pre++[x]);rw[List.append_assoc,List.length_append] at ih;simp only[List.length_cons,aS,wtP,wts];rw[e];simp only[List.length_singleton,List.singleton_append] at ih;rw[ih]

theorem qht{ns:List Nd}:∀(h:Nat) (d lo hi:Int) (P:List Int),Sub 6 4 ns h d lo hi P->3*(P.length+1)<=wtP ns P
 |0,d,lo,hi,P,hs=>by
  obtain⟨_,rfl,hl⟩:=hs
  have:wt (nth ns d)=6:=by
   unfold wt;rw[if_pos hl.leaf,if_pos hl.most]
  simp[wtP,this]
 |h+1,d,lo,hi,P,hs=>by
  obtain⟨_,Q,rfl,hin⟩:=hs;have ih:=qht (ns:=ns) h
  have:∀(L:List (Int × Int)) (lo:Int) (Q:List Int),SubK (Sub 6 4 ns h) lo L Q->3*(Q.length+L.length)<=wtP ns Q:=by
   intro L
   induction L with
   |nil=>intro lo Q hQ;cases hQ;simp[wtP]
   |cons p r ihr=>
    obtain⟨d,u⟩:=p;rintro lo Q ⟨Q1,Q2,rfl,h1,h2⟩;have a:=ih _ _ _ _ h1;have b:=ihr _ _ h2;rw[q3x];simp only[List.length_append,List.length_cons];omega
  have a:=this _ _ _ hin.kids
  have b:(ups (nth ns d).kids (nth ns d).keys hi).length=(nth ns d).kids.length:=by
   have:=hin.keys;simp[ups];omega
  have c:=hin.two;simp only[wtP,List.length_cons];omega

theorem qil{ns:List Nd}{h:Nat}{root:Int}{Q:List Int}(hs:Sub 6 4 ns h root 0 1099511627776 Q)(hp:Q.Perm (aS 0 ns.length)):3*(ns.length+1)<=wts ns:=by
 have a:=qht _ _ _ _ _ hs;have b:=q2w ns [];rw[List.nil_append,List.length_nil] at b;rw[qjr hp,b,zK hp] at a;exact a

theorem qaq:∀ns:List Nd,wts ns<=(ns.flatMap cont).length+6*ns.length
 |[]=>by simp[wts]
 |x::r=>by
  have ih:=qaq r
  have:wt x<=x.ents.length+6:=by
   unfold wt
   split
   ·split<;>omega
   ·omega
  rw[List.flatMap_cons,wts];simp only[List.length_append,List.length_cons,cont];omega

theorem qgb(ns:List Nd)(p:Int):ns.length<=(aQ ns p).1.length:=by
 unfold aQ
 split
 ·exact Nat.le_refl _
 ·simp

theorem qaw:∀(f:Nat) (ns:List Nd) (root:Int) (more:List (Int × Int)),ns.length<=(eY f ns root more).1.length
 |0,_,_,_=>Nat.le_refl _
 |f+1,ns,root,more=>by
  unfold eY
  split
  ·exact Nat.le_refl _
  ·refine Nat.le_trans ?_ (qaw f _ _ _);refine Nat.le_trans ?_ (qgb _ _);simp

def jG(h:Nat)(ns:List Nd)(root:Int):List Nd × Int:=eY (bI h ns root).2.length (bI h ns root).1 root (bI h ns root).2

structure qmh(ns:List Nd)(h:Nat)(root:Int):Prop where
 row:lI (bI h ns root).1 h root (bI h ns root).2
 fine:(jG h ns root).1.length<=2000->aT (jG h ns root).1 (jG h ns root).2=0
 cont:((jG h ns root).1.flatMap cont).Perm (ns.flatMap cont)
 few:3*((jG h ns root).1.length+1)<=wts ns
 part:(bI h ns root).1.length+(bI h ns root).2.length<=2*(jG h ns root).1.length
 sub:∃h' Q,Sub 6 4 (jG h ns root).1 h' (jG h ns root).2 0 1099511627776 Q/\Q.Perm (aS 0 (jG h ns root).1.length)

theorem qkz{T h:Nat}{ns:List Nd}{root:Int}{P:List Int}(hs:Sub T 4 ns h root 0 1099511627776 P)(hp:P.Perm (aS 0 ns.length)):qmh ns h root:=by
 have hnd:P.Nodup:=hp.nodup_iff.2 (lS _ _);have hok:=vV h ns root _ _ P hs hnd;have hle:=hok.le;have hfew:=hok.few
 have hrow:lI (bI h ns root).1 h root (bI h ns root).2:=by
  obtain⟨Q',a,b⟩:=hok.sub;refine⟨Q',a,b.trans ((hp.append_right _).trans ?_)⟩;have e:=nV 0 ns.length ((bI h ns root).1.length-ns.length);rw[show ns.length+((bI h ns root).1.length-ns.length)=(bI h ns root).1.length by omega,Nat.zero_add] at e
  rw[e]
 obtain⟨⟨h',Q,c1,c2⟩,c3,c4⟩:=q9n (bI h ns root).2.length (Nat.le_refl _) hrow;have hw:wts (jG h ns root).1<=wts ns:=Nat.le_trans (qb0 _ _ _ _) (q0w h ns root);have hl:=qaw (bI h ns root).2.length (bI h ns root).1 root (bI h ns root).2;refine⟨hrow,fun hz=>q5u c1 c2 hz,c3.trans hok.cont,Nat.le_trans (qil c1 c2) hw,?_,h',Q,c1,c2⟩
 unfold jG;omega

theorem q7y{T h:Nat}{ns:List Nd}{root lo hi:Int}{P:List Int}(hs:Sub T 4 ns h root lo hi P):0<=root/\root<ns.length:=by
 cases h with
 |zero=>exact⟨hs.1.1,hs.1.2.1⟩
 |succ h=>exact⟨hs.1.1,hs.1.2.1⟩

theorem qlm{m m' mK:Nat}{ns:List Nd}(hm:m<=m'):∀(h:Nat) (d lo hi:Int) (P:List Int),Sub m mK ns h d lo hi P->Sub m' mK ns h d lo hi P
 |0,_,_,_,_,hs=>⟨hs.1,hs.2.1,hs.2.2.mono hm⟩
 |h+1,_,_,_,_,hs=>by
  obtain⟨hr,Q,rfl,hin⟩:=hs;exact⟨hr,Q,rfl,hin.imp fun d lo hi Q1 a _=>qlm hm h d lo hi Q1 a⟩

theorem yN{ns:List Nd}{P:List Int}(hp:P.Perm (aS 0 ns.length)):(cP ns P).Perm (ns.flatMap cont):=by
 have h1:(cP ns P).Perm (cP ns (aS 0 ns.length)):=hp.flatMap_right _
 have h2:∀(r pre:List Nd),cP (pre++r) (aS pre.length r.length)=r.flatMap cont:=by
  intro r
  induction r with
  |nil=>intro pre;rfl
  |cons x r ih=>
   intro pre
   have e:nth (pre++x::r) (pre.length:Int)=x:=by
    unfold nth;simp
   have h:=ih (pre++[x]);rw[List.append_assoc,List.length_append] at h;simp only[List.length_singleton,List.singleton_append] at h;rw[List.length_cons,aS,kZ,e,h,List.flatMap_cons]
 have h3:=h2 ns [];rw[List.nil_append,List.length_nil] at h3;rw[h3] at h1;exact h1

end
end Go.Proofs.YtlojfgdpmaigmagGreatDoor
