/- How many nodes there are when all that hold too much are split. In plain terms. -/
import Derived.Test.YtlojfgdpmaigmagGreatDoorP29
import Derived.Test.YtlojfgdpmaigmagGreatDoorP33
import Derived.Test.YtlojfgdpmaigmagGreatDoorP31
namespace Go.Proofs.YtlojfgdpmaigmagGreatDoor
section
open Go.RowKit Plain

def wt(x:Nd):Nat:=if x.leaf=true then(if x.ents.length<=6 then 6 else x.ents.length+5) else 0
def wts:List Nd->Nat
 |[]=>0
 |x::r=>wt x+wts r

theorem tC:∀a b:List Nd,wts (a++b)=wts a+wts b
 |[],b=>by simp[wts]
 |x::r,b=>by simp only[List.cons_append,wts,tC r b];omega

theorem qhs{ns:List Nd}{i:Nat}(hi:i<ns.length)(y:Nd):wts (ns.set i y)+wt ns[i]=wts ns+wt y:=by
 obtain⟨e1,e2⟩:=jW ns i y hi;rw[e2];have:wts ns=wts (ns.take i++ns[i]::ns.drop (i+1)):=by rw[<-e1]
 rw[this,tC,tC,wts,wts];omega

theorem q8c{x:Nd}(hl:x.leaf=true){mn s:Nat}:∀(bs:List Nat) (a:Nat),lD mn 6 s a bs->wts (dV x a bs)=6*bs.length
 |[],_,_=>rfl
 |b::bs,a,h=>by
  obtain⟨_,h2,h3⟩:=h
  have e:wt (fJ x a b)=6:=by
   have hle:((x.ents.drop a).take (b-a)).length<=6:=by rw[List.length_take];omega
   simp only[fJ,hl,if_true,wt];rw[if_pos hle]
  rw[dV,wts,e,q8c hl bs b h3,List.length_cons];omega

theorem q3k{x:Nd}(hl:x.leaf=false):∀(bs:List Nat) (a:Nat),wts (dV x a bs)=0
 |[],_=>rfl
 |b::bs,a=>by
  have e:wt (fJ x a b)=0:=by simp[fJ,hl,wt]
  rw[dV,wts,e,q3k hl bs b]

theorem q2d(ns:List Nd)(p:Int):wts (aQ ns p).1<=wts ns:=by
 unfold aQ
 split
 ·exact Nat.le_refl _
 ·rename_i hgt
  have hpn:p.toNat<ns.length:=by
   apply Classical.byContradiction;intro hn
   have e:nth ns p=default:=by
    unfold nth;rw[List.getD_eq_getElem?_getD,List.getElem?_eq_none (by omega)]
    rfl
   rw[e] at hgt;exact hgt (by decide)
  have hx:ns[p.toNat]=nth ns p:=by
   unfold nth;rw[List.getD_eq_getElem?_getD,List.getElem?_eq_getElem hpn]
   rfl
  generalize hX:nth ns p=x at *;have hlen:(dV x 0 (eP x)).length=aO x:=by rw[qK];exact oC _ _ _ _
  have hsum:wts (dV x 0 (eP x))<=wt x:=by
   cases hl:x.leaf with
   |false=>rw[q3k hl];omega
   |true=>
    have hs:bD x=x.ents.length:=by simp[bD,hl]
    have hm:bK x=6:=by simp[bK,hl]
    rw[hs,hm] at hgt;have hq:aO x=(x.ents.length+6-1)/6:=by unfold aO;rw[hs,hm]
    obtain⟨q1,q2,q3,q4⟩:=sO (s:=x.ents.length) (m:=6) (mn:=1) (.inl ⟨rfl,rfl⟩) (by omega)
    have hc:lD 1 6 x.ents.length 0 (eP x):=by
     unfold eP;rw[hs,hq];have:=xM (s:=x.ents.length) (q:=(x.ents.length+6-1)/6) (m:=6) (mn:=1) (by omega) q2 q3 ((x.ents.length+6-1)/6) 0 (by omega)
     rwa [qB _ _ (by omega)] at this
    rw[q8c hl _ _ hc,show(eP x).length=aO x from oC _ _ _ _,hq];unfold wt;rw[if_pos hl,if_neg (by omega)]
    omega
  simp only;rw[tC];cases hp:dV x 0 (eP x) with
  |nil=>
   have hq1:aO x=0:=by rw[<-hlen,hp];rfl
   exfalso
   have:1<=bK x:=by unfold bK;split<;>omega
   unfold aO at hq1;rcases Nat.div_eq_zero_iff.1 hq1 with e|e<;>omega
  |cons y ys=>
   rw[hp] at hsum;have:=qhs hpn y;rw[hx] at this;simp only[List.headD_cons,List.tail_cons,wts] at hsum ⊢;omega

theorem qix(ns:List Nd)(p:Int)(i:Nat)(more:List (Int × Int)):wts (iQ ns p i more)=wts ns:=by
 unfold iQ
 by_cases hpn:p.toNat<ns.length
 ·have hx:ns[p.toNat]=nth ns p:=by
   unfold nth;rw[List.getD_eq_getElem?_getD,List.getElem?_eq_getElem hpn]
   rfl
  have:=qhs hpn (oW (nth ns p) i more);rw[hx] at this;have e:wt (oW (nth ns p) i more)=wt (nth ns p):=rfl;omega
 ·rw[List.set_eq_of_length_le (by omega)]

theorem qay{rec:List Nd->Int->List Nd × List (Int × Int)}(hr:∀ns p,wts (rec ns p).1<=wts ns)(p:Int):∀(i:Nat) (ns:List Nd),wts (iV rec p i ns)<=wts ns
 |0,_=>Nat.le_refl _
 |i+1,ns=>by
  rw[iV];refine Nat.le_trans (qay hr p i _) ?_;rw[qix];exact hr ns _

theorem q0n:∀(h:Nat) (ns:List Nd) (p:Int),wts (bI h ns p).1<=wts ns
 |0,ns,p=>q2d ns p
 |h+1,ns,p=>Nat.le_trans (q2d _ p) (qay (q0n h) p _ ns)

theorem qaw:∀(f:Nat) (ns:List Nd) (root:Int) (more:List (Int × Int)),wts (eX f ns root more).1<=wts ns
 |0,_,_,_=>Nat.le_refl _
 |f+1,ns,root,more=>by
  unfold eX
  split
  ·exact Nat.le_refl _
  ·refine Nat.le_trans (qaw f _ _ _) (Nat.le_trans (q2d _ _) ?_);rw[tC];simp[wts,wt,bQ]

def wtP(ns:List Nd):List Int->Nat
 |[]=>0
 |n::P=>wt (nth ns n)+wtP ns P

theorem q2q(ns:List Nd):∀a b:List Int,wtP ns (a++b)=wtP ns a+wtP ns b
 |[],b=>by simp[wtP]
 |x::r,b=>by simp only[List.cons_append,wtP,q2q ns r b];omega

theorem qlf{ns:List Nd}{a b:List Int}(h:a.Perm b):wtP ns a=wtP ns b:=by
 induction h with
 |nil=>rfl
 |cons x _ ih=>simp only[wtP,ih]
 |swap x y l=>simp only[wtP];omega
 |trans _ _ h1 h2=>rw[h1,h2]

theorem q2u:∀(r pre:List Nd),wtP (pre++r) (aT pre.length r.length)=wts r
 |[],_=>rfl
 |x::r,pre=>by
  have e:nth (pre++x::r) (pre.length:Int)=x:=by
   unfold nth;simp
  have ih:=q2u r (pre++[x]);rw[List.append_assoc,List.length_append] at ih;simp only[List.length_cons,aT,wtP,wts];rw[e];simp only[List.length_singleton,List.singleton_append] at ih;rw[ih]

theorem qh8{ns:List Nd}:∀(h:Nat) (d lo hi:Int) (P:List Int),Sub 6 4 ns h d lo hi P->3*(P.length+1)<=wtP ns P
 |0,d,lo,hi,P,hs=>by
  obtain⟨_,rfl,hl⟩:=hs
  have:wt (nth ns d)=6:=by
   unfold wt;rw[if_pos hl.leaf,if_pos hl.most]
  simp[wtP,this]
 |h+1,d,lo,hi,P,hs=>by
  obtain⟨_,Q,rfl,hin⟩:=hs;have ih:=qh8 (ns:=ns) h
  have:∀(L:List (Int × Int)) (lo:Int) (Q:List Int),SubK (Sub 6 4 ns h) lo L Q->3*(Q.length+L.length)<=wtP ns Q:=by
   intro L
   induction L with
   |nil=>intro lo Q hQ;cases hQ;simp[wtP]
   |cons p r ihr=>
    obtain⟨d,u⟩:=p;rintro lo Q ⟨Q1,Q2,rfl,h1,h2⟩;have a:=ih _ _ _ _ h1;have b:=ihr _ _ h2;rw[q2q];simp only[List.length_append,List.length_cons];omega
  have a:=this _ _ _ hin.kids
  have b:(ups (nth ns d).kids (nth ns d).keys hi).length=(nth ns d).kids.length:=by
   have:=hin.keys;simp[ups];omega
  have c:=hin.two;simp only[wtP,List.length_cons];omega

theorem qlb{ns:List Nd}{h:Nat}{root:Int}{Q:List Int}(hs:Sub 6 4 ns h root 0 1099511627776 Q)(hp:Q.Perm (aT 0 ns.length)):3*(ns.length+1)<=wts ns:=by
 have a:=qh8 _ _ _ _ _ hs;have b:=q2u ns [];rw[List.nil_append,List.length_nil] at b;rw[qlf hp,b,zM hp] at a;exact a

theorem qbh:∀ns:List Nd,wts ns<=(ns.flatMap cont).length+6*ns.length
 |[]=>by simp[wts]
 |x::r=>by
  have ih:=qbh r
  have:wt x<=x.ents.length+6:=by
   unfold wt
   split
   ·split<;>omega
   ·omega
  rw[List.flatMap_cons,wts];simp only[List.length_append,List.length_cons,cont];omega

theorem qgz(ns:List Nd)(p:Int):ns.length<=(aQ ns p).1.length:=by
 unfold aQ
 split
 ·exact Nat.le_refl _
 ·simp

theorem qax:∀(f:Nat) (ns:List Nd) (root:Int) (more:List (Int × Int)),ns.length<=(eX f ns root more).1.length
 |0,_,_,_=>Nat.le_refl _
 |f+1,ns,root,more=>by
  unfold eX
  split
  ·exact Nat.le_refl _
  ·refine Nat.le_trans ?_ (qax f _ _ _);refine Nat.le_trans ?_ (qgz _ _);simp

def jG(h:Nat)(ns:List Nd)(root:Int):List Nd × Int:=eX (bI h ns root).2.length (bI h ns root).1 root (bI h ns root).2

structure qn8(ns:List Nd)(h:Nat)(root:Int):Prop where
 row:lJ (bI h ns root).1 h root (bI h ns root).2
 fine:(jG h ns root).1.length<=2000->aV (jG h ns root).1 (jG h ns root).2=0
 cont:((jG h ns root).1.flatMap cont).Perm (ns.flatMap cont)
 few:3*((jG h ns root).1.length+1)<=wts ns
 part:(bI h ns root).1.length+(bI h ns root).2.length<=2*(jG h ns root).1.length
 sub:∃h' Q,Sub 6 4 (jG h ns root).1 h' (jG h ns root).2 0 1099511627776 Q/\Q.Perm (aT 0 (jG h ns root).1.length)

theorem qkf{T h:Nat}{ns:List Nd}{root:Int}{P:List Int}(hs:Sub T 4 ns h root 0 1099511627776 P)(hp:P.Perm (aT 0 ns.length)):qn8 ns h root:=by
 have hnd:P.Nodup:=hp.nodup_iff.2 (lS _ _);have hok:=vV h ns root _ _ P hs hnd;have hle:=hok.le;have hfew:=hok.few
 have hrow:lJ (bI h ns root).1 h root (bI h ns root).2:=by
  obtain⟨Q',a,b⟩:=hok.sub;refine⟨Q',a,b.trans ((hp.append_right _).trans ?_)⟩;have e:=nY 0 ns.length ((bI h ns root).1.length-ns.length);rw[show ns.length+((bI h ns root).1.length-ns.length)=(bI h ns root).1.length by omega,Nat.zero_add] at e
  rw[e]
 obtain⟨⟨h',Q,c1,c2⟩,c3,c4⟩:=q9j (bI h ns root).2.length (Nat.le_refl _) hrow;have hw:wts (jG h ns root).1<=wts ns:=Nat.le_trans (qaw _ _ _ _) (q0n h ns root);have hl:=qax (bI h ns root).2.length (bI h ns root).1 root (bI h ns root).2;refine⟨hrow,fun hz=>q7n c1 c2 hz,c3.trans hok.cont,Nat.le_trans (qlb c1 c2) hw,?_,h',Q,c1,c2⟩
 unfold jG;omega

theorem q6f{T h:Nat}{ns:List Nd}{root lo hi:Int}{P:List Int}(hs:Sub T 4 ns h root lo hi P):0<=root/\root<ns.length:=by
 cases h with
 |zero=>exact⟨hs.1.1,hs.1.2.1⟩
 |succ h=>exact⟨hs.1.1,hs.1.2.1⟩

theorem qm3{m m' mK:Nat}{ns:List Nd}(hm:m<=m'):∀(h:Nat) (d lo hi:Int) (P:List Int),Sub m mK ns h d lo hi P->Sub m' mK ns h d lo hi P
 |0,_,_,_,_,hs=>⟨hs.1,hs.2.1,hs.2.2.mono hm⟩
 |h+1,_,_,_,_,hs=>by
  obtain⟨hr,Q,rfl,hin⟩:=hs;exact⟨hr,Q,rfl,hin.imp fun d lo hi Q1 a _=>qm3 hm h d lo hi Q1 a⟩

theorem yH{ns:List Nd}{P:List Int}(hp:P.Perm (aT 0 ns.length)):(cP ns P).Perm (ns.flatMap cont):=by
 have h1:(cP ns P).Perm (cP ns (aT 0 ns.length)):=hp.flatMap_right _
 have h2:∀(r pre:List Nd),cP (pre++r) (aT pre.length r.length)=r.flatMap cont:=by
  intro r
  induction r with
  |nil=>intro pre;rfl
  |cons x r ih=>
   intro pre
   have e:nth (pre++x::r) (pre.length:Int)=x:=by
    unfold nth;simp
   have h:=ih (pre++[x]);rw[List.append_assoc,List.length_append] at h;simp only[List.length_singleton,List.singleton_append] at h;rw[List.length_cons,aT,kZ,e,h,List.flatMap_cons]
 have h3:=h2 ns [];rw[List.nil_append,List.length_nil] at h3;rw[h3] at h1;exact h1

end
end Go.Proofs.YtlojfgdpmaigmagGreatDoor
