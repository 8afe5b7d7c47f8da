/- What a base knows with one point more: in plain terms. -/
import Derived.Test.YtlojfgdpmaigmagGreatDoorP11
import Derived.Test.YtlojfgdpmaigmagGreatDoorP14
import Derived.Test.YtlojfgdpmaigmagGreatDoorP27
import Derived.Test.YtlojfgdpmaigmagGreatDoorP38
import Derived.Test.YtlojfgdpmaigmagGreatDoorGetWalk
import Derived.Test.YtlojfgdpmaigmagGreatDoorP30
import Derived.Test.YtlojfgdpmaigmagGreatDoorP31
import Derived.Test.YtlojfgdpmaigmagGreatDoorP08
import Derived.Maps.Views
import Derived.Maps.OwnSet
import Derived.Test.YtlojfgdpmaigmagGreatDoorP24
import Derived.Test.YtlojfgdpmaigmagGreatDoorP26
namespace Go.Proofs.YtlojfgdpmaigmagGreatDoor
section
open Go.RowKit Plain

def kq(q:Int->Int)(x:En):En:={ x with key:=q x.key }

theorem rQ{q:Int->Int}{l:List En}(h:∀y∈l,Good y.ru):Pos (l.map (kq q)):=fun y hy=>by
 obtain⟨x,hx,rfl⟩:=List.mem_map.1 hy;exact(good_iff.1 (h x hx)).1.1

theorem qnp(q:Int->Int){x:En}(hx:Good x.ru):∀{o o':List En},(∀y∈o,Good y.ru)->ins o x=some o'->Eqv ((o++[x]).map (kq q)) (o'.map (kq q))
 |[],o',_,h=>by
  cases h;exact Eqv.refl (rQ (by simpa using hx))
 |y::r,o',hg,h=>by
  have hy:=hg y List.mem_cons_self;have hr:∀z∈r,Good z.ru:=fun z hz=>hg z (List.mem_cons_of_mem _ hz)
  have hall:∀z∈(y::r)++[x],Good z.ru:=fun z hz=>by
   rcases List.mem_append.1 hz with hz|hz
   ·exact hg z hz
   ·obtain rfl:z=x:=by simpa using hz
    exact hx
  rcases Int.lt_trichotomy x.key y.key with hk|hk|hk
  ·rw[gG hk] at h;cases h;exact Eqv.of_perm ((List.perm_append_comm (l₁:=y::r) (l₂:=[x])).map (kq q)) (rQ hall)
  ·rw[dS hk.symm] at h
   split at h
   ·rename_i hc
    cases h;have hj:=Eqv.join (x:=kq q x) (y:=kq q y) (by show q y.key=q x.key;rw[hk]) hx hy hc
    have p1:(((y::r)++[x]).map (kq q)).Perm ([kq q y,kq q x]++r.map (kq q)):=by
     rw[List.map_append,List.map_cons];exact(List.perm_append_comm (l₁:=r.map (kq q)) (l₂:=[kq q x])).cons (kq q y)
    have e1:((mkE x.key (jn y.ru x.ru)::r).map (kq q))=[mkE (kq q x).key (jn (kq q y).ru (kq q x).ru)]++r.map (kq q):=rfl;rw[e1];exact(Eqv.of_perm p1 (rQ hall)).trans (hj.app (rQ hr))
   ·cases h
  ·rw[eF hk] at h;cases hi:ins r x with
   |none=>rw[hi] at h;cases h
   |some r'=>
    rw[hi] at h;cases h;have ih:=qnp q hx hr hi
    have:=ih.app_left (r:=[kq q y]) (fun z hz=>by
     obtain rfl:z=kq q y:=by simpa using hz
     exact(good_iff.1 hy).1.1)
    simpa using this

theorem qbc{L L':List En}{x:En}{size:Int}(hL:∀y∈L,Good y.ru)(hx:Good x.ru)(h:ins L x=some L'):aP size L'=(aP size L).bind fun M=>ins M (bk size x):=by
 have e:=(qnp (fun k=>k-k%1048576%size) hx hL h).eq
 have e1:∀l:List En,l.map (kq fun k=>k-k%1048576%size)=l.map (bk size):=fun l=>rfl
 rw[e1,e1,List.map_append,List.map_singleton,wP] at e;exact e.symm

theorem qdg{n n' f:Int}{x:En}(hn:n<=n')(h:dJ n f x=true):dJ n' f x=true:=by
 simp only[dJ,Bool.and_eq_true,decide_eq_true_eq] at h ⊢;exact⟨by omega,h.2⟩

theorem q3y{n f:Int}{x:En}(hx:dJ n f x=true):∀{L L':List En},(∀y∈L,dJ n f y=true)->ins L x=some L'->∀y∈L',dJ n f y=true
 |[],L',_,h=>by
  cases h
  simpa using hx
 |z::r,L',hL,h=>by
  have hz:=hL z List.mem_cons_self;have hr:∀y∈r,dJ n f y=true:=fun y hy=>hL y (List.mem_cons_of_mem _ hy)
  rcases Int.lt_trichotomy x.key z.key with hk|hk|hk
  ·rw[gG hk] at h;cases h;intro y hy;rcases List.mem_cons.1 hy with rfl|hy
   ·exact hx
   ·exact hL y hy
  ·rw[dS hk.symm] at h
   split at h
   ·cases h;intro y hy;rcases List.mem_cons.1 hy with rfl|hy
    ·simp only[dJ,Bool.and_eq_true,decide_eq_true_eq] at hx hz ⊢;refine⟨hx.1,hx.2.1,?_⟩;show(jn z.ru x.ru).t=x.key%1048576;have h1:x.ru.t=x.key%1048576:=hx.2.2;have h2:z.ru.t=z.key%1048576:=hz.2.2;rcases pI z.ru x.ru with⟨e,_⟩|⟨e,_⟩
     ·rw[e,h2,hk]
     ·rw[e,h1]
    ·exact hr y hy
   ·cases h
  ·rw[eF hk] at h;cases hi:ins r x with
   |none=>rw[hi] at h;cases h
   |some r'=>
    rw[hi] at h;cases h;intro y hy;rcases List.mem_cons.1 hy with rfl|hy
    ·exact hz
    ·exact q3y hx hr hi y hy

theorem qc5{x y:En}:∀{L:List En},(L.Pairwise fun a b=>a.key<b.key)->y∈L->y.key=x.key->¬y.c+x.c<=1073741824->ins L x=none
 |[],_,hy,_,_=>by simp at hy
 |z::r,hp,hy,hk,hc=>by
  rw[List.pairwise_cons] at hp;rcases List.mem_cons.1 hy with rfl|hy
  ·rw[dS hk,if_neg hc]
  ·have:=hp.1 y hy;rw[eF (by omega),qc5 hp.2 hy hk hc]
   rfl

theorem jL{ns:List Nd}{root:Int}{L:List En}(h:allP ns root 0 1099511627776=(0,L)):aV ns root=0/\allR 0 1099511627776 (ns.flatMap Nd.lst)=some L:=by
 unfold allP at h
 by_cases hc:aV ns root=0
 ·rw[if_neg (by simpa using hc)] at h
  cases ha:allR 0 1099511627776 (ns.flatMap Nd.lst) with
  |none=>rw[ha] at h;cases h
  |some ys=>rw[ha] at h;cases h;exact⟨hc,rfl⟩
 ·rw[if_pos hc] at h;exact absurd (congrArg Prod.fst h) hc

theorem qgl{ns:List Nd}{root:Int}{L:List En}(hc:aV ns root=0)(h:allR 0 1099511627776 (ns.flatMap Nd.lst)=some L):allP ns root 0 1099511627776=(0,L):=by
 unfold allP;rw[if_neg (by simpa using hc),h]

theorem qk5{ns:List Nd}{root key:Int}{r:Ru}{L:List En}(h:allP ns root 0 1099511627776=(0,L))(hg:Good r)(hk:0<=key/\key<=1099511627775):
  (putF ns root key r=0/\∃ys,ins L (mkE key r)=some ys)\/(putF ns root key r=1/\ins L (mkE key r)=none):=by
 obtain⟨hc,hl⟩:=jL h;have hf:=gK (ns:=ns) (r:=root) (low:=0) (high:=1099511627776);rw[h] at hf;have hr:=q3i (ns:=ns) (r:=root) (low:=key) (high:=key+1) (by rw[h])
 rw[h] at hr
 have hq:allR key (key+1) (ns.flatMap Nd.lst)=some (L.filter (inR key (key+1))):=by
  unfold allP at hr;rw[if_neg (by simpa using hc)] at hr
  cases ha:allR key (key+1) (ns.flatMap Nd.lst) with
  |none=>rw[ha] at hr;cases hr
  |some ys=>rw[ha] at hr;cases hr;rfl
 have he:entC (mkE key r)=0:=by
  unfold entC;rw[if_pos ⟨(fH _ _ _).2 hk,hg.2⟩];exact hg.1
 have hs:=qkx (key:=key) hc;unfold gotA at hs;rw[hq] at hs
 have hF:putF ns root key r=(mrg ((Wl ns key (key+1) 12 root).foldl bV (zro,0)).1 r).2:=by
  unfold putF;rw[if_neg (by simpa using hc),if_neg (by simpa using he),if_neg]
  rw[hs];cases L.filter (inR key (key+1))<;>simp
 cases hm:L.filter (inR key (key+1)) with
 |nil=>
  rw[hm] at hs
  have h0:putF ns root key r=0:=by
   rw[hF,hs];show(mrg zro r).2=0;rw[uJ hg]
  obtain⟨ys,e,_⟩:=qh6 h0 hl;exact .inl ⟨h0,ys,e⟩
 |cons y rest=>
  rw[hm] at hs;have hy:y∈L.filter (inR key (key+1)):=by rw[hm];exact List.mem_cons_self
  obtain⟨hy1,hy2⟩:=List.mem_filter.1 hy
  have hyk:y.key=key:=by
   simp only[inR,Bool.and_eq_true,decide_eq_true_eq] at hy2;omega
  have hyg:=hf.2.1 y hy1;have e1:putF ns root key r=(mrg y.ru r).2:=by rw[hF,hs]
  rw[oM hyg hg] at e1
  by_cases hcn:y.ru.c+r.c<=1073741824
  ·rw[if_pos hcn] at e1;obtain⟨ys,e,_⟩:=qh6 e1 hl;exact .inl ⟨e1,ys,e⟩
  ·rw[if_neg hcn] at e1;exact .inr ⟨e1,qc5 hf.1 hy1 hyk hcn⟩

theorem qjw{ns ns2:List Nd}{root root2 key:Int}{r:Ru}{L ys:List En}(h:allP ns root 0 1099511627776=(0,L))(hF:putF ns root key r=0)(hok:sF ns ns2 root2 (mkE key r))(hz:ns2.length<=2000)(hy:ins L (mkE key r)=some ys):
  allP ns2 root2 0 1099511627776=(0,ys):=by
 obtain⟨_,hl⟩:=jL h;obtain⟨zs,e1,e2,_⟩:=qet hF hok hz hl;rw[hy] at e1;cases e1;exact qgl (hok.fine hz) e2

def bH(ss:List ByteArray)(s:ByteArray):List ByteArray:=if Lib.idxOfS ss s<0 then ss++[s] else ss
def plc(ss:List ByteArray)(s:ByteArray):Int:=if Lib.idxOfS ss s<0 then ss.length else Lib.idxOfS ss s

theorem idx_neg{ss:List ByteArray}{s:ByteArray}:Lib.idxOfS ss s<0↔s∉ss:=by
 rw[<-Lib.idxOfS_nonneg_iff];omega

theorem pO{ss:List ByteArray}{k:Nat}(h:k<ss.length):ss.getD k ByteArray.empty=ss[k]:=by
 rw[List.getD_eq_getElem?_getD,List.getElem?_eq_getElem h]
 rfl

theorem qb5{ss:List ByteArray}{s:ByteArray}(n:Nat)(h:ss.getD n ByteArray.empty=s):∃k,k<=n/\ss.getD k ByteArray.empty=s/\∀j,j<k->ss.getD j ByteArray.empty≠s:=by
 induction n using Nat.strongRecOn with
 |ind n ih=>
  by_cases hj:∃j,j<n/\ss.getD j ByteArray.empty=s
  ·obtain⟨j,h1,h2⟩:=hj;obtain⟨k,q1,q2,q3⟩:=ih j h1 h2;exact⟨k,by omega,q2,q3⟩
  ·exact⟨n,Nat.le_refl _,h,fun j h1 h2=>hj ⟨j,h1,h2⟩⟩

theorem uV{ss:List ByteArray}{s:ByteArray}(h:s∈ss):∃k:Nat,k<ss.length/\Lib.idxOfS ss s=k/\ss.getD k ByteArray.empty=s:=by
 obtain⟨n,hn,e⟩:=List.getElem_of_mem h;obtain⟨k,h1,h2,h3⟩:=qb5 n (by rw[pO hn,e])
 have:=Lib.idxOfS_hit ss ss.length k s (by omega) (Nat.le_refl _) h2 h3
 rw[List.take_length] at this;exact⟨k,by omega,this,h2⟩

theorem q4j(ss:List ByteArray)(s:ByteArray):Lib.idxOfS (bH ss s) s=plc ss s/\0<=plc ss s/\plc ss s<(bH ss s).length:=by
 unfold bH plc
 by_cases h:Lib.idxOfS ss s<0
 ·simp only[if_pos h];have hn:=idx_neg.1 h
  have e:=Lib.idxOfS_hit (ss++[s]) (ss++[s]).length ss.length s (by simp) (Nat.le_refl _) (by simp[List.getD_eq_getElem?_getD]) (fun j hj e=>hn (by
   rw[pO (by simp;omega),List.getElem_append_left hj] at e
   rw[<-e];exact List.getElem_mem hj))
  rw[List.take_length] at e;exact⟨e,by omega,by simp;omega⟩
 ·simp only[if_neg h];have hm:s∈ss:=Classical.byContradiction fun c=>h (idx_neg.2 c)
  obtain⟨k,hk,e,_⟩:=uV hm;exact⟨by trivial,by omega,by omega⟩

theorem zY{ss:List ByteArray}{s:ByteArray}(h:gI ss=true)(hs:gW s=true):gI (bH ss s)=true:=by
 unfold bH
 by_cases hi:Lib.idxOfS ss s<0
 ·rw[if_pos hi];have hn:=idx_neg.1 hi;unfold gI at h ⊢;rw[List.all_eq_true] at h ⊢;intro i him;have hi':i<ss.length+1:=by simpa using him
  by_cases hl:i<ss.length
  ·have:=h i (by simpa using hl)
   unfold okN at this ⊢;rw[pO (by simp;omega),List.getElem_append_left hl,List.take_append_of_le_length (by omega)]
   rwa [pO hl] at this
  ·obtain rfl:i=ss.length:=by omega
   unfold okN;have e:(ss++[s]).getD ss.length ByteArray.empty=s:=by simp[List.getD_eq_getElem?_getD]
   rw[e,List.take_left',hs]
   ·simp only[Bool.true_and,Bool.not_eq_true'];cases hc:Lib.containsS ss s with
    |false=>rfl
    |true=>exact absurd ((Lib.containsS_iff _ _).1 hc) hn
   ·rfl
 ·rw[if_neg hi];exact h

def ptE(p t v:Int):En:=mkE (p*1048576+t) (one t v)
theorem qqe{p t v size:Int}(ht:0<=t/\t<=1048575):bk size (ptE p t v)=mkE (p*1048576+(t-t%size)) (one t v):=by
 have h1:(p*1048576+t)%1048576=t:=by omega
 have e:(bk size (ptE p t v)).key=p*1048576+(t-t%size):=by
  show p*1048576+t-(p*1048576+t)%1048576%size=_;rw[h1];omega
 show({ ptE p t v with key:=(bk size (ptE p t v)).key }:En)=_;rw[e]
 rfl

theorem tK{t v:Int}(ht:0<=t/\t<=1048575)(hv: -1000000<=v/\v<=1000000):Good (one t v):=⟨qo2 ht hv,by simp[one]⟩

theorem qkn{ss:List ByteArray}{s:ByteArray}{f t v:Int}{n0 n1 n2 m0 m1 m2:List Nd}{r0 r1 r2 q0 q1 q2:Int}{L0 L1 L2 M0 M1 M2:List En}
  (hb:bM ss f n0 r0 n1 r1 n2 r2=true) (hB:kL ss f n0 r0 n1 r1 n2 r2 L0 L1 L2) (hs:gW s=true) (hl:(bH ss s).length<=16) (ht:0<=t/\t<=1048575) (hv: -1000000<=v/\v<=1000000) (hf:f<=t)
  (h0:ins L0 (ptE (plc ss s) t v)=some M0) (h1:ins L1 (bk 60 (ptE (plc ss s) t v))=some M1) (h2:ins L2 (bk 3600 (ptE (plc ss s) t v))=some M2)
  (a0:allP m0 q0 0 1099511627776=(0,M0)) (a1:allP m1 q1 0 1099511627776=(0,M1)) (a2:allP m2 q2 0 1099511627776=(0,M2)):
  bM (bH ss s) f m0 q0 m1 q1 m2 q2=true/\fU m0 q0 (bH ss s).length f=some M0:=by
 obtain⟨e1,e2,e3⟩:=q4j ss s;have hx:Good (ptE (plc ss s) t v).ru:=tK ht hv;have hgf:=gK (ns:=n0) (r:=r0) (low:=0) (high:=1099511627776);rw[hB.a0] at hgf;have hgood:∀y∈L0,Good y.ru:=hgf.2.1;obtain⟨_,_,hpt⟩:=qA hB.book;rw[List.all_eq_true] at hpt
 have hlen:(ss.length:Int)<=(bH ss s).length:=by
  unfold bH
  split
  ·simp;omega
  ·exact Int.le_refl _
 have hxp:dJ (bH ss s).length f (ptE (plc ss s) t v)=true:=by
  have k1:(plc ss s*1048576+t)/1048576=plc ss s:=by omega
  have k2:(plc ss s*1048576+t)%1048576=t:=by omega
  simp only[dJ,Bool.and_eq_true,decide_eq_true_eq];refine⟨?_,?_,?_⟩
  ·show(plc ss s*1048576+t)/1048576<_;rw[k1];exact e3
  ·show f<=(plc ss s*1048576+t)%1048576;rw[k2];exact hf
  ·show t=(plc ss s*1048576+t)%1048576;rw[k2]
 have hM:=q3y hxp (fun y hy=>qdg hlen (hpt y hy)) h0
 have hbook:fU m0 q0 (bH ss s).length f=some M0:=by
  unfold fU;rw[a0,if_pos ⟨rfl,List.all_eq_true.2 hM⟩]
 refine⟨?_,hbook⟩
 have s1:bW 60 M0 m1 q1=true:=by
  unfold bW;rw[qbc hgood hx h0,hB.p1,Option.bind_some,h1,a1];simp
 have s2:bW 3600 M0 m2 q2=true:=by
  unfold bW;rw[qbc hgood hx h0,hB.p2,Option.bind_some,h2,a2];simp
 have s0:=qb9 hbook;unfold bM at hb ⊢;simp only[Bool.and_eq_true,decide_eq_true_eq] at hb ⊢;refine⟨hl,hb.2.1,hb.2.2.1,zY hb.2.2.2.1 hs,?_⟩;unfold lG;rw[hbook];simp only[Bool.and_eq_true];exact⟨s0,s1,s2⟩

structure rZ(ns:List Nd)(root:Int)(l:List En):Prop where
 ok:aV ns root=0
 all:allL (ns.flatMap cont)=some l
 inc:l.Pairwise fun a b=>a.key<b.key
 good:∀y∈l,Good y.ru

theorem qcm:∀(xs l l':List En),(l.Pairwise fun a b=>a.key<b.key)->xs.foldl insO (some l)=some l'->l'.Pairwise fun a b=>a.key<b.key
 |[],l,l',hl,h=>by
  cases h;exact hl
 |x::xs,l,l',hl,h=>by
  rw[List.foldl_cons] at h;cases hi:insO (some l) x with
  |none=>rw[hi,jY] at h;cases h
  |some q=>
   rw[hi] at h;exact qcm xs q l' (xX hl (show ins l x=some q from hi)).1 h

theorem rZ.mk'{ns:List Nd}{root:Int}{l:List En}(h:aV ns root=0)(ha:allL (ns.flatMap cont)=some l):rZ ns root l:=
 ⟨h,ha,qcm _ [] l (by simp) ha,(qR (fun y hy=>(rM h y hy).2) ha).1⟩

theorem q9x{l:List En}{k:Nat}(h:k<l.length):l.getD k default=l[k]:=by
 rw[List.getD_eq_getElem?_getD,List.getElem?_eq_getElem h]
 rfl

theorem qkp{x:En}(hk:0<=x.key/\x.key<1099511627776)(hg:Good x.ru):entC x=0:=by
 unfold entC;rw[if_pos ⟨(fH _ _ _).2 (by omega),hg.2⟩]
 exact hg.1

theorem q3m{l:List En}(hi:l.Pairwise fun a b=>a.key<b.key)(hg:∀y∈l,Good y.ru)(hk:∀y∈l,0<=y.key/\y.key<1099511627776):eU l=0:=by
 have at0:∀k,k<l.length->jS l k=0:=by
  intro k hkl;unfold jS;rw[if_neg]
  ·rw[q9x hkl];exact qkp (hk _ (List.getElem_mem hkl)) (hg _ (List.getElem_mem hkl))
  ·unfold ordB;simp only[Bool.and_eq_true,decide_eq_true_eq,not_and];intro h0;rw[q9x hkl,q9x (show k-1<l.length by omega)]
   have:=List.pairwise_iff_getElem.1 hi (k-1) k (by omega) hkl (by omega)
   omega
 have go:∀(f k:Nat),k+f=l.length->fltF l f k=0:=by
  intro f
  induction f with
  |zero=>intro k _;rfl
  |succ f ih=>
   intro k hk';unfold fltF;rw[if_pos (at0 k (by omega))]
   exact ih (k+1) (by omega)
 exact go l.length 0 (by omega)

def yngB(t:Int)(x:En):Bool:=decide (t<=x.key%1048576)

def iM(f t:Int):Int:=if inB t 0 1048575=true then(if t%3600=0 then(if t<f then 8 else 0) else 4) else 2

theorem q2z{f t:Int}(h:iM f t=0):0<=t/\t<=1048575/\t%3600=0/\f<=t:=by
 unfold iM at h
 split at h
 ·rename_i h1
  have h1':=(fH _ _ _).1 h1
  split at h
  ·rename_i h2
   split at h
   ·cases h
   ·rename_i h3
    exact⟨h1'.1,h1'.2,h2,by omega⟩
  ·cases h
 ·cases h

theorem qr2{t size:Int}(ht:t%3600=0)(hs:size=1\/size=60\/size=3600)(x:En):yngB t (bk size x)=yngB t x:=by
 have hk:(bk size x).key%1048576=x.key%1048576-x.key%1048576%size:=by
  show(x.key-x.key%1048576%size)%1048576=_;rcases hs with rfl|rfl|rfl<;>omega
 unfold yngB;rw[hk];refine decide_eq_decide.2 ?_;rcases hs with rfl|rfl|rfl
 ·omega
 ·constructor<;>intro h<;>omega
 ·constructor<;>intro h<;>omega

theorem q4w{t size:Int}(ht:t%3600=0)(hs:size=1\/size=60\/size=3600){L M:List En}(h:aP size L=some M):aP size (L.filter (yngB t))=some (M.filter (yngB t)):=by
 unfold aP at *;have k:=qM (P:=fun k=>decide (t<=k%1048576)) (L.map (bk size)) [] M (by simp) h
 have e:((L.map (bk size)).filter fun z=>decide (t<=z.key%1048576))=(L.filter (yngB t)).map (bk size):=by
  rw[List.filter_map];congr 1;exact List.filter_congr fun x _=>qr2 ht hs x
 rw[e] at k;exact k

theorem qha{t:Int}{ns:List Nd}{r:Int}{L:List En}(h:allP ns r 0 1099511627776=(0,L)):eU (L.filter (yngB t))=0:=by
 have f0:=gK (ns:=ns) (r:=r) (low:=0) (high:=1099511627776);rw[h] at f0;exact q3m (f0.1.filter _) (fun y hy=>f0.2.1 y (List.mem_filter.1 hy).1) (fun y hy=>f0.2.2 y (List.mem_filter.1 hy).1)

theorem qka{ss:List ByteArray}{f t:Int}{n0 n1 n2 m0 m1 m2:List Nd}{r0 r1 r2 q0 q1 q2:Int}{L0 L1 L2:List En}
  (hb:bM ss f n0 r0 n1 r1 n2 r2=true) (hB:kL ss f n0 r0 n1 r1 n2 r2 L0 L1 L2) (ht:iM f t=0)
  (a0:allP m0 q0 0 1099511627776=(0,L0.filter (yngB t))) (a1:allP m1 q1 0 1099511627776=(0,L1.filter (yngB t))) (a2:allP m2 q2 0 1099511627776=(0,L2.filter (yngB t))):
  bM ss t m0 q0 m1 q1 m2 q2=true/\fU m0 q0 ss.length t=some (L0.filter (yngB t)):=by
 obtain⟨t0,t1,t2,t3⟩:=q2z ht;obtain⟨_,_,hpt⟩:=qA hB.book;rw[List.all_eq_true] at hpt
 have hall:(L0.filter (yngB t)).all (dJ ss.length t)=true:=by
  rw[List.all_eq_true];intro x hx;obtain⟨hx,hy⟩:=List.mem_filter.1 hx;have h:=hpt x hx;simp only[dJ,Bool.and_eq_true,decide_eq_true_eq] at h ⊢;exact⟨h.1,of_decide_eq_true hy,h.2.2⟩
 have hbook:fU m0 q0 ss.length t=some (L0.filter (yngB t)):=by
  unfold fU;rw[a0,if_pos ⟨rfl,hall⟩]
 refine⟨?_,hbook⟩
 have s:∀(size:Int) (hs:size=1\/size=60\/size=3600) (M:List En) (m:List Nd) (q:Int),aP size L0=some M->allP m q 0 1099511627776=(0,M.filter (yngB t))->bW size (L0.filter (yngB t)) m q=true:=by
  intro size hs M m q h1 h2;unfold bW;rw[q4w t2 hs h1,h2];simp
 have e0:=s 1 (.inl rfl) L0 m0 q0 hB.p0 a0;have e1:=s 60 (.inr (.inl rfl)) L1 m1 q1 hB.p1 a1;have e2:=s 3600 (.inr (.inr rfl)) L2 m2 q2 hB.p2 a2;unfold bM at hb ⊢;simp only[Bool.and_eq_true,decide_eq_true_eq] at hb ⊢;refine⟨hb.1,(fH _ _ _).2 ⟨t0,t1⟩,t2,hb.2.2.2.1,?_⟩;unfold lG;rw[hbook];simp only[e0,e1,e2,Bool.and_self]

def NB(N:Nat)(x:Nd):Prop:=(∀z∈x.keys,0<=z/\z<=1099511627776)/\∀z∈x.kids,0<=z/\z<N

theorem q5i{T m:Nat}{ns:List Nd}:∀{h:Nat} {p lo hi:Int} {P:List Int},Sub T m ns h p lo hi P->0<=p/\p<ns.length
 |0,_,_,_,_,hs=>⟨hs.1.1,hs.1.2.1⟩
 |_+1,_,_,_,_,hs=>⟨hs.1.1,hs.1.2.1⟩

theorem q8b{T m:Nat}{ns:List Nd}{h:Nat}{hi:Int}:∀(kids keys:List Int) (lo:Int) (Q:List Int),keys.length+1=kids.length->SubK (Sub T m ns h) lo (ups kids keys hi) Q->∀d∈kids,0<=d/\d<ns.length
 |[],_,_,_,hk,_=>by simp at hk
 |[d],keys,lo,Q,hk,hQ=>by
  obtain rfl:keys=[]:=List.eq_nil_of_length_eq_zero (by simpa using hk)
  obtain⟨Q1,Q2,rfl,h1,h2⟩:=hQ;intro z hz;obtain rfl:z=d:=by simpa using hz
  exact q5i h1
 |d::e::ds,[],_,_,hk,_=>by simp at hk
 |d::e::ds,k::ks,lo,Q,hk,hQ=>by
  obtain⟨Q1,Q2,rfl,h1,h2⟩:=hQ;intro z hz;rcases List.mem_cons.1 hz with rfl|hz
  ·exact q5i h1
  ·exact q8b (e::ds) ks k Q2 (by simpa using hk) h2 z hz

theorem qme{T m:Nat}{ns:List Nd}:∀(h:Nat) (p lo hi:Int) (P:List Int),0<=lo->hi<=1099511627776->Sub T m ns h p lo hi P->∀n∈P,NB ns.length (nth ns n)
 |0,p,lo,hi,P,_,_,hs,n,hn=>by
  obtain⟨_,rfl,hl⟩:=hs;obtain rfl:n=p:=by simpa using hn
  unfold NB;rw[hl.keys,hl.kids];exact⟨by simp,by simp⟩
 |h+1,p,lo,hi,P,hlo,hhi,hs,n,hn=>by
  obtain⟨_,Q,rfl,hin⟩:=hs;rcases List.mem_cons.1 hn with rfl|hn
  ·have hr:=oK (kF h) hin.keys hin.kids;exact⟨fun z hz=>by have:=hr.2.1 z hz;omega,q8b _ _ _ _ hin.keys hin.kids⟩
  ·have ih:=qme (T:=T) (m:=m) (ns:=ns) h
   have:∀(kids keys:List Int) (lo':Int) (Q:List Int),0<=lo'->keys.length+1=kids.length->SubK (Sub T m ns h) lo' (ups kids keys hi) Q->∀n∈Q,NB ns.length (nth ns n):=by
    intro kids
    induction kids with
    |nil=>intro keys lo' Q _ hk;simp at hk
    |cons d ds ihd=>
     intro keys lo' Q h0 hk hQ n hn;have hr:=oK (kF h) hk hQ;cases ds with
     |nil=>
      obtain rfl:keys=[]:=List.eq_nil_of_length_eq_zero (by simpa using hk)
      obtain⟨Q1,Q2,rfl,h1,h2⟩:=hQ;cases h2;rw[List.append_nil] at hn;exact ih _ _ _ _ h0 hhi h1 n hn
     |cons e ds=>
      cases keys with
      |nil=>simp at hk
      |cons k ks=>
       obtain⟨Q1,Q2,rfl,h1,h2⟩:=hQ;have hk1:=hr.2.1 k List.mem_cons_self;rcases List.mem_append.1 hn with hn|hn
       ·exact ih _ _ _ _ h0 (by omega) h1 n hn
       ·exact ihd ks k Q2 (by omega) (by simpa using hk) h2 n hn
   exact this _ _ _ _ hlo hin.keys hin.kids n hn

theorem qn9{ns:List Nd}{root:Int}(h:aV ns root=0):∀x∈ns,NB ns.length x:=by
 rcases tH h with⟨ht,P,hs,hp⟩|⟨he,rfl⟩
 ·intro x hx;obtain⟨i,hi,rfl⟩:=List.getElem_of_mem hx;have hm:(i:Int)∈P:=hp.mem_iff.2 (placesF_mem.2 ⟨by omega,by omega⟩)
  have:=qme ht _ _ _ _ (Int.le_refl _) (Int.le_refl _) hs (i:Int) hm;have e:nth ns (i:Int)=ns[i]:=by simp[nth,hi]
  rwa [e] at this
 ·rw[he];intro x hx;obtain rfl:x=aY []:=by simpa using hx
  exact⟨by simp[aY],by simp[aY]⟩

theorem qrp{y:En}(hk:0<=y.key/\y.key<1099511627776)(hg:Good y.ru):y.wf:=by
 obtain⟨b1,b2,b3,b4,b5,b6⟩:=kT hg.1;have e:y.ru=⟨y.c,y.s,y.lo,y.hi,y.t,y.l⟩:=rfl;have g:=good_iff.1 hg;simp only[e] at b1 b2 b3 b4 b5 b6 g;exact⟨WalkArith.wf_i64 (by omega),WalkArith.wf_i64 (by omega),WalkArith.wf_i64 (by omega),WalkArith.wf_i64 (by omega),WalkArith.wf_i64 (by omega),WalkArith.wf_i64 (by omega),WalkArith.wf_i64 (by omega)⟩

theorem lZ{qs:List PN}{root:Int}(h:aV (qs.map PN.nd) root=0):∀q∈qs,q.wf:=by
 intro q hq;have hm:q.nd∈qs.map PN.nd:=List.mem_map.2 ⟨q,hq,rfl⟩;obtain⟨n1,n2⟩:=qn9 h _ hm
 have hin:∀y∈cont q.nd,y.wf:=fun y hy=>by
  have:=rM h y (List.mem_flatMap.2 ⟨_,hm,hy⟩);exact qrp this.1 this.2
 have hl:=(tJ h).1;refine⟨fun y hy=>hin y (List.mem_append_right _ hy),fun z hz=>?_,fun z hz=>?_,fun y hy=>hin y (List.mem_append_left _ hy)⟩
 ·have:=n1 z hz;exact WalkArith.wf_i64 (by omega)
 ·have:=n2 z hz;exact WalkArith.wf_i64 (by omega)

structure sH(ns:List Nd)(P:List Int)(lo hi:Int)(E:List Int):Prop where
 inc:E.Pairwise (·<·)
 bd:∀e∈E,lo<=e/\e<hi
 mem:∀e∈E,∃n∈P,∃y∈(nth ns n).ents,y.key=e

theorem qgg{ns:List Nd}{P Q E F:List Int}{lo u hi:Int}(h:sH ns P lo u E)(k:sH ns Q u hi F)(h1:lo<=u)(h2:u<=hi):sH ns (P++Q) lo hi (E++F):=by
 refine⟨List.pairwise_append.2 ⟨h.inc,k.inc,fun a ha b hb=>?_⟩,fun e he=>?_,fun e he=>?_⟩
 ·have:=h.bd a ha;have:=k.bd b hb;omega
 ·rcases List.mem_append.1 he with he|he
  ·have:=h.bd e he;omega
  ·have:=k.bd e he;omega
 ·rcases List.mem_append.1 he with he|he
  ·obtain⟨n,hn,y,hy,q⟩:=h.mem e he;exact⟨n,List.mem_append_left _ hn,y,hy,q⟩
  ·obtain⟨n,hn,y,hy,q⟩:=k.mem e he;exact⟨n,List.mem_append_right _ hn,y,hy,q⟩

theorem q1q{ns:List Nd}{g:Rel}(hlt:∀d lo hi Q,g d lo hi Q->lo<hi)(hg:∀d lo hi Q,g d lo hi Q->∃E,sH ns Q lo hi E/\Q.length+1<=2*E.length):
  ∀(r:List (Int × Int)) (lo:Int) (Q:List Int),SubK g lo r Q->∃E,sH ns Q lo (endU lo r) E/\Q.length+r.length<=2*E.length
 |[],lo,Q,h=>by
  cases h;exact⟨[],⟨by simp,by simp,by simp⟩,by simp⟩
 |(d,u)::r,lo,Q,h=>by
  obtain⟨Q1,Q2,rfl,h1,h2⟩:=h;obtain⟨E1,k1,n1⟩:=hg _ _ _ _ h1;obtain⟨E2,k2,n2⟩:=q1q hlt hg r u Q2 h2;have l1:=hlt _ _ _ _ h1;have l2:=(yC hlt h2).1;refine⟨E1++E2,qgg k1 k2 (by omega) l2,?_⟩
  simp only[List.length_append,List.length_cons];omega

theorem qcv{kids keys:List Int}{hi:Int}(h:keys.length+1=kids.length):(ups kids keys hi).length=kids.length:=by
 unfold ups;rw[List.length_zip,List.length_append];simp;omega

theorem q7r:∀(kids keys:List Int) (lo hi:Int),keys.length+1=kids.length->endU lo (ups kids keys hi)=hi
 |[],_,_,_,h=>by simp at h
 |[d],[],lo,hi,_=>rfl
 |d::e::kids,[],lo,hi,h=>by simp at h
 |[d],k::keys,lo,hi,h=>by simp at h
 |d::e::kids,k::keys,lo,hi,h=>q7r (e::kids) keys k hi (by simpa using h)

theorem q3h{T m:Nat}{ns:List Nd}:∀(h:Nat) (n lo hi:Int) (P:List Int),Sub T m ns h n lo hi P->∃E,sH ns P lo hi E/\P.length+1<=2*E.length
 |0,n,lo,hi,P,hs=>by
  obtain⟨_,rfl,hl⟩:=hs;obtain⟨b1,b2⟩:=jZ hl.ents;refine⟨(nth ns n).ents.map En.key,⟨by rw[List.pairwise_map];exact b2,fun e he=>?_,fun e he=>?_⟩,?_⟩
  ·obtain⟨y,hy,rfl⟩:=List.mem_map.1 he;exact b1 y hy
  ·obtain⟨y,hy,rfl⟩:=List.mem_map.1 he;exact⟨n,by simp,y,hy,rfl⟩
  ·have:(nth ns n).ents.length≠0:=fun e=>hl.ne (List.eq_nil_of_length_eq_zero e)
   simp only[List.length_cons,List.length_nil,List.length_map];omega
 |h+1,n,lo,hi,P,hs=>by
  obtain⟨_,Q,rfl,hi'⟩:=hs;obtain⟨E,k,q⟩:=q1q (fun d lo hi Q hq=>kF h d lo hi Q hq) (fun d lo hi Q hq=>q3h h d lo hi Q hq) _ _ _ hi'.kids
  rw[q7r _ _ _ _ hi'.keys] at k;rw[qcv hi'.keys] at q;refine⟨E,⟨k.inc,k.bd,fun e he=>?_⟩,?_⟩
  ·obtain⟨p,hp,y,hy,q⟩:=k.mem e he;exact⟨p,List.mem_cons_of_mem _ hp,y,hy,q⟩
  ·have:=hi'.two;simp only[List.length_cons];omega

theorem q7x{k:Int}:∀{l:List En},(∀z∈l,z.key≠k)->cntK k l=0
 |[],_=>rfl
 |y::r,h=>by
  have h1:=h y List.mem_cons_self;have h2:=q7x (l:=r) fun z hz=>h z (List.mem_cons_of_mem _ hz)
  simp only[cntK,if_neg h1,h2];omega

theorem qau{y:En}:∀{l:List En},Pos l->y∈l->1<=cntK y.key l
 |[],_,h=>by simp at h
 |z::r,hp,h=>by
  have hr:Pos r:=fun x hx=>hp x (List.mem_cons_of_mem _ hx)
  have h0:=nP (k:=y.key) hr;have hz:=hp z List.mem_cons_self;rcases List.mem_cons.1 h with rfl|h
  ·simp only[cntK,if_true];omega
  ·have:=qau hr h;simp only[cntK]
   split<;>omega

theorem qq0{ns:List Nd}{h:Nat}{root:Int}{P:List Int}{l:List En}(hs:Sub 6 4 ns h root 0 1099511627776 P)(hp:P.Perm (aT 0 ns.length))(hk:∀y∈ns.flatMap cont,1<=cntK y.key l):ns.length+1<=2*l.length:=by
 obtain⟨E,k,q⟩:=q3h h _ _ _ _ hs;have hlen:P.length=ns.length:=by rw[hp.length_eq,lQ]
 have hle:E.length<=(l.map En.key).length:=by
  refine nM E _ (k.inc.imp fun h=>by omega) fun e he=>?_
  obtain⟨n,hn,y,hy,rfl⟩:=k.mem e he;have hr:=nD h _ _ _ _ hs n hn
  have hm:nth ns n∈ns:=by
   unfold nth;rw[List.getD_eq_getElem?_getD,List.getElem?_eq_getElem (by omega)]
   exact List.getElem_mem _
  have h1:=hk y (List.mem_flatMap.2 ⟨_,hm,List.mem_append_right _ hy⟩);apply Classical.byContradiction;intro hno;rw[q7x (fun z hz e=>hno (List.mem_map.2 ⟨z,hz,e⟩))] at h1
  omega
 rw[List.length_map] at hle;omega

theorem rZ.put_few{ns ns2:List Nd}{root root2 key:Int}{r:Ru}{l ys:List En}(h:rZ ns root l)(hok:sF ns ns2 root2 (mkE key r))(hi:ins l (mkE key r)=some ys):ns2.length+1<=2*ys.length:=by
 obtain⟨ht,P,hs,hp⟩:=hok.sub;have hgs:∀y∈ns.flatMap cont,Good y.ru:=fun y hy=>(rM h.ok y hy).2
 have hcnt:=(qR hgs h.all).2.2;refine qq0 hs hp fun y hy=>?_
 have h1:=qau hok.eqv.posm hy;rw[<-hok.eqv.cnt] at h1;rw[q9e hi,hcnt];simp only[cntK] at h1;omega

def z0(x:En):En:={ x with key:=0 }
def tot(l:List En):Ru × Int:=l.foldl bV (zro,0)

theorem qm9(l:List En)(s:Ru × Int):(l.map z0).foldl bV s=l.foldl bV s:=by
 induction l generalizing s with
 |nil=>rfl
 |cons x r ih=>exact ih _

theorem qfi{l:List En}(hg:∀y∈l,Good y.ru):tot l=ansO (allL (l.map z0)):=by
 have h:=wK (key:=0) (l.map z0) (some []) (zro,0) (.inl ⟨rfl,rfl⟩) (fun x hx=>by
  obtain⟨y,hy,rfl⟩:=List.mem_map.1 hx;exact⟨rfl,hg y hy⟩)
 rw[qm9] at h;exact(qc6 h).symm

theorem qm1{l m:List En}(hl:∀y∈l,Good y.ru)(hm:∀y∈m,Good y.ru)(h:Eqv (l.map z0) (m.map z0)):tot l=tot m:=by
 rw[qfi hl,qfi hm,h.eq]

theorem jM{l:List En}(h:∀y∈l,Good y.ru):Pos l:=fun y hy=>(good_iff.1 (h y hy)).1.1
theorem oZ{l:List En}(h:Pos l):Pos (l.map z0):=fun y hy=>by
 obtain⟨x,hx,rfl⟩:=List.mem_map.1 hy;exact h x hx

theorem qqh{x:En}(hx:Good x.ru):∀{o o':List En},(∀y∈o,Good y.ru)->ins o x=some o'->Eqv ((o++[x]).map z0) (o'.map z0)
 |[],o',_,h=>by
  cases h;exact Eqv.refl (oZ (jM (by simpa using hx)))
 |y::r,o',hg,h=>by
  have hy:=hg y List.mem_cons_self;have hr:∀z∈r,Good z.ru:=fun z hz=>hg z (List.mem_cons_of_mem _ hz)
  have hall:∀z∈(y::r)++[x],Good z.ru:=fun z hz=>by
   rcases List.mem_append.1 hz with hz|hz
   ·exact hg z hz
   ·obtain rfl:z=x:=by simpa using hz
    exact hx
  rcases Int.lt_trichotomy x.key y.key with hk|hk|hk
  ·rw[gG hk] at h;cases h;exact Eqv.of_perm ((List.perm_append_comm (l₁:=y::r) (l₂:=[x])).map z0) (oZ (jM hall))
  ·rw[dS hk.symm] at h
   split at h
   ·rename_i hc
    cases h;have hj:=Eqv.join (x:=z0 x) (y:=z0 y) rfl hx hy hc
    have p1:(((y::r)++[x]).map z0).Perm ([z0 y,z0 x]++r.map z0):=by
     rw[List.map_append,List.map_cons];exact(List.perm_append_comm (l₁:=r.map z0) (l₂:=[z0 x])).cons (z0 y)
    have e1:((mkE x.key (jn y.ru x.ru)::r).map z0)=[mkE (z0 x).key (jn (z0 y).ru (z0 x).ru)]++r.map z0:=rfl;rw[e1];exact(Eqv.of_perm p1 (oZ (jM hall))).trans (hj.app (oZ (jM hr)))
   ·cases h
  ·rw[eF hk] at h;cases hi:ins r x with
   |none=>rw[hi] at h;cases h
   |some r'=>
    rw[hi] at h;cases h;have ih:=qqh hx hr hi
    have:=ih.app_left (r:=[z0 y]) (fun z hz=>by
     obtain rfl:z=z0 y:=by simpa using hz
     exact(good_iff.1 hy).1.1)
    simpa using this

theorem qlo:∀(xs o l:List En),(∀y∈xs,Good y.ru)->(∀y∈o,Good y.ru)->xs.foldl insO (some o)=some l->Eqv ((o++xs).map z0) (l.map z0)
 |[],o,l,_,ho,h=>by
  cases h;rw[List.append_nil];exact Eqv.refl (oZ (jM ho))
 |x::xs,o,l,hx,ho,h=>by
  rw[List.foldl_cons] at h;cases hi:insO (some o) x with
  |none=>rw[hi,jY] at h;cases h
  |some o'=>
   rw[hi] at h;have hi':ins o x=some o':=hi;have hx0:=hx x List.mem_cons_self;have hxs:∀y∈xs,Good y.ru:=fun y hy=>hx y (List.mem_cons_of_mem _ hy)
   have ih:=qlo xs o' l hxs (mD hx0 ho hi').1 h;have s:=(qqh hx0 ho hi').app (oZ (jM hxs));rw[<-List.map_append,<-List.map_append,List.append_assoc] at s;exact s.trans ih

theorem qra{xs l:List En}(hx:∀y∈xs,Good y.ru)(h:allL xs=some l):Eqv (xs.map z0) (l.map z0):=by
 have:=qlo xs [] l hx (by simp) h
 simpa using this

def keyB(p a b:Int)(k:Int):Bool:=decide (k/1048576=p)&&(decide (a<=k%1048576)&&decide (k%1048576<=b))

def selK(p a b:Int)(x:En):Bool:=keyB p a b x.key

theorem qpd{p a b size:Int}(hs:size=1\/size=60\/size=3600)(ha:a%size=0)(hb:(b+1)%size=0){x:En}:keyB p a b (bk size x).key=selK p a b x:=by
 have e:=qll x size;simp only[kp,kt] at e;rw[e];unfold selK keyB
 have h1:(x.key/1048576*1048576+(x.key%1048576-x.key%1048576%size))/1048576=x.key/1048576:=by
  rcases hs with rfl|rfl|rfl<;>omega
 have h2:(x.key/1048576*1048576+(x.key%1048576-x.key%1048576%size))%1048576=x.key%1048576-x.key%1048576%size:=by
  rcases hs with rfl|rfl|rfl<;>omega
 rw[h1,h2]
 have h3:(a<=x.key%1048576-x.key%1048576%size↔a<=x.key%1048576):=by
  rcases hs with rfl|rfl|rfl<;>omega
 have h4:(x.key%1048576-x.key%1048576%size<=b↔x.key%1048576<=b):=by
  rcases hs with rfl|rfl|rfl<;>omega
 simp only[h3,h4]

theorem qk6{L M:List En}{p a b size:Int}(hs:size=1\/size=60\/size=3600)(hg:∀y∈L,Good y.ru)(h:aP size L=some M)(ha:a%size=0)(hb:(b+1)%size=0):
  Eqv ((L.filter (selK p a b)).map z0) ((M.filter (selK p a b)).map z0):=by
 have h1:=qM (P:=keyB p a b) (L.map (bk size)) [] M (by simp) h
 have e1:((L.map (bk size)).filter fun z=>keyB p a b z.key)=(L.filter (selK p a b)).map (bk size):=by
  rw[List.filter_map];congr 1;exact List.filter_congr fun x _=>qpd hs ha hb
 rw[e1] at h1
 have h2:=qra (xs:=(L.filter (selK p a b)).map (bk size)) (l:=M.filter fun z=>keyB p a b z.key) (fun y hy=>by
  obtain⟨x,hx,rfl⟩:=List.mem_map.1 hy;exact hg x (List.mem_filter.1 hx).1) h1
 rw[List.map_map] at h2;exact h2

def szN:Nat->Int
 |0=>1
 |1=>60
 |_=>3600

def begN(t s:Int):Int:=t-t%s

def bG:Nat->Int->Int->List (Nat × Int × Int)
 |0,a,b=>if b<a then[] else[(0,a,b)]
 |k+1,a,b=>if b<a then[] else
  if begN (b+1) (szN (k+1))<=begN (a+szN (k+1)-1) (szN (k+1)) then bG k a b
  else bG k a (begN (a+szN (k+1)-1) (szN (k+1))-1)++(bG k (begN (b+1) (szN (k+1))) b++[(k+1,begN (a+szN (k+1)-1) (szN (k+1)),begN (b+1) (szN (k+1))-1)])

def dH(L:Nat->List En)(p:Int)(c:List (Nat × Int × Int)):List En:=c.flatMap fun q=>(L q.1).filter (selK p q.2.1 q.2.2)

theorem oD(L:Nat->List En)(p:Int)(c d:List (Nat × Int × Int)):dH L p (c++d)=dH L p c++dH L p d:=List.flatMap_append

theorem qpw{l:List En}{p a b m n:Int}(h1:a<=m)(h2:m<n)(h3:n<=b+1):
  (l.filter (selK p a b)).Perm (l.filter (selK p a (m-1))++(l.filter (selK p n b)++l.filter (selK p m (n-1)))):=by
 induction l with
 |nil=>simp
 |cons x r ih=>
  have hx:∀u v:Int,selK p u v x=true↔x.key/1048576=p/\u<=x.key%1048576/\x.key%1048576<=v:=fun u v=>by simp[selK,keyB]
  by_cases h:selK p a b x=true
  ·obtain⟨q1,q2,q3⟩:=(hx _ _).1 h;rw[List.filter_cons_of_pos h]
   by_cases c1:x.key%1048576<m
   ·have k1:selK p a (m-1) x=true:=(hx _ _).2 ⟨q1,q2,by omega⟩
    have k2:¬selK p n b x=true:=fun e=>by have:=(hx _ _).1 e;omega
    have k3:¬selK p m (n-1) x=true:=fun e=>by have:=(hx _ _).1 e;omega
    rw[List.filter_cons_of_pos k1,List.filter_cons_of_neg k2,List.filter_cons_of_neg k3,List.cons_append];exact ih.cons x
   ·by_cases c2:n<=x.key%1048576
    ·have k1:¬selK p a (m-1) x=true:=fun e=>by have:=(hx _ _).1 e;omega
     have k2:selK p n b x=true:=(hx _ _).2 ⟨q1,c2,q3⟩;have k3:¬selK p m (n-1) x=true:=fun e=>by have:=(hx _ _).1 e;omega
     rw[List.filter_cons_of_neg k1,List.filter_cons_of_pos k2,List.filter_cons_of_neg k3,List.cons_append];exact(ih.cons x).trans List.perm_middle.symm
    ·have k1:¬selK p a (m-1) x=true:=fun e=>by have:=(hx _ _).1 e;omega
     have k2:¬selK p n b x=true:=fun e=>by have:=(hx _ _).1 e;omega
     have k3:selK p m (n-1) x=true:=(hx _ _).2 ⟨q1,by omega,by omega⟩
     rw[List.filter_cons_of_neg k1,List.filter_cons_of_neg k2,List.filter_cons_of_pos k3];refine(ih.cons x).trans ?_;rw[<-List.append_assoc,<-List.append_assoc];exact List.perm_middle.symm
  ·rw[List.filter_cons_of_neg h];have k:∀u v:Int,a<=u->v<=b->¬selK p u v x=true:=fun u v hu hv e=>h ((hx _ _).2 (by have:=(hx _ _).1 e;omega))
   rw[List.filter_cons_of_neg (k _ _ (by omega) (by omega)),List.filter_cons_of_neg (k _ _ (by omega) (by omega)),List.filter_cons_of_neg (k _ _ (by omega) (by omega))]
   exact ih

theorem qb2{l:List En}{p a b:Int}(h:b<a):l.filter (selK p a b)=[]:=by
 rw[List.filter_eq_nil_iff];intro x _;simp[selK,keyB];omega

theorem xW{L:Nat->List En}(hg:∀k,∀y∈L k,Good y.ru)(hr:∀k,k<=2->aP (szN k) (L 0)=some (L k))(p:Int):
  ∀(k:Nat) (a b:Int),k<=2->0<=a->Eqv (((L 0).filter (selK p a b)).map z0) ((dH L p (bG k a b)).map z0)
 |0,a,b,_,_=>by
  unfold bG
  split
  ·rename_i h
   rw[qb2 h];exact Eqv.refl (by intro y hy;simp at hy)
  ·have:dH L p [(0,a,b)]=(L 0).filter (selK p a b):=by simp[dH]
   rw[this];exact Eqv.refl (oZ (jM fun y hy=>hg 0 y (List.mem_filter.1 hy).1))
 |k+1,a,b,hk2,ha=>by
  have hsz:szN (k+1)=60\/szN (k+1)=3600:=by
   rcases(show k=0\/k=1 by omega) with rfl|rfl
   ·exact .inl rfl
   ·exact .inr rfl
  unfold bG
  split
  ·rename_i h
   rw[qb2 h];exact Eqv.refl (by intro y hy;simp at hy)
  ·split
   ·exact xW hg hr p k a b (by omega) ha
   ·rename_i h1 h2
    have hr1:=hr (k+1) hk2;generalize hs:szN (k+1)=s at *;generalize hm:begN (a+s-1) s=m at *;generalize hn:begN (b+1) s=n at *
    have hm':a<=m/\m%s=0:=by
     rw[<-hm];unfold begN;rcases hsz with rfl|rfl<;>omega
    have hn':n<=b+1/\n%s=0:=by
     rw[<-hn];unfold begN;rcases hsz with rfl|rfl<;>omega
    rw[oD,oD,List.map_append,List.map_append];have i1:=xW hg hr p k a (m-1) (by omega) ha
    have i2:=xW hg hr p k n b (by omega) (by omega)
    have e3:dH L p [(k+1,m,n-1)]=(L (k+1)).filter (selK p m (n-1)):=by simp[dH]
    rw[e3];have i3:=qk6 (p:=p) (a:=m) (b:=n-1) (by rcases hsz with h|h<;>simp[h]) (hg 0) hr1 hm'.2 (by rw[show n-1+1=n by omega];exact hn'.2)
    have hP:∀(j:Nat) (u v:Int),Pos (((L j).filter (selK p u v)).map z0):=fun j u v=>oZ (jM fun y hy=>hg j y (List.mem_filter.1 hy).1)
    have p0:=(qpw (l:=L 0) (p:=p) (a:=a) (b:=b) (m:=m) (n:=n) hm'.1 (by omega) hn'.1).map z0
    rw[List.map_append,List.map_append] at p0;refine(Eqv.of_perm p0 (hP 0 a b)).trans ?_;have q2:=(i2.app (hP 0 m (n-1))).trans ((i3.app_left i2.posm));exact(i1.app ((hP 0 n b).app (hP 0 m (n-1)))).trans (q2.app_left i1.posm)

def sumC:List En->Int
 |[]=>0
 |y::r=>y.c+sumC r

theorem qn0:∀{l:List En},Pos l->0<=sumC l
 |[],_=>Int.le_refl _
 |y::r,h=>by
  have h1:=h y List.mem_cons_self;have h2:=qn0 (l:=r) fun z hz=>h z (List.mem_cons_of_mem _ hz)
  simp only[sumC];omega

theorem xH:∀{l:List En},Pos l->(l.length:Int)<=sumC l
 |[],_=>Int.le_refl _
 |y::r,h=>by
  have h1:=h y List.mem_cons_self;have h2:=xH (l:=r) fun z hz=>h z (List.mem_cons_of_mem _ hz)
  simp only[sumC,List.length_cons];omega

theorem qb0{k:Int}:∀{l:List En},Pos l->cntK k l<=sumC l
 |[],_=>Int.le_refl _
 |y::r,h=>by
  have h1:=h y List.mem_cons_self;have h2:=qb0 (k:=k) (l:=r) fun z hz=>h z (List.mem_cons_of_mem _ hz)
  simp only[sumC,cntK]
  split<;>omega

theorem qgw{x:En}:∀{l r:List En},ins l x=some r->sumC r=sumC l+x.c
 |[],r,h=>by
  cases h;simp[sumC]
 |y::l,r,h=>by
  rcases Int.lt_trichotomy x.key y.key with hk|hk|hk
  ·rw[gG hk] at h;cases h;simp only[sumC];omega
  ·rw[dS hk.symm] at h
   split at h
   ·cases h;have e:(mkE x.key (jn y.ru x.ru)).c=y.c+x.c:=rfl;simp only[sumC,e];omega
   ·cases h
  ·rw[eF hk] at h;cases hi:ins l x with
   |none=>rw[hi] at h;cases h
   |some q=>
    rw[hi] at h;cases h;have:=qgw hi;simp only[sumC];omega

theorem qb6:∀(xs o r:List En),xs.foldl insO (some o)=some r->sumC r=sumC o+sumC xs
 |[],o,r,h=>by
  cases h;simp[sumC]
 |x::xs,o,r,h=>by
  rw[List.foldl_cons] at h;cases hi:insO (some o) x with
  |none=>rw[hi,jY] at h;cases h
  |some q=>
   rw[hi] at h;have h1:=qgw (show ins o x=some q from hi);have h2:=qb6 xs q r h;simp only[sumC];omega

theorem q9b{xs r:List En}(h:allL xs=some r):sumC r=sumC xs:=by
 have:=qb6 xs [] r h
 simpa [sumC] using this

theorem q3a:∀(l:List En) (s:Ru × Int),s.2≠0->l.foldl bV s=s
 |[],_,_=>rfl
 |x::r,s,h=>by
  have e:bV s x=s:=by unfold bV;rw[if_neg h]
  rw[List.foldl_cons,e];exact q3a r s h

theorem qoy{l:List En}(hg:∀y∈l,Good y.ru):(∃r,tot l=(r,0))\/tot l=(zro,1):=by
 have h:=wK (key:=0) (l.map z0) (some []) (zro,0) (.inl ⟨rfl,rfl⟩) (fun x hx=>by
  obtain⟨y,hy,rfl⟩:=List.mem_map.1 hx;exact⟨rfl,hg y hy⟩)
 rw[qm9] at h;rcases h with⟨_,h⟩|⟨y,_,_,_,h⟩|⟨_,h⟩
 ·exact .inl ⟨_,h⟩
 ·exact .inl ⟨_,h⟩
 ·exact .inr h

theorem ql7{l:List En}{i:Nat}(h:i<l.length):tot (l.take (i+1))=bV (tot (l.take i)) l[i]:=by
 unfold tot;rw[List.take_succ_eq_append_getElem h,List.foldl_append]
 rfl

theorem qp1{l:List En}{i:Nat}(h:(tot (l.take i)).2≠0):tot l=tot (l.take i):=by
 have e:l=l.take i++l.drop i:=(List.take_append_drop i l).symm
 have:tot l=(l.drop i).foldl bV (tot (l.take i)):=by
  unfold tot;rw[<-List.foldl_append,List.take_append_drop]
 rw[this];exact q3a _ _ h

structure MaA(w wr:World)(r:Ru):Prop where
 below:Below w.heap.size w wr
 res:RowL wr w.heap.size 42 (ruV zro)
 tot:RowL wr (w.heap.size+1) 42 (ruV r)

theorem MaA.next{w wr w':World}{r:Ru}(h:MaA w wr r)(hb:Below wr.heap.size wr w'):MaA w w' r:=
 ⟨aC h.below (Nat.le_refl _) hb,h.res.below hb h.res.lt,h.tot.below hb h.tot.lt⟩

theorem MaA.start(w:World):MaA w ((w.alloc (.cells #[.int .i64 0,.int .i64 0,.int .i64 0,.int .i64 0,.int .i64 0,.int .i64 0] 42)).alloc (.cells #[.int .i64 0,.int .i64 0,.int .i64 0,.int .i64 0,.int .i64 0,.int .i64 0] 42)) zro:=by
 have s1:(w.alloc (.cells #[.int .i64 0,.int .i64 0,.int .i64 0,.int .i64 0,.int .i64 0,.int .i64 0] 42)).heap.size=w.heap.size+1:=by simp
 have r0:RowL (w.alloc (.cells #[.int .i64 0,.int .i64 0,.int .i64 0,.int .i64 0,.int .i64 0,.int .i64 0] 42)) w.heap.size 42 (ruV zro):=aG w _ _;have r1:=aG (w.alloc (.cells #[.int .i64 0,.int .i64 0,.int .i64 0,.int .i64 0,.int .i64 0,.int .i64 0] 42)) (ruV zro) 42;rw[s1] at r1;exact⟨((Below.refl _ _).alloc (Nat.le_refl _) _).alloc (by omega) _,r0.of_block (Below.heap_alloc _ _ _ (by omega)),r1⟩

theorem q8s(w:World)(g:Nat)(a b c d e f:Value){k:Nat}(hk:k≠g):((((((w.setCell ⟨g,0,none⟩ a).setCell ⟨g,1,none⟩ b).setCell ⟨g,2,none⟩ c).setCell ⟨g,3,none⟩ d).setCell ⟨g,4,none⟩ e).setCell ⟨g,5,none⟩ f).heap[k]? =w.heap[k]? :=by
 simp only[Below.heap_setCell _ _ _ _ (show k≠(⟨g,_,none⟩:Addr).block from hk)]

def vG(w:World)(g:Nat)(r:Ru):World:=(((((w.setCell ⟨g,0,none⟩ (.int .i64 r.c)).setCell ⟨g,1,none⟩ (.int .i64 r.s)).setCell ⟨g,2,none⟩ (.int .i64 r.lo)).setCell ⟨g,3,none⟩ (.int .i64 r.hi)).setCell ⟨g,4,none⟩ (.int .i64 r.t)).setCell ⟨g,5,none⟩ (.int .i64 r.l)

theorem qL{B:Nat}{w wr:World}(h:Below B w wr){g:Nat}(hg:B<=g)(r:Ru):Below B w (vG wr g r):=
 (((((h.setCell (p:=⟨g,0,none⟩) hg _).setCell (p:=⟨g,1,none⟩) hg _).setCell (p:=⟨g,2,none⟩) hg _).setCell (p:=⟨g,3,none⟩) hg _).setCell (p:=⟨g,4,none⟩) hg _).setCell (p:=⟨g,5,none⟩) hg _

theorem MaA.turn{w wr:World}{r r':Ru}(h:MaA w wr r):MaA w (vG wr (w.heap.size+1) r') r':=
 ⟨qL h.below (by omega) _,h.res.of_block (q8s _ _ _ _ _ _ _ _ (by omega)),(((((h.tot.set 0 _).set 1 _).set 2 _).set 3 _).set 4 _).set 5 _⟩

def MaTo(s:Ru × Int)(w:World)(e:Ending)(w':World):Prop:=
 e=.returned (.tuple #[.agg #[.int .i64 s.1.c,.int .i64 s.1.s,.int .i64 s.1.lo,.int .i64 s.1.hi,.int .i64 s.1.t,.int .i64 s.1.l],.int .i64 s.2])/\Below w.heap.size w w'

theorem maTo{S:Ru × Int}{r:Ru}{c:Int}{w w':World}(h:S=(r,c))(hb:Below w.heap.size w w'):MaTo S w (.returned (.tuple #[.agg #[.int .i64 r.c,.int .i64 r.s,.int .i64 r.lo,.int .i64 r.hi,.int .i64 r.t,.int .i64 r.l],.int .i64 c])) w':=by
 subst h;exact⟨rfl,hb⟩

theorem maZ{S:Ru × Int}{c:Int}{w w':World}(h:S=(zro,c))(hb:Below w.heap.size w w'):MaTo S w (.returned (.tuple #[.agg #[.int .i64 0,.int .i64 0,.int .i64 0,.int .i64 0,.int .i64 0,.int .i64 0],.int .i64 c])) w':=maTo h hb

set_option maxRecDepth 20000 in
set_option maxHeartbeats 2000000 in
theorem q6u(A:Option Addr)(C:Nat)(L:List En)(w:World)(h:aH w.heap.size w A (aB L))(hz:L.length<=1000000)(hg:∀y∈L,Good y.ru):
  Calls Tryz.prog 98 #[.slice A L.length C] w (MaTo (tot L) w):=by
 have HS:=aI (MaA.start w);obtain⟨S,hS⟩:∃S,tot L=S:=⟨_,rfl⟩;rw[hS];have HSS:=aI hS;clear hS
 go_enter Tryz.func98,Tryz.ntmps98
 go_wp2_with fail
 go_loopw [11] (fun vi wr=>∃(i:Nat) (r:Ru),i<=L.length/\vi=.int .i64 i/\Hid (tot (L.take i)=(r,0))/\MaA w wr r) (fun vi _=>L.length-(intOf vi).toNat)
 case atStart=>exact⟨0,zro,Nat.zero_le _,rfl,(by show _=_;rfl),HS.out⟩
 case round=>
  obtain⟨i,r,hi,rfl,HT,hat⟩:=hrel;have hsz:=hat.below.size;have lt1:=hat.tot.lt;clear HS
  by_cases hlt:i<L.length
  ·obtain⟨b,o,rfl,hbl,c0,c1,c2,c3,c4,c5,c6⟩:=(h.below hat.below (Nat.le_refl _)).en hlt;have hgi:=hg _ (List.getElem_mem hlt);have HN:=aI (ql7 hlt);obtain⟨x,hx⟩:∃x,L[i]=x:=⟨_,rfl⟩;rw[hx] at c0 c1 c2 c3 c4 c5 c6 hgi HN;clear hx;have lb:b<wr.heap.size:=by omega
   have q0:(0:Int)<=(i:Int):=by omega
   have q1:(i:Int)<(L.length:Int):=by omega
   have t1:=fun j=>hat.tot.cell j
   simp only[ruV] at t1;obtain⟨m1,mc,hm⟩:∃m1 mc,mrg r x.ru=(m1,mc):=⟨_,_,rfl⟩;have con:=aI fun W=>oJ r x.ru W
   rw[hm] at con;simp only at con
   have HM:Hid (tot (L.take (i+1))=(m1,mc)):=by
    show _=_;rw[HN.out,HT.out,<-hm]
    rfl
   have HA:=aI hat;clear hat HN hm
   by_cases he:mc=0
   ·subst he;have HM0:=HM;clear HM;go_wp2_with (first|(go_at_call 15;refine(con.out _).mono ?_;rintro e w5 ⟨rfl,hb5⟩;have H5:=aI ((HA.out.next ((Below.refl _ _).alloc (Nat.le_refl _) _)).next hb5);have t5:=fun j=>H5.out.tot.cell j;simp only[ruV] at t5;have f5:=fun j=>H5.out.tot.frozen j;have l5:=H5.out.tot.lt;clear hb5 t1))
    go_roundw
    case rel=>
     go_light;exact⟨i+1,m1,by omega,by go_num,HM0,H5.out.turn.next ((Below.refl _ _).alloc (Nat.le_refl _) _)⟩
    case measure=>simp[intOf];omega
   ·have hne:(mc != 0)=true:=by simpa using he
    have HZ:Hid (S=(zro,mc)):=by
     show _=_;rw[<-HSS.out];have e1:(tot (L.take (i+1))).2≠0:=by rw[HM.out];exact he
     have e2:=qp1 e1;rw[HM.out] at e2;rcases qoy hg with⟨r',h'⟩|h'
     ·rw[h'] at e2;exact absurd (Prod.mk.inj e2).2.symm he
     ·rw[h'] at e2;rw[h',(Prod.mk.inj e2).2]
    clear HM he;go_upto_region 7 with(first|(go_at_call 15;refine(con.out _).mono ?_;rintro e w5 ⟨rfl,hb5⟩;have H5:=aI ((HA.out.next ((Below.refl _ _).alloc (Nat.le_refl _) _)).next hb5);have s5:=fun j=>H5.out.res.cell j;simp only[ruV,zro] at s5;have f5:=fun j=>H5.out.res.frozen j;have l5:=H5.out.res.lt;clear hb5 t1))
    iterate 20 go_step
    refine bodyPost_ret (v:=.tuple #[.agg #[.int .i64 0,.int .i64 0,.int .i64 0,.int .i64 0,.int .i64 0,.int .i64 0],.int .i64 mc]) (by simp[results,Tryz.results98,go_sem,s5,l5]) rfl (maZ HZ.out ?_)
    exact(qL H5.out.below (Nat.le_refl _) zro).alloc (by have:=H5.out.below.size;simp[vG];omega) _
  ·obtain rfl:i=L.length:=by omega
   have hni:¬((L.length:Int)<(L.length:Int)):=by omega
   have HT':Hid (S=(r,0)):=by
    have e:=HT.out;rw[List.take_length,HSS.out] at e;exact e
   have t1:=fun j=>hat.tot.cell j
   have s1:=fun j=>hat.res.cell j
   have f1:=fun j=>hat.res.frozen j
   simp only[ruV,zro] at t1 s1;have HA:=aI hat;clear hat HT;go_wp2_with fail;exact bodyPost_ret (v:=.tuple #[.agg #[.int .i64 r.c,.int .i64 r.s,.int .i64 r.lo,.int .i64 r.hi,.int .i64 r.t,.int .i64 r.l],.int .i64 0]) (by simp[results,Tryz.results98,go_sem,s1]) rfl (maTo HT'.out (qL HA.out.below (Nat.le_refl _) r))

end
end Go.Proofs.YtlojfgdpmaigmagGreatDoor
