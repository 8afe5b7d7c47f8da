/- What comes of a list of entries whose keys do not fall, gone through once; and what a tree's walk hands to it. -/
import Derived.Test.YtlojfgdpmaigmagGreatDoorP11
import Derived.Test.YtlojfgdpmaigmagGreatDoorWithWalk
import Derived.Test.YtlojfgdpmaigmagGreatDoorP09
import Derived.Test.YtlojfgdpmaigmagGreatDoorP12
import Derived.Test.YtlojfgdpmaigmagGreatDoorP08
import Derived.Maps.OwnSet
import Derived.Maps.Views
import Derived.Maps.OwnOps
namespace Go.Proofs.YtlojfgdpmaigmagGreatDoor
section
open Go.RowKit Plain

theorem qfn{x:En}{l:List En}(h:∀z∈l,z.key<x.key):ins l x=some (l++[x]):=by
 have:=q9f (x:=x) [] h
 simpa [ins] using this

theorem qio{x y:En}{l:List En}(h:∀z∈l,z.key<x.key)(hy:y.key=x.key):ins (l++[y]) x=if y.c+x.c<=1073741824 then some (l++[mkE x.key (jn y.ru x.ru)]) else none:=by
 rw[q9f _ h,dS hy]
 split<;>simp

structure Brg(xs:List En)(i:Nat)(out:List En):Prop where
 is:allL (xs.take i)=some out
 inc:out.Pairwise fun a b=>a.key<b.key
 up:∀z∈out,∀x∈xs.drop i,z.key<=x.key
 good:∀z∈out,Good z.ru
 len:out.length<=i

theorem q6g(xs:List En):Brg xs 0 []:=⟨by simp[allL],by simp,by simp,by simp,by simp⟩

theorem qc9{xs:List En}{i:Nat}{x:En}(h:x∈xs.drop (i+1)):x∈xs.drop i:=by
 have:xs.drop (i+1)=(xs.drop i).drop 1:=by rw[List.drop_drop]
 rw[this] at h;exact List.mem_of_mem_drop h

theorem q6t{xs:List En}{i:Nat}(hi:i<xs.length):allL (xs.take (i+1))=insO (allL (xs.take i)) xs[i]:=by
 rw[List.take_succ_eq_append_getElem hi,wP]

theorem q1l{xs:List En}(hs:xs.Pairwise fun a b=>a.key<=b.key){i:Nat}(hi:i<xs.length):∀x∈xs.drop (i+1),xs[i].key<=x.key:=by
 intro x hx;obtain⟨j,hj,rfl⟩:=List.getElem_of_mem hx;rw[List.getElem_drop];exact List.pairwise_iff_getElem.1 hs i (i+1+j) hi _ (by omega)

theorem xU{xs:List En}{i:Nat}{out:List En}(hs:xs.Pairwise fun a b=>a.key<=b.key)(h:Brg xs i out)(hi:i<xs.length)(hg:Good xs[i].ru)(hn:∀l y,out=l++[y]->y.key≠xs[i].key):Brg xs (i+1) (out++[xs[i]]):=by
 have mem:xs[i]∈xs.drop i:=by rw[List.drop_eq_getElem_cons hi];exact List.mem_cons_self
 have low:∀z∈out,z.key<xs[i].key:=by
  intro z hz;rcases List.eq_nil_or_concat out with rfl|⟨l,y,rfl⟩
  ·simp at hz
  ·have hy:=h.up y (by simp) _ mem
   have hne:=hn l y (by simp)
   rcases List.mem_append.1 (by simpa using hz:z∈l++[y]) with hz|hz
   ·have:=(List.pairwise_append.1 (by simpa using h.inc:(l++[y]).Pairwise _)).2.2 z hz y (by simp)
    omega
   ·have:z=y:=by simpa using hz
    subst this;omega
 refine⟨?_,?_,?_,?_,?_⟩
 ·rw[q6t hi,h.is];exact qfn low
 ·rw[List.pairwise_append]
  exact⟨h.inc,by simp,fun a ha b hb=>by have:b=xs[i]:=by simpa using hb
                                        subst this;exact low a ha⟩
 ·intro z hz x hx;rcases List.mem_append.1 hz with hz|hz
  ·exact h.up z hz x (qc9 hx)
  ·have:z=xs[i]:=by simpa using hz
   subst this;exact q1l hs hi x hx
 ·intro z hz;rcases List.mem_append.1 hz with hz|hz
  ·exact h.good z hz
  ·have:z=xs[i]:=by simpa using hz
   subst this;exact hg
 ·have:=h.len;simp;omega

theorem qcj{xs:List En}{i:Nat}{l:List En}{y:En}(hs:xs.Pairwise fun a b=>a.key<=b.key)(h:Brg xs i (l++[y]))(hi:i<xs.length)(hg:Good xs[i].ru)(hy:y.key=xs[i].key):
  mrg y.ru xs[i].ru=(if y.c+xs[i].c<=1073741824 then(jn y.ru xs[i].ru,0) else(zro,1))/\
  (y.c+xs[i].c<=1073741824->Brg xs (i+1) (l++[mkE xs[i].key (jn y.ru xs[i].ru)]))/\(¬y.c+xs[i].c<=1073741824->allL xs=none):=by
 have low:∀z∈l,z.key<xs[i].key:=fun z hz=>by
  have:=(List.pairwise_append.1 h.inc).2.2 z hz y (by simp)
  omega
 have st:allL (xs.take (i+1))=if y.c+xs[i].c<=1073741824 then some (l++[mkE xs[i].key (jn y.ru xs[i].ru)]) else none:=by
  rw[q6t hi,h.is];exact qio low hy
 have gy:=h.good y (by simp)
 refine⟨oM gy hg,fun hc=>?_,fun hc=>?_⟩
 ·rw[if_pos hc] at st;refine⟨st,?_,?_,?_,?_⟩
  ·rw[List.pairwise_append]
   exact⟨(List.pairwise_append.1 h.inc).1,by simp,fun a ha b hb=>by have:b=mkE xs[i].key (jn y.ru xs[i].ru):=by simpa using hb
                                                                    subst this;exact low a ha⟩
  ·intro z hz x hx;rcases List.mem_append.1 hz with hz|hz
   ·exact h.up z (by simp[hz]) x (qc9 hx)
   ·have:z=mkE xs[i].key (jn y.ru xs[i].ru):=by simpa using hz
    subst this;exact q1l hs hi x hx
  ·intro z hz;rcases List.mem_append.1 hz with hz|hz
   ·exact h.good z (by simp[hz])
   ·have:z=mkE xs[i].key (jn y.ru xs[i].ru):=by simpa using hz
    subst this;exact nR gy hg hc
  ·have:=h.len;simp only[List.length_append,List.length_cons,List.length_nil] at this ⊢;omega
 ·rw[if_neg hc] at st;have e:xs=xs.take (i+1)++xs.drop (i+1):=(List.take_append_drop _ _).symm;rw[e];unfold allL at st ⊢;rw[List.foldl_append,st];exact jY _

theorem qga{xs out:List En}(h:Brg xs xs.length out):allL xs=some out:=by
 have:=h.is
 rwa [List.take_length] at this

theorem nN{w:World}{base:Nat}{e:TypeId}{size n k:Nat}{v:Value}{vs:List Value}(h:w.ownsRow base e size v n vs)(hk:v.ownBlock=some k):base<=k/\k<w.heap.size:=by
 rcases h.2 with⟨rfl,_⟩|⟨g,cap,cur,rfl,hb,hg,_⟩
 ·cases hk
 ·have:g=k:=by simpa [Value.ownBlock] using hk
  subst this;exact⟨hb,(Array.getElem?_eq_some_iff.1 hg).1⟩

theorem uX(w:World)(o:Obj)(x:En):∀j u,x.vals[j]? =some u->((w.alloc o).alloc (.cells x.vals.toArray 132)).cell? ((⟨w.heap.size+1,0,none⟩:Addr).add j)=some u:=by
 have:=qrl (w.alloc o) x
 simpa using this

theorem xX{x:En}:∀{l r:List En},(l.Pairwise fun a b=>a.key<b.key)->ins l x=some r->(r.Pairwise fun a b=>a.key<b.key)/\∀z∈r,z.key=x.key\/∃y∈l,y.key=z.key
 |[],r,_,h=>by
  cases h;exact⟨by simp,by simp⟩
 |y::l,r,hp,h=>by
  obtain⟨h1,h2⟩:=List.pairwise_cons.1 hp;rcases Int.lt_trichotomy x.key y.key with hk|hk|hk
  ·rw[gG hk] at h;cases h;refine⟨List.pairwise_cons.2 ⟨fun z hz=>?_,hp⟩,fun z hz=>?_⟩
   ·rcases List.mem_cons.1 hz with rfl|hz
    ·exact hk
    ·have:=h1 z hz;omega
   ·rcases List.mem_cons.1 hz with rfl|hz
    ·exact .inl rfl
    ·exact .inr ⟨z,hz,rfl⟩
  ·rw[dS hk.symm] at h
   split at h
   ·cases h;refine⟨List.pairwise_cons.2 ⟨fun z hz=>?_,h2⟩,fun z hz=>?_⟩
    ·rw[kD,hk];exact h1 z hz
    ·rcases List.mem_cons.1 hz with rfl|hz
     ·exact .inl rfl
     ·exact .inr ⟨z,List.mem_cons_of_mem _ hz,rfl⟩
   ·cases h
  ·rw[eF hk] at h;cases hi:ins l x with
   |none=>rw[hi] at h;cases h
   |some r'=>
    rw[hi] at h;cases h;obtain⟨q1,q2⟩:=xX h2 hi;refine⟨List.pairwise_cons.2 ⟨fun z hz=>?_,q1⟩,fun z hz=>?_⟩
    ·rcases q2 z hz with e|⟨u,hu,e⟩
     ·omega
     ·have:=h1 u hu;omega
    ·rcases List.mem_cons.1 hz with rfl|hz
     ·exact .inr ⟨z,List.mem_cons_self,rfl⟩
     ·rcases q2 z hz with e|⟨u,hu,e⟩
      ·exact .inl e
      ·exact .inr ⟨u,List.mem_cons_of_mem _ hu,e⟩

theorem qhf{x:En}:∀{l:List En},(∀z∈l,x.key<z.key)->ins l x=some (x::l)
 |[],_=>rfl
 |y::_,h=>gG (h y List.mem_cons_self)

theorem q4b{P:Int->Bool}{x:En}:∀{o o':List En},(o.Pairwise fun a b=>a.key<b.key)->ins o x=some o'->
  (P x.key=true->ins (o.filter fun z=>P z.key) x=some (o'.filter fun z=>P z.key))/\(P x.key=false->(o'.filter fun z=>P z.key)=o.filter fun z=>P z.key)
 |[],o',_,h=>by
  cases h;exact⟨fun hp=>by simp[ins,hp],fun hp=>by simp[hp]⟩
 |y::r,o',hs,h=>by
  obtain⟨h1,h2⟩:=List.pairwise_cons.1 hs;rcases Int.lt_trichotomy x.key y.key with hk|hk|hk
  ·rw[gG hk] at h;cases h;refine⟨fun hp=>?_,fun hp=>by rw[List.filter_cons_of_neg (by simp[hp])]⟩
   rw[List.filter_cons_of_pos (a:=x) (by simpa using hp)]
   refine qhf fun z hz=>?_
   rcases List.mem_cons.1 (List.mem_filter.1 hz).1 with rfl|hz
   ·exact hk
   ·have:=h1 z hz;omega
  ·rw[dS hk.symm] at h
   split at h
   ·rename_i hc
    cases h;refine⟨fun hp=>?_,fun hp=>?_⟩
    ·rw[List.filter_cons_of_pos (by rw[<-hk];exact hp),List.filter_cons_of_pos (by exact hp),dS hk.symm,if_pos hc]
    ·rw[List.filter_cons_of_neg (by rw[kD,hp];simp),List.filter_cons_of_neg (by rw[<-hk,hp];simp)]
   ·cases h
  ·rw[eF hk] at h;cases hi:ins r x with
   |none=>rw[hi] at h;cases h
   |some r'=>
    rw[hi] at h;cases h;obtain⟨q1,q2⟩:=q4b (P:=P) h2 hi;refine⟨fun hp=>?_,fun hp=>?_⟩
    ·by_cases hy:P y.key=true
     ·rw[List.filter_cons_of_pos (by exact hy),List.filter_cons_of_pos (by exact hy),eF hk,q1 hp]
      rfl
     ·rw[List.filter_cons_of_neg (by exact hy),List.filter_cons_of_neg (by exact hy),q1 hp]
    ·by_cases hy:P y.key=true
     ·rw[List.filter_cons_of_pos (by exact hy),List.filter_cons_of_pos (by exact hy),q2 hp]
     ·rw[List.filter_cons_of_neg (by exact hy),List.filter_cons_of_neg (by exact hy),q2 hp]

theorem qM{P:Int->Bool}:∀(xs o r:List En),(o.Pairwise fun a b=>a.key<b.key)->xs.foldl insO (some o)=some r->(xs.filter fun z=>P z.key).foldl insO (some (o.filter fun z=>P z.key))=some (r.filter fun z=>P z.key)
 |[],o,r,_,h=>by
  cases h;simp
 |x::xs,o,r,hs,h=>by
  rw[List.foldl_cons] at h;cases hi:insO (some o) x with
  |none=>rw[hi,jY] at h;cases h
  |some o'=>
   rw[hi] at h;have hi':ins o x=some o':=hi;have ih:=qM (P:=P) xs o' r (xX hs hi').1 h;obtain⟨q1,q2⟩:=q4b (P:=P) hs hi'
   by_cases hp:P x.key=true
   ·rw[List.filter_cons_of_pos (by exact hp),List.foldl_cons,show insO (some (o.filter fun z=>P z.key)) x=ins (o.filter fun z=>P z.key) x from rfl,q1 hp]
    exact ih
   ·rw[List.filter_cons_of_neg (by exact hp),<-q2 (by simpa using hp)]
    exact ih

end
section
open Go.RowKit Plain

structure Kept(ex:List Nat)(w w':World):Prop where
 os:w'.os=w.os
 tape:w'.tape=w.tape
 output:w'.output=w.output
 size:w.heap.size<=w'.heap.size
 block:∀k,k<w.heap.size->k∉ex->w'.heap[k]? =w.heap[k]?

section
variable {ex : List Nat} {w w' w'' : World}

theorem Kept.refl(ex:List Nat)(w:World):Kept ex w w:=⟨rfl,rfl,rfl,Nat.le_refl _,fun _ _ _=>rfl⟩
theorem Kept.trans(h:Kept ex w w')(k:Kept ex w' w''):Kept ex w w'':=
 ⟨k.os.trans h.os,k.tape.trans h.tape,k.output.trans h.output,Nat.le_trans h.size k.size,fun i hi hx=>(k.block i (Nat.lt_of_lt_of_le hi h.size) hx).trans (h.block i hi hx)⟩
theorem Kept.alloc(h:Kept ex w w')(o:Obj):Kept ex w (w'.alloc o):=
 h.trans ⟨rfl,rfl,rfl,by simp,fun k hk _=>Below.heap_alloc _ _ _ hk⟩
theorem Kept.set(h:Kept ex w w'){b j:Nat}(hb:b∈ex\/w.heap.size<=b)(v:Value):Kept ex w (w'.setCell ⟨b,j,none⟩ v):=
 ⟨h.os,h.tape,h.output,by simpa using h.size,fun k hk hx=>(Below.heap_setCell _ _ _ _ (by rintro rfl;rcases hb with hb|hb;exact hx hb;omega)).trans (h.block k hk hx)⟩
theorem Kept.drew(h:Kept ex w w'):Kept ex w w'.drew:=⟨h.os,h.tape,h.output,h.size,h.block⟩
theorem Kept.drewN(h:Kept ex w w')(n:Nat):Kept ex w (w'.drewN n):=⟨h.os,h.tape,h.output,h.size,h.block⟩
theorem Kept.of_below(h:Below w.heap.size w w'):Kept ex w w':=⟨h.os,h.tape,h.output,h.size,fun k hk _=>h.block k hk⟩
theorem Kept.below(h:Kept ex w w'){B:Nat}(hB:B<=w.heap.size)(hx:∀x∈ex,B<=x):Below B w w':=
 ⟨h.os,h.tape,h.output,h.size,fun k hk=>h.block k (by omega) (fun hm=>by have:=hx k hm;omega)⟩
theorem Kept.cell(h:Kept ex w w'){b:Nat}(o:Nat)(hb:b<w.heap.size)(hx:b∉ex):w'.cell? ⟨b,o,none⟩=w.cell? ⟨b,o,none⟩:=
 World.cell?_of_block (w:=w) (a:=⟨b,o,none⟩) (h.block b hb hx)
theorem Kept.row(h:Kept ex w w'){b:Nat}{t:TypeId}{vs:List Value}(hr:RowL w b t vs)(hx:b∉ex):RowL w' b t vs:=hr.of_block (h.block b hr.lt hx)
end

theorem qbo{v w2:World}{l1 l2:List Value}{t1 t2:TypeId}(hb:Below ((v.alloc (.cells l1.toArray t1)).alloc (.cells l2.toArray t2)).heap.size ((v.alloc (.cells l1.toArray t1)).alloc (.cells l2.toArray t2)) w2){n:Nat}(hn:n=v.heap.size):
  RowL w2 n t1 l1/\RowL w2 (n+1) t2 l2/\n+1<w2.heap.size:=by
 subst hn;have s1:(v.alloc (.cells l1.toArray t1)).heap.size=v.heap.size+1:=by simp
 have s2:((v.alloc (.cells l1.toArray t1)).alloc (.cells l2.toArray t2)).heap.size=v.heap.size+2:=by simp
 have r1:RowL ((v.alloc (.cells l1.toArray t1)).alloc (.cells l2.toArray t2)) v.heap.size t1 l1:=(aG v l1 t1).of_block (Below.heap_alloc _ _ _ (by omega))
 have r2:RowL ((v.alloc (.cells l1.toArray t1)).alloc (.cells l2.toArray t2)) (v.heap.size+1) t2 l2:=by
  have:=aG (v.alloc (.cells l1.toArray t1)) l2 t2
  rwa [s1] at this
 have hs:=hb.size;exact⟨r1.below hb (by omega),r2.below hb (by omega),by omega⟩

theorem uU(ns:List Nd)(f:Nat)(n low high:Int)(S:St):W ns (f+1) n low high S=
  if n<0\/(ns.length:Int)<=n\/high<=low\/fV S n=true then none
  else if (ns.getD n.toNat default).leaf=true then
   (if jC (ns.getD n.toNat default) low high f=true then some ((n,12-(f:Int))::S,[12-(f:Int)]) else none)
  else if jA (ns.getD n.toNat default) low high=true then Wk (W ns f) (ns.getD n.toNat default).kids (ns.getD n.toNat default).keys low high ((n,12-(f:Int))::S)
  else none:=rfl

theorem qr8{ns:List Nd}{f:Nat}{n low high:Int}{S:St}(h:n<0\/(ns.length:Int)<=n\/high<=low\/fV S n=true):W ns f n low high S=none:=by
 cases f with
 |zero=>rfl
 |succ f=>rw[uU,if_pos h]

theorem qq1{ns:List Nd}{f m:Nat}{low high:Int}{S:St}{x:Nd}(hm:m<ns.length)(hx:ns[m]=x)(hlh:low<high)(hs:fV S m=false)(hl:x.leaf=true):
  W ns (f+1) m low high S=if jC x low high f=true then some (((m:Int),12-(f:Int))::S,[12-(f:Int)]) else none:=by
 have hg:ns.getD m default=x:=by simp[hm,hx]
 rw[uU,if_neg (by simp[hs];omega)]
 simp only[Int.toNat_natCast,hg,hl,if_true]

theorem qom{ns:List Nd}{f m:Nat}{low high:Int}{S:St}{x:Nd}(hm:m<ns.length)(hx:ns[m]=x)(hlh:low<high)(hs:fV S m=false)(hl:x.leaf=false):
  W ns (f+1) m low high S=if jA x low high=true then Wk (W ns f) x.kids x.keys low high (((m:Int),12-(f:Int))::S) else none:=by
 have hg:ns.getD m default=x:=by simp[hm,hx]
 rw[uU,if_neg (by simp[hs];omega)]
 simp only[Int.toNat_natCast,hg,hl,Bool.false_eq_true,if_false]

end
section
open Go.RowKit Plain

def gotA(ns:List Nd)(key:Int):Ru × Int:=
 match allR key (key+1) (ns.flatMap Nd.lst) with
 |none=>(zro,1)
 |some []=>(zro,0)
 |some (y::_)=>(y.ru,0)
def gotP(ns:List Nd)(root key:Int):Ru × Int:=
 if aV ns root≠0 then(zro,aV ns root) else if inB key 0 1099511627775=true then gotA ns key else(zro,2)

def ruV(r:Ru):List Value:=[.int .i64 r.c,.int .i64 r.s,.int .i64 r.lo,.int .i64 r.hi,.int .i64 r.t,.int .i64 r.l]

structure KAt(bk bc:Nat)(w:World)(s:Ru × Int):Prop where
 ne:bk≠bc
 rk:RowL w bk 42 (ruV s.1)
 rc:RowL w bc 36 [.int .i64 s.2]

def bV(s:Ru × Int)(x:En):Ru × Int:=if s.2=0 then mrg s.1 x.ru else s

theorem KAt.below{bk bc:Nat}{w w':World}{s:Ru × Int}(h:KAt bk bc w s)(hb:Below w.heap.size w w'):KAt bk bc w' s:=
 ⟨h.ne,h.rk.below hb h.rk.lt,h.rc.below hb h.rc.lt⟩

theorem KAt.set{bk bc:Nat}{w:World}{s:Ru × Int}(h:KAt bk bc w s)(r:Ru)(e:Int):
  KAt bk bc (((((((w.setCell ⟨bk,0,none⟩ (.int .i64 r.c)).setCell ⟨bk,1,none⟩ (.int .i64 r.s)).setCell ⟨bk,2,none⟩ (.int .i64 r.lo)).setCell ⟨bk,3,none⟩ (.int .i64 r.hi)).setCell ⟨bk,4,none⟩ (.int .i64 r.t)).setCell ⟨bk,5,none⟩ (.int .i64 r.l)).setCell ⟨bc,0,none⟩ (.int .i64 e)) (r,e):=by
 have far:∀(W:World) (j:Nat) (v:Value),(W.setCell ⟨bk,j,none⟩ v).heap[bc]? =W.heap[bc]? :=fun W j v=>Below.heap_setCell _ _ _ _ (fun q=>h.ne q.symm)
 refine⟨h.ne,?_,?_⟩
 ·exact((((((h.rk.set 0 _).set 1 _).set 2 _).set 3 _).set 4 _).set 5 _).of_block (Below.heap_setCell _ _ _ _ h.ne)
 ·exact((((((h.rc.of_block (far _ _ _)).of_block (far _ _ _)).of_block (far _ _ _)).of_block (far _ _ _)).of_block (far _ _ _)).of_block (far _ _ _)).set 0 (.int .i64 e)

set_option maxRecDepth 20000 in
set_option maxHeartbeats 4000000 in
theorem qkt(x:En)(bk bc:Nat)(s:Ru × Int)(w:World)(h:KAt bk bc w s)(he:s.2≠0):
  Calls Tryz.prog 136 #[.agg #[.int .i64 x.key,.int .i64 x.c,.int .i64 x.s,.int .i64 x.lo,.int .i64 x.hi,.int .i64 x.t,.int .i64 x.l],.pointer (some ⟨bc,0,none⟩),.pointer (some ⟨bk,0,none⟩)] w
   fun e w'=>e=.returned (.tuple #[])/\KAt bk bc w' s/\Kept [bk,bc] w w':=by
 have ce:w.cell? ⟨bc,0,none⟩=some (.int .i64 s.2):=h.rc.cell 0;have lc:=h.rc.lt;have b0:∀o:Obj,Below w.heap.size w (w.alloc o):=fun o=>(Below.refl _ _).alloc (Nat.le_refl _) o
 have he':(s.2==0)=false:=by simpa using he
 go_enter Tryz.func136,Tryz.ntmps136
 go_wp2_with fail
 go_end0
 exact⟨rfl,h.below (b0 _),Kept.of_below (b0 _)⟩

set_option maxRecDepth 20000 in
set_option maxHeartbeats 4000000 in
theorem qfu(x:En)(bk bc:Nat)(ru:Ru)(w:World)(h:KAt bk bc w (ru,0)):
  Calls Tryz.prog 136 #[.agg #[.int .i64 x.key,.int .i64 x.c,.int .i64 x.s,.int .i64 x.lo,.int .i64 x.hi,.int .i64 x.t,.int .i64 x.l],.pointer (some ⟨bc,0,none⟩),.pointer (some ⟨bk,0,none⟩)] w
   fun e w'=>e=.returned (.tuple #[])/\KAt bk bc w' (mrg ru x.ru)/\Kept [bk,bc] w w':=by
 have ce:w.cell? ⟨bc,0,none⟩=some (.int .i64 0):=h.rc.cell 0;have c0:w.cell? ⟨bk,0,none⟩=some (.int .i64 ru.c):=h.rk.cell 0;have c1:w.cell? ⟨bk,1,none⟩=some (.int .i64 ru.s):=h.rk.cell 1;have c2:w.cell? ⟨bk,2,none⟩=some (.int .i64 ru.lo):=h.rk.cell 2;have c3:w.cell? ⟨bk,3,none⟩=some (.int .i64 ru.hi):=h.rk.cell 3;have c4:w.cell? ⟨bk,4,none⟩=some (.int .i64 ru.t):=h.rk.cell 4;have c5:w.cell? ⟨bk,5,none⟩=some (.int .i64 ru.l):=h.rk.cell 5;have lc:=h.rc.lt;have lk:=h.rk.lt;have ne:=h.ne;have ne':¬bc=bk:=fun q=>ne q.symm
 have HK:Hid (KAt bk bc w (ru,0)):=h;clear h;have b0:∀o:Obj,Below w.heap.size w (w.alloc o):=fun o=>(Below.refl _ _).alloc (Nat.le_refl _) o
 go_enter Tryz.func136,Tryz.ntmps136
 go_wp2_with (first|(go_at_call 15;refine(oJ ru x.ru _).mono ?_;rintro e w1 ⟨rfl,hb1⟩;have hbw:Below w.heap.size w w1:=aC (b0 _) (Nat.le_refl _) hb1;have K1:Hid (KAt bk bc w1 (ru,0)):=HK.out.below hbw;have d0:=fun j=>K1.out.rk.cell j;have df:=fun j=>K1.out.rk.frozen j;have e0:=fun j=>K1.out.rc.cell j;have ef:=fun j=>K1.out.rc.frozen j;simp only[ruV] at d0;clear ce c0 c1 c2 c3 c4 c5 hb1))
 go_end0
 have m1:bk∈[bk,bc]:=by simp
 have m2:bc∈[bk,bc]:=by simp
 exact⟨rfl,K1.out.set (mrg ru x.ru).1 (mrg ru x.ru).2,(((((((Kept.of_below hbw).set (.inl m1) _).set (.inl m1) _).set (.inl m1) _).set (.inl m1) _).set (.inl m1) _).set (.inl m1) _).set (.inl m2) _⟩

theorem qh0(x:En)(bk bc:Nat)(s:Ru × Int)(w:World)(h:KAt bk bc w s):
  Calls Tryz.prog 136 #[.agg #[.int .i64 x.key,.int .i64 x.c,.int .i64 x.s,.int .i64 x.lo,.int .i64 x.hi,.int .i64 x.t,.int .i64 x.l],.pointer (some ⟨bc,0,none⟩),.pointer (some ⟨bk,0,none⟩)] w
   fun e w'=>e=.returned (.tuple #[])/\KAt bk bc w' (bV s x)/\Kept [bk,bc] w w':=by
 unfold bV
 by_cases he:s.2=0
 ·rw[if_pos he];obtain⟨ru,e⟩:=s;simp only at he;subst he;exact qfu x bk bc ru w h
 ·rw[if_neg he];exact qkt x bk bc s w h he

end
section
open Go.RowKit Plain

structure Turned(X:World->Nat->Prop)(w w':World):Prop where
 os:w'.os=w.os
 tape:w'.tape=w.tape
 output:w'.output=w.output
 size:w.heap.size<=w'.heap.size
 block:∀k,k<w.heap.size->¬X w k->w'.heap[k]? =w.heap[k]?
 back:∀k,k<w.heap.size->X w' k->X w k

section
variable {X : World -> Nat -> Prop} {w w' w'' : World}
theorem Turned.refl(X:World->Nat->Prop)(w:World):Turned X w w:=⟨rfl,rfl,rfl,Nat.le_refl _,fun _ _ _=>rfl,fun _ _ h=>h⟩
theorem Turned.trans(h:Turned X w w')(k:Turned X w' w''):Turned X w w'':=
 ⟨k.os.trans h.os,k.tape.trans h.tape,k.output.trans h.output,Nat.le_trans h.size k.size,
 fun i hi hx=>(k.block i (Nat.lt_of_lt_of_le hi h.size) (fun hx'=>hx (h.back i hi hx'))).trans (h.block i hi hx),
 fun i hi hx=>h.back i hi (k.back i (Nat.lt_of_lt_of_le hi h.size) hx)⟩
theorem Turned.of_below(h:Below w.heap.size w w')(hX:∀k,X w' k->X w k):Turned X w w':=
 ⟨h.os,h.tape,h.output,h.size,fun k hk _=>h.block k hk,fun k _ hx=>hX k hx⟩
theorem Turned.below(h:Turned X w w'){B:Nat}(hB:B<=w.heap.size)(hx:∀k,X w k->B<=k):Below B w w':=
 ⟨h.os,h.tape,h.output,h.size,fun k hk=>h.block k (by omega) (fun hm=>by have:=hx k hm;omega)⟩
theorem Turned.far(h:Turned X w w'){B:Nat}(hB:B<=w.heap.size)(hx:∀k,X w k->B<=k):∀k,X w' k->B<=k:=fun k hk=>by
 by_cases hl:k<w.heap.size
 ·exact hx k (h.back k hl hk)
 ·omega
theorem Turned.row(h:Turned X w w'){b:Nat}{t:TypeId}{vs:List Value}(hr:RowL w b t vs)(hx:¬X w b):RowL w' b t vs:=hr.of_block (h.block b hr.lt hx)
end

structure Vis{σ:Type}(F:FuncId)(cap:Array Value)(I:World->σ->Prop)(X:World->Nat->Prop)(step:σ->En->σ):Prop where
 call:∀(x:En) (s:σ) (w:World),I w s->Calls Tryz.prog F (#[.agg #[.int .i64 x.key,.int .i64 x.c,.int .i64 x.s,.int .i64 x.lo,.int .i64 x.hi,.int .i64 x.t,.int .i64 x.l]]++cap) w
  fun e w'=>e=.returned (.tuple #[])/\I w' (step s x)/\Turned X w w'
 stay:∀(s:σ) (w w':World),I w s->Below w.heap.size w w'->I w' s
 same:∀(s:σ) (w w':World),I w s->Below w.heap.size w w'->∀k,X w' k->X w k
 lt:∀(s:σ) (w:World),I w s->∀k,X w k->k<w.heap.size

def XK(bk bc:Nat):World->Nat->Prop:=fun _ k=>k=bk\/k=bc

theorem visK(bk bc:Nat):Vis 136 #[.pointer (some ⟨bc,0,none⟩),.pointer (some ⟨bk,0,none⟩)] (KAt bk bc) (XK bk bc) bV where
 call x s w h:=(qh0 x bk bc s w h).mono fun e w' ⟨h1,h2,h3⟩=>⟨h1,h2,h3.os,h3.tape,h3.output,h3.size,fun k hk hx=>h3.block k hk (fun hm=>hx (by simpa [XK] using hm)),fun _ _ hx=>hx⟩
 stay _ _ _ h hb:=h.below hb
 same _ _ _ _ _ _ hx:=hx
 lt _ w h k hx:=by
  rcases hx with rfl|rfl
  ·exact h.rk.lt
  ·exact h.rc.lt

def Reach(ns:List Nd):Nat->Int->Prop
 |0,_=>False
 |f+1,n=>0<=n/\n<ns.length/\(ns.getD n.toNat default).kids.length<=(ns.getD n.toNat default).keys.length+1/\∀d∈(ns.getD n.toNat default).kids,Reach ns f d

def itK(g:Int->List En)(low high:Int)(kids keys:List Int)(pr:Option Int)(i:Nat):List En:=
 if iC low high (if i=0 then pr else keys[i-1]?) keys[i]? =true then[] else g (kids.getD i 0)

theorem wU(g:Int->List En)(low high:Int):∀(kids keys:List Int) (pr:Option Int),WlK g low high kids keys pr=(List.range kids.length).flatMap (itK g low high kids keys pr)
 |[],_,_=>by simp[WlK]
 |d::ds,keys,pr=>by
  have ih:=wU g low high ds keys.tail keys.head?
  have e:∀i,itK g low high (d::ds) keys pr (i+1)=itK g low high ds keys.tail keys.head? i:=fun i=>by
   unfold itK;cases i with
   |zero=>cases keys<;>simp
   |succ j=>cases keys<;>simp
  have e0:itK g low high (d::ds) keys pr 0=if iC low high pr keys.head? =true then[] else g d:=by
   show(if iC low high pr keys[0]? =true then[] else g d)=_
   rw[show keys[0]? =keys.head? by cases keys<;>rfl]
  rw[WlK,ih,List.length_cons,List.range_succ_eq_map,List.flatMap_cons,List.flatMap_map,e0];simp only[Nat.succ_eq_add_one,e]

theorem qp2(f:Nat->List En){i n:Nat}(h:i<=n):((List.range i).flatMap f).length<=((List.range n).flatMap f).length:=by
 obtain⟨d,rfl⟩:=Nat.le.dest h;rw[List.range_add,List.flatMap_append,List.length_append];omega

theorem qmd{g:Int->Int->Int->St->Option (St × List Int)}:∀(ds keys:List Int) (lo hi:Int) (S:St) (r:St × List Int),Wk g ds keys lo hi S=some r->∀d∈ds,∃lo' hi' S' r',g d lo' hi' S'=some r'
 |[],_,_,_,_,_,_,d,hd=>by simp at hd
 |x::ds,keys,lo,hi,S,r,hr,d,hd=>by
  unfold Wk at hr
  split at hr
  ·cases hr
  ·rename_i S1 l1 h1
   rcases List.mem_cons.1 hd with rfl|hd
   ·exact⟨_,_,_,_,h1⟩
   ·split at hr
    ·cases hr
    ·rename_i S2 l2 h2
     exact qmd ds _ _ _ _ _ h2 d hd

theorem yD{ns:List Nd}:∀(f:Nat) (n lo hi:Int) (S:St) (r:St × List Int),W ns f n lo hi S=some r->Reach ns f n:=by
 intro f
 induction f with
 |zero=>intro n lo hi S r h;cases h
 |succ f ih=>
  intro n lo hi S r h;unfold W at h
  split at h
  ·cases h
  ·rename_i hc
   refine⟨by omega,by omega,?_⟩
   split at h
   ·split at h
    ·rename_i hl
     simp only[jC,Bool.and_eq_true,List.isEmpty_iff] at hl;obtain⟨⟨⟨⟨⟨h1,h2⟩,h3⟩,_⟩,_⟩,_⟩:=hl;rw[h1,h2];simp
    ·cases h
   ·split at h
    ·rename_i hl
     simp only[jA,Bool.and_eq_true,List.isEmpty_iff,beq_iff_eq] at hl;obtain⟨⟨⟨⟨⟨h1,h2⟩,h3⟩,h4⟩,_⟩,_⟩:=hl;refine⟨by omega,fun d hd=>?_⟩
     obtain⟨_,_,_,_,q⟩:=qmd _ _ _ _ _ _ h d hd;exact ih _ _ _ _ _ q
    ·cases h

theorem nO{ns:List Nd}{root:Int}(h:aV ns root=0):∃r,W ns 12 root 0 1099511627776 []=some r:=by
 unfold aV at h
 split at h
 ·omega
 ·cases hW:W ns 12 root 0 1099511627776 [] with
  |none=>rw[hW] at h;simp at h
  |some p=>exact⟨p,rfl⟩

end
section
open Go.RowKit Plain Go.Maps

def dY(L:Int)(l:List Int):Int:=if L=0 then l.headD 0 else L

structure pG(g:Int->Int->Int->St->Option (St × List Int))(kids keys:List Int)(low high:Int)(S0:St)(L0:Int)(i:Nat)(lo:Int)(S:St)(acc:List Int)(L:Int):Prop where
 eq:Wk g kids keys low high S0=join acc (Wk g (kids.drop i) (keys.drop i) lo high S)
 same:∀x∈acc,x=L
 none:acc=[]->L=L0
 pos:acc≠[]->L≠0
 first:L0≠0->L=L0
 low:low<=lo

section
variable {g : Int -> Int -> Int -> St -> Option (St × List Int)} {kids keys : List Int} {low high lo L0 L : Int} {S0 S : St} {i : Nat} {acc : List Int}

theorem qa0(g:Int->Int->Int->St->Option (St × List Int))(kids keys:List Int)(low high:Int)(S0:St)(L0:Int):pG g kids keys low high S0 L0 0 low S0 [] L0:=
 ⟨by rw[qjq];rfl,by simp,fun _=>rfl,by simp,fun _=>rfl,Int.le_refl _⟩

theorem okL_iff{L:Int}{l:List Int}:okL L l=true↔∀x∈l,x=dY L l:=by
 simp[okL,dY]

theorem qcd(h:pG g kids keys low high S0 L0 i lo S acc L)(hi:i<kids.length)(hr:resN L (g kids[i] lo (toAt keys high i) S)=false):resN L0 (Wk g kids keys low high S0)=false:=by
 rw[h.eq,qhd hi];cases hg:g kids[i] lo (toAt keys high i) S with
 |none=>rfl
 |some p=>
  obtain⟨S1,l1⟩:=p;rw[hg] at hr;simp only[q8a];cases Wk g (kids.drop (i+1)) (keys.drop (i+1)) (toAt keys high i) high S1 with
  |none=>rfl
  |some q=>
   obtain⟨S2,l2⟩:=q;simp only[join,resN] at hr ⊢;rw[Bool.eq_false_iff] at hr ⊢;intro hok;apply hr;rw[okL_iff] at hok ⊢;intro x hx;have hx':=hok x (List.mem_append_left _ (List.mem_append_right _ hx));rw[hx']
   by_cases hacc:acc=[]
   ·have hL:=h.none hacc;subst hacc hL;cases l1 with
    |nil=>simp at hx
    |cons d r=>simp[dY]
   ·have hL:=h.pos hacc;obtain⟨y,hy⟩:=List.exists_mem_of_ne_nil _ hacc;have hy':=hok y (List.mem_append_left _ (List.mem_append_left _ hy));rw[<-hy',h.same y hy];simp[dY,hL]

theorem q3o(hd:∀d low high S S' l,g d low high S=some (S',l)->l≠[]/\∀x∈l,1<=x)(hw:∀d low high S r,g d low high S=some r->low<high)(h:pG g kids keys low high S0 L0 i lo S acc L)(hi:i<kids.length)(hr:resN L (g kids[i] lo (toAt keys high i) S)=true):
  ∃S1 l1,g kids[i] lo (toAt keys high i) S=some (S1,l1)/\okL L l1=true/\pG g kids keys low high S0 L0 (i+1) (toAt keys high i) S1 (acc++l1) (dY L l1):=by
 cases hg:g kids[i] lo (toAt keys high i) S with
 |none=>rw[hg] at hr;simp[resN] at hr
 |some p=>
  obtain⟨S1,l1⟩:=p;rw[hg] at hr;simp only[resN] at hr;have hall:=okL_iff.1 hr;obtain⟨hl,hpos⟩:=hd _ _ _ _ _ _ hg;have hlt:=hw _ _ _ _ _ hg;have hlow:=h.low;obtain⟨x,hx⟩:=List.exists_mem_of_ne_nil _ hl
  have hn0:dY L l1≠0:=by
   have:=hpos x hx;rw[hall x hx] at this;omega
  refine⟨S1,l1,rfl,hr,⟨?_,?_,fun e=>absurd (List.append_eq_nil_iff.1 e).2 hl,fun _=>hn0,fun h0=>?_,by omega⟩⟩
  ·rw[h.eq,qhd hi,hg];simp only[q8a]
  ·intro z hz;rcases List.mem_append.1 hz with hz|hz
   ·have hacc:acc≠[]:=List.ne_nil_of_mem hz;have hL:=h.pos hacc;rw[h.same z hz];simp[dY,hL]
   ·exact hall z hz
  ·have:=h.first h0;subst this;simp[dY,h0]

theorem qgs(h:pG g kids keys low high S0 L0 i lo S acc L)(hi:i=kids.length):Wk g kids keys low high S0=some (S,acc)/\resN L0 (Wk g kids keys low high S0)=true/\dY L0 acc=L:=by
 have e:Wk g kids keys low high S0=some (S,acc):=by
  rw[h.eq,hi,List.drop_length];simp[Wk,join]
 have hn:dY L0 acc=L:=by
  unfold dY
  split
  ·rename_i h0
   cases acc with
   |nil=>simp;rw[h.none rfl];exact h0.symm
   |cons d r=>simpa using h.same d List.mem_cons_self
  ·rename_i h0
   exact(h.first h0).symm
 refine⟨e,?_,hn⟩;rw[e];simp only[resN];rw[okL_iff,hn];exact h.same

end

theorem law:Keyed Tryz.prog 3:=int_keyed Tryz.underlying3
theorem yT(w:World):(zeroValue 3).run Tryz.prog w=.ok (.int .i64 0) w:=by kernel_rfl

def nV(w:World)(mb:Nat)(S:St):Prop:=
 ∃D:DataW Unit,w.ownsMap Tryz.prog 3 (plainElem Tryz.prog 3) mb S.length D/\(∀n:Int,Maps.has D (.int .i64 n)=fV S n)/\(∀p∈S,D.atKey (.int .i64 p.1) (.lit (.int .i64 0))=.lit (.int .i64 p.2))/\Maps.size D=S.length

theorem q0r{w w':World}{mb n:Nat}{D:DataW Unit}(h:w.ownsMap Tryz.prog 3 (plainElem Tryz.prog 3) mb n D)(e:w'.heap[mb]? =w.heap[mb]?):w'.ownsMap Tryz.prog 3 (plainElem Tryz.prog 3) mb n D:=by
 unfold World.ownsMap at *;rw[e];exact h

theorem nV.of_block{w w':World}{mb:Nat}{S:St}(h:nV w mb S)(e:w'.heap[mb]? =w.heap[mb]?):nV w' mb S:=by
 obtain⟨D,a,b⟩:=h;exact⟨D,q0r a e,b⟩

theorem nV.lt{w:World}{mb:Nat}{S:St}(h:nV w mb S):mb<w.heap.size:=by
 obtain⟨D,a,_⟩:=h;exact a.lt

theorem nV.look{w:World}{mb:Nat}{S:St}(h:nV w mb S){n d:Int}(hp:(n,d)∈S)(hw:(Lit.int .i64 n).wf=true):
  ∀w':World,w'.heap[mb]? =w.heap[mb]?->(Instr.lookup 166 (.map (some mb)) (.int .i64 n) false).run Tryz.prog w'=.ok (.int .i64 d) w':=by
 intro w' e;obtain⟨D,a,_,b,_⟩:=h;obtain⟨c,hrun,hat,_⟩:=(q0r a e).lookup_int law Tryz.underlying166 Tryz.underlying3 (yT _) (keyOf_int_mk Tryz.underlying3 hw);have:=(b _ hp).symm.trans hat;simp at this;subst this;exact hrun

end
section
open Go.RowKit Plain

def ansO:Option (List En)->Ru × Int
 |none=>(zro,1)
 |some []=>(zro,0)
 |some (y::_)=>(y.ru,0)

def RelO(key:Int)(o:Option (List En))(s:Ru × Int):Prop:=
 (o=some []/\s=(zro,0))\/(∃y,o=some [y]/\y.key=key/\Good y.ru/\s=(y.ru,0))\/(o=none/\s=(zro,1))

theorem qc6{key:Int}{o:Option (List En)}{s:Ru × Int}(h:RelO key o s):ansO o=s:=by
 rcases h with⟨rfl,rfl⟩|⟨y,rfl,_,_,rfl⟩|⟨rfl,rfl⟩<;>rfl

theorem qgo{key:Int}{o:Option (List En)}{s:Ru × Int}(h:RelO key o s){x:En}(hk:x.key=key)(hg:Good x.ru):RelO key (insO o x) (bV s x):=by
 rcases h with⟨rfl,rfl⟩|⟨y,rfl,hy,gy,rfl⟩|⟨rfl,rfl⟩
 ·refine .inr (.inl ⟨x,rfl,hk,hg,?_⟩);unfold bV;rw[if_pos rfl];exact uJ hg
 ·have e:insO (some [y]) x=ins [y] x:=rfl;rw[e,dS (hy.trans hk.symm)];unfold bV;rw[if_pos rfl];show RelO key _ (mrg y.ru x.ru);rw[oM gy hg]
  by_cases hc:y.c+x.c<=1073741824
  ·rw[if_pos hc,if_pos (show y.ru.c+x.ru.c<=1073741824 from hc)];exact .inr (.inl ⟨_,rfl,hk,nR gy hg hc,rfl⟩)
  ·rw[if_neg hc,if_neg (show ¬y.ru.c+x.ru.c<=1073741824 from hc)];exact .inr (.inr ⟨rfl,rfl⟩)
 ·exact .inr (.inr ⟨rfl,rfl⟩)

theorem wK{key:Int}:∀(xs:List En) (o:Option (List En)) (s:Ru × Int),RelO key o s->(∀x∈xs,x.key=key/\Good x.ru)->RelO key (xs.foldl insO o) (xs.foldl bV s)
 |[],_,_,h,_=>h
 |x::xs,o,s,h,hx=>wK xs _ _ (qgo h (hx x (by simp)).1 (hx x (by simp)).2) (fun y hy=>hx y (by simp[hy]))

set_option maxRecDepth 20000 in
set_option maxHeartbeats 4000000 in
theorem qf2{σ:Type}{I:World->σ->Prop}{X:World->Nat->Prop}{step:σ->En->σ}(bk bc:Nat)(V:Hid (Vis 136 #[.pointer (some ⟨bc,0,none⟩),.pointer (some ⟨bk,0,none⟩)] I X step))
  (b o C:Nat) (r:Int) (ps:List PN) (m B:Nat) (low high:Int) (s:σ) (w:World) (leaf:Bool) (eA:Option Addr) (eC:Nat) (ents:List En) (kA:Option Addr) (kC:Nat) (keys:List Int) (dA:Option Addr) (dC:Nat) (kids:List Int) (bA:Option Addr) (bC:Nat) (buf:List En) (g:Int->List En)
  (hm:m<ps.length) (hN:bF B w (some ⟨b,o,none⟩) ps) (hat:PnAt w b (o+m*5) ⟨leaf,eA,eC,ents,kA,kC,keys,dA,dC,kids,bA,bC,buf⟩) (ok:PN.ok B w ⟨leaf,eA,eC,ents,kA,kC,keys,dA,dC,kids,bA,bC,buf⟩)
  (hB:B<=w.heap.size) (hbl:b<B) (hX:∀k,X w k->B<=k) (hI:I w s) (hk:kids.length<=keys.length+1)
  (ih:Hid (∀d∈kids,∀(s':σ) (w':World),bF B w' (some ⟨b,o,none⟩) ps->I w' s'->B<=w'.heap.size->(∀k,X w' k->B<=k)->
   Calls Tryz.prog 80 #[.agg #[.slice (some ⟨b,o,none⟩) ps.length C,.int .i64 r],.int .i64 d,.int .i64 low,.int .i64 high,.func (Fn.func 136) #[] #[.pointer (some ⟨bc,0,none⟩),.pointer (some ⟨bk,0,none⟩)]] w'
    fun e w''=>e=.returned (.tuple #[])/\I w'' ((g d).foldl step s')/\Turned X w' w'')):
  Calls Tryz.prog 80 #[.agg #[.slice (some ⟨b,o,none⟩) ps.length C,.int .i64 r],.int .i64 (m:Int),.int .i64 low,.int .i64 high,.func (Fn.func 136) #[] #[.pointer (some ⟨bc,0,none⟩),.pointer (some ⟨bk,0,none⟩)]] w
   fun e w'=>e=.returned (.tuple #[])/\I w' ((buf.filter (inR low high)++ents.filter (inR low high)++WlK g low high kids keys none).foldl step s)/\Turned X w w':=by
 have hz:=hN.z;obtain⟨c0,c1,c2,c3,c4⟩:=hat;simp only at c0 c1 c2 c3 c4;obtain⟨e1,k1,t1,f1,-,-,-,-,ez,kz,dz,fz⟩:=ok;simp only at e1 k1 t1 f1 ez kz dz fz;have hbw:b<w.heap.size:=by omega
 have HI:Hid (I w s):=hI;have HX:Hid (∀k,X w k->B<=k):=hX;clear hI hX
 go_enter Tryz.func80,Tryz.ntmps80
 go_wp2_with fail;obtain⟨rb,rx,zz⟩:=qbo (v:=w) (l1:=[.slice (some ⟨b,o,none⟩) ps.length C,.int .i64 r]) (l2:=[.bool leaf,.slice eA ents.length eC,.slice kA keys.length kC,.slice dA kids.length dC,.slice bA buf.length bC]) (t1:=32) (t2:=138) (Below.refl _ _) rfl;have hb01:Below w.heap.size w ((w.alloc (.cells #[.slice (some ⟨b,o,none⟩) ps.length C,.int .i64 r] 32)).alloc (.cells #[.bool leaf,.slice eA ents.length eC,.slice kA keys.length kC,.slice dA kids.length dC,.slice bA buf.length bC] 138)):=two _ _;simp only[List.toArray] at rb rx zz;generalize ((w.alloc (.cells #[.slice (some ⟨b,o,none⟩) ps.length C,.int .i64 r] 32)).alloc (.cells #[.bool leaf,.slice eA ents.length eC,.slice kA keys.length kC,.slice dA kids.length dC,.slice bA buf.length bC] 138))=w1 at *;have I1:Hid (I w1 s):=V.out.stay _ _ _ HI.out hb01;have X1:Hid (∀k,X w1 k->X w k):=V.out.same _ _ _ HI.out hb01;have T01:Turned X w w1:=Turned.of_below hb01 X1.out;have nb:Hid (¬X w1 w.heap.size):=fun h=>by have:=V.out.lt _ _ HI.out _ (X1.out _ h);omega
 have nx:Hid (¬X w1 (w.heap.size+1)):=fun h=>by have:=V.out.lt _ _ HI.out _ (X1.out _ h);omega
 clear hb01 c0 c1 c2 c3 c4;have i0:∀(x y:Value) (w:World),(Instr.index 170 (.agg #[x,y]) (.int .i64 0)).run Tryz.prog w=.ok x w:=fun _ _ _=>by kernel_rfl
 have i1:∀(x y:Value) (w:World),(Instr.index 170 (.agg #[x,y]) (.int .i64 1)).run Tryz.prog w=.ok y w:=fun _ _ _=>by kernel_rfl
 go_loopw [29] (fun vi wr=>∃i:Nat,i<=2/\vi=.int .i64 i/\Hid (I wr ((if i=0 then[] else if i=1 then buf.filter (inR low high) else buf.filter (inR low high)++ents.filter (inR low high)).foldl step s))/\Turned X w1 wr) (fun vi _=>2-(intOf vi).toNat)
 case atStart=>exact⟨0,by omega,rfl,I1,Turned.refl _ _⟩
 case round=>
  obtain⟨i,hi,hv,HIr,htr⟩:=hrel;rcases(show i=0\/i=1\/i=2 by omega) with rfl|rfl|rfl
  ·obtain rfl:_=Value.int .i64 0:=hv;simp only[if_true] at HIr;go_wp2_with fail
   go_loopw [34] (fun vk wi=>∃k:Nat,k<=buf.length/\vk=.int .i64 k/\Hid (I wi (([]++(buf.take k).filter (inR low high)).foldl step s))/\Turned X w1 wi) (fun vk _=>buf.length-(intOf vk).toNat)
   case atStart=>exact⟨0,Nat.zero_le _,rfl,(by show I _ _;simpa using HIr.out),htr⟩
   case round=>
    clear HIr htr;obtain⟨k,hkl,rfl,HIr,htr⟩:=hrel;have hTw:Turned X w wr:=T01.trans htr;have hBb:Below B w wr:=hTw.below hB HX.out;have hsz:=hTw.size
    by_cases hlt:k<buf.length
    ·obtain⟨qb,qo,rfl,hqb,hqe⟩:=(f1.below hBb (Nat.le_refl _)).en hlt;obtain⟨y,hy⟩:∃y,buf[k]=y:=⟨_,rfl⟩;rw[hy] at hqe;obtain⟨q0,q1,q2,q3,q4,q5,q6⟩:=hqe;have hqr:qb<wr.heap.size:=by omega
     have HT:Hid ((buf.take (k+1)).filter (inR low high)=(buf.take k).filter (inR low high)++if inR low high y=true then[y] else[]):=by
      show _=_;rw[List.take_succ_eq_append_getElem hlt,List.filter_append,hy]
      by_cases h:inR low high y=true<;>simp[h]
     clear hy;have hbA:∀o:Obj,Below wr.heap.size wr (wr.alloc o):=fun o=>(Below.refl _ _).alloc (Nat.le_refl _) o
     by_cases hq:inR low high y=true
     ·have hq':low<=y.key/\y.key<high:=by simpa [inR] using hq
      go_wp2_with (go_at_call 136;refine(V.out.call y _ _ (V.out.stay _ _ _ HIr.out (hbA _))).mono ?_;rintro e w2 ⟨rfl,hI2,ht2⟩);refine⟨⟨k+1,hlt,by go_num,?_,htr.trans ((Turned.of_below (hbA _) (V.out.same _ _ _ HIr.out (hbA _))).trans ht2)⟩,by simp only[intOf];omega⟩
      show I _ _;rw[HT.out,if_pos hq,<-List.append_assoc,List.foldl_append];exact hI2
     ·have hq':¬(low<=y.key/\y.key<high):=by simpa [inR] using hq
      go_wp2_with fail
      all_goals (refine⟨⟨k+1,hlt,by go_num,?_,htr.trans (Turned.of_below (hbA _) (V.out.same _ _ _ HIr.out (hbA _)))⟩,by simp only[intOf];omega⟩;show I _ _;rw[HT.out,if_neg hq,List.append_nil];exact V.out.stay _ _ _ HIr.out (hbA _))
    ·go_wp2_with fail;have hke:k=buf.length:=by omega
     refine⟨⟨0+1,by omega,rfl,?_,htr⟩,by decide⟩
     show I _ _;have q:=HIr.out;rw[hke,List.take_length] at q
     simpa using q
  ·obtain rfl:_=Value.int .i64 1:=hv;simp only[if_true,Nat.one_ne_zero,if_false] at HIr;go_wp2_with fail
   go_loopw [34] (fun vk wi=>∃k:Nat,k<=ents.length/\vk=.int .i64 k/\Hid (I wi ((buf.filter (inR low high)++(ents.take k).filter (inR low high)).foldl step s))/\Turned X w1 wi) (fun vk _=>ents.length-(intOf vk).toNat)
   case atStart=>exact⟨0,Nat.zero_le _,rfl,(by show I _ _;simpa using HIr.out),htr⟩
   case round=>
    clear HIr htr;obtain⟨k,hkl,rfl,HIr,htr⟩:=hrel;have hTw:Turned X w wr:=T01.trans htr;have hBb:Below B w wr:=hTw.below hB HX.out;have hsz:=hTw.size
    by_cases hlt:k<ents.length
    ·obtain⟨qb,qo,rfl,hqb,hqe⟩:=(e1.below hBb (Nat.le_refl _)).en hlt;obtain⟨y,hy⟩:∃y,ents[k]=y:=⟨_,rfl⟩;rw[hy] at hqe;obtain⟨q0,q1,q2,q3,q4,q5,q6⟩:=hqe;have hqr:qb<wr.heap.size:=by omega
     have HT:Hid ((ents.take (k+1)).filter (inR low high)=(ents.take k).filter (inR low high)++if inR low high y=true then[y] else[]):=by
      show _=_;rw[List.take_succ_eq_append_getElem hlt,List.filter_append,hy]
      by_cases h:inR low high y=true<;>simp[h]
     clear hy;have hbA:∀o:Obj,Below wr.heap.size wr (wr.alloc o):=fun o=>(Below.refl _ _).alloc (Nat.le_refl _) o
     by_cases hq:inR low high y=true
     ·have hq':low<=y.key/\y.key<high:=by simpa [inR] using hq
      go_wp2_with (go_at_call 136;refine(V.out.call y _ _ (V.out.stay _ _ _ HIr.out (hbA _))).mono ?_;rintro e w2 ⟨rfl,hI2,ht2⟩);refine⟨⟨k+1,hlt,by go_num,?_,htr.trans ((Turned.of_below (hbA _) (V.out.same _ _ _ HIr.out (hbA _))).trans ht2)⟩,by simp only[intOf];omega⟩
      show I _ _;rw[HT.out,if_pos hq,<-List.append_assoc,List.foldl_append];exact hI2
     ·have hq':¬(low<=y.key/\y.key<high):=by simpa [inR] using hq
      go_wp2_with fail
      all_goals (refine⟨⟨k+1,hlt,by go_num,?_,htr.trans (Turned.of_below (hbA _) (V.out.same _ _ _ HIr.out (hbA _)))⟩,by simp only[intOf];omega⟩;show I _ _;rw[HT.out,if_neg hq,List.append_nil];exact V.out.stay _ _ _ HIr.out (hbA _))
    ·go_wp2_with fail;have hke:k=ents.length:=by omega
     refine⟨⟨1+1,by omega,rfl,?_,htr⟩,by decide⟩
     show I _ _;have q:=HIr.out;rw[hke,List.take_length] at q
     simpa using q
  ·obtain rfl:_=Value.int .i64 2:=hv;simp only[show ¬(2=0) by decide,show ¬(2=1) by decide,if_false] at HIr
   have rx':=htr.row rx nx.out;have y3:=rx'.cell 3;simp only[List.getElem?_cons_zero,List.getElem?_cons_succ] at y3;have hxl:=rx'.lt;have w2e:∃w2,w2=wr:=⟨_,rfl⟩;obtain⟨w2,hw2⟩:=w2e;have H2:Hid (I w2 ((buf.filter (inR low high)++ents.filter (inR low high)).foldl step s)):=by rw[hw2];exact HIr
   have T2:Turned X w1 w2:=by rw[hw2];exact htr
   go_wp2_with fail;clear y3 hxl rx';rw[<-hw2]
   go_loopw [56] (fun vi wk=>∃i:Nat,i<=kids.length/\vi=.int .i64 i/\Hid (I wk ((buf.filter (inR low high)++ents.filter (inR low high)++(List.range i).flatMap (itK g low high kids keys none)).foldl step s))/\Turned X w1 wk) (fun vi _=>kids.length-(intOf vi).toNat)
   case atStart=>exact⟨0,Nat.zero_le _,rfl,(by show I _ _;simpa using H2.out),T2⟩
   case round=>
    clear HIr htr H2 T2 hw2 w2;obtain⟨i,hi,rfl,HIr,htr⟩:=hrel;have hTw:Turned X w wr:=T01.trans htr;have hBb:Below B w wr:=hTw.below hB HX.out;have hsz:=hTw.size;have hsz1:=htr.size;have rb':=htr.row rb nb.out;have rx':=htr.row rx nx.out;have y0:=rb'.cell 0;have y1:=rb'.cell 1;have y2:=rx'.cell 2;have y3:=rx'.cell 3;simp only[List.getElem?_cons_zero,List.getElem?_cons_succ] at y0 y1 y2 y3;have hxl:=rx'.lt;have hBr:B<=wr.heap.size:=by omega
    have hwl:w.heap.size<wr.heap.size:=by omega
    have HNr:Hid (bF B wr (some ⟨b,o,none⟩) ps):=hN.below hBb (Nat.le_refl _);have HXr:Hid (∀k,X wr k->B<=k):=hTw.far hB HX.out
    by_cases hlt:i<kids.length
    ·obtain⟨qb,qo,rfl,hqb,hqc⟩:=(t1.below hBb (Nat.le_refl _)).int hlt;obtain⟨kd,hkd⟩:∃kd,kids[i]=kd:=⟨_,rfl⟩;have con:=fun w' (h1:bF B w' (some ⟨b,o,none⟩) ps) h2 h3 h4=>ih.out kd (by rw[<-hkd];exact List.getElem_mem hlt) ((buf.filter (inR low high)++ents.filter (inR low high)++(List.range i).flatMap (itK g low high kids keys none)).foldl step s) w' h1 h2 h3 h4
     rw[hkd] at hqc;have hqr:qb<wr.heap.size:=by omega
     have HT:Hid ((List.range (i+1)).flatMap (itK g low high kids keys none)=(List.range i).flatMap (itK g low high kids keys none)++itK g low high kids keys none i):=by
      show _=_;rw[List.range_succ,List.flatMap_append];simp
     have HE:Hid (itK g low high kids keys none i=if iC low high (if i=0 then none else keys[i-1]?) keys[i]? =true then[] else g kd):=by
      show _=_;unfold itK;rw[<-hkd,List.getD_eq_getElem?_getD,List.getElem?_eq_getElem hlt]
      rfl
     clear hkd ih;cases i with
     |zero=>
      by_cases hkk:0<keys.length
      ·obtain⟨zb,zo,rfl,hzb,hzc⟩:=(k1.below hBb (Nat.le_refl _)).int hkk;obtain⟨nk,hnk⟩:∃nk,keys[0]=nk:=⟨_,rfl⟩;rw[hnk] at hzc;have hzr:zb<wr.heap.size:=by omega
       have hn:keys[0]? =some nk:=by rw[List.getElem?_eq_getElem hkk,hnk]
       simp only[Nat.add_zero] at hzc hqc
       have HE':Hid (itK g low high kids keys none 0=if nk<=low then[] else g kd):=by
        show _=_;rw[HE.out];simp[iC,hn]
       clear HE
       by_cases hc:nk<=low
       ·go_wp2_with fail
        all_goals (refine⟨⟨0+1,hlt,by go_num,?_,htr⟩,by simp only[intOf];omega⟩;show I _ _;rw[HT.out,HE'.out,if_pos hc,List.append_nil];exact HIr.out)
       ·go_wp2_with (go_at_call 80;refine(con _ ?_ ?_ ?_ ?_).mono ?_;exact HNr.out;exact HIr.out;exact hBr;exact HXr.out;rintro e w2 ⟨rfl,hI2,ht2⟩);refine⟨⟨0+1,hlt,by go_num,?_,htr.trans ht2⟩,by simp only[intOf];omega⟩
        show I _ _;rw[HT.out,HE'.out,if_neg (by omega),<-List.append_assoc,List.foldl_append]
        exact hI2
      ·have hn:keys[0]? =none:=List.getElem?_eq_none (by omega)
       have hk1:(keys.length:Int)<1:=by omega
       clear hkk;simp only[Nat.add_zero] at hqc
       have HE':Hid (itK g low high kids keys none 0=g kd):=by
        show _=_;rw[HE.out];simp[iC,hn]
       clear HE;go_wp2_with (go_at_call 80;refine(con _ ?_ ?_ ?_ ?_).mono ?_;exact HNr.out;exact HIr.out;exact hBr;exact HXr.out;rintro e w2 ⟨rfl,hI2,ht2⟩);refine⟨⟨0+1,hlt,by go_num,?_,htr.trans ht2⟩,by simp only[intOf];omega⟩
       show I _ _;rw[HT.out,HE'.out,<-List.append_assoc,List.foldl_append];exact hI2
     |succ j=>
      have hjk:j<keys.length:=by omega
      obtain⟨zb,zo,rfl,hzb,hzp⟩:=(k1.below hBb (Nat.le_refl _)).int hjk;obtain⟨pv,hpv⟩:∃pv,keys[j]=pv:=⟨_,rfl⟩;rw[hpv] at hzp;have hzr:zb<wr.heap.size:=by omega
      have hp:keys[j]? =some pv:=by rw[List.getElem?_eq_getElem hjk,hpv]
      by_cases hkk:j+1<keys.length
      ·obtain⟨zb',zo',hzz,_,hzc⟩:=(k1.below hBb (Nat.le_refl _)).int hkk;obtain⟨rfl,rfl⟩:zb=zb'/\zo=zo':=by simpa using hzz
       obtain⟨nk,hnk⟩:∃nk,keys[j+1]=nk:=⟨_,rfl⟩;rw[hnk] at hzc;have hn:keys[j+1]? =some nk:=by rw[List.getElem?_eq_getElem hkk,hnk]
       have HE':Hid (itK g low high kids keys none (j+1)=if high<=pv\/nk<=low then[] else g kd):=by
        show _=_;rw[HE.out];simp[iC,hn,hp]
       clear HE
       by_cases hc:high<=pv\/nk<=low
       ·have HC:Hid (high<=pv\/nk<=low):=hc
        by_cases hc1:high<=pv<;>by_cases hc2:nk<=low<;>(try (exfalso;omega))<;>clear hc
        all_goals go_wp2_with fail
        all_goals (refine⟨⟨j+1+1,hlt,by go_num,?_,htr⟩,by simp only[intOf];omega⟩;show I _ _;rw[HT.out,HE'.out,if_pos HC.out,List.append_nil];exact HIr.out)
       ·have hc1:¬high<=pv:=by omega
        have hc2:¬nk<=low:=by omega
        have HC:Hid (¬(high<=pv\/nk<=low)):=hc;clear hc;go_wp2_with (go_at_call 80;refine(con _ ?_ ?_ ?_ ?_).mono ?_;exact HNr.out;exact HIr.out;exact hBr;exact HXr.out;rintro e w2 ⟨rfl,hI2,ht2⟩);refine⟨⟨j+1+1,hlt,by go_num,?_,htr.trans ht2⟩,by simp only[intOf];omega⟩
        show I _ _;rw[HT.out,HE'.out,if_neg HC.out,<-List.append_assoc,List.foldl_append];exact hI2
      ·have hn:keys[j+1]? =none:=List.getElem?_eq_none (by omega)
       have HE':Hid (itK g low high kids keys none (j+1)=if high<=pv then[] else g kd):=by
        show _=_;rw[HE.out];simp[iC,hn,hp]
       clear HE
       by_cases hc:high<=pv
       ·go_wp2_with fail
        all_goals (refine⟨⟨j+1+1,hlt,by go_num,?_,htr⟩,by simp only[intOf];omega⟩;show I _ _;rw[HT.out,HE'.out,if_pos hc,List.append_nil];exact HIr.out)
       ·go_wp2_with (go_at_call 80;refine(con _ ?_ ?_ ?_ ?_).mono ?_;exact HNr.out;exact HIr.out;exact hBr;exact HXr.out;rintro e w2 ⟨rfl,hI2,ht2⟩);refine⟨⟨j+1+1,hlt,by go_num,?_,htr.trans ht2⟩,by simp only[intOf];omega⟩
        show I _ _;rw[HT.out,HE'.out,if_neg (by omega),<-List.append_assoc,List.foldl_append]
        exact hI2
    ·have hie:i=kids.length:=by omega
     go_wp2_with fail
     go_end0
     refine⟨rfl,?_,hTw⟩;rw[wU,<-hie];exact HIr.out
theorem qig{σ:Type}{I:World->σ->Prop}{X:World->Nat->Prop}{step:σ->En->σ}(bk bc:Nat)(V:Vis 136 #[.pointer (some ⟨bc,0,none⟩),.pointer (some ⟨bk,0,none⟩)] I X step)
  (A:Option Addr) (C:Nat) (r:Int) (ps:List PN) (B:Nat) (low high:Int):∀(f:Nat) (n:Int) (s:σ) (w:World),Reach (ps.map PN.nd) f n->bF B w A ps->I w s->B<=w.heap.size->(∀k,X w k->B<=k)->
  Calls Tryz.prog 80 #[.agg #[.slice A ps.length C,.int .i64 r],.int .i64 n,.int .i64 low,.int .i64 high,.func (Fn.func 136) #[] #[.pointer (some ⟨bc,0,none⟩),.pointer (some ⟨bk,0,none⟩)]] w
   fun e w'=>e=.returned (.tuple #[])/\I w' ((Wl (ps.map PN.nd) low high f n).foldl step s)/\Turned X w w':=by
 intro f
 induction f with
 |zero=>intro n s w h;exact h.elim
 |succ f ih=>
  intro n s w hr hN hI hB hX;obtain⟨h0,h1,h2,h3⟩:=hr;simp only[List.length_map] at h1;obtain⟨m,rfl⟩:∃m:Nat,n=m:=⟨n.toNat,by omega⟩
  have hm:m<ps.length:=by omega
  obtain⟨b,o,rfl,hbl,hat⟩:=hN.row.pn hm;have ok:=hN.each m hm;have hg:(ps.map PN.nd).getD m default=(ps[m]).nd:=by simp[hm]
  simp only[Int.toNat_natCast,hg] at h2 h3
  have e:Wl (ps.map PN.nd) low high (f+1) (m:Int)=(ps[m]).buf.filter (inR low high)++(ps[m]).ents.filter (inR low high)++WlK (Wl (ps.map PN.nd) low high f) low high (ps[m]).kids (ps[m]).keys none:=by
   rw[Wl];simp only[Int.toNat_natCast,hg]
   rfl
  rw[e];exact qf2 bk bc V b o C r ps m B low high s w _ _ _ _ _ _ _ _ _ _ _ _ _ (Wl (ps.map PN.nd) low high f) hm hN hat ok hB hbl hX hI h2 (fun d hd s' w' a1 a2 a3 a4=>ih d s' w' (h3 d hd) a1 a2 a3 a4)

theorem qkx{ns:List Nd}{root key:Int}(h:aV ns root=0):(Wl ns key (key+1) 12 root).foldl bV (zro,0)=gotA ns key:=by
 obtain⟨r,hW⟩:=nO h;have hp:=q7j h;obtain⟨_,hok⟩:=tJ h
 have good:∀x∈ns.flatMap (fun x=>x.buf++x.ents),Good x.ru:=fun x hx=>by
  obtain⟨n,hn,hx⟩:=List.mem_flatMap.1 hx;obtain⟨i,hi,rfl⟩:=List.getElem_of_mem hn;obtain⟨_,_,g1,g2⟩:=hok i hi;rcases List.mem_append.1 hx with hx|hx
  ·exact g2 x hx
  ·exact g1 x hx
 have pl:∀l:List Nd,(l.flatMap (fun x=>x.buf++x.ents)).Perm (l.flatMap Nd.lst):=fun l=>by
  induction l with
  |nil=>simp
  |cons a l ih=>simpa [Nd.lst] using List.Perm.append (List.perm_append_comm (l₁:=a.buf) (l₂:=a.ents)) ih
 have e1:Wl ns key (key+1) 12 root=(Fl ns 12 root).filter (inR key (key+1)):=qH 12 _ _ _ _ _ hW
 have p1:(Wl ns key (key+1) 12 root).Perm ((ns.flatMap Nd.lst).filter (inR key (key+1))):=by
  rw[e1];exact(hp.trans (pl ns)).filter _
 have each:∀x∈Wl ns key (key+1) 12 root,x.key=key/\Good x.ru:=fun x hx=>by
  rw[e1] at hx;obtain⟨m,q⟩:=List.mem_filter.1 hx;have q':key<=x.key/\x.key<key+1:=by simpa [inR] using q
  exact⟨by omega,good x (hp.subset m)⟩
 have:=qc6 (wK (key:=key) (Wl ns key (key+1) 12 root) (some []) (zro,0) (.inl ⟨rfl,rfl⟩) each);rw[<-this];have e2:(Wl ns key (key+1) 12 root).foldl insO (some [])=allR key (key+1) (ns.flatMap Nd.lst):=pY p1 (fun x hx=>(good_iff.1 (each x hx).2).1.1)
 rw[e2];unfold gotA;cases allR key (key+1) (ns.flatMap Nd.lst) with
 |none=>rfl
 |some ys=>cases ys<;>rfl

end
end Go.Proofs.YtlojfgdpmaigmagGreatDoor
