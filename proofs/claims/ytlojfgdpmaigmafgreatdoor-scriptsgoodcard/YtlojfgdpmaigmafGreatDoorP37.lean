/- tree.All, and the document's AllOf: both answer 'allP'. -/
import Derived.Test.YtlojfgdpmaigmafGreatDoorP36
import Derived.Test.YtlojfgdpmaigmafGreatDoorP22
import Derived.Test.YtlojfgdpmaigmafGreatDoorP19
import Derived.Test.YtlojfgdpmaigmafGreatDoorP15
import Derived.Test.YtlojfgdpmaigmafGreatDoorP17
import Derived.Test.YtlojfgdpmaigmafGreatDoorP02
import Derived.Lib.SlicesS
import Derived.BigQuiet
import Derived.Deep.RegionHeld3
import Derived.Deep.DeepCutAuto
import Derived.Test.YtlojfgdpmaigmafGreatDoorP12
namespace Go.Proofs.YtlojfgdpmaigmafGreatDoor
section
open Go.RowKit Plain

def allP(ns:List Nd)(root low high:Int):Int × List En:=
 if q1k ns root≠0 then(q1k ns root,[]) else match allR low high (ns.flatMap Nd.lst) with
  |some ys=>(0,ys)
  |none=>(1,[])

theorem q7n{ns:List Nd}{root low high:Int}(h:q1k ns root=0):
  allL (Wl ns low high 12 root)=allR low high (ns.flatMap Nd.lst)/\(∀x∈Wl ns low high 12 root,Good x.ru)/\(Wl ns low high 12 root).length<=28000:=by
 obtain⟨r,hW⟩:=q8j h
 have hp:=qhj h
 obtain⟨hn,hok⟩:=q9b h
 have hm:∀n∈ns,qac n:=fun n hn=>by
  obtain⟨i,hi,rfl⟩:=List.getElem_of_mem hn
  exact hok i hi
 have good:∀x∈ns.flatMap (fun x=>x.buf++x.ents),Good x.ru:=fun x hx=>by
  obtain⟨n,hn,hx⟩:=List.mem_flatMap.1 hx
  obtain⟨_,_,g1,g2⟩:=hm n hn
  rcases List.mem_append.1 hx with hx|hx
  ·exact g2 x hx
  ·exact g1 x hx
 have pl:∀l:List Nd,(l.flatMap (fun x=>x.buf++x.ents)).Perm (l.flatMap Nd.lst):=fun l=>by
  induction l with
  |nil=>simp
  |cons a l ih=>simpa [Nd.lst] using List.Perm.append (List.perm_append_comm (l₁:=a.buf) (l₂:=a.ents)) ih
 have len:∀l:List Nd,(∀n∈l,qac n)->(l.flatMap (fun x=>x.buf++x.ents)).length<=l.length*14:=fun l=>by
  induction l with
  |nil=>simp
  |cons a l ih=>
   intro hl
   obtain⟨a1,a2,_,_⟩:=hl a (by simp)
   have:=ih fun n hn=>hl n (by simp[hn])
   rw[List.flatMap_cons,List.length_append,List.length_append,List.length_cons]
   omega
 have e1:Wl ns low high 12 root=(Fl ns 12 root).filter (inR low high):=ql1 12 _ _ _ _ _ hW
 have p1:(Wl ns low high 12 root).Perm ((ns.flatMap Nd.lst).filter (inR low high)):=by
  rw[e1]
  exact(hp.trans (pl ns)).filter _
 have each:∀x∈Wl ns low high 12 root,Good x.ru:=fun x hx=>by
  rw[e1] at hx
  exact good x (hp.subset (List.mem_filter.1 hx).1)
 refine⟨q6r p1 (fun x hx=>(good_iff.1 (each x hx)).1.1),each,?_⟩
 have l1:(Wl ns low high 12 root).length<=(Fl ns 12 root).length:=by
  rw[e1]
  exact List.length_filter_le _ _
 have l2:=hp.length_eq
 have l3:=len ns hm
 omega

set_option maxRecDepth 20000 in
set_option maxHeartbeats 4000000 in
theorem qyq(A:Option Addr)(C:Nat)(r low high:Int)(ps:List PN)(w:World)(hN:q0q w.heap.size w A ps)(hwf:∀p∈ps,p.wf)(hc:q1k (ps.map PN.nd) r≠0):
  Calls Tryz.prog 52 #[.agg #[.slice A ps.length C,.int .i64 r],.int .i64 low,.int .i64 high] w
   fun e w'=>e=.returned (.tuple #[.slice none 0 0,.int .i64 (q1k (ps.map PN.nd) r)])/\Below w.heap.size w w':=by
 have b0:∀o:Obj,Below w.heap.size w (w.alloc o):=fun o=>(Below.refl _ _).alloc (Nat.le_refl _) o
 obtain⟨c,hcc⟩:∃c,c=q1k (ps.map PN.nd) r:=⟨_,rfl⟩
 have con:∀w',q0q w'.heap.size w' A ps->Calls Tryz.prog 89 #[.agg #[.slice A ps.length C,.int .i64 r]] w' fun e w''=>e=.returned (.int .i64 c)/\Below w'.heap.size w' w'':=by
  intro w' h
  rw[hcc]
  exact q5b A C r ps w' h hwf
 rw[<-hcc] at hc ⊢
 clear hcc
 have hc':(c != 0)=true:=by simpa using hc
 have hc'':(c==0)=false:=by simpa using hc
 go_enter Tryz.func52,Tryz.ntmps52
 go_wp2_with (first|(go_at_call 89;refine(con _ ?_).mono ?_;exact hN.up (b0 _);rintro e w1 ⟨rfl,hb1⟩))
 exact bodyPost_ret (v:=.tuple #[.slice none 0 0,.int .i64 c]) (by simp[results,Tryz.results52,go_sem]) rfl ⟨rfl,q0e (b0 _) (Nat.le_refl _) hb1⟩

theorem qnm(l:List En):∀s:List En,l.foldl (fun s x=>s++[x]) s=s++l:=by
 induction l with
 |nil=>intro s;simp
 |cons x l ih=>intro s;simp[ih]

theorem z0a(A:Option Addr)(C:Nat)(r low high:Int)(ps:List PN)(B:Nat)(w1:World)(hN:q0q B w1 A ps)(hB:B<=w1.heap.size)(hc:q1k (ps.map PN.nd) r=0)(Wn:List En)(hW:Hid (Wl (ps.map PN.nd) low high 12 r=Wn)):
  Calls Tryz.prog 103 #[.agg #[.slice A ps.length C,.int .i64 r],.int .i64 r,.int .i64 low,.int .i64 high,.func (Fn.func 104) #[] #[.pointer (some ⟨w1.heap.size,0,none⟩)]] (w1.alloc (.cells #[.slice none 0 0] 33))
   fun e w'=>e=.returned (.tuple #[])/\(∃v,RowL w' w1.heap.size 33 [v]/\w'.ownsRow (w1.heap.size+1) 86 7 v Wn.length (q0d Wn))/\Below B w1 w'/\w1.heap.size+1<=w'.heap.size:=by
 have hb0:Below B w1 (w1.alloc (.cells #[.slice none 0 0] 33)):=(Below.refl _ _).alloc hB _
 have hr0:RowL (w1.alloc (.cells #[.slice none 0 0] 33)) w1.heap.size 33 [.slice none 0 0]:=q0b w1 _ _
 have hz0:(w1.alloc (.cells #[.slice none 0 0] 33)).heap.size=w1.heap.size+1:=by simp
 obtain⟨q,hq⟩:=q8j hc
 have hl:=(q7n (low:=low) (high:=high) hc).2.2
 have far:∀k,XL w1.heap.size (w1.alloc (.cells #[.slice none 0 0] 33)) k->B<=k:=by
  rintro k (rfl|⟨v,hv,hk⟩)
  ·exact hB
  ·obtain rfl:=hr0.one hv
   cases hk
 refine(qsm w1.heap.size (visL w1.heap.size (w1.heap.size+1)) A C r ps B low high 12 r [] _ (qgl _ _ _ _ _ _ hq) (hN.below hb0 (Nat.le_refl _)) ⟨Nat.lt_succ_self _,by omega,_,hr0,World.ownsRow_nil _ _ _ _⟩ (by omega) far (by simp;omega)).mono ?_
 rintro e w' ⟨rfl,hL,hT⟩
 rw[qnm,List.nil_append,hW.out] at hL
 exact⟨rfl,hL.row,hb0.trans (hT.below (by omega) far),hL.hz⟩

set_option maxRecDepth 20000 in
set_option maxHeartbeats 4000000 in
theorem z0s(A:Option Addr)(C:Nat)(r low high:Int)(ps:List PN)(w:World)(hN:q0q w.heap.size w A ps)(hwf:∀p∈ps,p.wf)(hc:q1k (ps.map PN.nd) r=0)(Q:Ending->World->Prop)
  (HQ:Hid (∀e w',Below w.heap.size w w'->(∀ys,allR low high ((ps.map PN.nd).flatMap Nd.lst)=some ys->∃v,e=.returned (.tuple #[v,.int .i64 0])/\w'.ownsRow w.heap.size 86 7 v ys.length (q0d ys))->(allR low high ((ps.map PN.nd).flatMap Nd.lst)=none->e=.returned (.tuple #[.slice none 0 0,.int .i64 1]))->Q e w')):
  Calls Tryz.prog 52 #[.agg #[.slice A ps.length C,.int .i64 r],.int .i64 low,.int .i64 high] w Q:=by
 have b0:∀o:Obj,Below w.heap.size w (w.alloc o):=fun o=>(Below.refl _ _).alloc (Nat.le_refl _) o
 have con:∀w',q0q w'.heap.size w' A ps->Calls Tryz.prog 89 #[.agg #[.slice A ps.length C,.int .i64 r]] w' fun e w''=>e=.returned (.int .i64 0)/\Below w'.heap.size w' w'':=by
  intro w' h
  rw[<-hc]
  exact q5b A C r ps w' h hwf
 obtain⟨Wn,hWn⟩:∃Wn,Wl (ps.map PN.nd) low high 12 r=Wn:=⟨_,rfl⟩
 have HW:Hid (Wl (ps.map PN.nd) low high 12 r=Wn):=hWn
 have hall:=q7n (low:=low) (high:=high) hc
 rw[hWn] at hall
 obtain⟨ha1,ha2,ha3⟩:=hall
 have wk:∀w1,q0q w.heap.size w1 A ps->w.heap.size<=w1.heap.size->_:=fun w1 h1 h2=>z0a A C r low high ps w.heap.size w1 h1 h2 hc Wn HW
 have br:∀v H w2,w2.ownsRow H 86 7 v Wn.length (q0d Wn)->H<=w2.heap.size->Calls Tryz.prog 105 #[v] w2 fun e w'=>Below H w2 w'/\∃v' c,e=.returned (.tuple #[v',.int .i64 c])/\Hid ((∃ys,c=0/\allR low high ((ps.map PN.nd).flatMap Nd.lst)=some ys/\w'.ownsRow H 86 7 v' ys.length (q0d ys))\/(c=1/\v'=.slice none 0 0/\allR low high ((ps.map PN.nd).flatMap Nd.lst)=none)):=by
  intro v H w2 h1 h2
  refine qr9 Wn v H w2 h1 h2 ha3 ha2 _ (fun e w' k1 k2 k3=>?_)
  rw[ha1] at k2 k3
  refine⟨k1,?_⟩
  cases hA:allR low high ((ps.map PN.nd).flatMap Nd.lst) with
  |none=>exact⟨_,_,k3 hA,.inr ⟨rfl,rfl,rfl⟩⟩
  |some ys=>
   obtain⟨v',he,ho⟩:=k2 ys hA
   exact⟨v',_,he,.inl ⟨ys,rfl,rfl,ho⟩⟩
 clear ha1 ha2 ha3 hWn HW hc
 go_enter Tryz.func52,Tryz.ntmps52
 go_wp2_with (first
  |(go_at_call 89;refine(con _ ?_).mono ?_;exact hN.up (b0 _);rintro e w1 ⟨rfl,hb1⟩;have x0:w1.cell? ⟨w.heap.size,0,none⟩=some (.slice A ps.length C):=(hb1.cell (p:=⟨w.heap.size,0,none⟩) (by simp)).trans (by simp);have x1:w1.cell? ⟨w.heap.size,1,none⟩=some (.int .i64 r):=(hb1.cell (p:=⟨w.heap.size,1,none⟩) (by simp)).trans (by simp);have z1:=sz1 hb1;have hw1:Below w.heap.size w w1:=q0e (b0 _) (Nat.le_refl _) hb1)
  |(go_at_call 103;refine(wk w1 (hN.below hw1 (Nat.le_refl _)) (Nat.le_of_lt z1)).mono ?_;rintro e w2 ⟨rfl,⟨v,hv,ho⟩,hb2,hz2⟩;have cv:w2.cell? ⟨w1.heap.size,0,none⟩=some v:=hv.cell 0;have cl:=hv.lt)
  |(go_at_call 105;refine(br v _ _ ho hz2).mono ?_;rintro e w3 ⟨hb3,v',c,rfl,hres⟩))
 have hb:Below w.heap.size w w3:=hw1.trans (hb2.trans (hb3.mono (by omega)))
 have hww:w.heap.size<=w1.heap.size+1:=by omega
 refine HQ.out (.returned (.tuple #[v',.int .i64 c])) w3 hb ?_ ?_
 ·intro ys hys
  rcases hres.out with⟨zs,rfl,h1,h2⟩|⟨_,_,h1⟩
  ·rw[h1] at hys
   cases hys
   exact⟨v',rfl,q0m h2 hww⟩
  ·rw[h1] at hys
   cases hys
 ·intro hn
  rcases hres.out with⟨zs,_,h1,_⟩|⟨rfl,rfl,_⟩
  ·rw[h1] at hn
   cases hn
  ·rfl

theorem qkh(A:Option Addr)(C:Nat)(r low high:Int)(ps:List PN)(w:World)(hN:q0q w.heap.size w A ps)(hwf:∀p∈ps,p.wf):
  Calls Tryz.prog 52 #[.agg #[.slice A ps.length C,.int .i64 r],.int .i64 low,.int .i64 high] w
   fun e w'=>Below w.heap.size w w'/\∃v,e=.returned (.tuple #[v,.int .i64 (allP (ps.map PN.nd) r low high).1])/\w'.ownsRow w.heap.size 86 7 v (allP (ps.map PN.nd) r low high).2.length (q0d (allP (ps.map PN.nd) r low high).2):=by
 unfold allP
 by_cases hc:q1k (ps.map PN.nd) r=0
 ·rw[if_neg (by simpa using hc)]
  refine z0s A C r low high ps w hN hwf hc _ (fun e w' h1 h2 h3=>⟨h1,?_⟩)
  cases hA:allR low high ((ps.map PN.nd).flatMap Nd.lst) with
  |none=>exact⟨_,h3 hA,World.ownsRow_nil _ _ _ _⟩
  |some ys=>exact h2 ys hA
 ·rw[if_pos hc]
  exact(qyq A C r low high ps w hN hwf hc).mono fun e w' ⟨h1,h2⟩=>⟨h2,_,h1,World.ownsRow_nil _ _ _ _⟩

theorem q4u(ns:List Nd)(r low high:Int):(allP ns r low high).2.length<=28000:=by
 unfold allP
 split
 ·simp
 ·rename_i hc
  have hc':q1k ns r=0:=by simpa using hc
  obtain⟨e1,g1,l1⟩:=q7n (low:=low) (high:=high) hc'
  rw[<-e1]
  cases hA:allL (Wl ns low high 12 r) with
  |none=>simp
  |some ys=>
   have:∀(xs:List En) (o:List En),(∀x∈xs,Good x.ru)->(∀y∈o,Good y.ru)->∀ys,xs.foldl insO (some o)=some ys->ys.length<=o.length+xs.length:=by
    intro xs
    induction xs with
    |nil=>intro o _ _ ys h;cases h;simp
    |cons x xs ih=>
     intro o hx ho ys h
     rw[List.foldl_cons] at h
     cases hi:insO (some o) x with
     |none=>rw[hi,q3j] at h;cases h
     |some o'=>
      rw[hi] at h
      obtain⟨q1,q2⟩:=q5g (hx x (by simp)) ho hi
      have:=ih o' (fun y hy=>hx y (by simp[hy])) q1 ys h
      simp only[List.length_cons]
      omega
   have q:=this _ [] g1 (by simp) ys hA
   simp only[List.length_nil] at q
   show ys.length<=28000
   omega

def kp(x:En):Int:=x.key/1048576
def kt(x:En):Int:=x.key%1048576
def bk(size:Int)(x:En):En:={ x with key:=x.key-kt x%size }

def q2d(n f:Int)(x:En):Bool:=decide (kp x<n)&&(decide (f<=kt x)&&decide (x.t=kt x))

def q7b(ns:List Nd)(r n f:Int):Option (List En):=
 if (allP ns r 0 1099511627776).1=0/\(allP ns r 0 1099511627776).2.all (q2d n f)=true then some (allP ns r 0 1099511627776).2 else none
def q1c(size:Int)(l:List En):Option (List En):=allL (l.map (bk size))
def q2z(size:Int)(l:List En)(ns:List Nd)(r:Int):Bool:=
 match q1c size l with
 |none=>false
 |some w=>decide ((allP ns r 0 1099511627776).1=0)&&decide (w=(allP ns r 0 1099511627776).2)
def q9c(n f:Int)(n0:List Nd)(r0:Int)(n1:List Nd)(r1:Int)(n2:List Nd)(r2:Int):Bool:=
 match q7b n0 r0 n f with
 |none=>false
 |some l=>q2z 1 l n0 r0&&(q2z 60 l n1 r1&&q2z 3600 l n2 r2)
def okN(ss:List ByteArray)(i:Nat):Bool:=q8k (ss.getD i ByteArray.empty)&& !Lib.containsS (ss.take i) (ss.getD i ByteArray.empty)
def q5j(ss:List ByteArray):Bool:=(List.range ss.length).all (okN ss)
def q2o(ss:List ByteArray)(f:Int)(n0:List Nd)(r0:Int)(n1:List Nd)(r1:Int)(n2:List Nd)(r2:Int):Bool:=
 decide (ss.length<=16)&&(inB f 0 1048575&&(decide (f%3600=0)&&(q5j ss&&q9c ss.length f n0 r0 n1 r1 n2 r2)))

theorem qg2:∀(xs:List En) (o r:List En),(o.Pairwise fun a b=>a.key<b.key)->(∀z∈o,Good z.ru)->(∀z∈xs,Good z.ru)->xs.foldl insO (some o)=some r->
  (r.Pairwise fun a b=>a.key<b.key)/\(∀z∈r,Good z.ru)/\∀z∈r,(∃y∈o,y.key=z.key)\/∃y∈xs,y.key=z.key
 |[],o,r,hp,hg,_,h=>by
  cases h
  exact⟨hp,hg,fun z hz=>.inl ⟨z,hz,rfl⟩⟩
 |x::xs,o,r,hp,hg,hx,h=>by
  rw[List.foldl_cons] at h
  cases hi:insO (some o) x with
  |none=>rw[hi,q3j] at h;cases h
  |some o'=>
   rw[hi] at h
   have hi':ins o x=some o':=hi
   obtain⟨q1,q2⟩:=qgw hp hi'
   obtain⟨q3,q4⟩:=q5g (hx x List.mem_cons_self) hg hi'
   obtain⟨e1,e2,e3⟩:=qg2 xs o' r q1 q3 (fun z hz=>hx z (List.mem_cons_of_mem _ hz)) h
   refine⟨e1,e2,fun z hz=>?_⟩
   rcases e3 z hz with⟨y,hy,e⟩|⟨y,hy,e⟩
   ·rcases q2 y hy with e'|⟨u,hu,e'⟩
    ·exact .inr ⟨x,List.mem_cons_self,by omega⟩
    ·exact .inl ⟨u,hu,by omega⟩
   ·exact .inr ⟨y,List.mem_cons_of_mem _ hy,e⟩

theorem qt2:∀(xs o:List En),((o++xs).Pairwise fun a b=>a.key<b.key)->xs.foldl insO (some o)=some (o++xs)
 |[],o,_=>by simp
 |x::xs,o,hp=>by
  have h1:∀z∈o,z.key<x.key:=fun z hz=>(List.pairwise_append.1 hp).2.2 z hz x List.mem_cons_self
  rw[List.foldl_cons,show insO (some o) x=some (o++[x]) from qs8 h1,qt2 xs (o++[x]) (by simpa using hp)]
  simp

theorem q1d{ns:List Nd}{r low high:Int}:((allP ns r low high).2.Pairwise fun a b=>a.key<b.key)/\(∀z∈(allP ns r low high).2,Good z.ru)/\∀z∈(allP ns r low high).2,0<=z.key/\z.key<1099511627776:=by
 unfold allP
 split
 ·simp
 ·rename_i hc
  have hc':q1k ns r=0:=by simpa using hc
  obtain⟨e1,g1,_⟩:=q7n (low:=low) (high:=high) hc'
  rw[<-e1]
  cases hA:allL (Wl ns low high 12 r) with
  |none=>simp
  |some ys=>
   obtain⟨q1,q2,q3⟩:=qg2 _ [] ys (by simp) (by simp) g1 hA
   refine⟨q1,q2,fun z hz=>?_⟩
   rcases q3 z hz with⟨y,hy,_⟩|⟨y,hy,e⟩
   ·simp at hy
   ·obtain⟨q,hW⟩:=q8j hc'
    rw[ql1 12 _ _ _ _ _ hW] at hy
    have:=W_in 12 _ _ _ _ _ hW y (List.mem_filter.1 hy).1
    omega

theorem qb3(ns:List Nd)(r:Int):allP ns r 0 9223372036854775807=allP ns r 0 1099511627776:=by
 unfold allP
 split
 ·rfl
 ·rename_i hc
  have hc':q1k ns r=0:=by simpa using hc
  obtain⟨e1,_,_⟩:=q7n (low:=0) (high:=9223372036854775807) hc'
  obtain⟨e2,_,_⟩:=q7n (low:=0) (high:=1099511627776) hc'
  obtain⟨q,hW⟩:=q8j hc'
  have:Wl ns 0 9223372036854775807 12 r=Wl ns 0 1099511627776 12 r:=by
   rw[ql1 12 _ _ _ _ _ hW,ql1 12 _ _ _ _ _ hW]
   refine List.filter_congr fun x hx=>?_
   have:=W_in 12 _ _ _ _ _ hW x hx
   simp only[inR]
   congr 1
   exact decide_eq_decide.2 (by omega)
  rw[<-e1,<-e2,this]

theorem qxa(x:En)(size:Int):(bk size x).key=(kp x)*1048576+(kt x-kt x%size):=by
 show x.key-x.key%1048576%size=x.key/1048576*1048576+(x.key%1048576-x.key%1048576%size)
 omega

theorem z4l{x y:En}(h:x.key<y.key){size:Int}(hs:size=60\/size=3600):(bk size x).key<=(bk size y).key:=by
 show x.key-x.key%1048576%size<=y.key-y.key%1048576%size
 have hq:x.key/1048576<=y.key/1048576:=Int.ediv_le_ediv (by decide) (Int.le_of_lt h)
 rcases hs with rfl|rfl<;>(rcases Int.lt_or_eq_of_le hq with hq|hq<;>omega)

theorem qql{l:List En}(hp:l.Pairwise fun a b=>a.key<b.key){size:Int}(hs:size=60\/size=3600):(l.map (bk size)).Pairwise fun a b=>a.key<=b.key:=by
 rw[List.pairwise_map]
 exact hp.imp fun h=>z4l h hs

theorem qsj(x:En):bk 1 x=x:=by
 unfold bk
 rw[show kt x%1=0 from Int.emod_one _]
 simp

theorem qcp{l:List En}(h:l.Pairwise fun a b=>a.key<b.key):q1c 1 l=some l:=by
 unfold q1c
 rw[show l.map (bk 1)=l by rw[List.map_congr_left (fun x _=>qsj x),List.map_id']]
 have:=qt2 l [] (by simpa using h)
 simpa [allL] using this

theorem q6t{ns:List Nd}{r n f:Int}{l:List En}(h:q7b ns r n f=some l):(allP ns r 0 1099511627776).1=0/\(allP ns r 0 1099511627776).2=l/\l.all (q2d n f)=true:=by
 unfold q7b at h
 split at h
 ·rename_i hc
  cases h
  exact⟨hc.1,rfl,hc.2⟩
 ·cases h

theorem qng{ns:List Nd}{r n f:Int}{l:List En}(h:q7b ns r n f=some l):q2z 1 l ns r=true:=by
 obtain⟨h1,h2,_⟩:=q6t h
 have hp:=(q1d (ns:=ns) (r:=r) (low:=0) (high:=1099511627776)).1
 rw[h2] at hp
 unfold q2z
 rw[qcp hp,h1,h2]
 simp

theorem z4q{x y:En}(h:¬x=y):(x.key==y.key)=false\/((x.key==y.key)=true/\(x.c==y.c)=false)\/((x.key==y.key)=true/\(x.c==y.c)=true/\(x.s==y.s)=false)\/((x.key==y.key)=true/\(x.c==y.c)=true/\(x.s==y.s)=true/\(x.lo==y.lo)=false)\/((x.key==y.key)=true/\(x.c==y.c)=true/\(x.s==y.s)=true/\(x.lo==y.lo)=true/\(x.hi==y.hi)=false)\/((x.key==y.key)=true/\(x.c==y.c)=true/\(x.s==y.s)=true/\(x.lo==y.lo)=true/\(x.hi==y.hi)=true/\(x.t==y.t)=false)\/((x.key==y.key)=true/\(x.c==y.c)=true/\(x.s==y.s)=true/\(x.lo==y.lo)=true/\(x.hi==y.hi)=true/\(x.t==y.t)=true/\(x.l==y.l)=false):=by
 obtain⟨a0,a1,a2,a3,a4,a5,a6⟩:=x
 obtain⟨b0,b1,b2,b3,b4,b5,b6⟩:=y
 simp only[En.mk.injEq] at h
 by_cases h0:a0=b0<;>by_cases h1:a1=b1<;>by_cases h2:a2=b2<;>by_cases h3:a3=b3<;>by_cases h4:a4=b4<;>by_cases h5:a5=b5<;>by_cases h6:a6=b6<;>simp_all

def q0l(A:Option Addr)(C:Nat)(ss:List ByteArray)(t0 t1 t2:TR)(f:Int):List Value:=[.slice A ss.length C,.slice t0.A t0.ps.length t0.C,.int .i64 t0.r,.slice t1.A t1.ps.length t1.C,.int .i64 t1.r,.slice t2.A t2.ps.length t2.C,.int .i64 t2.r,.int .i64 f]

theorem qfb{ns:List Nd}{r low high:Int}(h:(allP ns r 0 1099511627776).1=0):allP ns r low high=(0,(allP ns r 0 1099511627776).2.filter (inR low high)):=by
 unfold allP at h ⊢
 by_cases hc:q1k ns r=0
 ·have hc':¬q1k ns r≠0:=by simpa using hc
  rw[if_neg hc'] at h ⊢
  rw[if_neg hc']
  obtain⟨e1,_,_⟩:=q7n (low:=low) (high:=high) hc
  obtain⟨e2,_,_⟩:=q7n (low:=0) (high:=1099511627776) hc
  obtain⟨q,hW⟩:=q8j hc
  have eW:Wl ns low high 12 r=(Wl ns 0 1099511627776 12 r).filter (inR low high):=by
   rw[ql1 12 _ _ _ _ _ hW,ql1 12 _ _ _ _ _ hW,List.filter_filter]
   refine List.filter_congr fun x hx=>?_
   have:=W_in 12 _ _ _ _ _ hW x hx
   simp only[inR]
   rw[show decide (0<=x.key)=true by simpa using this.1,show decide (x.key<1099511627776)=true by simpa using this.2]
   simp
  rw[<-e1,<-e2,eW]
  rw[<-e2] at h
  cases hA:allL (Wl ns 0 1099511627776 12 r) with
  |none=>
   rw[hA] at h
   simp at h
  |some ys=>
   have:=q5d (P:=fun k=>decide (low<=k)&&decide (k<high)) (Wl ns 0 1099511627776 12 r) [] ys (by simp) hA
   rw[show allL ((Wl ns 0 1099511627776 12 r).filter (inR low high))=some (ys.filter (inR low high)) from this]
 ·rw[if_pos hc] at h
  exact absurd h hc

end
end Go.Proofs.YtlojfgdpmaigmafGreatDoor
