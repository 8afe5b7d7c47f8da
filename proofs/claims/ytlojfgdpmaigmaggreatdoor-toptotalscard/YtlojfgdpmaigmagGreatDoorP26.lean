/- tree.All, and the document's AllOf: both answer 'allP'. -/
import Derived.Test.YtlojfgdpmaigmagGreatDoorP15
import Derived.Test.YtlojfgdpmaigmagGreatDoorP21
import Derived.Test.YtlojfgdpmaigmagGreatDoorP17
import Derived.Test.YtlojfgdpmaigmagGreatDoorP14
import Derived.Test.YtlojfgdpmaigmagGreatDoorP02
import Derived.Lib.SlicesS
import Derived.BigQuiet
import Derived.Deep.RegionHeld3
import Derived.Deep.DeepCutAuto
import Derived.Test.YtlojfgdpmaigmagGreatDoorP08
import Derived.Test.YtlojfgdpmaigmagGreatDoorLays
import Derived.Shelf.Slices.Turned
namespace Go.Proofs.YtlojfgdpmaigmagGreatDoor
section
open Go.RowKit Plain

def allP(ns:List Nd)(root low high:Int):Int × List En:=
 if aV ns root≠0 then(aV ns root,[]) else match allR low high (ns.flatMap Nd.lst) with
  |some ys=>(0,ys)
  |none=>(1,[])

theorem oO{ns:List Nd}{root low high:Int}(h:aV ns root=0):
  allL (Wl ns low high 12 root)=allR low high (ns.flatMap Nd.lst)/\(∀x∈Wl ns low high 12 root,Good x.ru)/\(Wl ns low high 12 root).length<=28000:=by
 obtain⟨r,hW⟩:=nO h;have hp:=q7j h;obtain⟨hn,hok⟩:=tJ h
 have hm:∀n∈ns,nT n:=fun n hn=>by
  obtain⟨i,hi,rfl⟩:=List.getElem_of_mem hn;exact hok i hi
 have good:∀x∈ns.flatMap (fun x=>x.buf++x.ents),Good x.ru:=fun x hx=>by
  obtain⟨n,hn,hx⟩:=List.mem_flatMap.1 hx;obtain⟨_,_,g1,g2⟩:=hm n hn;rcases List.mem_append.1 hx with hx|hx
  ·exact g2 x hx
  ·exact g1 x hx
 have pl:∀l:List Nd,(l.flatMap (fun x=>x.buf++x.ents)).Perm (l.flatMap Nd.lst):=fun l=>by
  induction l with
  |nil=>simp
  |cons a l ih=>simpa [Nd.lst] using List.Perm.append (List.perm_append_comm (l₁:=a.buf) (l₂:=a.ents)) ih
 have len:∀l:List Nd,(∀n∈l,nT n)->(l.flatMap (fun x=>x.buf++x.ents)).length<=l.length*14:=fun l=>by
  induction l with
  |nil=>simp
  |cons a l ih=>
   intro hl;obtain⟨a1,a2,_,_⟩:=hl a (by simp)
   have:=ih fun n hn=>hl n (by simp[hn])
   rw[List.flatMap_cons,List.length_append,List.length_append,List.length_cons];omega
 have e1:Wl ns low high 12 root=(Fl ns 12 root).filter (inR low high):=qH 12 _ _ _ _ _ hW
 have p1:(Wl ns low high 12 root).Perm ((ns.flatMap Nd.lst).filter (inR low high)):=by
  rw[e1];exact(hp.trans (pl ns)).filter _
 have each:∀x∈Wl ns low high 12 root,Good x.ru:=fun x hx=>by
  rw[e1] at hx;exact good x (hp.subset (List.mem_filter.1 hx).1)
 refine⟨pY p1 (fun x hx=>(good_iff.1 (each x hx)).1.1),each,?_⟩
 have l1:(Wl ns low high 12 root).length<=(Fl ns 12 root).length:=by
  rw[e1];exact List.length_filter_le _ _
 have l2:=hp.length_eq;have l3:=len ns hm;omega

set_option maxRecDepth 20000 in
set_option maxHeartbeats 4000000 in
theorem qp0(A:Option Addr)(C:Nat)(r low high:Int)(ps:List PN)(w:World)(hN:bF w.heap.size w A ps)(hwf:∀p∈ps,p.wf)(hc:aV (ps.map PN.nd) r≠0):
  Calls Tryz.prog 56 #[.agg #[.slice A ps.length C,.int .i64 r],.int .i64 low,.int .i64 high] w
   fun e w'=>e=.returned (.tuple #[.slice none 0 0,.int .i64 (aV (ps.map PN.nd) r)])/\Below w.heap.size w w':=by
 have b0:∀o:Obj,Below w.heap.size w (w.alloc o):=fun o=>(Below.refl _ _).alloc (Nat.le_refl _) o
 obtain⟨c,hcc⟩:∃c,c=aV (ps.map PN.nd) r:=⟨_,rfl⟩
 have con:∀w',bF w'.heap.size w' A ps->Calls Tryz.prog 79 #[.agg #[.slice A ps.length C,.int .i64 r]] w' fun e w''=>e=.returned (.int .i64 c)/\Below w'.heap.size w' w'':=by
  intro w' h;rw[hcc];exact pK A C r ps w' h hwf
 rw[<-hcc] at hc ⊢;clear hcc;have hc':(c != 0)=true:=by simpa using hc
 have hc'':(c==0)=false:=by simpa using hc
 go_enter Tryz.func56,Tryz.ntmps56
 go_wp2_with (first|(go_at_call 79;refine(con _ ?_).mono ?_;exact hN.up (b0 _);rintro e w1 ⟨rfl,hb1⟩))
 exact bodyPost_ret (v:=.tuple #[.slice none 0 0,.int .i64 c]) (by simp[results,Tryz.results56,go_sem]) rfl ⟨rfl,aC (b0 _) (Nat.le_refl _) hb1⟩

theorem qdd(l:List En):∀s:List En,l.foldl (fun s x=>s++[x]) s=s++l:=by
 induction l with
 |nil=>intro s;simp
 |cons x l ih=>intro s;simp[ih]

theorem qmm(A:Option Addr)(C:Nat)(r low high:Int)(ps:List PN)(B:Nat)(w1:World)(hN:bF B w1 A ps)(hB:B<=w1.heap.size)(hc:aV (ps.map PN.nd) r=0)(Wn:List En)(hW:Hid (Wl (ps.map PN.nd) low high 12 r=Wn)):
  Calls Tryz.prog 80 #[.agg #[.slice A ps.length C,.int .i64 r],.int .i64 r,.int .i64 low,.int .i64 high,.func (Fn.func 81) #[] #[.pointer (some ⟨w1.heap.size,0,none⟩)]] (w1.alloc (.cells #[.slice none 0 0] 103))
   fun e w'=>e=.returned (.tuple #[])/\(∃v,RowL w' w1.heap.size 103 [v]/\w'.ownsRow (w1.heap.size+1) 132 7 v Wn.length (aB Wn))/\Below B w1 w'/\w1.heap.size+1<=w'.heap.size:=by
 have hb0:Below B w1 (w1.alloc (.cells #[.slice none 0 0] 103)):=(Below.refl _ _).alloc hB _;have hr0:RowL (w1.alloc (.cells #[.slice none 0 0] 103)) w1.heap.size 103 [.slice none 0 0]:=aG w1 _ _;have hz0:(w1.alloc (.cells #[.slice none 0 0] 103)).heap.size=w1.heap.size+1:=by simp
 obtain⟨q,hq⟩:=nO hc;have hl:=(oO (low:=low) (high:=high) hc).2.2
 have far:∀k,XL w1.heap.size (w1.alloc (.cells #[.slice none 0 0] 103)) k->B<=k:=by
  rintro k (rfl|⟨v,hv,hk⟩)
  ·exact hB
  ·obtain rfl:=hr0.one hv;cases hk
 refine(qf1 w1.heap.size (visL w1.heap.size (w1.heap.size+1)) A C r ps B low high 12 r [] _ (yD _ _ _ _ _ _ hq) (hN.below hb0 (Nat.le_refl _)) ⟨Nat.lt_succ_self _,by omega,_,hr0,World.ownsRow_nil _ _ _ _⟩ (by omega) far (by simp;omega)).mono ?_
 rintro e w' ⟨rfl,hL,hT⟩;rw[qdd,List.nil_append,hW.out] at hL;exact⟨rfl,hL.row,hb0.trans (hT.below (by omega) far),hL.hz⟩

set_option maxRecDepth 20000 in
set_option maxHeartbeats 4000000 in
theorem qr4(A:Option Addr)(C:Nat)(r low high:Int)(ps:List PN)(w:World)(hN:bF w.heap.size w A ps)(hwf:∀p∈ps,p.wf)(hc:aV (ps.map PN.nd) r=0)(Q:Ending->World->Prop)
  (HQ:Hid (∀e w',Below w.heap.size w w'->(∀ys,allR low high ((ps.map PN.nd).flatMap Nd.lst)=some ys->∃v,e=.returned (.tuple #[v,.int .i64 0])/\w'.ownsRow w.heap.size 132 7 v ys.length (aB ys))->(allR low high ((ps.map PN.nd).flatMap Nd.lst)=none->e=.returned (.tuple #[.slice none 0 0,.int .i64 1]))->Q e w')):
  Calls Tryz.prog 56 #[.agg #[.slice A ps.length C,.int .i64 r],.int .i64 low,.int .i64 high] w Q:=by
 have b0:∀o:Obj,Below w.heap.size w (w.alloc o):=fun o=>(Below.refl _ _).alloc (Nat.le_refl _) o
 have con:∀w',bF w'.heap.size w' A ps->Calls Tryz.prog 79 #[.agg #[.slice A ps.length C,.int .i64 r]] w' fun e w''=>e=.returned (.int .i64 0)/\Below w'.heap.size w' w'':=by
  intro w' h;rw[<-hc];exact pK A C r ps w' h hwf
 obtain⟨Wn,hWn⟩:∃Wn,Wl (ps.map PN.nd) low high 12 r=Wn:=⟨_,rfl⟩;have HW:Hid (Wl (ps.map PN.nd) low high 12 r=Wn):=hWn;have hall:=oO (low:=low) (high:=high) hc;rw[hWn] at hall;obtain⟨ha1,ha2,ha3⟩:=hall;have wk:∀w1,bF w.heap.size w1 A ps->w.heap.size<=w1.heap.size->_:=fun w1 h1 h2=>qmm A C r low high ps w.heap.size w1 h1 h2 hc Wn HW
 have br:∀v H w2,w2.ownsRow H 132 7 v Wn.length (aB Wn)->H<=w2.heap.size->Calls Tryz.prog 82 #[v] w2 fun e w'=>Below H w2 w'/\∃v' c,e=.returned (.tuple #[v',.int .i64 c])/\Hid ((∃ys,c=0/\allR low high ((ps.map PN.nd).flatMap Nd.lst)=some ys/\w'.ownsRow H 132 7 v' ys.length (aB ys))\/(c=1/\v'=.slice none 0 0/\allR low high ((ps.map PN.nd).flatMap Nd.lst)=none)):=by
  intro v H w2 h1 h2;refine qi8 Wn v H w2 h1 h2 ha3 ha2 _ (fun e w' k1 k2 k3=>?_)
  rw[ha1] at k2 k3;refine⟨k1,?_⟩;cases hA:allR low high ((ps.map PN.nd).flatMap Nd.lst) with
  |none=>exact⟨_,_,k3 hA,.inr ⟨rfl,rfl,rfl⟩⟩
  |some ys=>
   obtain⟨v',he,ho⟩:=k2 ys hA;exact⟨v',_,he,.inl ⟨ys,rfl,rfl,ho⟩⟩
 clear ha1 ha2 ha3 hWn HW hc
 go_enter Tryz.func56,Tryz.ntmps56
 go_wp2_with (first
  |(go_at_call 79;refine(con _ ?_).mono ?_;exact hN.up (b0 _);rintro e w1 ⟨rfl,hb1⟩;have x0:w1.cell? ⟨w.heap.size,0,none⟩=some (.slice A ps.length C):=(hb1.cell (p:=⟨w.heap.size,0,none⟩) (by simp)).trans (by simp);have x1:w1.cell? ⟨w.heap.size,1,none⟩=some (.int .i64 r):=(hb1.cell (p:=⟨w.heap.size,1,none⟩) (by simp)).trans (by simp);have z1:=sz1 hb1;have hw1:Below w.heap.size w w1:=aC (b0 _) (Nat.le_refl _) hb1)
  |(go_at_call 80;refine(wk w1 (hN.below hw1 (Nat.le_refl _)) (Nat.le_of_lt z1)).mono ?_;rintro e w2 ⟨rfl,⟨v,hv,ho⟩,hb2,hz2⟩;have cv:w2.cell? ⟨w1.heap.size,0,none⟩=some v:=hv.cell 0;have cl:=hv.lt)
  |(go_at_call 82;refine(br v _ _ ho hz2).mono ?_;rintro e w3 ⟨hb3,v',c,rfl,hres⟩))
 have hb:Below w.heap.size w w3:=hw1.trans (hb2.trans (hb3.mono (by omega)))
 have hww:w.heap.size<=w1.heap.size+1:=by omega
 refine HQ.out (.returned (.tuple #[v',.int .i64 c])) w3 hb ?_ ?_
 ·intro ys hys;rcases hres.out with⟨zs,rfl,h1,h2⟩|⟨_,_,h1⟩
  ·rw[h1] at hys;cases hys;exact⟨v',rfl,bP h2 hww⟩
  ·rw[h1] at hys;cases hys
 ·intro hn;rcases hres.out with⟨zs,_,h1,_⟩|⟨rfl,rfl,_⟩
  ·rw[h1] at hn;cases hn
  ·rfl

theorem q9v(A:Option Addr)(C:Nat)(r low high:Int)(ps:List PN)(w:World)(hN:bF w.heap.size w A ps)(hwf:∀p∈ps,p.wf):
  Calls Tryz.prog 56 #[.agg #[.slice A ps.length C,.int .i64 r],.int .i64 low,.int .i64 high] w
   fun e w'=>Below w.heap.size w w'/\∃v,e=.returned (.tuple #[v,.int .i64 (allP (ps.map PN.nd) r low high).1])/\w'.ownsRow w.heap.size 132 7 v (allP (ps.map PN.nd) r low high).2.length (aB (allP (ps.map PN.nd) r low high).2):=by
 unfold allP
 by_cases hc:aV (ps.map PN.nd) r=0
 ·rw[if_neg (by simpa using hc)]
  refine qr4 A C r low high ps w hN hwf hc _ (fun e w' h1 h2 h3=>⟨h1,?_⟩)
  cases hA:allR low high ((ps.map PN.nd).flatMap Nd.lst) with
  |none=>exact⟨_,h3 hA,World.ownsRow_nil _ _ _ _⟩
  |some ys=>exact h2 ys hA
 ·rw[if_pos hc];exact(qp0 A C r low high ps w hN hwf hc).mono fun e w' ⟨h1,h2⟩=>⟨h2,_,h1,World.ownsRow_nil _ _ _ _⟩

theorem kX(ns:List Nd)(r low high:Int):(allP ns r low high).2.length<=28000:=by
 unfold allP
 split
 ·simp
 ·rename_i hc
  have hc':aV ns r=0:=by simpa using hc
  obtain⟨e1,g1,l1⟩:=oO (low:=low) (high:=high) hc';rw[<-e1];cases hA:allL (Wl ns low high 12 r) with
  |none=>simp
  |some ys=>
   have:∀(xs:List En) (o:List En),(∀x∈xs,Good x.ru)->(∀y∈o,Good y.ru)->∀ys,xs.foldl insO (some o)=some ys->ys.length<=o.length+xs.length:=by
    intro xs
    induction xs with
    |nil=>intro o _ _ ys h;cases h;simp
    |cons x xs ih=>
     intro o hx ho ys h;rw[List.foldl_cons] at h;cases hi:insO (some o) x with
     |none=>rw[hi,jY] at h;cases h
     |some o'=>
      rw[hi] at h;obtain⟨q1,q2⟩:=mD (hx x (by simp)) ho hi
      have:=ih o' (fun y hy=>hx y (by simp[hy])) q1 ys h
      simp only[List.length_cons];omega
   have q:=this _ [] g1 (by simp) ys hA
   simp only[List.length_nil] at q;show ys.length<=28000;omega

def kp(x:En):Int:=x.key/1048576
def kt(x:En):Int:=x.key%1048576
def bk(size:Int)(x:En):En:={ x with key:=x.key-kt x%size }

def dJ(n f:Int)(x:En):Bool:=decide (kp x<n)&&(decide (f<=kt x)&&decide (x.t=kt x))

def fU(ns:List Nd)(r n f:Int):Option (List En):=
 if (allP ns r 0 1099511627776).1=0/\(allP ns r 0 1099511627776).2.all (dJ n f)=true then some (allP ns r 0 1099511627776).2 else none
def aP(size:Int)(l:List En):Option (List En):=allL (l.map (bk size))
def bW(size:Int)(l:List En)(ns:List Nd)(r:Int):Bool:=
 match aP size l with
 |none=>false
 |some w=>decide ((allP ns r 0 1099511627776).1=0)&&decide (w=(allP ns r 0 1099511627776).2)
def lG(n f:Int)(n0:List Nd)(r0:Int)(n1:List Nd)(r1:Int)(n2:List Nd)(r2:Int):Bool:=
 match fU n0 r0 n f with
 |none=>false
 |some l=>bW 1 l n0 r0&&(bW 60 l n1 r1&&bW 3600 l n2 r2)
def okN(ss:List ByteArray)(i:Nat):Bool:=gW (ss.getD i ByteArray.empty)&& !Lib.containsS (ss.take i) (ss.getD i ByteArray.empty)
def gI(ss:List ByteArray):Bool:=(List.range ss.length).all (okN ss)
def bM(ss:List ByteArray)(f:Int)(n0:List Nd)(r0:Int)(n1:List Nd)(r1:Int)(n2:List Nd)(r2:Int):Bool:=
 decide (ss.length<=16)&&(inB f 0 1048575&&(decide (f%3600=0)&&(gI ss&&lG ss.length f n0 r0 n1 r1 n2 r2)))

theorem q4z:∀(xs:List En) (o r:List En),(o.Pairwise fun a b=>a.key<b.key)->(∀z∈o,Good z.ru)->(∀z∈xs,Good z.ru)->xs.foldl insO (some o)=some r->
  (r.Pairwise fun a b=>a.key<b.key)/\(∀z∈r,Good z.ru)/\∀z∈r,(∃y∈o,y.key=z.key)\/∃y∈xs,y.key=z.key
 |[],o,r,hp,hg,_,h=>by
  cases h;exact⟨hp,hg,fun z hz=>.inl ⟨z,hz,rfl⟩⟩
 |x::xs,o,r,hp,hg,hx,h=>by
  rw[List.foldl_cons] at h;cases hi:insO (some o) x with
  |none=>rw[hi,jY] at h;cases h
  |some o'=>
   rw[hi] at h;have hi':ins o x=some o':=hi;obtain⟨q1,q2⟩:=xX hp hi';obtain⟨q3,q4⟩:=mD (hx x List.mem_cons_self) hg hi';obtain⟨e1,e2,e3⟩:=q4z xs o' r q1 q3 (fun z hz=>hx z (List.mem_cons_of_mem _ hz)) h
   refine⟨e1,e2,fun z hz=>?_⟩
   rcases e3 z hz with⟨y,hy,e⟩|⟨y,hy,e⟩
   ·rcases q2 y hy with e'|⟨u,hu,e'⟩
    ·exact .inr ⟨x,List.mem_cons_self,by omega⟩
    ·exact .inl ⟨u,hu,by omega⟩
   ·exact .inr ⟨y,List.mem_cons_of_mem _ hy,e⟩

theorem qgr:∀(xs o:List En),((o++xs).Pairwise fun a b=>a.key<b.key)->xs.foldl insO (some o)=some (o++xs)
 |[],o,_=>by simp
 |x::xs,o,hp=>by
  have h1:∀z∈o,z.key<x.key:=fun z hz=>(List.pairwise_append.1 hp).2.2 z hz x List.mem_cons_self
  rw[List.foldl_cons,show insO (some o) x=some (o++[x]) from qfn h1,qgr xs (o++[x]) (by simpa using hp)]
  simp

theorem gK{ns:List Nd}{r low high:Int}:((allP ns r low high).2.Pairwise fun a b=>a.key<b.key)/\(∀z∈(allP ns r low high).2,Good z.ru)/\∀z∈(allP ns r low high).2,0<=z.key/\z.key<1099511627776:=by
 unfold allP
 split
 ·simp
 ·rename_i hc
  have hc':aV ns r=0:=by simpa using hc
  obtain⟨e1,g1,_⟩:=oO (low:=low) (high:=high) hc';rw[<-e1];cases hA:allL (Wl ns low high 12 r) with
  |none=>simp
  |some ys=>
   obtain⟨q1,q2,q3⟩:=q4z _ [] ys (by simp) (by simp) g1 hA
   refine⟨q1,q2,fun z hz=>?_⟩
   rcases q3 z hz with⟨y,hy,_⟩|⟨y,hy,e⟩
   ·simp at hy
   ·obtain⟨q,hW⟩:=nO hc';rw[qH 12 _ _ _ _ _ hW] at hy;have:=W_in 12 _ _ _ _ _ hW y (List.mem_filter.1 hy).1;omega

theorem tZ(ns:List Nd)(r:Int):allP ns r 0 9223372036854775807=allP ns r 0 1099511627776:=by
 unfold allP
 split
 ·rfl
 ·rename_i hc
  have hc':aV ns r=0:=by simpa using hc
  obtain⟨e1,_,_⟩:=oO (low:=0) (high:=9223372036854775807) hc';obtain⟨e2,_,_⟩:=oO (low:=0) (high:=1099511627776) hc';obtain⟨q,hW⟩:=nO hc'
  have:Wl ns 0 9223372036854775807 12 r=Wl ns 0 1099511627776 12 r:=by
   rw[qH 12 _ _ _ _ _ hW,qH 12 _ _ _ _ _ hW];refine List.filter_congr fun x hx=>?_
   have:=W_in 12 _ _ _ _ _ hW x hx;simp only[inR];congr 1;exact decide_eq_decide.2 (by omega)
  rw[<-e1,<-e2,this]

theorem qll(x:En)(size:Int):(bk size x).key=(kp x)*1048576+(kt x-kt x%size):=by
 show x.key-x.key%1048576%size=x.key/1048576*1048576+(x.key%1048576-x.key%1048576%size);omega

theorem qsg{x y:En}(h:x.key<y.key){size:Int}(hs:size=60\/size=3600):(bk size x).key<=(bk size y).key:=by
 show x.key-x.key%1048576%size<=y.key-y.key%1048576%size;have hq:x.key/1048576<=y.key/1048576:=Int.ediv_le_ediv (by decide) (Int.le_of_lt h)
 rcases hs with rfl|rfl<;>(rcases Int.lt_or_eq_of_le hq with hq|hq<;>omega)

theorem qek{l:List En}(hp:l.Pairwise fun a b=>a.key<b.key){size:Int}(hs:size=60\/size=3600):(l.map (bk size)).Pairwise fun a b=>a.key<=b.key:=by
 rw[List.pairwise_map];exact hp.imp fun h=>qsg h hs

theorem qhw(x:En):bk 1 x=x:=by
 unfold bk;rw[show kt x%1=0 from Int.emod_one _];simp

theorem wV{l:List En}(h:l.Pairwise fun a b=>a.key<b.key):aP 1 l=some l:=by
 unfold aP;rw[show l.map (bk 1)=l by rw[List.map_congr_left (fun x _=>qhw x),List.map_id']]
 have:=qgr l [] (by simpa using h)
 simpa [allL] using this

theorem qA{ns:List Nd}{r n f:Int}{l:List En}(h:fU ns r n f=some l):(allP ns r 0 1099511627776).1=0/\(allP ns r 0 1099511627776).2=l/\l.all (dJ n f)=true:=by
 unfold fU at h
 split at h
 ·rename_i hc
  cases h;exact⟨hc.1,rfl,hc.2⟩
 ·cases h

theorem qb9{ns:List Nd}{r n f:Int}{l:List En}(h:fU ns r n f=some l):bW 1 l ns r=true:=by
 obtain⟨h1,h2,_⟩:=qA h;have hp:=(gK (ns:=ns) (r:=r) (low:=0) (high:=1099511627776)).1;rw[h2] at hp;unfold bW;rw[wV hp,h1,h2];simp

theorem qsf{x y:En}(h:¬x=y):(x.key==y.key)=false\/((x.key==y.key)=true/\(x.c==y.c)=false)\/((x.key==y.key)=true/\(x.c==y.c)=true/\(x.s==y.s)=false)\/((x.key==y.key)=true/\(x.c==y.c)=true/\(x.s==y.s)=true/\(x.lo==y.lo)=false)\/((x.key==y.key)=true/\(x.c==y.c)=true/\(x.s==y.s)=true/\(x.lo==y.lo)=true/\(x.hi==y.hi)=false)\/((x.key==y.key)=true/\(x.c==y.c)=true/\(x.s==y.s)=true/\(x.lo==y.lo)=true/\(x.hi==y.hi)=true/\(x.t==y.t)=false)\/((x.key==y.key)=true/\(x.c==y.c)=true/\(x.s==y.s)=true/\(x.lo==y.lo)=true/\(x.hi==y.hi)=true/\(x.t==y.t)=true/\(x.l==y.l)=false):=by
 obtain⟨a0,a1,a2,a3,a4,a5,a6⟩:=x;obtain⟨b0,b1,b2,b3,b4,b5,b6⟩:=y;simp only[En.mk.injEq] at h
 by_cases h0:a0=b0<;>by_cases h1:a1=b1<;>by_cases h2:a2=b2<;>by_cases h3:a3=b3<;>by_cases h4:a4=b4<;>by_cases h5:a5=b5<;>by_cases h6:a6=b6<;>simp_all

def aJ(A:Option Addr)(C:Nat)(ss:List ByteArray)(t0 t1 t2:TR)(f:Int):List Value:=[.slice A ss.length C,.slice t0.A t0.ps.length t0.C,.int .i64 t0.r,.slice t1.A t1.ps.length t1.C,.int .i64 t1.r,.slice t2.A t2.ps.length t2.C,.int .i64 t2.r,.int .i64 f]

theorem qgk{ss:List ByteArray}{i:Nat}(hi:i<ss.length)(h:okN ss i=false):gI ss=false:=by
 cases hn:gI ss with
 |false=>rfl
 |true=>
  unfold gI at hn;rw[List.all_eq_true] at hn;have:=hn i (by simpa using hi)
  rw[h] at this;cases this

theorem qki{ss:List ByteArray}(h:∀j,j<ss.length->okN ss j=true):gI ss=true:=by
 unfold gI;rw[List.all_eq_true];exact fun j hj=>h j (by simpa using hj)

set_option maxRecDepth 20000 in
set_option maxHeartbeats 1000000 in
theorem q2n(A:Option Addr)(C:Nat)(ss:List ByteArray)(w:World)(h:dW w.heap.size w A ss)(hC:ss.length<=C):
  Calls Tryz.prog 75 #[.slice A ss.length C] w fun e w'=>e=.returned (.bool (decide (ss.length<=16)&&gI ss))/\w'=w:=by
 obtain⟨nb,hnb⟩:∃nb,nb=(decide (ss.length<=16)&&gI ss):=⟨_,rfl⟩;have HN:Hid (nb=(decide (ss.length<=16)&&gI ss)):=hnb;rw[<-hnb];clear hnb;have hz:=h.z;have con:∀(b o i:Nat) (x:ByteArray) (W:World),i<=ss.length->(∀j,j<ss.length->W.cell? ⟨b,o+j,none⟩=some (.string (ss.getD j ByteArray.empty)))->Calls Tryz.prog 105 #[.slice (some ⟨b,o,none⟩) i C,.string x] W fun e w'=>e=.returned (.bool (Lib.containsS (ss.take i) x))/\w'=W:=fun b o i x W hi hc=>Any.slices_Contains_string Tryz.containsS b o i C ss x W hi (by omega) hc
 by_cases h16:ss.length<=16
 ·have h16':¬(16<(ss.length:Int)):=by omega
  go_enter Tryz.func75,Tryz.ntmps75
  go_wp2_with fail
  go_loopw [10] (fun vi wr=>∃k:Nat,k<=ss.length/\vi=.int .i64 k/\Hid (∀j,j<k->okN ss j=true)/\wr=w) (fun vi _=>ss.length-(intOf vi).toNat)
  case atStart=>exact⟨0,Nat.zero_le _,rfl,(fun j hj=>by omega),rfl⟩
  case round=>
   obtain⟨k,hk,rfl,HA,hw⟩:=hrel;subst hw
   by_cases hlt:k<ss.length
   ·obtain⟨b,o,rfl,hbl,hc,hcs⟩:=h.row.str hlt
    have HE:Hid (okN ss k=(gW ss[k]&& !Lib.containsS (ss.take k) ss[k])):=by
     show _=_;unfold okN;rw[show ss.getD k ByteArray.empty=ss[k] by rw[List.getD_eq_getElem?_getD,List.getElem?_eq_getElem hlt];rfl]
    have HB:Hid (okN ss k=true->∀j,j<k+1->okN ss j=true):=fun q j hj=>by
     by_cases e:j=k
     ·subst e;exact q
     ·exact HA.out j (by omega)
    have HF:Hid (okN ss k=false->nb=false):=fun q=>by
     rw[HN.out,qgk hlt q];simp
    have cc:=con b o k ss[k] wr (by omega) hcs
    have nm:=qcl ss[k] wr;generalize ss[k]=s at *;have h0k:(0:Int)<=(k:Int):=by omega
    have hkC:(k:Int)<=(C:Int):=by omega
    cases hn:gW s with
    |false=>
     have H1:Hid (nb=false):=HF.out (by rw[HE.out,hn];rfl)
     simp only[hn] at nm;clear HE HB HF cc con hcs;go_wp2_with (first|(go_at_call 104;refine nm.mono ?_;rintro e w1 ⟨rfl,hw1⟩;subst w1))
     go_ret;exact⟨by rw[H1.out];rfl,rfl⟩
    |true=>
     simp only[hn] at nm;cases hcn:Lib.containsS (ss.take k) s with
     |true=>
      have H1:Hid (nb=false):=HF.out (by rw[HE.out,hn,hcn];rfl)
      simp only[hcn] at cc;clear HE HB HF con hcs;go_wp2_with (first|(go_at_call 104;refine nm.mono ?_;rintro e w1 ⟨rfl,hw1⟩;subst w1)|(go_at_call 105;refine cc.mono ?_;rintro e w1 ⟨rfl,hw1⟩;subst w1))
      go_ret;exact⟨by rw[H1.out];rfl,rfl⟩
     |false=>
      have H1:Hid (∀j,j<k+1->okN ss j=true):=HB.out (by rw[HE.out,hn,hcn];rfl)
      simp only[hcn] at cc;clear HE HB HF con hcs;go_wp2_with (first|(go_at_call 104;refine nm.mono ?_;rintro e w1 ⟨rfl,hw1⟩;subst w1)|(go_at_call 105;refine cc.mono ?_;rintro e w1 ⟨rfl,hw1⟩;subst w1))
      exact⟨⟨k+1,hlt,by go_num,H1,by trivial⟩,by simp only[intOf];omega⟩
   ·have HT:Hid (nb=true):=by
     show nb=true;rw[HN.out,qki (fun j hj=>HA.out j (by omega)),show decide (ss.length<=16)=true by simpa using h16]
     rfl
    go_wp2_with fail;go_ret;exact⟨by rw[HT.out];rfl,rfl⟩
 ·have HF:Hid (nb=false):=by
   show nb=false;rw[HN.out,show decide (ss.length<=16)=false by simpa using h16]
   rfl
  have h16':16<(ss.length:Int):=by omega
  go_enter Tryz.func75,Tryz.ntmps75
  go_wp2_with fail;go_ret;exact⟨by rw[HF.out];rfl,rfl⟩

set_option maxHeartbeats 1000000 in
theorem xA(A:Option Addr)(C:Nat)(r:Int)(ps:List PN)(w:World)(hN:bF w.heap.size w A ps)(hwf:∀p∈ps,p.wf):
  Calls Tryz.prog 106 #[.agg #[.slice A ps.length C,.int .i64 r]] w
   fun e w'=>Below w.heap.size w w'/\∃v,e=.returned (.tuple #[v,.int .i64 (allP (ps.map PN.nd) r 0 1099511627776).1])/\w'.ownsRow w.heap.size 132 7 v (allP (ps.map PN.nd) r 0 1099511627776).2.length (aB (allP (ps.map PN.nd) r 0 1099511627776).2):=by
 have g:=fun w' hN=>q9v A C r 0 9223372036854775807 ps w' hN hwf
 simp only[tZ] at g;generalize allP (ps.map PN.nd) r 0 1099511627776=P at g;obtain⟨c,L⟩:=P;simp only at g;have b0:∀o:Obj,Below w.heap.size w (w.alloc o):=fun o=>(Below.refl _ _).alloc (Nat.le_refl _) o
 go_enter Tryz.func106,Tryz.ntmps106
 go_wp2_with (go_at_call 56;refine(g _ (hN.up (b0 _))).mono ?_;rintro e w1 ⟨hb1,v,rfl,ho⟩);exact bodyPost_ret (v:=.tuple #[v,.int .i64 c]) (by simp[results,Tryz.results106,go_sem]) rfl ⟨aC (b0 _) (Nat.le_refl _) hb1,v,rfl,bP ho (by simp)⟩

set_option maxRecDepth 20000 in
set_option maxHeartbeats 1000000 in
theorem q2v(A A':Option Addr)(C C':Nat)(xs ys:List En)(w:World)(h:aH w.heap.size w A (aB xs))(h':aH w.heap.size w A' (aB ys))(hz:xs.length*56<=140737488351232)(hz':ys.length*56<=140737488351232):
  Calls Tryz.prog 109 #[.slice A xs.length C,.slice A' ys.length C'] w fun e w'=>e=.returned (.bool (decide (xs=ys)))/\Below w.heap.size w w':=by
 obtain⟨nb,hnb⟩:∃nb,nb=decide (xs=ys):=⟨_,rfl⟩;rw[<-hnb]
 by_cases hl:xs.length=ys.length
 ·have HN:Hid (nb=decide (xs=ys)):=hnb;clear hnb
  go_enter Tryz.func109,Tryz.ntmps109
  go_wp2_with fail;have hl':(xs.length:Int)=(ys.length:Int):=by omega
  go_loopw [13] (fun vi wr=>∃i:Nat,i<=xs.length/\vi=.int .i64 i/\Hid (xs.take i=ys.take i)/\Below w.heap.size w wr) (fun vi _=>xs.length-(intOf vi).toNat)
  case atStart=>exact⟨0,Nat.zero_le _,rfl,(by show _=_;simp),Below.refl _ _⟩
  case round=>
   obtain⟨i,hi,rfl,HT,hb⟩:=hrel
   by_cases hlt:i<xs.length
   ·have hlt':i<ys.length:=by omega
    obtain⟨b,o,rfl,hbl,c0,c1,c2,c3,c4,c5,c6⟩:=(h.below hb (Nat.le_refl _)).en hlt;obtain⟨b',o',rfl,hbl',d0,d1,d2,d3,d4,d5,d6⟩:=(h'.below hb (Nat.le_refl _)).en hlt';have hsz:=hb.size;have l1:b<wr.heap.size:=by omega
    have l2:b'<wr.heap.size:=by omega
    by_cases hxy:xs[i]=ys[i]
    ·have HT':Hid (xs.take (i+1)=ys.take (i+1)):=by
      show _=_;rw[List.take_succ_eq_append_getElem hlt,List.take_succ_eq_append_getElem hlt',HT.out,hxy]
     rw[hxy] at c0 c1 c2 c3 c4 c5 c6;clear hxy HT;generalize ys[i]=y at *;go_wp2_with fail
     go_quiet (fail)
     go_wp2_with fail;go_roundw
     case rel=>
      go_light;exact⟨i+1,hlt,by go_num,HT',jV hb _⟩
     case measure=>simp[intOf];omega
    ·have HF:Hid (nb=false):=by
      show nb=false;rw[HN.out,decide_eq_false_iff_not];intro e;subst e;exact hxy rfl
     have hne:=qsf hxy;clear HT HN hxy;generalize xs[i]=x at *;generalize ys[i]=y at *;rcases hne with k0|⟨k0,k1⟩|⟨k0,k1,k2⟩|⟨k0,k1,k2,k3⟩|⟨k0,k1,k2,k3,k4⟩|⟨k0,k1,k2,k3,k4,k5⟩|⟨k0,k1,k2,k3,k4,k5,k6⟩
     all_goals
      go_wp2_with fail
      go_quiet (fail)
      go_wp2_with fail;go_ret;exact⟨by rw[HF.out];rfl,jV hb _⟩
   ·have HE:Hid (nb=true):=by
     show nb=true;have q:=HT.out;rw[List.take_of_length_le (by omega),List.take_of_length_le (by omega)] at q
     rw[HN.out,q];simp
    go_wp2_with fail;go_ret;exact⟨by rw[HE.out];rfl,hb⟩
 ·have HF:Hid (nb=false):=by
   show nb=false;rw[hnb];simp only[decide_eq_false_iff_not];intro e;exact hl (by rw[e])
  clear hnb
  go_enter Tryz.func109,Tryz.ntmps109
  go_wp2_with fail;go_ret;exact⟨by rw[HF.out];rfl,Below.refl _ _⟩

set_option maxRecDepth 20000 in
set_option maxHeartbeats 1000000 in
theorem qdw(n f:Int)(VA:Option Addr)(VC:Nat)(L:List En)(w:World)(h:aH w.heap.size w VA (aB L))(hz:L.length<=28000)(hk:∀x∈L,0<=x.key/\x.key<1099511627776)(hg:∀x∈L,Good x.ru):
  Calls Tryz.prog 107 #[.slice VA L.length VC,.int .i64 n,.int .i64 f] w fun e w'=>e=.returned (.bool (L.all (dJ n f)))/\Below w.heap.size w w':=by
 obtain⟨nb,hnb⟩:∃nb,nb=L.all (dJ n f):=⟨_,rfl⟩;have HN:Hid (nb=L.all (dJ n f)):=hnb;rw[<-hnb];clear hnb
 go_enter Tryz.func107,Tryz.ntmps107
 go_wp2_with fail
 go_loopw [12] (fun vi wr=>∃i:Nat,i<=L.length/\vi=.int .i64 i/\Hid ((L.take i).all (dJ n f)=true)/\Below w.heap.size w wr) (fun vi _=>L.length-(intOf vi).toNat)
 case atStart=>exact⟨0,Nat.zero_le _,rfl,(by show _=_;simp),Below.refl _ _⟩
 case round=>
  obtain⟨i,hi,rfl,HA,hb⟩:=hrel;have hsz:=hb.size
  by_cases hlt:i<L.length
  ·obtain⟨b,o,rfl,hbl,c0,c1,c2,c3,c4,c5,c6⟩:=(h.below hb (Nat.le_refl _)).en hlt;have hbr:b<wr.heap.size:=by omega
   have hki:=hk _ (List.getElem_mem hlt);have hgi:=hg _ (List.getElem_mem hlt)
   have HT:Hid ((L.take (i+1)).all (dJ n f)=((L.take i).all (dJ n f)&&dJ n f L[i])):=by
    show _=_;rw[List.take_succ_eq_append_getElem hlt,List.all_append];simp
   have HF:Hid (dJ n f L[i]=false->nb=false):=fun q=>by
    rw[HN.out];cases ha:L.all (dJ n f) with
    |false=>rfl
    |true=>
     rw[List.all_eq_true] at ha;rw[ha _ (List.getElem_mem hlt)] at q;cases q
   obtain⟨x,hx⟩:∃x,L[i]=x:=⟨_,rfl⟩;rw[hx] at c0 c1 c2 c3 c4 c5 c6 hki hgi HT HF;have hc0:(x.c==0)=false:=by have:x.c≠0:=hgi.2;simpa using this
   have con:=aI fun W=>iF x.c x.s x.lo x.hi x.t x.l W
   rw[show bT x.c x.s x.lo x.hi x.t x.l=0 from hgi.1] at con;have HP:Hid (dJ n f x=(decide (x.key/1048576<n)&&(decide (f<=x.key%1048576)&&decide (x.t=x.key%1048576)))):=rfl;have b1:∀ob:Obj,Below w.heap.size w (wr.alloc ob):=fun ob=>hb.alloc hsz ob
   by_cases k1:x.key/1048576<n
   ·have k1':decide (n<=x.key/1048576)=false:=by simpa using k1
    by_cases k2:f<=x.key%1048576
    ·have k2':decide (x.key%1048576<f)=false:=by simpa using k2
     by_cases k3:x.key%1048576=x.t
     ·have k3':(x.key%1048576 != x.t)=false:=by simpa using k3
      have H1:Hid ((L.take (i+1)).all (dJ n f)=true):=by
       show _=_;rw[HT.out,HA.out,HP.out,decide_eq_true k1,decide_eq_true k2,decide_eq_true k3.symm]
       rfl
      clear HF HT HP HA k3 hgi;go_wp2_with (first|(go_at_call 95;refine(jF x.key _ hki).mono ?_;rintro e w2 ⟨rfl,hw2⟩;subst w2)|(go_at_call 130;refine(lV x.key _ hki).mono ?_;rintro e w2 ⟨rfl,hw2⟩;subst w2)|(go_at_call 26;refine(con.out _).mono ?_;rintro e w3 ⟨rfl,hb3⟩;have hb3':Below w.heap.size w w3:=aC (b1 _) (Nat.le_refl _) hb3))
      go_roundw
      case rel=>
       go_light;exact⟨i+1,hlt,by go_num,H1,hb3'⟩
      case measure=>simp[intOf];omega
     ·have k3':(x.key%1048576 != x.t)=true:=by simpa using k3
      have H1:Hid (nb=false):=HF.out (by rw[HP.out];simp[Ne.symm k3])
      clear HF HT HP HA HN hgi;go_wp2_with (first|(go_at_call 95;refine(jF x.key _ hki).mono ?_;rintro e w2 ⟨rfl,hw2⟩;subst w2)|(go_at_call 130;refine(lV x.key _ hki).mono ?_;rintro e w2 ⟨rfl,hw2⟩;subst w2))
      go_ret;exact⟨by rw[H1.out];rfl,b1 _⟩
    ·have k2':decide (x.key%1048576<f)=true:=by simpa using k2
     have H1:Hid (nb=false):=HF.out (by rw[HP.out];simp[k2])
     clear HF HT HP HA HN hgi;go_wp2_with (first|(go_at_call 95;refine(jF x.key _ hki).mono ?_;rintro e w2 ⟨rfl,hw2⟩;subst w2)|(go_at_call 130;refine(lV x.key _ hki).mono ?_;rintro e w2 ⟨rfl,hw2⟩;subst w2))
     go_ret;exact⟨by rw[H1.out];rfl,b1 _⟩
   ·have k1':decide (n<=x.key/1048576)=true:=by simpa using k1
    have H1:Hid (nb=false):=HF.out (by rw[HP.out];simp[k1])
    clear HF HT HP HA HN hgi;go_wp2_with (first|(go_at_call 95;refine(jF x.key _ hki).mono ?_;rintro e w2 ⟨rfl,hw2⟩;subst w2)|(go_at_call 130;refine(lV x.key _ hki).mono ?_;rintro e w2 ⟨rfl,hw2⟩;subst w2))
    go_ret;exact⟨by rw[H1.out];rfl,b1 _⟩
  ·have H1:Hid (nb=true):=by
    show _=_;have q:=HA.out;rw[List.take_of_length_le (by omega)] at q
    rw[HN.out,q]
   go_wp2_with fail;go_ret;exact⟨by rw[H1.out];rfl,hb⟩

theorem qno{size:Int}{l:List En}{i:Nat}(hi:i<l.length):(l.map (bk size))[i]'(by simpa using hi)=bk size l[i]:=by simp

theorem qcq{l:List En}(hp:l.Pairwise fun a b=>a.key<b.key){size:Int}(hs:size=1\/size=60\/size=3600):(l.map (bk size)).Pairwise fun a b=>a.key<=b.key:=by
 rcases hs with rfl|hs
 ·rw[List.pairwise_map];refine hp.imp fun h=>?_
  rw[qhw,qhw];omega
 ·exact qek hp hs

set_option maxRecDepth 20000 in
set_option maxHeartbeats 1000000 in
theorem q0t(A:Option Addr)(C:Nat)(l:List En)(size:Int)(hs:size=1\/size=60\/size=3600)(w:World)(h:aH w.heap.size w A (aB l))(hz:l.length<=28000)(hp:l.Pairwise fun a b=>a.key<b.key)(hg:∀x∈l,Good x.ru)(hk:∀x∈l,0<=x.key/\x.key<1099511627776)(Q:Ending->World->Prop)
  (HQ:Hid (∀e w',Below w.heap.size w w'->(∀ys,aP size l=some ys->∃v,e=.returned (.tuple #[v,.int .i64 0])/\w'.ownsRow w.heap.size 132 7 v ys.length (aB ys))->(aP size l=none->e=.returned (.tuple #[.slice none 0 0,.int .i64 1]))->Q e w')):
  Calls Tryz.prog 108 #[.slice A l.length C,.int .i64 size] w Q:=by
 obtain⟨i0,hi0,hz0,hz1,hz2⟩:=info_parts kK;have HS:Hid ((l.map (bk size)).Pairwise fun a b=>a.key<=b.key):=qcq hp hs
 go_enter Tryz.func108,Tryz.ntmps108
 go_wp2_with fail
 go_loopw [6,15] (fun vo vi wr=>∃(i:Nat) (out:List En),i<=l.length/\vi=.int .i64 i/\Hid (Brg (l.map (bk size)) i out)/\out.length<=i/\wr.ownsRow w.heap.size 132 7 vo out.length (aB out)/\Below w.heap.size w wr) (fun _ vi _=>l.length-(intOf vi).toNat)
 case atStart=>exact⟨0,[],Nat.zero_le _,rfl,q6g _,by simp,World.ownsRow_nil _ _ _ _,Below.refl _ _⟩
 case round=>
  obtain⟨i,out,hi,rfl,HB,hol,hown,hb⟩:=hrel;have hsz:=hb.size
  by_cases hlt:i<l.length
  ·obtain⟨b,o,rfl,hbl,c0,c1,c2,c3,c4,c5,c6⟩:=(h.below hb (Nat.le_refl _)).en hlt;have hbr:b<wr.heap.size:=by omega
   have hki:=hk _ (List.getElem_mem hlt);have hgi:=hg _ (List.getElem_mem hlt);have hly:i<(l.map (bk size)).length:=by simpa using hlt
   have hyi:=qno (size:=size) hlt;obtain⟨x,hx⟩:∃x,l[i]=x:=⟨_,rfl⟩;rw[hx] at c0 c1 c2 c3 c4 c5 c6 hki hgi hyi;have hkm:0<=x.key%1048576/\x.key%1048576<1048576:=by omega
   have hkd:0<=x.key/1048576/\x.key/1048576<1048576:=by omega
   obtain⟨tb,htb⟩:∃tb,tb=x.key%1048576-x.key%1048576%size:=⟨_,rfl⟩;have htbb:0<=tb/\tb<1048576:=by rw[htb];rcases hs with rfl|rfl|rfl<;>omega
   obtain⟨kx,hkx⟩:∃kx,kx=x.key/1048576*1048576+tb:=⟨_,rfl⟩
   have HX:Hid (bk size x=⟨kx,x.c,x.s,x.lo,x.hi,x.t,x.l⟩):=by
    show _=_;rw[hkx,htb,show x.key/1048576*1048576+(x.key%1048576-x.key%1048576%size)=(bk size x).key from(qll x size).symm]
    rfl
   have hkxb:0<=kx/\kx<1099511627776:=by omega
   have q1:∀W,Calls Tryz.prog 130 #[.int .i64 x.key] W fun e w'=>e=.returned (.int .i64 (x.key/1048576))/\∃m,w'=W.drewN m:=fun W=>(lV x.key W hki).mono fun _ _ ⟨a1,a2⟩=>⟨a1,0,by rw[a2];rfl⟩
   have q2:∀W,Calls Tryz.prog 95 #[.int .i64 x.key] W fun e w'=>e=.returned (.int .i64 (x.key%1048576))/\∃m,w'=W.drewN m:=fun W=>(jF x.key W hki).mono fun _ _ ⟨a1,a2⟩=>⟨a1,0,by rw[a2];rfl⟩
   have q3:∀W,Calls Tryz.prog 90 #[.int .i64 (x.key%1048576),.int .i64 size] W fun e w'=>e=.returned (.int .i64 tb)/\∃m,w'=W.drewN m:=fun W=>(lU (x.key%1048576) size W (by omega) hs).mono fun _ _ ⟨a1,a2⟩=>⟨by rw[a1,htb],0,by rw[a2];rfl⟩
   have q4:∀W,Calls Tryz.prog 89 #[.int .i64 (x.key/1048576),.int .i64 tb] W fun e w'=>e=.returned (.int .i64 kx)/\∃m,w'=W.drewN m:=fun W=>(qW (x.key/1048576) tb W hkd htbb).mono fun _ _ ⟨a1,a2⟩=>⟨by rw[a1,hkx],0,by rw[a2];rfl⟩
   clear htb hkx;rcases List.eq_nil_or_concat out with rfl|⟨l',y,rfl⟩
   ·have HB':Hid (Brg (l.map (bk size)) (i+1) ([]++[En.mk kx x.c x.s x.lo x.hi x.t x.l])):=by
     have q:=xU HS.out HB.out hly (by rw[hyi];exact hgi) (fun l y e=>by simp at e)
     rw[hyi,HX.out] at q;exact q
    clear HB;obtain⟨A0,C0,hv,hr0,hA0⟩:=aN hown;simp only[List.length_nil] at hv;rw[hv];go_wp2_with fail
    go_quiet (first|(refine Calls.quiet_of (q1 _))|(refine Calls.quiet_of (q2 _))|(refine Calls.quiet_of (q3 _))|(refine Calls.quiet_of (q4 _)))
    have hownd:(wr.drewN nq).ownsRow w.heap.size 132 7 (.slice A0 0 C0) 0 (aB []):=by
     rw[<-hv];exact aW hown (fun _ _=>rfl)
    have hbd:=jV hb nq;go_wp2_with (at_builtin;refine wpList_append_own _ rfl _ _ 103 rfl w.heap.size 132 i0 _ 7 56 Tryz.underlying103 hi0 hz0 hz1 hz2 rfl (by decide) (.slice A0 0 C0) 0 (aB []) rfl ((hownd.alloc _).alloc _) ⟨wr.heap.size+1,0,none⟩ 1 1 (En.mk kx x.c x.s x.lo x.hi x.t x.l).vals rfl rfl (uX (wr.drewN nq) _ (En.mk kx x.c x.s x.lo x.hi x.t x.l)) (qY _) (by unfold maxLen;omega) (by omega) (by simp;omega) ?_;intro v2 w2 hown2 hgrow2 _)
    have R1:=wM (out:=[]) (hownd.alloc _) (hbd.alloc (by simpa using hsz) _) (by simp;omega) hgrow2
    go_wp2;go_roundw
    case rel=>
     go_light;exact⟨i+1,[]++[En.mk kx x.c x.s x.lo x.hi x.t x.l],by omega,by go_num,HB',by simp,uT (out:=[]) hown2,R1.1⟩
    case measure=>simp[intOf];omega
   ·rw[List.concat_eq_append] at HB hol hown;obtain⟨g,cap,hv,hgb,hgl⟩:=hown.form (by simp)
    have hl1:(l'++[y]).length=l'.length+1:=by simp
    rw[hl1] at hv hown hol;subst hv;have hE:=qZ hown;obtain⟨d0,d1,d2,d3,d4,d5,d6⟩:=hE;have hd0:decide ((l'.length:Int)<0)=false:=by simp
    have hngw:¬g=wr.heap.size:=by omega
    by_cases hk0:y.key=kx
    ·have hbs:=qcj HS.out HB.out hly (by rw[hyi];exact hgi) (by rw[hyi,HX.out];exact hk0)
     simp only[hyi,HX.out] at hbs;obtain⟨hm,hB1,hN1⟩:=hbs;clear HB;obtain⟨J,hJ⟩:∃J:Ru,J=(mrg y.ru x.ru).1:=⟨_,rfl⟩;obtain⟨ec,hec⟩:∃ec:Int,ec=(mrg y.ru x.ru).2:=⟨_,rfl⟩;have hm':mrg y.ru x.ru=if y.c+x.c<=1073741824 then(jn y.ru x.ru,0) else(zro,1):=hm
     have HJ:Hid ((ec=0/\Brg (l.map (bk size)) (i+1) (l'++[mkE y.key J]))\/(ec=1/\aP size l=none)):=by
      by_cases hc:y.c+x.c<=1073741824
      ·left;rw[hec,hJ,hm',if_pos hc,hk0];exact⟨rfl,hB1 hc⟩
      ·right;rw[hec,hm',if_neg hc];exact⟨rfl,hN1 hc⟩
     have con:∀w',Calls Tryz.prog 15 #[.agg #[.int .i64 y.c,.int .i64 y.s,.int .i64 y.lo,.int .i64 y.hi,.int .i64 y.t,.int .i64 y.l],.agg #[.int .i64 x.c,.int .i64 x.s,.int .i64 x.lo,.int .i64 x.hi,.int .i64 x.t,.int .i64 x.l]] w' fun e w''=>e=.returned (.tuple #[.agg #[.int .i64 J.c,.int .i64 J.s,.int .i64 J.lo,.int .i64 J.hi,.int .i64 J.t,.int .i64 J.l],.int .i64 ec])/\Below w'.heap.size w' w'':=by
      intro w';have:=oJ y.ru x.ru w';rw[<-hJ,<-hec] at this;exact this
     clear hm hm' hJ hec hB1 hN1;obtain⟨jc,js,jlo,jhi,jt,jl⟩:=J;simp only at con;have hkb:(y.key==kx)=true:=by simpa using hk0
     have hkn:(y.key != kx)=false:=by simpa using hk0
     clear hk0;go_wp2_with fail
     go_quiet (first|(refine Calls.quiet_of (q1 _))|(refine Calls.quiet_of (q2 _))|(refine Calls.quiet_of (q3 _))|(refine Calls.quiet_of (q4 _)))
     go_wp2_with fail;obtain⟨wd,hwd⟩:∃wd,wd=(wr.alloc (.cells #[.int .i64 x.key,.int .i64 x.c,.int .i64 x.s,.int .i64 x.lo,.int .i64 x.hi,.int .i64 x.t,.int .i64 x.l] 132)).drewN nq:=⟨_,rfl⟩
     have rx:RowL wd wr.heap.size 132 x.vals:=by
      rw[hwd];exact aG wr x.vals _
     have hbd0:Below wr.heap.size wr wd:=by
      rw[hwd];exact jV ((Below.refl _ _).alloc (Nat.le_refl _) _) nq
     have hbd:Below w.heap.size w wd:=hb.trans (hbd0.mono hsz);have hownd:wd.ownsRow w.heap.size 132 7 (.slice (some ⟨g,0,none⟩) (l'.length+1) cap) (l'.length+1) (aB (l'++[y])):=aW hown (fun k hk=>hbd0.block k (nN hown hk).2)
     have hzd:wd.heap.size=wr.heap.size+1:=by rw[hwd];simp
     rw[<-hwd];clear hown hb hbd0 c0 c1 c2 c3 c4 c5 c6 d0 d1 d2 d3 d4 d5 d6 hwd;obtain⟨-,d1,d2,d3,d4,d5,d6⟩:=qZ hownd;have rxx:=fun j=>rx.cell j
     simp only[En.vals] at rxx;have x1:=rxx 1;have x2:=rxx 2;have x3:=rxx 3;have x4:=rxx 4;have x5:=rxx 5;have x6:=rxx 6;simp only[List.getElem?_cons_zero,List.getElem?_cons_succ] at x1 x2 x3 x4 x5 x6;obtain⟨n,hn⟩:∃n,n=wr.heap.size:=⟨_,rfl⟩;rw[<-hn] at hsz hzd hgl hngw x1 x2 x3 x4 x5 x6 ⊢;have hgd:g<wd.heap.size:=by omega
     have hnd:n<wd.heap.size:=by omega
     clear rx rxx hbr hn hzd;have q0:(0:Int)<=(l'.length:Int):=by omega
     obtain⟨m,hm⟩:∃m,m=l'.length+1:=⟨_,rfl⟩;rw[<-hm];have q1:(l'.length:Int)<(m:Int):=by omega
     have HM:Hid (m=l'.length+1):=hm;clear hm;have n1:¬g=wd.heap.size:=by omega
     have n2:¬n=wd.heap.size:=by omega
     have hgd1:g<wd.heap.size+1:=by omega
     have hnd1:n<wd.heap.size+1:=by omega
     have KS:∀(W:World) (b' o' j:Nat) (v:Value),¬b'=wd.heap.size->(W.setCell ⟨wd.heap.size,j,none⟩ v).cell? ⟨b',o',none⟩=W.cell? ⟨b',o',none⟩:=fun W b' o' j v hb=>World.cell?_setCell_far _ _ _ _ (fun e=>hb e.symm)
     go_cut [11,12] (fun v8 v9 wc=>∃rb,v8=.pointer (some ⟨rb,0,none⟩)/\v9=.int .i64 ec/\wd.heap.size<=rb/\RowL wc rb 42 [.int .i64 jc,.int .i64 js,.int .i64 jlo,.int .i64 jhi,.int .i64 jt,.int .i64 jl]/\Below wd.heap.size wd wc)
     case first=>
      go_region_held3 (fun w'=>w'.cell? ⟨g,l'.length*7+1,none⟩=some (.int .i64 y.c)/\w'.cell? ⟨g,l'.length*7+2,none⟩=some (.int .i64 y.s)/\w'.cell? ⟨g,l'.length*7+3,none⟩=some (.int .i64 y.lo)/\w'.cell? ⟨g,l'.length*7+4,none⟩=some (.int .i64 y.hi)/\w'.cell? ⟨g,l'.length*7+5,none⟩=some (.int .i64 y.t)/\w'.cell? ⟨g,l'.length*7+6,none⟩=some (.int .i64 y.l)/\w'.cell? ⟨n,1,none⟩=some (.int .i64 x.c)/\w'.cell? ⟨n,2,none⟩=some (.int .i64 x.s)/\w'.cell? ⟨n,3,none⟩=some (.int .i64 x.lo)/\w'.cell? ⟨n,4,none⟩=some (.int .i64 x.hi)/\w'.cell? ⟨n,5,none⟩=some (.int .i64 x.t)/\w'.cell? ⟨n,6,none⟩=some (.int .i64 x.l)) (go_keep) (first|(go_at_call 15;refine(con _).mono ?_;rintro e w3 ⟨rfl,hb3⟩;have T3:=(aZ (hb3.mono (show wd.heap.size<=_ by simp))).1;first|(have T4:=q2x (W:=wd.drew) (n:=wd.heap.size) hb3 rfl;obtain⟨T40,T41,T42,T43,T44,T45,U4⟩:=T4)|skip))
      ·go_wp2
       go_meet
       case rel=>
        refine⟨w3.heap.size,rfl,rfl,?_,aG w3 _ _,?_⟩
        ·have:=hb3.size;simpa using this
        ·have bw:Below wd.heap.size wd w3:=((Below.refl wd.heap.size wd).drew).trans (hb3.mono (by simp))
         exact bw.alloc bw.size _
      ·go_wp2
       go_meet
       case rel=>
        have r0:RowL w3 wd.heap.size 42 [.int .i64 0,.int .i64 0,.int .i64 0,.int .i64 0,.int .i64 0,.int .i64 0]:=RowL.below (aG wd.drew _ _) hb3 (by simp)
        have bw:Below wd.heap.size wd w3:=(((Below.refl wd.heap.size wd).alloc (Nat.le_refl _) _).drew).trans (hb3.mono (by simp))
        refine⟨wd.heap.size,rfl,rfl,Nat.le_refl _,(((((r0.set 0 _).set 1 _).set 2 _).set 3 _).set 4 _).set 5 _,?_⟩;exact set6 bw (Nat.le_refl _) _ _ _ _ _ _
     case rest=>
      obtain⟨rb,rfl,rfl,hrb,hrw,hbc⟩:=hcut;have r0:=hrw.cell 0;have r1:=hrw.cell 1;have r2:=hrw.cell 2;have r3:=hrw.cell 3;have r4:=hrw.cell 4;have r5:=hrw.cell 5;simp only[List.getElem?_cons_zero,List.getElem?_cons_succ] at r0 r1 r2 r3 r4 r5;have hrl:=hrw.lt;have hcs:wd.heap.size<=wc.heap.size:=hbc.size;have hdz:=hbd.size;have hownc:wc.ownsRow w.heap.size 132 7 (.slice (some ⟨g,0,none⟩) (l'.length+1) cap) (l'.length+1) (aB (l'++[y])):=aW hownd (fun k hk=>hbc.block k (nN hownd hk).2)
      have hbcc:Below w.heap.size w wc:=hbd.trans (hbc.mono hdz);obtain⟨-,e1,e2,e3,e4,e5,e6⟩:=qZ hownc;have ef:=fun j=>hownc.frozenAt j
      have hgc:g<wc.heap.size:=by omega
      have n3:¬rb=g:=by omega
      have n4:¬g=rb:=by omega
      have HO:Hid (wc.ownsRow w.heap.size 132 7 (.slice (some ⟨g,0,none⟩) (l'.length+1) cap) (l'.length+1) (aB (l'++[y]))):=hownc;clear hownd hownc d1 d2 d3 d4 d5 d6 x1 x2 x3 x4 x5 x6 con KS;rcases HJ.out with⟨he,hWA⟩|⟨he,hIN⟩
      ·subst he;have HW':Hid (Brg (l.map (bk size)) (i+1) (l'++[mkE y.key (Ru.mk jc js jlo jhi jt jl)])):=hWA;clear HJ hWA;go_wp2_with fail;go_roundw
       case rel=>
        go_light;have hm:=HM.out;subst hm
        exact⟨i+1,l'++[mkE y.key (Ru.mk jc js jlo jhi jt jl)],by omega,by go_num,HW',by simp;omega,(by
         have q:=qgp HO.out (Ru.mk jc js jlo jhi jt jl);rw[<-show(l'++[mkE y.key (Ru.mk jc js jlo jhi jt jl)]).length=l'.length+1 by simp] at q
         simpa using q),jX (jX (jX (jX (jX (jX hbcc hgb _ _) hgb _ _) hgb _ _) hgb _ _) hgb _ _) hgb _ _⟩
       case measure=>simp[intOf];omega
      ·subst he;have HN:Hid (aP size l=none):=hIN;clear HJ hIN;go_wp2_with fail;refine HQ.out _ _ (hbcc) (fun ys hys=>by rw[HN.out] at hys;cases hys) (fun _=>rfl)
    ·have HB':Hid (Brg (l.map (bk size)) (i+1) (l'++[y]++[En.mk kx x.c x.s x.lo x.hi x.t x.l])):=by
      have q:=xU HS.out HB.out hly (by rw[hyi];exact hgi) (fun l2 y2 e=>by
       obtain⟨_,e2⟩:=List.append_inj' e rfl;cases e2;rw[hyi,HX.out];exact hk0)
      rw[hyi,HX.out] at q;exact q
     clear HB;have hkb:(y.key==kx)=false:=by simpa using hk0
     have hkn:(y.key != kx)=true:=by simpa using hk0
     go_wp2_with fail
     go_quiet (first|(refine Calls.quiet_of (q1 _))|(refine Calls.quiet_of (q2 _))|(refine Calls.quiet_of (q3 _))|(refine Calls.quiet_of (q4 _)))
     have hownd:(wr.drewN nq).ownsRow w.heap.size 132 7 (.slice (some ⟨g,0,none⟩) (l'.length+1) cap) (l'.length+1) (aB (l'++[y])):=aW hown (fun _ _=>rfl)
     have hbd:=jV hb nq;go_wp2_with (at_builtin;refine wpList_append_own _ rfl _ _ 103 rfl w.heap.size 132 i0 _ 7 56 Tryz.underlying103 hi0 hz0 hz1 hz2 rfl (by decide) (.slice (some ⟨g,0,none⟩) (l'.length+1) cap) (l'.length+1) (aB (l'++[y])) rfl ((hownd.alloc _).alloc _) ⟨wr.heap.size+1,0,none⟩ 1 1 (En.mk kx x.c x.s x.lo x.hi x.t x.l).vals rfl rfl (uX (wr.drewN nq) _ (En.mk kx x.c x.s x.lo x.hi x.t x.l)) (qY _) (by unfold maxLen;omega) (by omega) (by simp;omega) ?_;intro v2 w2 hown2 hgrow2 _)
     have R1:=wM (out:=l'++[y]) (by rw[hl1];exact hownd.alloc _) (hbd.alloc (by simpa using hsz) _) (by simp;omega) hgrow2
     go_wp2;go_roundw
     case rel=>
      go_light;exact⟨i+1,l'++[y]++[En.mk kx x.c x.s x.lo x.hi x.t x.l],by omega,by go_num,HB',by simp;omega,uT (out:=l'++[y]) (by rw[hl1];exact hown2),R1.1⟩
     case measure=>simp[intOf];omega
  ·have HE:Hid (aP size l=some out):=by
    have q:=HB.out;rw[show i=(l.map (bk size)).length by simp;omega] at q
    exact qga q
   clear HB;go_wp2_with fail;exact HQ.out _ _ hb (fun ys hys=>by rw[HE.out] at hys;cases hys;exact⟨_,rfl,hown⟩) (fun hn=>by rw[HE.out] at hn;cases hn)

theorem vW(A:Option Addr)(C:Nat)(l:List En)(size:Int)(hs:size=60\/size=3600)(w:World)(h:aH w.heap.size w A (aB l))(hz:l.length<=28000)(hp:l.Pairwise fun a b=>a.key<b.key)(hg:∀x∈l,Good x.ru)(hk:∀x∈l,0<=x.key/\x.key<1099511627776)(Q:Ending->World->Prop)
  (HQ:Hid (∀e w',Below w.heap.size w w'->(∀ys,aP size l=some ys->∃v,e=.returned (.tuple #[v,.int .i64 0])/\w'.ownsRow w.heap.size 132 7 v ys.length (aB ys))->(aP size l=none->e=.returned (.tuple #[.slice none 0 0,.int .i64 1]))->Q e w')):
  Calls Tryz.prog 108 #[.slice A l.length C,.int .i64 size] w Q:=q0t A C l size (.inr hs) w h hz hp hg hk Q HQ

theorem sK{p:Prop}(h:p):Hid p:=h

theorem qbn:∀(xs:List En) (o r:List En),(∀x∈xs,Good x.ru)->(∀y∈o,Good y.ru)->xs.foldl insO (some o)=some r->r.length<=o.length+xs.length
 |[],o,r,_,_,h=>by cases h;simp
 |x::xs,o,r,hx,ho,h=>by
  rw[List.foldl_cons] at h;cases hi:insO (some o) x with
  |none=>rw[hi,jY] at h;cases h
  |some o'=>
   rw[hi] at h;obtain⟨q1,q2⟩:=mD (hx x List.mem_cons_self) ho hi;have:=qbn xs o' r (fun y hy=>hx y (List.mem_cons_of_mem _ hy)) q1 h
   simp only[List.length_cons];omega

theorem uH{size:Int}{l W:List En}(hg:∀x∈l,Good x.ru)(h:aP size l=some W):W.length<=l.length:=by
 have:=qbn (l.map (bk size)) [] W (fun x hx=>by
  obtain⟨y,hy,rfl⟩:=List.mem_map.1 hx;exact hg y hy) (by simp) h
 simpa using this

theorem q3i{ns:List Nd}{r low high:Int}(h:(allP ns r 0 1099511627776).1=0):allP ns r low high=(0,(allP ns r 0 1099511627776).2.filter (inR low high)):=by
 unfold allP at h ⊢
 by_cases hc:aV ns r=0
 ·have hc':¬aV ns r≠0:=by simpa using hc
  rw[if_neg hc'] at h ⊢;rw[if_neg hc'];obtain⟨e1,_,_⟩:=oO (low:=low) (high:=high) hc;obtain⟨e2,_,_⟩:=oO (low:=0) (high:=1099511627776) hc;obtain⟨q,hW⟩:=nO hc
  have eW:Wl ns low high 12 r=(Wl ns 0 1099511627776 12 r).filter (inR low high):=by
   rw[qH 12 _ _ _ _ _ hW,qH 12 _ _ _ _ _ hW,List.filter_filter];refine List.filter_congr fun x hx=>?_
   have:=W_in 12 _ _ _ _ _ hW x hx;simp only[inR];rw[show decide (0<=x.key)=true by simpa using this.1,show decide (x.key<1099511627776)=true by simpa using this.2]
   simp
  rw[<-e1,<-e2,eW];rw[<-e2] at h;cases hA:allL (Wl ns 0 1099511627776 12 r) with
  |none=>
   rw[hA] at h;simp at h
  |some ys=>
   have:=qM (P:=fun k=>decide (low<=k)&&decide (k<high)) (Wl ns 0 1099511627776 12 r) [] ys (by simp) hA
   rw[show allL ((Wl ns 0 1099511627776 12 r).filter (inR low high))=some (ys.filter (inR low high)) from this]
 ·rw[if_pos hc] at h;exact absurd h hc

def iT(n f:Int)(x:En):Bool:=dJ n f x&&decide (bT x.c x.s x.lo x.hi x.t x.l=0)

set_option maxRecDepth 20000 in
set_option maxHeartbeats 1000000 in
theorem zN(n f:Int)(VA:Option Addr)(VC:Nat)(L:List En)(w:World)(h:aH w.heap.size w VA (aB L))(hz:L.length<=28000)(hk:∀x∈L,0<=x.key/\x.key<1099511627776)(hc:∀x∈L,x.c≠0):
  Calls Tryz.prog 107 #[.slice VA L.length VC,.int .i64 n,.int .i64 f] w fun e w'=>e=.returned (.bool (L.all (iT n f)))/\Below w.heap.size w w':=by
 obtain⟨nb,hnb⟩:∃nb,nb=L.all (iT n f):=⟨_,rfl⟩;have HN:Hid (nb=L.all (iT n f)):=hnb;rw[<-hnb];clear hnb
 go_enter Tryz.func107,Tryz.ntmps107
 go_wp2_with fail
 go_loopw [12] (fun vi wr=>∃i:Nat,i<=L.length/\vi=.int .i64 i/\Hid ((L.take i).all (iT n f)=true)/\Below w.heap.size w wr) (fun vi _=>L.length-(intOf vi).toNat)
 case atStart=>exact⟨0,Nat.zero_le _,rfl,(by show _=_;simp),Below.refl _ _⟩
 case round=>
  obtain⟨i,hi,rfl,HA,hb⟩:=hrel;have hsz:=hb.size
  by_cases hlt:i<L.length
  ·obtain⟨b,o,rfl,hbl,c0,c1,c2,c3,c4,c5,c6⟩:=(h.below hb (Nat.le_refl _)).en hlt;have hbr:b<wr.heap.size:=by omega
   have hki:=hk _ (List.getElem_mem hlt);have hgi:=hc _ (List.getElem_mem hlt)
   have HT:Hid ((L.take (i+1)).all (iT n f)=((L.take i).all (iT n f)&&iT n f L[i])):=by
    show _=_;rw[List.take_succ_eq_append_getElem hlt,List.all_append];simp
   have HF:Hid (iT n f L[i]=false->nb=false):=fun q=>by
    rw[HN.out];cases ha:L.all (iT n f) with
    |false=>rfl
    |true=>
     rw[List.all_eq_true] at ha;rw[ha _ (List.getElem_mem hlt)] at q;cases q
   obtain⟨x,hx⟩:∃x,L[i]=x:=⟨_,rfl⟩;rw[hx] at c0 c1 c2 c3 c4 c5 c6 hki hgi HT HF;have hc0:(x.c==0)=false:=by simpa using hgi
   have con:=aI fun W=>iF x.c x.s x.lo x.hi x.t x.l W
   have HP:Hid (iT n f x=((decide (x.key/1048576<n)&&(decide (f<=x.key%1048576)&&decide (x.t=x.key%1048576)))&&decide (bT x.c x.s x.lo x.hi x.t x.l=0))):=rfl;have b1:∀ob:Obj,Below w.heap.size w (wr.alloc ob):=fun ob=>hb.alloc hsz ob
   by_cases k1:x.key/1048576<n
   ·have k1':decide (n<=x.key/1048576)=false:=by simpa using k1
    by_cases k2:f<=x.key%1048576
    ·have k2':decide (x.key%1048576<f)=false:=by simpa using k2
     by_cases k3:x.key%1048576=x.t
     ·have k3':(x.key%1048576 != x.t)=false:=by simpa using k3
      by_cases k5:bT x.c x.s x.lo x.hi x.t x.l=0
      ·have H1:Hid ((L.take (i+1)).all (iT n f)=true):=by
        show _=_;rw[HT.out,HA.out,HP.out,decide_eq_true k1,decide_eq_true k2,decide_eq_true k3.symm,decide_eq_true k5]
        rfl
       rw[k5] at con;clear HF HT HP HA k3 hgi k5;go_wp2_with (first|(go_at_call 95;refine(jF x.key _ hki).mono ?_;rintro e w2 ⟨rfl,hw2⟩;subst w2)|(go_at_call 130;refine(lV x.key _ hki).mono ?_;rintro e w2 ⟨rfl,hw2⟩;subst w2)|(go_at_call 26;refine(con.out _).mono ?_;rintro e w3 ⟨rfl,hb3⟩;have hb3':Below w.heap.size w w3:=aC (b1 _) (Nat.le_refl _) hb3))
       go_roundw
       case rel=>
        go_light;exact⟨i+1,hlt,by go_num,H1,hb3'⟩
       case measure=>simp[intOf];omega
      ·have H1:Hid (nb=false):=HF.out (by rw[HP.out];simp[k5])
       obtain⟨cc,hcc⟩:∃cc,bT x.c x.s x.lo x.hi x.t x.l=cc:=⟨_,rfl⟩;rw[hcc] at con k5;have k5':(cc != 0)=true:=by simpa using k5
       clear HF HT HP HA HN hgi hcc k3 k5;go_wp2_with (first|(go_at_call 95;refine(jF x.key _ hki).mono ?_;rintro e w2 ⟨rfl,hw2⟩;subst w2)|(go_at_call 130;refine(lV x.key _ hki).mono ?_;rintro e w2 ⟨rfl,hw2⟩;subst w2)|(go_at_call 26;refine(con.out _).mono ?_;rintro e w3 ⟨rfl,hb3⟩;have hb3':Below w.heap.size w w3:=aC (b1 _) (Nat.le_refl _) hb3))
       go_ret;exact⟨by rw[H1.out];rfl,hb3'⟩
     ·have k3':(x.key%1048576 != x.t)=true:=by simpa using k3
      have H1:Hid (nb=false):=HF.out (by rw[HP.out];simp[Ne.symm k3])
      clear HF HT HP HA HN hgi;go_wp2_with (first|(go_at_call 95;refine(jF x.key _ hki).mono ?_;rintro e w2 ⟨rfl,hw2⟩;subst w2)|(go_at_call 130;refine(lV x.key _ hki).mono ?_;rintro e w2 ⟨rfl,hw2⟩;subst w2))
      go_ret;exact⟨by rw[H1.out];rfl,b1 _⟩
    ·have k2':decide (x.key%1048576<f)=true:=by simpa using k2
     have H1:Hid (nb=false):=HF.out (by rw[HP.out];simp[k2])
     clear HF HT HP HA HN hgi;go_wp2_with (first|(go_at_call 95;refine(jF x.key _ hki).mono ?_;rintro e w2 ⟨rfl,hw2⟩;subst w2)|(go_at_call 130;refine(lV x.key _ hki).mono ?_;rintro e w2 ⟨rfl,hw2⟩;subst w2))
     go_ret;exact⟨by rw[H1.out];rfl,b1 _⟩
   ·have k1':decide (n<=x.key/1048576)=true:=by simpa using k1
    have H1:Hid (nb=false):=HF.out (by rw[HP.out];simp[k1])
    clear HF HT HP HA HN hgi;go_wp2_with (first|(go_at_call 95;refine(jF x.key _ hki).mono ?_;rintro e w2 ⟨rfl,hw2⟩;subst w2)|(go_at_call 130;refine(lV x.key _ hki).mono ?_;rintro e w2 ⟨rfl,hw2⟩;subst w2))
    go_ret;exact⟨by rw[H1.out];rfl,b1 _⟩
  ·have H1:Hid (nb=true):=by
    show _=_;have q:=HA.out;rw[List.take_of_length_le (by omega)] at q
    rw[HN.out,q]
   go_wp2_with fail;go_ret;exact⟨by rw[H1.out];rfl,hb⟩

end
end Go.Proofs.YtlojfgdpmaigmagGreatDoor
