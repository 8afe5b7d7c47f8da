/- Rows of a series: in plain terms. -/
import Derived.Test.YtlojfgdpmaigmafGreatDoorP37
import Derived.Test.YtlojfgdpmaigmafGreatDoorP39
import Derived.Deep.RegionHeld3
import Derived.Deep.AppendLies
import Derived.BigQuiet
namespace Go.Proofs.YtlojfgdpmaigmafGreatDoor
section
open Go.RowKit Plain

def selB(p a b:Int)(x:En):Bool:=decide (kp x=p)&&(decide (a<=kt x)&&decide (kt x<=b))
def rowE(x:En):En:={ x with key:=kt x }
def z5b(p a b:Int)(l:List En):List En:=(l.filter (selB p a b)).map rowE

structure qch(ss:List ByteArray)(f:Int)(n0:List Nd)(r0:Int)(n1:List Nd)(r1:Int)(n2:List Nd)(r2:Int)(L0 L1 L2:List En):Prop where
 few:ss.length<=16
 book:q7b n0 r0 ss.length f=some L0
 a0:allP n0 r0 0 1099511627776=(0,L0)
 a1:allP n1 r1 0 1099511627776=(0,L1)
 a2:allP n2 r2 0 1099511627776=(0,L2)
 p0:q1c 1 L0=some L0
 p1:q1c 60 L0=some L1
 p2:q1c 3600 L0=some L2

theorem qj2{size:Int}{l:List En}{ns:List Nd}{r:Int}(h:q2z size l ns r=true):∃M,q1c size l=some M/\allP ns r 0 1099511627776=(0,M):=by
 unfold q2z at h
 cases hr:q1c size l with
 |none=>rw[hr] at h;cases h
 |some W=>
  rw[hr] at h
  simp only[Bool.and_eq_true,decide_eq_true_eq] at h
  exact⟨W,rfl,Prod.ext h.1 h.2.symm⟩

theorem qei{ss:List ByteArray}{f:Int}{n0:List Nd}{r0:Int}{n1:List Nd}{r1:Int}{n2:List Nd}{r2:Int}(h:q2o ss f n0 r0 n1 r1 n2 r2=true):∃L0 L1 L2,qch ss f n0 r0 n1 r1 n2 r2 L0 L1 L2:=by
 unfold q2o at h
 simp only[Bool.and_eq_true,decide_eq_true_eq] at h
 obtain⟨h1,_,_,_,h2⟩:=h
 unfold q9c at h2
 cases hb:q7b n0 r0 ss.length f with
 |none=>rw[hb] at h2;cases h2
 |some l=>
  rw[hb] at h2
  simp only[Bool.and_eq_true] at h2
  obtain⟨s0,s1,s2⟩:=h2
  obtain⟨b1,b2,_⟩:=q6t hb
  obtain⟨M1,q1,q2⟩:=qj2 s1
  obtain⟨M2,q3,q4⟩:=qj2 s2
  have hp:=(q1d (ns:=n0) (r:=r0) (low:=0) (high:=1099511627776)).1
  rw[b2] at hp
  exact⟨l,M1,M2,h1,hb,Prod.ext b1 b2,q2,q4,qcp hp,q1,q3⟩

theorem qr7{p a b:Int}(ha:0<=a)(hb:b<=1048575){x:En}:inR (p*1048576+a) (p*1048576+b+1) x=selB p a b x:=by
 rw[Bool.eq_iff_iff]
 simp only[inR,selB,Bool.and_eq_true,decide_eq_true_eq]
 simp only[kp,kt]
 constructor
 ·rintro⟨h1,h2⟩
  have h3:x.key/1048576=p:=by omega
  exact⟨h3,by omega,by omega⟩
 ·rintro⟨h1,h2,h3⟩
  exact⟨by omega,by omega⟩

theorem qu5{ns:List Nd}{r p a b:Int}{L:List En}(h:allP ns r 0 1099511627776=(0,L))(ha:0<=a)(hb:b<=1048575):allP ns r (p*1048576+a) (p*1048576+b+1)=(0,L.filter (selB p a b)):=by
 rw[qfb (by rw[h]),h]
 exact Prod.ext rfl (List.filter_congr fun x _=>qr7 ha hb)

set_option maxRecDepth 20000 in
set_option maxHeartbeats 1000000 in
theorem q6w(A:Option Addr)(C:Nat)(r p a b:Int)(ps:List PN)(L:List En)(w:World)(hN:q0q w.heap.size w A ps)(hwf:∀q∈ps,q.wf)(hp:0<=p/\p<16)(ha:0<=a)(hab:a<=b)(hb:b<=1048575)(hL:allP (ps.map PN.nd) r 0 1099511627776=(0,L)):
  Calls Tryz.prog 65 #[.agg #[.slice A ps.length C,.int .i64 r],.int .i64 p,.int .i64 a,.int .i64 b] w
   fun e w'=>Below w.heap.size w w'/\∃v,e=.returned (.tuple #[v,.int .i64 0])/\w'.ownsRow w.heap.size 86 7 v (L.filter (selB p a b)).length (q0d (L.filter (selB p a b))):=by
 have b0:∀o:Obj,Below w.heap.size w (w.alloc o):=fun o=>(Below.refl _ _).alloc (Nat.le_refl _) o
 have con:=q0k fun W hN=>qkh A C r (p*1048576+a) (p*1048576+b+1) ps W hN hwf
 rw[qu5 hL ha hb] at con
 simp only at con
 generalize L.filter (selB p a b)=M at con ⊢
 obtain⟨k1,hk1⟩:∃k1,p*1048576+a=k1:=⟨_,rfl⟩
 obtain⟨k2,hk2⟩:∃k2,p*1048576+b=k2:=⟨_,rfl⟩
 have c1:=q0k fun W=>q8b p a W (by omega) (by omega)
 have c2:=q0k fun W=>q8b p b W (by omega) (by omega)
 rw[hk1] at c1
 rw[hk2] at c2
 rw[hk1,hk2] at con
 have hw:IntKind.i64.wrap (k2+1)=k2+1:=by rw[IntKind.wrap_i64];omega
 clear hL hwf
 go_enter Tryz.func65,Tryz.ntmps65
 go_wp2_with fail
 go_region_held3 (fun w'=>w'.cell? ⟨w.heap.size,0,none⟩=some (.slice A ps.length C)/\w'.cell? ⟨w.heap.size,1,none⟩=some (.int .i64 r)) (go_keep)
  (first
   |(go_at_call 52;refine(con.out _ (hN.up ((b0 _).drew))).mono ?_;rintro e w1 ⟨hb1,v1,rfl,ho1⟩;have T1:=(q0w (hb1.mono (show w.heap.size+1<=_ by simp))).1;have HB:=q0k hb1;have HO:=q0k ho1)
   |(go_at_call 100;have kk:=K1;clear kk;refine(c2.out _).mono ?_;rintro e wx ⟨rfl,hwx⟩;subst wx)
   |(go_at_call 100;refine(c1.out _).mono ?_;rintro e wx ⟨rfl,hwx⟩;subst wx;have K1:True:=trivial))
 go_wp2
 go_ret2
 exact⟨q0e ((b0 _).drew) (Nat.le_refl _) HB.out,v1,rfl,q0m HO.out (by simp)⟩

theorem qjp:(Tryz.prog.info? 132).map (fun i=>(i.zero,i.size,i.bytes))=some (some (.agg #[.int .i64 0,.int .i64 0,.int .i64 0,.int .i64 0,.int .i64 0,.int .i64 0,.int .i64 0]),7,56):=by kernel_rfl

theorem z4n{w:World}{vb:Nat}{t:TypeId}{x:En}(hv:RowL w vb t x.vals):∀j u,(q0d [x])[j]? =some u->w.cell? (Addr.add ⟨vb,0,none⟩ j)=some u:=by
 intro j u hu
 rw[WideShapes.add_plain,Nat.zero_add,hv.cell]
 simpa [q0d] using hu

def qmf(M:List En)(w:World)(e:Ending)(w':World):Prop:=
 Below w.heap.size w w'/\∃v,e=.returned (.tuple #[v,.int .i64 0])/\w'.ownsRow w.heap.size 132 7 v M.length (q0d (M.map rowE))

theorem q2c{w1 w4:World}{base:Nat}{e:TypeId}{size n:Nat}{v:Value}{vs:List Value}(o:w1.ownsRow base e size v n vs)(hb:Below w1.heap.size w1 w4):w4.ownsRow base e size v n vs:=
 q0c o fun k hk=>hb.block k (o.lt k hk).2

theorem qdo{w:World}{base:Nat}{e:TypeId}{size n C:Nat}{A:Option Addr}{vs:List Value}(h:w.ownsRow base e size (.slice A n C) n vs):∀k,(Value.slice A n C).ownBlock=some k->base<=k/\k<w.heap.size:=fun k hk=>h.lt k hk

theorem qsw(w:World)(x:En)(o1:Obj)(t:TypeId):∀j u,(q0d [x])[j]? =some u->((w.alloc o1).drew.alloc (.cells #[.int .i64 x.key,.int .i64 x.c,.int .i64 x.s,.int .i64 x.lo,.int .i64 x.hi,.int .i64 x.t,.int .i64 x.l] t)).cell? (Addr.add ⟨w.heap.size+1,0,none⟩ j)=some u:=by
 have h:=q0b (w.alloc o1).drew x.vals t
 have e:(w.alloc o1).drew.heap.size=w.heap.size+1:=by simp
 rw[e] at h
 exact z4n h

theorem qgi{M:List En}{i:Nat}(h:i<M.length):q0d ((M.take (i+1)).map rowE)=q0d ((M.take i).map rowE)++q0d [rowE M[i]]:=by
 rw[List.take_succ_eq_append_getElem h,List.map_append,q1o]
 rfl

set_option maxRecDepth 20000 in
set_option maxHeartbeats 2000000 in
theorem z2d(A:Option Addr)(C:Nat)(ss:List ByteArray)(t0 t1 t2:TR)(f:Int)(x:ByteArray)(a b p:Int)(M:List En)(w:World)(hZ:SzAt w)(hC:ss.length<=C)(hS:q2v w.heap.size w A ss)(h0:t0.ok w)(h1:t1.ok w)(h2:t2.ok w)
  (hB:q2o ss f (t0.ps.map PN.nd) t0.r (t1.ps.map PN.nd) t1.r (t2.ps.map PN.nd) t2.r=true) (hx:Lib.idxOfS ss x=p) (hp:0<=p) (hp2:p<16) (ha:0<=a) (hab:a<=b) (hb:b<=1048575) (L:List En) (hL:allP (t0.ps.map PN.nd) t0.r 0 1099511627776=(0,L)) (hM:L.filter (selB p a b)=M) (hl:500<M.length):
  Calls Tryz.prog 117 #[.agg (q0l A C ss t0 t1 t2 f).toArray,.string x,.int .i64 1,.int .i64 a,.int .i64 b] w fun e w'=>e=.returned (.tuple #[.slice none 0 0,.int .i64 1])/\Below w.heap.size w w':=by
 have b0:∀o:Obj,Below w.heap.size w (w.alloc o):=fun o=>(Below.refl _ _).alloc (Nat.le_refl _) o
 have okup:∀(t:TR) (w':World),Below w.heap.size w w'->t.ok w->t.ok w':=fun t w' hb ht=>⟨ht.1.up hb,ht.2.1,ht.2.2⟩
 have con1:Hid (∀W,Below w.heap.size w W->Calls Tryz.prog 61 #[.agg (q0l A C ss t0 t1 t2 f).toArray,.string x] W fun e w'=>e=.returned (.tuple #[.int .i64 p,.int .i64 0])/\Below W.heap.size W w'):=fun W hW=>by
  have c:=q4y A C ss t0 t1 t2 f x W (hZ.below hW) hC (hS.up hW) (okup t0 W hW h0) (okup t1 W hW h1) (okup t2 W hW h2) true hB
  rw[hx] at c
  have hn:¬p<0:=by omega
  simp only[if_true,hn,if_false] at c
  exact c
 have con2:Hid (∀W,Below w.heap.size w W->Calls Tryz.prog 151 #[.int .i64 1] W fun e w'=>e=.returned (.tuple #[.int .i64 0,.bool true])/\w'=W):=fun W hW=>q4m 1 W (hZ.below hW)
 have con3:=q0k fun W=>q6e a b W
 rw[show q5s a b=true by simp[q5s,ha,hab,hb]] at con3
 have con4:=q0k fun W (hW:Below w.heap.size w W)=>q6w t0.A t0.C t0.r p a b t0.ps L W (h0.1.up hW) h0.2.1 ⟨hp,hp2⟩ ha hab hb hL
 rw[hM] at con4
 clear okup hB hx hZ hC hS h0 h1 h2 hL hM
 obtain⟨A0,C0,p0,r0⟩:=t0
 obtain⟨A1,C1,p1,r1⟩:=t1
 obtain⟨A2,C2,p2,r2⟩:=t2
 simp only[q0l] at *
 have hl':(500:Int)<(M.length:Int):=by omega
 go_enter Tryz.func117,Tryz.ntmps117
 go_wp2_with (first
  |(go_at_call 61;refine(con1.out _ (b0 _)).mono ?_;rintro e w1 ⟨rfl,hb1⟩;have hw1:Below w.heap.size w w1:=q0e (b0 _) (Nat.le_refl _) hb1;have yy:=(q0w hb1).1;have z1:=sz1 hb1)
  |(go_at_call 151;refine(con2.out _ hw1).mono ?_;rintro e wx ⟨rfl,hwx⟩;subst wx)
  |(go_at_call 62;refine(con3.out _).mono ?_;rintro e wx ⟨rfl,hwx⟩;subst wx)
  |(go_at_call 65;refine(con4.out _ hw1).mono ?_;rintro e w2 ⟨hb2,v2,rfl,ho2⟩;obtain⟨VA,VC,rfl,-,-,-,hr2⟩:=q0h ho2;have hw2:Below w.heap.size w w2:=q0e hw1 (Nat.le_refl _) hb2;clear hb2 ho2))
 go_ret2
 exact⟨rfl,hw2⟩

set_option maxRecDepth 20000 in
set_option maxHeartbeats 2000000 in
theorem qvw(A:Option Addr)(C:Nat)(ss:List ByteArray)(t0 t1 t2:TR)(f:Int)(x:ByteArray)(a b p:Int)(M:List En)(w:World)(hZ:SzAt w)(hC:ss.length<=C)(hS:q2v w.heap.size w A ss)(h0:t0.ok w)(h1:t1.ok w)(h2:t2.ok w)
  (hB:q2o ss f (t0.ps.map PN.nd) t0.r (t1.ps.map PN.nd) t1.r (t2.ps.map PN.nd) t2.r=true) (hx:Lib.idxOfS ss x=p) (hp:0<=p) (hp2:p<16) (ha:0<=a) (hab:a<=b) (hb:b<=1048575) (L:List En) (hL:allP (t0.ps.map PN.nd) t0.r 0 1099511627776=(0,L)) (hM:L.filter (selB p a b)=M) (hk:∀y∈M,0<=y.key/\y.key<1099511627776) (hl:M.length<=500):
  Calls Tryz.prog 117 #[.agg (q0l A C ss t0 t1 t2 f).toArray,.string x,.int .i64 1,.int .i64 a,.int .i64 b] w (qmf M w):=by
 have b0:∀o:Obj,Below w.heap.size w (w.alloc o):=fun o=>(Below.refl _ _).alloc (Nat.le_refl _) o
 have okup:∀(t:TR) (w':World),Below w.heap.size w w'->t.ok w->t.ok w':=fun t w' hb ht=>⟨ht.1.up hb,ht.2.1,ht.2.2⟩
 have con1:Hid (∀W,Below w.heap.size w W->Calls Tryz.prog 61 #[.agg (q0l A C ss t0 t1 t2 f).toArray,.string x] W fun e w'=>e=.returned (.tuple #[.int .i64 p,.int .i64 0])/\Below W.heap.size W w'):=fun W hW=>by
  have c:=q4y A C ss t0 t1 t2 f x W (hZ.below hW) hC (hS.up hW) (okup t0 W hW h0) (okup t1 W hW h1) (okup t2 W hW h2) true hB
  rw[hx] at c
  have hn:¬p<0:=by omega
  simp only[if_true,hn,if_false] at c
  exact c
 have con2:Hid (∀W,Below w.heap.size w W->Calls Tryz.prog 151 #[.int .i64 1] W fun e w'=>e=.returned (.tuple #[.int .i64 0,.bool true])/\w'=W):=fun W hW=>q4m 1 W (hZ.below hW)
 have con3:=q0k fun W=>q6e a b W
 rw[show q5s a b=true by simp[q5s,ha,hab,hb]] at con3
 have con4:=q0k fun W (hW:Below w.heap.size w W)=>q6w t0.A t0.C t0.r p a b t0.ps L W (h0.1.up hW) h0.2.1 ⟨hp,hp2⟩ ha hab hb hL
 rw[hM] at con4
 clear okup hB hx hZ hC hS h0 h1 h2 hL hM
 obtain⟨A0,C0,p0,r0⟩:=t0
 obtain⟨A1,C1,p1,r1⟩:=t1
 obtain⟨A2,C2,p2,r2⟩:=t2
 simp only[q0l] at *
 obtain⟨j0,hi0,hz0,hz1,hz2⟩:=info_parts qjp
 have hl':¬((500:Int)<(M.length:Int)):=by omega
 go_enter Tryz.func117,Tryz.ntmps117
 go_wp2_with (first
  |(go_at_call 61;refine(con1.out _ (b0 _)).mono ?_;rintro e w1 ⟨rfl,hb1⟩;have hw1:Below w.heap.size w w1:=q0e (b0 _) (Nat.le_refl _) hb1;have yy:=(q0w hb1).1;have z1:=sz1 hb1)
  |(go_at_call 151;refine(con2.out _ hw1).mono ?_;rintro e wx ⟨rfl,hwx⟩;subst wx)
  |(go_at_call 62;refine(con3.out _).mono ?_;rintro e wx ⟨rfl,hwx⟩;subst wx)
  |(go_at_call 65;refine(con4.out _ hw1).mono ?_;rintro e w2 ⟨hb2,v2,rfl,ho2⟩;obtain⟨VA,VC,rfl,-,-,-,hr2⟩:=q0h ho2;have hw2:Below w.heap.size w w2:=q0e hw1 (Nat.le_refl _) hb2;clear hb2 ho2))
 clear con1 con2 con3 con4 hw1 yy z1
 go_loopw [17,59] (fun vo vi wr=>∃i:Nat,i<=M.length/\vi=.int .i64 i/\wr.ownsRow w2.heap.size 132 7 vo i (q0d ((M.take i).map rowE))/\Below w2.heap.size w2 wr) (fun _ vi _=>M.length-(intOf vi).toNat)
 case atStart=>exact⟨0,Nat.zero_le _,rfl,World.ownsRow_nil _ _ _ _,Below.refl _ _⟩
 case round=>
  obtain⟨i,hi,rfl,hown,hbr⟩:=hrel
  have hszr:=hbr.size
  obtain⟨A3,C3,rfl,-⟩:=q0h hown
  have HO:=q0k hown
  have hov:Hid (∀q,(Value.slice A3 i C3).ownBlock=some q->w2.heap.size<=q/\q<wr.heap.size):=qdo hown
  clear hown
  by_cases hlt:i<M.length
  ·obtain⟨bb,oo,rfl,hbl,c0,c1,c2,c3,c4,c5,c6⟩:=(hr2.below hbr (Nat.le_refl _)).en hlt
   have hky:=hk _ (List.getElem_mem hlt)
   have HT:=q0k (qgi hlt)
   obtain⟨y,hy⟩:∃y,M[i]=y:=⟨_,rfl⟩
   rw[hy] at c0 c1 c2 c3 c4 c5 c6 hky HT
   clear hy
   have lbx:bb<wr.heap.size:=by omega
   have q0:(0:Int)<=(i:Int):=by omega
   have q1:(i:Int)<(M.length:Int):=by omega
   go_wp2_with fail
   go_region_held3 (fun w'=>w'.cell? ⟨wr.heap.size,0,none⟩=some (.int .i64 y.key)/\w'.cell? ⟨wr.heap.size,1,none⟩=some (.int .i64 y.c)/\w'.cell? ⟨wr.heap.size,2,none⟩=some (.int .i64 y.s)/\w'.cell? ⟨wr.heap.size,3,none⟩=some (.int .i64 y.lo)/\w'.cell? ⟨wr.heap.size,4,none⟩=some (.int .i64 y.hi)/\w'.cell? ⟨wr.heap.size,5,none⟩=some (.int .i64 y.t)/\w'.cell? ⟨wr.heap.size,6,none⟩=some (.int .i64 y.l)) (go_keep)
    (first
     |(go_at_call 126;refine(q1z y.key _ hky).mono ?_;rintro e wx ⟨rfl,hwx⟩;subst wx)
     |(refine step_append_lies _ rfl (.tmp 63) (.tmp 70) 62 rfl w2.heap.size 132 j0 _ 7 56 Tryz.underlying62 hi0 hz0 hz1 hz2 rfl (by decide) (.slice A3 i C3) i (q0d ((M.take i).map rowE)) (by simp[Act.eval]) (q2c HO.out ((((Below.refl _ _).alloc (Nat.le_refl _) _).drew).alloc (by simp) _)) ⟨wr.heap.size+1,0,none⟩ 1 1 (q0d [rowE y]) (by simp[Act.eval]) rfl (qsw wr (rowE y) _ _) (q1w _) (by decide) (by unfold maxLen;omega) (by omega) (by simp;omega) (wr.heap.size+2) (by simp) ?_;intro g' C' w5 hown5 hgrow5 hat5 hlt5;have CF:∀j,w5.cell? ⟨wr.heap.size,j,none⟩=(wr.alloc (.cells #[.int .i64 y.key,.int .i64 y.c,.int .i64 y.s,.int .i64 y.lo,.int .i64 y.hi,.int .i64 y.t,.int .i64 y.l] 86)).cell? ⟨wr.heap.size,j,none⟩:=(fun j=>(hgrow5.cell_far ⟨wr.heap.size,j,none⟩ (by show wr.heap.size<_;simp;omega) (fun e=>by have:=(hov.out wr.heap.size e.symm).2;omega)).trans (((Below.refl (wr.heap.size+1) (wr.alloc (.cells #[.int .i64 y.key,.int .i64 y.c,.int .i64 y.s,.int .i64 y.lo,.int .i64 y.hi,.int .i64 y.t,.int .i64 y.l] 86))).drew.alloc (by simp) _).cell (p:=⟨wr.heap.size,j,none⟩) (by show wr.heap.size<wr.heap.size+1;omega)));have HR:=q0k (And.intro hown5 (((hbr.alloc hszr _).drew.alloc (by simp;omega) _).grown hgrow5 (by simp;omega) (fun q hq=>(hov.out q hq).1)));clear hown5 hgrow5 hat5))
   all_goals
    obtain⟨R1,R2⟩:=HR.out
    rw[<-HT.out] at R1
    have RR:=q0k (And.intro R1 R2)
    clear R1 R2 HR CF HT HO hov
    go_wp2
    go_roundw
    case rel=>
     go_light
     exact⟨i+1,by omega,by go_num,RR.out.1,RR.out.2⟩
    case measure=>simp[intOf];omega
  ·obtain rfl:i=M.length:=by omega
   have hni:¬((M.length:Int)<(M.length:Int)):=by omega
   have R1:=HO.out
   rw[List.take_length] at R1
   go_wp2_with fail
   go_ret2
   exact⟨q0e hw2 (Nat.le_refl _) hbr,_,rfl,q0m R1 hw2.size⟩

set_option maxRecDepth 20000 in
set_option maxHeartbeats 2000000 in
theorem qvf(A:Option Addr)(C:Nat)(ss:List ByteArray)(t0 t1 t2:TR)(f:Int)(x:ByteArray)(a b p:Int)(M:List En)(w:World)(hZ:SzAt w)(hC:ss.length<=C)(hS:q2v w.heap.size w A ss)(h0:t0.ok w)(h1:t1.ok w)(h2:t2.ok w)
  (hB:q2o ss f (t0.ps.map PN.nd) t0.r (t1.ps.map PN.nd) t1.r (t2.ps.map PN.nd) t2.r=true) (hx:Lib.idxOfS ss x=p) (hp:0<=p) (hp2:p<16) (ha:0<=a) (hab:a<=b) (hb:b<=1048575) (L:List En) (hL:allP (t1.ps.map PN.nd) t1.r 0 1099511627776=(0,L)) (hM:L.filter (selB p a b)=M) (hk:∀y∈M,0<=y.key/\y.key<1099511627776) (hl:M.length<=500):
  Calls Tryz.prog 117 #[.agg (q0l A C ss t0 t1 t2 f).toArray,.string x,.int .i64 60,.int .i64 a,.int .i64 b] w (qmf M w):=by
 have b0:∀o:Obj,Below w.heap.size w (w.alloc o):=fun o=>(Below.refl _ _).alloc (Nat.le_refl _) o
 have okup:∀(t:TR) (w':World),Below w.heap.size w w'->t.ok w->t.ok w':=fun t w' hb ht=>⟨ht.1.up hb,ht.2.1,ht.2.2⟩
 have con1:Hid (∀W,Below w.heap.size w W->Calls Tryz.prog 61 #[.agg (q0l A C ss t0 t1 t2 f).toArray,.string x] W fun e w'=>e=.returned (.tuple #[.int .i64 p,.int .i64 0])/\Below W.heap.size W w'):=fun W hW=>by
  have c:=q4y A C ss t0 t1 t2 f x W (hZ.below hW) hC (hS.up hW) (okup t0 W hW h0) (okup t1 W hW h1) (okup t2 W hW h2) true hB
  rw[hx] at c
  have hn:¬p<0:=by omega
  simp only[if_true,hn,if_false] at c
  exact c
 have con2:Hid (∀W,Below w.heap.size w W->Calls Tryz.prog 151 #[.int .i64 60] W fun e w'=>e=.returned (.tuple #[.int .i64 1,.bool true])/\w'=W):=fun W hW=>q4m 60 W (hZ.below hW)
 have con3:=q0k fun W=>q6e a b W
 rw[show q5s a b=true by simp[q5s,ha,hab,hb]] at con3
 have con4:=q0k fun W (hW:Below w.heap.size w W)=>q6w t1.A t1.C t1.r p a b t1.ps L W (h1.1.up hW) h1.2.1 ⟨hp,hp2⟩ ha hab hb hL
 rw[hM] at con4
 clear okup hB hx hZ hC hS h0 h1 h2 hL hM
 obtain⟨A0,C0,p0,r0⟩:=t0
 obtain⟨A1,C1,p1,r1⟩:=t1
 obtain⟨A2,C2,p2,r2⟩:=t2
 simp only[q0l] at *
 obtain⟨j0,hi0,hz0,hz1,hz2⟩:=info_parts qjp
 have hl':¬((500:Int)<(M.length:Int)):=by omega
 go_enter Tryz.func117,Tryz.ntmps117
 go_wp2_with (first
  |(go_at_call 61;refine(con1.out _ (b0 _)).mono ?_;rintro e w1 ⟨rfl,hb1⟩;have hw1:Below w.heap.size w w1:=q0e (b0 _) (Nat.le_refl _) hb1;have yy:=(q0w hb1).1;have z1:=sz1 hb1)
  |(go_at_call 151;refine(con2.out _ hw1).mono ?_;rintro e wx ⟨rfl,hwx⟩;subst wx)
  |(go_at_call 62;refine(con3.out _).mono ?_;rintro e wx ⟨rfl,hwx⟩;subst wx)
  |(go_at_call 65;refine(con4.out _ hw1).mono ?_;rintro e w2 ⟨hb2,v2,rfl,ho2⟩;obtain⟨VA,VC,rfl,-,-,-,hr2⟩:=q0h ho2;have hw2:Below w.heap.size w w2:=q0e hw1 (Nat.le_refl _) hb2;clear hb2 ho2))
 clear con1 con2 con3 con4 hw1 yy z1
 go_loopw [17,59] (fun vo vi wr=>∃i:Nat,i<=M.length/\vi=.int .i64 i/\wr.ownsRow w2.heap.size 132 7 vo i (q0d ((M.take i).map rowE))/\Below w2.heap.size w2 wr) (fun _ vi _=>M.length-(intOf vi).toNat)
 case atStart=>exact⟨0,Nat.zero_le _,rfl,World.ownsRow_nil _ _ _ _,Below.refl _ _⟩
 case round=>
  obtain⟨i,hi,rfl,hown,hbr⟩:=hrel
  have hszr:=hbr.size
  obtain⟨A3,C3,rfl,-⟩:=q0h hown
  have HO:=q0k hown
  have hov:Hid (∀q,(Value.slice A3 i C3).ownBlock=some q->w2.heap.size<=q/\q<wr.heap.size):=qdo hown
  clear hown
  by_cases hlt:i<M.length
  ·obtain⟨bb,oo,rfl,hbl,c0,c1,c2,c3,c4,c5,c6⟩:=(hr2.below hbr (Nat.le_refl _)).en hlt
   have hky:=hk _ (List.getElem_mem hlt)
   have HT:=q0k (qgi hlt)
   obtain⟨y,hy⟩:∃y,M[i]=y:=⟨_,rfl⟩
   rw[hy] at c0 c1 c2 c3 c4 c5 c6 hky HT
   clear hy
   have lbx:bb<wr.heap.size:=by omega
   have q0:(0:Int)<=(i:Int):=by omega
   have q1:(i:Int)<(M.length:Int):=by omega
   go_wp2_with fail
   go_region_held3 (fun w'=>w'.cell? ⟨wr.heap.size,0,none⟩=some (.int .i64 y.key)/\w'.cell? ⟨wr.heap.size,1,none⟩=some (.int .i64 y.c)/\w'.cell? ⟨wr.heap.size,2,none⟩=some (.int .i64 y.s)/\w'.cell? ⟨wr.heap.size,3,none⟩=some (.int .i64 y.lo)/\w'.cell? ⟨wr.heap.size,4,none⟩=some (.int .i64 y.hi)/\w'.cell? ⟨wr.heap.size,5,none⟩=some (.int .i64 y.t)/\w'.cell? ⟨wr.heap.size,6,none⟩=some (.int .i64 y.l)) (go_keep)
    (first
     |(go_at_call 126;refine(q1z y.key _ hky).mono ?_;rintro e wx ⟨rfl,hwx⟩;subst wx)
     |(refine step_append_lies _ rfl (.tmp 63) (.tmp 70) 62 rfl w2.heap.size 132 j0 _ 7 56 Tryz.underlying62 hi0 hz0 hz1 hz2 rfl (by decide) (.slice A3 i C3) i (q0d ((M.take i).map rowE)) (by simp[Act.eval]) (q2c HO.out ((((Below.refl _ _).alloc (Nat.le_refl _) _).drew).alloc (by simp) _)) ⟨wr.heap.size+1,0,none⟩ 1 1 (q0d [rowE y]) (by simp[Act.eval]) rfl (qsw wr (rowE y) _ _) (q1w _) (by decide) (by unfold maxLen;omega) (by omega) (by simp;omega) (wr.heap.size+2) (by simp) ?_;intro g' C' w5 hown5 hgrow5 hat5 hlt5;have CF:∀j,w5.cell? ⟨wr.heap.size,j,none⟩=(wr.alloc (.cells #[.int .i64 y.key,.int .i64 y.c,.int .i64 y.s,.int .i64 y.lo,.int .i64 y.hi,.int .i64 y.t,.int .i64 y.l] 86)).cell? ⟨wr.heap.size,j,none⟩:=(fun j=>(hgrow5.cell_far ⟨wr.heap.size,j,none⟩ (by show wr.heap.size<_;simp;omega) (fun e=>by have:=(hov.out wr.heap.size e.symm).2;omega)).trans (((Below.refl (wr.heap.size+1) (wr.alloc (.cells #[.int .i64 y.key,.int .i64 y.c,.int .i64 y.s,.int .i64 y.lo,.int .i64 y.hi,.int .i64 y.t,.int .i64 y.l] 86))).drew.alloc (by simp) _).cell (p:=⟨wr.heap.size,j,none⟩) (by show wr.heap.size<wr.heap.size+1;omega)));have HR:=q0k (And.intro hown5 (((hbr.alloc hszr _).drew.alloc (by simp;omega) _).grown hgrow5 (by simp;omega) (fun q hq=>(hov.out q hq).1)));clear hown5 hgrow5 hat5))
   all_goals
    obtain⟨R1,R2⟩:=HR.out
    rw[<-HT.out] at R1
    have RR:=q0k (And.intro R1 R2)
    clear R1 R2 HR CF HT HO hov
    go_wp2
    go_roundw
    case rel=>
     go_light
     exact⟨i+1,by omega,by go_num,RR.out.1,RR.out.2⟩
    case measure=>simp[intOf];omega
  ·obtain rfl:i=M.length:=by omega
   have hni:¬((M.length:Int)<(M.length:Int)):=by omega
   have R1:=HO.out
   rw[List.take_length] at R1
   go_wp2_with fail
   go_ret2
   exact⟨q0e hw2 (Nat.le_refl _) hbr,_,rfl,q0m R1 hw2.size⟩

set_option maxRecDepth 20000 in
set_option maxHeartbeats 2000000 in
theorem qwb(A:Option Addr)(C:Nat)(ss:List ByteArray)(t0 t1 t2:TR)(f:Int)(x:ByteArray)(a b p:Int)(M:List En)(w:World)(hZ:SzAt w)(hC:ss.length<=C)(hS:q2v w.heap.size w A ss)(h0:t0.ok w)(h1:t1.ok w)(h2:t2.ok w)
  (hB:q2o ss f (t0.ps.map PN.nd) t0.r (t1.ps.map PN.nd) t1.r (t2.ps.map PN.nd) t2.r=true) (hx:Lib.idxOfS ss x=p) (hp:0<=p) (hp2:p<16) (ha:0<=a) (hab:a<=b) (hb:b<=1048575) (L:List En) (hL:allP (t2.ps.map PN.nd) t2.r 0 1099511627776=(0,L)) (hM:L.filter (selB p a b)=M) (hk:∀y∈M,0<=y.key/\y.key<1099511627776) (hl:M.length<=500):
  Calls Tryz.prog 117 #[.agg (q0l A C ss t0 t1 t2 f).toArray,.string x,.int .i64 3600,.int .i64 a,.int .i64 b] w (qmf M w):=by
 have b0:∀o:Obj,Below w.heap.size w (w.alloc o):=fun o=>(Below.refl _ _).alloc (Nat.le_refl _) o
 have okup:∀(t:TR) (w':World),Below w.heap.size w w'->t.ok w->t.ok w':=fun t w' hb ht=>⟨ht.1.up hb,ht.2.1,ht.2.2⟩
 have con1:Hid (∀W,Below w.heap.size w W->Calls Tryz.prog 61 #[.agg (q0l A C ss t0 t1 t2 f).toArray,.string x] W fun e w'=>e=.returned (.tuple #[.int .i64 p,.int .i64 0])/\Below W.heap.size W w'):=fun W hW=>by
  have c:=q4y A C ss t0 t1 t2 f x W (hZ.below hW) hC (hS.up hW) (okup t0 W hW h0) (okup t1 W hW h1) (okup t2 W hW h2) true hB
  rw[hx] at c
  have hn:¬p<0:=by omega
  simp only[if_true,hn,if_false] at c
  exact c
 have con2:Hid (∀W,Below w.heap.size w W->Calls Tryz.prog 151 #[.int .i64 3600] W fun e w'=>e=.returned (.tuple #[.int .i64 2,.bool true])/\w'=W):=fun W hW=>q4m 3600 W (hZ.below hW)
 have con3:=q0k fun W=>q6e a b W
 rw[show q5s a b=true by simp[q5s,ha,hab,hb]] at con3
 have con4:=q0k fun W (hW:Below w.heap.size w W)=>q6w t2.A t2.C t2.r p a b t2.ps L W (h2.1.up hW) h2.2.1 ⟨hp,hp2⟩ ha hab hb hL
 rw[hM] at con4
 clear okup hB hx hZ hC hS h0 h1 h2 hL hM
 obtain⟨A0,C0,p0,r0⟩:=t0
 obtain⟨A1,C1,p1,r1⟩:=t1
 obtain⟨A2,C2,p2,r2⟩:=t2
 simp only[q0l] at *
 obtain⟨j0,hi0,hz0,hz1,hz2⟩:=info_parts qjp
 have hl':¬((500:Int)<(M.length:Int)):=by omega
 go_enter Tryz.func117,Tryz.ntmps117
 go_wp2_with (first
  |(go_at_call 61;refine(con1.out _ (b0 _)).mono ?_;rintro e w1 ⟨rfl,hb1⟩;have hw1:Below w.heap.size w w1:=q0e (b0 _) (Nat.le_refl _) hb1;have yy:=(q0w hb1).1;have z1:=sz1 hb1)
  |(go_at_call 151;refine(con2.out _ hw1).mono ?_;rintro e wx ⟨rfl,hwx⟩;subst wx)
  |(go_at_call 62;refine(con3.out _).mono ?_;rintro e wx ⟨rfl,hwx⟩;subst wx)
  |(go_at_call 65;refine(con4.out _ hw1).mono ?_;rintro e w2 ⟨hb2,v2,rfl,ho2⟩;obtain⟨VA,VC,rfl,-,-,-,hr2⟩:=q0h ho2;have hw2:Below w.heap.size w w2:=q0e hw1 (Nat.le_refl _) hb2;clear hb2 ho2))
 clear con1 con2 con3 con4 hw1 yy z1
 go_loopw [17,59] (fun vo vi wr=>∃i:Nat,i<=M.length/\vi=.int .i64 i/\wr.ownsRow w2.heap.size 132 7 vo i (q0d ((M.take i).map rowE))/\Below w2.heap.size w2 wr) (fun _ vi _=>M.length-(intOf vi).toNat)
 case atStart=>exact⟨0,Nat.zero_le _,rfl,World.ownsRow_nil _ _ _ _,Below.refl _ _⟩
 case round=>
  obtain⟨i,hi,rfl,hown,hbr⟩:=hrel
  have hszr:=hbr.size
  obtain⟨A3,C3,rfl,-⟩:=q0h hown
  have HO:=q0k hown
  have hov:Hid (∀q,(Value.slice A3 i C3).ownBlock=some q->w2.heap.size<=q/\q<wr.heap.size):=qdo hown
  clear hown
  by_cases hlt:i<M.length
  ·obtain⟨bb,oo,rfl,hbl,c0,c1,c2,c3,c4,c5,c6⟩:=(hr2.below hbr (Nat.le_refl _)).en hlt
   have hky:=hk _ (List.getElem_mem hlt)
   have HT:=q0k (qgi hlt)
   obtain⟨y,hy⟩:∃y,M[i]=y:=⟨_,rfl⟩
   rw[hy] at c0 c1 c2 c3 c4 c5 c6 hky HT
   clear hy
   have lbx:bb<wr.heap.size:=by omega
   have q0:(0:Int)<=(i:Int):=by omega
   have q1:(i:Int)<(M.length:Int):=by omega
   go_wp2_with fail
   go_region_held3 (fun w'=>w'.cell? ⟨wr.heap.size,0,none⟩=some (.int .i64 y.key)/\w'.cell? ⟨wr.heap.size,1,none⟩=some (.int .i64 y.c)/\w'.cell? ⟨wr.heap.size,2,none⟩=some (.int .i64 y.s)/\w'.cell? ⟨wr.heap.size,3,none⟩=some (.int .i64 y.lo)/\w'.cell? ⟨wr.heap.size,4,none⟩=some (.int .i64 y.hi)/\w'.cell? ⟨wr.heap.size,5,none⟩=some (.int .i64 y.t)/\w'.cell? ⟨wr.heap.size,6,none⟩=some (.int .i64 y.l)) (go_keep)
    (first
     |(go_at_call 126;refine(q1z y.key _ hky).mono ?_;rintro e wx ⟨rfl,hwx⟩;subst wx)
     |(refine step_append_lies _ rfl (.tmp 63) (.tmp 70) 62 rfl w2.heap.size 132 j0 _ 7 56 Tryz.underlying62 hi0 hz0 hz1 hz2 rfl (by decide) (.slice A3 i C3) i (q0d ((M.take i).map rowE)) (by simp[Act.eval]) (q2c HO.out ((((Below.refl _ _).alloc (Nat.le_refl _) _).drew).alloc (by simp) _)) ⟨wr.heap.size+1,0,none⟩ 1 1 (q0d [rowE y]) (by simp[Act.eval]) rfl (qsw wr (rowE y) _ _) (q1w _) (by decide) (by unfold maxLen;omega) (by omega) (by simp;omega) (wr.heap.size+2) (by simp) ?_;intro g' C' w5 hown5 hgrow5 hat5 hlt5;have CF:∀j,w5.cell? ⟨wr.heap.size,j,none⟩=(wr.alloc (.cells #[.int .i64 y.key,.int .i64 y.c,.int .i64 y.s,.int .i64 y.lo,.int .i64 y.hi,.int .i64 y.t,.int .i64 y.l] 86)).cell? ⟨wr.heap.size,j,none⟩:=(fun j=>(hgrow5.cell_far ⟨wr.heap.size,j,none⟩ (by show wr.heap.size<_;simp;omega) (fun e=>by have:=(hov.out wr.heap.size e.symm).2;omega)).trans (((Below.refl (wr.heap.size+1) (wr.alloc (.cells #[.int .i64 y.key,.int .i64 y.c,.int .i64 y.s,.int .i64 y.lo,.int .i64 y.hi,.int .i64 y.t,.int .i64 y.l] 86))).drew.alloc (by simp) _).cell (p:=⟨wr.heap.size,j,none⟩) (by show wr.heap.size<wr.heap.size+1;omega)));have HR:=q0k (And.intro hown5 (((hbr.alloc hszr _).drew.alloc (by simp;omega) _).grown hgrow5 (by simp;omega) (fun q hq=>(hov.out q hq).1)));clear hown5 hgrow5 hat5))
   all_goals
    obtain⟨R1,R2⟩:=HR.out
    rw[<-HT.out] at R1
    have RR:=q0k (And.intro R1 R2)
    clear R1 R2 HR CF HT HO hov
    go_wp2
    go_roundw
    case rel=>
     go_light
     exact⟨i+1,by omega,by go_num,RR.out.1,RR.out.2⟩
    case measure=>simp[intOf];omega
  ·obtain rfl:i=M.length:=by omega
   have hni:¬((M.length:Int)<(M.length:Int)):=by omega
   have R1:=HO.out
   rw[List.take_length] at R1
   go_wp2_with fail
   go_ret2
   exact⟨q0e hw2 (Nat.le_refl _) hbr,_,rfl,q0m R1 hw2.size⟩

set_option maxRecDepth 20000 in
set_option maxHeartbeats 2000000 in
theorem z2h(A:Option Addr)(C:Nat)(ss:List ByteArray)(t0 t1 t2:TR)(f:Int)(x:ByteArray)(size a b c:Int)(w:World)(q:Int)(hc:(c != 0)=true)(con1:Hid (∀W,Below w.heap.size w W->Calls Tryz.prog 61 #[.agg (q0l A C ss t0 t1 t2 f).toArray,.string x] W fun e w'=>e=.returned (.tuple #[.int .i64 q,.int .i64 c])/\Below W.heap.size W w')):
  Calls Tryz.prog 117 #[.agg (q0l A C ss t0 t1 t2 f).toArray,.string x,.int .i64 size,.int .i64 a,.int .i64 b] w fun e w'=>e=.returned (.tuple #[.slice none 0 0,.int .i64 c])/\Below w.heap.size w w':=by
 have b0:∀o:Obj,Below w.heap.size w (w.alloc o):=fun o=>(Below.refl _ _).alloc (Nat.le_refl _) o
 obtain⟨A0,C0,p0,r0⟩:=t0
 obtain⟨A1,C1,p1,r1⟩:=t1
 obtain⟨A2,C2,p2,r2⟩:=t2
 simp only[q0l] at *
 go_enter Tryz.func117,Tryz.ntmps117
 go_wp2_with (first
  |(go_at_call 61;refine(con1.out _ (b0 _)).mono ?_;rintro e w1 ⟨rfl,hb1⟩;have hw1:Below w.heap.size w w1:=q0e (b0 _) (Nat.le_refl _) hb1))
 go_ret2
 exact⟨rfl,hw1⟩

set_option maxRecDepth 20000 in
set_option maxHeartbeats 2000000 in
theorem qq4(A:Option Addr)(C:Nat)(ss:List ByteArray)(t0 t1 t2:TR)(f:Int)(x:ByteArray)(size a b:Int)(w:World)(q:Int)(hZ:SzAt w)(hs:¬(size=1\/size=60\/size=3600))(con1:Hid (∀W,Below w.heap.size w W->Calls Tryz.prog 61 #[.agg (q0l A C ss t0 t1 t2 f).toArray,.string x] W fun e w'=>e=.returned (.tuple #[.int .i64 q,.int .i64 0])/\Below W.heap.size W w')):
  Calls Tryz.prog 117 #[.agg (q0l A C ss t0 t1 t2 f).toArray,.string x,.int .i64 size,.int .i64 a,.int .i64 b] w fun e w'=>e=.returned (.tuple #[.slice none 0 0,.int .i64 3])/\Below w.heap.size w w':=by
 have b0:∀o:Obj,Below w.heap.size w (w.alloc o):=fun o=>(Below.refl _ _).alloc (Nat.le_refl _) o
 have con2:Hid (∀W,Below w.heap.size w W->Calls Tryz.prog 151 #[.int .i64 size] W fun e w'=>e=.returned (.tuple #[.int .i64 0,.bool false])/\w'=W):=fun W hW=>by
  have k:=q4m size W (hZ.below hW)
  have h1:¬size=1:=fun e=>hs (.inl e)
  have h2:¬size=60:=fun e=>hs (.inr (.inl e))
  have h3:¬size=3600:=fun e=>hs (.inr (.inr e))
  simp only[h1,h2,h3,if_false,or_self,decide_false] at k
  exact k
 obtain⟨A0,C0,p0,r0⟩:=t0
 obtain⟨A1,C1,p1,r1⟩:=t1
 obtain⟨A2,C2,p2,r2⟩:=t2
 simp only[q0l] at *
 go_enter Tryz.func117,Tryz.ntmps117
 go_wp2_with (first
  |(go_at_call 61;refine(con1.out _ (b0 _)).mono ?_;rintro e w1 ⟨rfl,hb1⟩;have hw1:Below w.heap.size w w1:=q0e (b0 _) (Nat.le_refl _) hb1)
  |(go_at_call 151;refine(con2.out _ hw1).mono ?_;rintro e wx ⟨rfl,hwx⟩;subst wx))
 go_ret2
 exact⟨rfl,hw1⟩

set_option maxRecDepth 20000 in
set_option maxHeartbeats 2000000 in
theorem qno(A:Option Addr)(C:Nat)(ss:List ByteArray)(t0 t1 t2:TR)(f:Int)(x:ByteArray)(a b:Int)(w:World)(q:Int)(hZ:SzAt w)(hsp:q5s a b=false)(con1:Hid (∀W,Below w.heap.size w W->Calls Tryz.prog 61 #[.agg (q0l A C ss t0 t1 t2 f).toArray,.string x] W fun e w'=>e=.returned (.tuple #[.int .i64 q,.int .i64 0])/\Below W.heap.size W w')):
  Calls Tryz.prog 117 #[.agg (q0l A C ss t0 t1 t2 f).toArray,.string x,.int .i64 1,.int .i64 a,.int .i64 b] w fun e w'=>e=.returned (.tuple #[.slice none 0 0,.int .i64 2])/\Below w.heap.size w w':=by
 have b0:∀o:Obj,Below w.heap.size w (w.alloc o):=fun o=>(Below.refl _ _).alloc (Nat.le_refl _) o
 have con2:Hid (∀W,Below w.heap.size w W->Calls Tryz.prog 151 #[.int .i64 1] W fun e w'=>e=.returned (.tuple #[.int .i64 0,.bool true])/\w'=W):=fun W hW=>q4m 1 W (hZ.below hW)
 have con3:=q0k fun W=>q6e a b W
 rw[hsp] at con3
 obtain⟨A0,C0,p0,r0⟩:=t0
 obtain⟨A1,C1,p1,r1⟩:=t1
 obtain⟨A2,C2,p2,r2⟩:=t2
 simp only[q0l] at *
 go_enter Tryz.func117,Tryz.ntmps117
 go_wp2_with (first
  |(go_at_call 61;refine(con1.out _ (b0 _)).mono ?_;rintro e w1 ⟨rfl,hb1⟩;have hw1:Below w.heap.size w w1:=q0e (b0 _) (Nat.le_refl _) hb1)
  |(go_at_call 151;refine(con2.out _ hw1).mono ?_;rintro e wx ⟨rfl,hwx⟩;subst wx)
  |(go_at_call 62;refine(con3.out _).mono ?_;rintro e wx ⟨rfl,hwx⟩;subst wx))
 go_ret2
 exact⟨rfl,hw1⟩

set_option maxRecDepth 20000 in
set_option maxHeartbeats 2000000 in
theorem qo2(A:Option Addr)(C:Nat)(ss:List ByteArray)(t0 t1 t2:TR)(f:Int)(x:ByteArray)(a b:Int)(w:World)(q:Int)(hZ:SzAt w)(hsp:q5s a b=false)(con1:Hid (∀W,Below w.heap.size w W->Calls Tryz.prog 61 #[.agg (q0l A C ss t0 t1 t2 f).toArray,.string x] W fun e w'=>e=.returned (.tuple #[.int .i64 q,.int .i64 0])/\Below W.heap.size W w')):
  Calls Tryz.prog 117 #[.agg (q0l A C ss t0 t1 t2 f).toArray,.string x,.int .i64 60,.int .i64 a,.int .i64 b] w fun e w'=>e=.returned (.tuple #[.slice none 0 0,.int .i64 2])/\Below w.heap.size w w':=by
 have b0:∀o:Obj,Below w.heap.size w (w.alloc o):=fun o=>(Below.refl _ _).alloc (Nat.le_refl _) o
 have con2:Hid (∀W,Below w.heap.size w W->Calls Tryz.prog 151 #[.int .i64 60] W fun e w'=>e=.returned (.tuple #[.int .i64 1,.bool true])/\w'=W):=fun W hW=>q4m 60 W (hZ.below hW)
 have con3:=q0k fun W=>q6e a b W
 rw[hsp] at con3
 obtain⟨A0,C0,p0,r0⟩:=t0
 obtain⟨A1,C1,p1,r1⟩:=t1
 obtain⟨A2,C2,p2,r2⟩:=t2
 simp only[q0l] at *
 go_enter Tryz.func117,Tryz.ntmps117
 go_wp2_with (first
  |(go_at_call 61;refine(con1.out _ (b0 _)).mono ?_;rintro e w1 ⟨rfl,hb1⟩;have hw1:Below w.heap.size w w1:=q0e (b0 _) (Nat.le_refl _) hb1)
  |(go_at_call 151;refine(con2.out _ hw1).mono ?_;rintro e wx ⟨rfl,hwx⟩;subst wx)
  |(go_at_call 62;refine(con3.out _).mono ?_;rintro e wx ⟨rfl,hwx⟩;subst wx))
 go_ret2
 exact⟨rfl,hw1⟩

set_option maxRecDepth 20000 in
set_option maxHeartbeats 2000000 in
theorem qpe(A:Option Addr)(C:Nat)(ss:List ByteArray)(t0 t1 t2:TR)(f:Int)(x:ByteArray)(a b:Int)(w:World)(q:Int)(hZ:SzAt w)(hsp:q5s a b=false)(con1:Hid (∀W,Below w.heap.size w W->Calls Tryz.prog 61 #[.agg (q0l A C ss t0 t1 t2 f).toArray,.string x] W fun e w'=>e=.returned (.tuple #[.int .i64 q,.int .i64 0])/\Below W.heap.size W w')):
  Calls Tryz.prog 117 #[.agg (q0l A C ss t0 t1 t2 f).toArray,.string x,.int .i64 3600,.int .i64 a,.int .i64 b] w fun e w'=>e=.returned (.tuple #[.slice none 0 0,.int .i64 2])/\Below w.heap.size w w':=by
 have b0:∀o:Obj,Below w.heap.size w (w.alloc o):=fun o=>(Below.refl _ _).alloc (Nat.le_refl _) o
 have con2:Hid (∀W,Below w.heap.size w W->Calls Tryz.prog 151 #[.int .i64 3600] W fun e w'=>e=.returned (.tuple #[.int .i64 2,.bool true])/\w'=W):=fun W hW=>q4m 3600 W (hZ.below hW)
 have con3:=q0k fun W=>q6e a b W
 rw[hsp] at con3
 obtain⟨A0,C0,p0,r0⟩:=t0
 obtain⟨A1,C1,p1,r1⟩:=t1
 obtain⟨A2,C2,p2,r2⟩:=t2
 simp only[q0l] at *
 go_enter Tryz.func117,Tryz.ntmps117
 go_wp2_with (first
  |(go_at_call 61;refine(con1.out _ (b0 _)).mono ?_;rintro e w1 ⟨rfl,hb1⟩;have hw1:Below w.heap.size w w1:=q0e (b0 _) (Nat.le_refl _) hb1)
  |(go_at_call 151;refine(con2.out _ hw1).mono ?_;rintro e wx ⟨rfl,hwx⟩;subst wx)
  |(go_at_call 62;refine(con3.out _).mono ?_;rintro e wx ⟨rfl,hwx⟩;subst wx))
 go_ret2
 exact⟨rfl,hw1⟩

end
end Go.Proofs.YtlojfgdpmaigmafGreatDoor
