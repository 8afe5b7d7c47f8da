/- tree.knownAt and tree.Get. -/
import Derived.Test.YtlojfgdpmaigmagGreatDoorP14
import Derived.Test.YtlojfgdpmaigmagGreatDoorP17
namespace Go.Proofs.YtlojfgdpmaigmagGreatDoor
open Go.RowKit Plain

theorem qfz(w:World)(o:Obj)(l1 l2 l3:List Value)(t1 t2 t3:TypeId){W:World}(hW:W=(((w.alloc o).alloc (.cells l1.toArray t1)).alloc (.cells l2.toArray t2)).alloc (.cells l3.toArray t3)):
  RowL W (w.heap.size+1) t1 l1/\RowL W (w.heap.size+1+1) t2 l2/\RowL W (w.heap.size+1+1+1) t3 l3/\Below w.heap.size w W/\W.heap.size=w.heap.size+4:=by
 subst hW;have s0:(w.alloc o).heap.size=w.heap.size+1:=by simp
 have s1:((w.alloc o).alloc (.cells l1.toArray t1)).heap.size=w.heap.size+1+1:=by simp
 have s2:(((w.alloc o).alloc (.cells l1.toArray t1)).alloc (.cells l2.toArray t2)).heap.size=w.heap.size+1+1+1:=by simp
 have s3:((((w.alloc o).alloc (.cells l1.toArray t1)).alloc (.cells l2.toArray t2)).alloc (.cells l3.toArray t3)).heap.size=w.heap.size+4:=by simp
 have r1:RowL ((w.alloc o).alloc (.cells l1.toArray t1)) (w.heap.size+1) t1 l1:=by have:=aG (w.alloc o) l1 t1;rwa [s0] at this
 have r2:RowL (((w.alloc o).alloc (.cells l1.toArray t1)).alloc (.cells l2.toArray t2)) (w.heap.size+1+1) t2 l2:=by have:=aG ((w.alloc o).alloc (.cells l1.toArray t1)) l2 t2;rwa [s1] at this
 have r3:RowL ((((w.alloc o).alloc (.cells l1.toArray t1)).alloc (.cells l2.toArray t2)).alloc (.cells l3.toArray t3)) (w.heap.size+1+1+1) t3 l3:=by have:=aG (((w.alloc o).alloc (.cells l1.toArray t1)).alloc (.cells l2.toArray t2)) l3 t3;rwa [s2] at this
 refine⟨(r1.of_block (Below.heap_alloc _ _ _ (by omega))).of_block (Below.heap_alloc _ _ _ (by omega)),r2.of_block (Below.heap_alloc _ _ _ (by omega)),r3,?_,s3⟩
 exact((((Below.refl _ _).alloc (Nat.le_refl _) _).alloc (by omega) _).alloc (by omega) _).alloc (by omega) _

set_option maxRecDepth 20000 in
set_option maxHeartbeats 4000000 in
theorem vZ(A:Option Addr)(C:Nat)(r place key:Int)(ps:List PN)(w:World)(hN:bF w.heap.size w A ps)(hr:Reach (ps.map PN.nd) 12 place)(hk:0<=key/\key<=1099511627775)(s:Ru × Int)(hs:Hid ((Wl (ps.map PN.nd) key (key+1) 12 place).foldl bV (zro,0)=s)):
  Calls Tryz.prog 116 #[.agg #[.slice A ps.length C,.int .i64 r],.int .i64 place,.int .i64 key] w
   fun e w'=>e=.returned (.tuple #[.agg #[.int .i64 s.1.c,.int .i64 s.1.s,.int .i64 s.1.lo,.int .i64 s.1.hi,.int .i64 s.1.t,.int .i64 s.1.l],.int .i64 s.2])/\Below w.heap.size w w':=by
 obtain⟨W4,hW4⟩:∃W4,W4=(((w.alloc (.cells #[.slice A ps.length C,.int .i64 r] 32)).alloc (.cells #[.int .i64 0,.int .i64 0,.int .i64 0,.int .i64 0,.int .i64 0,.int .i64 0] 42)).alloc (.cells #[.int .i64 0,.int .i64 0,.int .i64 0,.int .i64 0,.int .i64 0,.int .i64 0] 42)).alloc (.cells #[.int .i64 0] 36):=⟨_,rfl⟩;obtain⟨r1,r2,r3,hb4,hz4⟩:=qfz w _ (ruV zro) (ruV zro) [.int .i64 0] _ _ _ hW4
 have con:Calls Tryz.prog 80 #[.agg #[.slice A ps.length C,.int .i64 r],.int .i64 place,.int .i64 key,.int .i64 (key+1),.func (Fn.func 136) #[] #[.pointer (some ⟨w.heap.size+1+1+1,0,none⟩),.pointer (some ⟨w.heap.size+1+1,0,none⟩)]] W4
   fun e w'=>e=.returned (.tuple #[])/\RowL w' (w.heap.size+1) 42 (ruV zro)/\RowL w' (w.heap.size+1+1) 42 (ruV s.1)/\RowL w' (w.heap.size+1+1+1) 36 [.int .i64 s.2]/\Below w.heap.size w w':=by
  have V:=visK (w.heap.size+1+1) (w.heap.size+1+1+1);have far:∀k,XK (w.heap.size+1+1) (w.heap.size+1+1+1) W4 k->w.heap.size<=k:=fun k hk=>by rcases hk with rfl|rfl<;>omega
  refine(qig (w.heap.size+1+1) (w.heap.size+1+1+1) V A C r ps w.heap.size key (key+1) 12 place (zro,0) W4 hr (hN.below hb4 (Nat.le_refl _)) ⟨by omega,r2,r3⟩ (by omega) far).mono ?_
  rintro e w' ⟨rfl,hK,hT⟩;rw[hs.out] at hK;exact⟨rfl,hT.row r1 (by rintro(h|h)<;>omega),hK.rk,hK.rc,hb4.trans (hT.below (by omega) far)⟩
 subst hW4;clear r1 r2 r3 hb4 hz4 hs hr
 go_enter Tryz.func116,Tryz.ntmps116
 go_wp2_with (go_at_call 80;refine con.mono ?_;rintro e w1 ⟨rfl,q1,q2,q3,hb1⟩;have d1:=fun j=>q1.cell j;have f1:=fun j=>q1.frozen j;have d2:=fun j=>q2.cell j;have d3:=fun j=>q3.cell j;simp only[ruV] at d1 d2;have l1:=q1.lt;have l2:=q2.lt;have l3:=q3.lt)
 clear con;obtain⟨n1,hn1⟩:∃n,n=w.heap.size+1:=⟨_,rfl⟩;obtain⟨n2,hn2⟩:∃n,n=w.heap.size+1+1:=⟨_,rfl⟩;obtain⟨n3,hn3⟩:∃n,n=w.heap.size+1+1+1:=⟨_,rfl⟩;have x12:¬n1=n2:=by omega
 have x21:¬n2=n1:=by omega
 have x13:¬n1=n3:=by omega
 have x31:¬n3=n1:=by omega
 have HN1:Hid (w.heap.size<=n1):=by show _<=_;omega
 rw[<-hn3,<-hn2,<-hn1];rw[<-hn1] at d1 f1 l1;rw[<-hn2] at d2 l2;rw[<-hn3] at d3 l3;clear hn1 hn2 hn3 q1 q2 q3
 go_region
 all_goals (try go_wp2)
 exact bodyPost_ret (v:=.tuple #[.agg #[.int .i64 s.1.c,.int .i64 s.1.s,.int .i64 s.1.lo,.int .i64 s.1.hi,.int .i64 s.1.t,.int .i64 s.1.l],.int .i64 s.2]) (by simp[results,Tryz.results116,go_sem,d1]) rfl ⟨rfl,(set6 hb1 HN1.out _ _ _ _ _ _).drew⟩

end Go.Proofs.YtlojfgdpmaigmagGreatDoor
