/- base.Copy: the same base, in memory of its own. -/
import Derived.Shelf.Strconv.Clone
import Derived.BigQuiet
import Derived.Test.YtlojfgdpmaigmagGreatDoorLays
import Derived.Test.YtlojfgdpmaigmagGreatDoorP16
import Derived.Test.YtlojfgdpmaigmagGreatDoorP08
namespace Go.Proofs.YtlojfgdpmaigmagGreatDoor
open Go.RowKit Go.Shelf

theorem qhq{v w2:World}{l1 l2:List Value}{t1 t2:TypeId}(hb:Below ((v.alloc (.cells l1.toArray t1)).alloc (.cells l2.toArray t2)).heap.size ((v.alloc (.cells l1.toArray t1)).alloc (.cells l2.toArray t2)) w2){n:Nat}(hn:n=v.heap.size):
  RowL w2 n t1 l1/\RowL w2 (n+1) t2 l2/\n+1<w2.heap.size:=by
 subst hn;have s1:(v.alloc (.cells l1.toArray t1)).heap.size=v.heap.size+1:=by simp
 have s2:((v.alloc (.cells l1.toArray t1)).alloc (.cells l2.toArray t2)).heap.size=v.heap.size+2:=by simp
 have r1:RowL ((v.alloc (.cells l1.toArray t1)).alloc (.cells l2.toArray t2)) v.heap.size t1 l1:=(aG v l1 t1).of_block (Below.heap_alloc _ _ _ (by omega))
 have r2:RowL ((v.alloc (.cells l1.toArray t1)).alloc (.cells l2.toArray t2)) (v.heap.size+1) t2 l2:=by
  have:=aG (v.alloc (.cells l1.toArray t1)) l2 t2
  rwa [s1] at this
 have hs:=hb.size;exact⟨r1.below hb (by omega),r2.below hb (by omega),by omega⟩

theorem vY{W w3:World}{c:Array Value}{t:TypeId}{n:Nat}(hb:Below (W.alloc (.cells c t)).heap.size (W.alloc (.cells c t)) w3)(hn:W.heap.size=n):
  (∀j,w3.cell? ⟨n,j,none⟩=c[j]?)/\∀j,w3.frozen? ⟨n,j,none⟩=false:=by
 subst hn;exact⟨fun j=>(hb.cell (p:=⟨W.heap.size,j,none⟩) (by simp)).trans (by simp),fun j=>(hb.frozen (p:=⟨W.heap.size,j,none⟩) (by simp)).trans (by simp)⟩

def tw(b:Bool)(g l:Nat):Value:=if b=true then .slice (some ⟨g,0,none⟩) l l else .slice none 0 0
def rw'(b:Bool)(r:Int):Value:=if b=true then .int .i64 r else .int .i64 0

def set8(w:World)(m:Nat)(a b c d e f g h:Value):World:=((((((((w.setCell ⟨m,0,none⟩ a).setCell ⟨m,1,none⟩ b).setCell ⟨m,2,none⟩ c).setCell ⟨m,3,none⟩ d).setCell ⟨m,4,none⟩ e).setCell ⟨m,5,none⟩ f).setCell ⟨m,6,none⟩ g).setCell ⟨m,7,none⟩ h)

theorem fM(w:World)(m:Nat)(a b c d e f g h:Value)(k:Nat)(hk:k≠m):(set8 w m a b c d e f g h).heap[k]? =w.heap[k]? :=by
 have far:∀(W:World) (j:Nat) (v:Value),(W.setCell ⟨m,j,none⟩ v).heap[k]? =W.heap[k]? :=fun W j v=>Below.heap_setCell _ _ _ _ hk
 unfold set8;rw[far,far,far,far,far,far,far,far]

theorem fG{B:Nat}{w0 w:World}(hb:Below B w0 w){m:Nat}(hm:B<=m)(j:Nat)(v:Value):Below B w0 (w.setCell ⟨m,j,none⟩ v):=
 ⟨hb.os,hb.tape,hb.output,by simpa using hb.size,fun k hk=>(Below.heap_setCell _ _ _ _ (show k≠m by omega)).trans (hb.block k hk)⟩

theorem eY{B:Nat}{w0 w:World}(hb:Below B w0 w){m:Nat}(hm:B<=m)(a b c d e f g h:Value):Below B w0 (set8 w m a b c d e f g h):=by
 unfold set8;exact fG (fG (fG (fG (fG (fG (fG (fG hb hm _ _) hm _ _) hm _ _) hm _ _) hm _ _) hm _ _) hm _ _) hm _ _

theorem q5k(s:ByteArray)(w:World)(hs:s.size<=140737488351232):
  Calls Tryz.prog 114 #[.string s] w fun e w'=>e=.returned (.string s)/\Below w.heap.size w w':=by
 have hcon:=Any.stringslite_Clone Tryz.cloneS s w (by omega)
 change Calls Tryz.prog 134 _ _ _ at hcon
 go_enter Tryz.func114,Tryz.ntmps114
 go_wp2_with (go_at_call 134;refine hcon.mono ?_;rintro e w1 ⟨rfl,hb1⟩);go_ret;exact⟨rfl,hb1⟩

theorem q8p:(Tryz.prog.info? 9).map (fun i=>(i.zero,i.size,i.bytes))=some (some (.string ByteArray.empty),1,16):=by kernel_rfl

theorem q8w(w:World)(s:ByteArray):∀j u,[Value.string s][j]? =some u->(w.alloc (.cells #[.string s] 9)).cell? ((⟨w.heap.size,0,none⟩:Addr).add j)=some u:=by
 intro j u hu;cases j with
 |zero=>
  cases hu;simp[Addr.add]
 |succ j=>simp at hu

set_option maxRecDepth 20000 in
set_option maxHeartbeats 1000000 in
theorem q0a(A:Option Addr)(C:Nat)(ss:List ByteArray)(w:World)(h:dW w.heap.size w A ss):
  Calls Tryz.prog 100 #[.slice A ss.length C] w fun e w'=>∃v,e=.returned v/\w'.ownsRow w.heap.size 9 1 v ss.length (strs ss)/\Below w.heap.size w w':=by
 obtain⟨i0,hi0,hz0,hz1,hz2⟩:=info_parts q8p;have hz:=h.z
 go_enter Tryz.func100,Tryz.ntmps100
 go_wp2_with fail
 go_loopw [3,8] (fun vo vi wr=>∃i:Nat,i<=ss.length/\vi=.int .i64 i/\wr.ownsRow w.heap.size 9 1 vo i (strs (ss.take i))/\Below w.heap.size w wr) (fun _ vi _=>ss.length-(intOf vi).toNat)
 case atStart=>exact⟨0,Nat.zero_le _,rfl,World.ownsRow_nil _ _ _ _,Below.refl _ _⟩
 case round=>
  obtain⟨i,hi,rfl,hown,hb⟩:=hrel;have hsz:=hb.size
  by_cases hlt:i<ss.length
  ·obtain⟨b,o,rfl,hbl,hc,-⟩:=(h.row.below hb (Nat.le_refl _)).str hlt;have hss:(ss[i]).size<=140737488351232:=h.each _ (List.getElem_mem hlt);have hbr:b<wr.heap.size:=by omega
   have HT:Hid (strs (ss.take (i+1))=strs (ss.take i)++[.string ss[i]]):=by
    show _=_;rw[List.take_succ_eq_append_getElem hlt];unfold strs;rw[List.map_append]
    rfl
   obtain⟨s,hs⟩:∃s,ss[i]=s:=⟨_,rfl⟩;rw[hs] at hc hss HT
   go_wp2_with (first
    |(go_at_call 114;refine(q5k s _ hss).mono ?_;rintro e w1 ⟨rfl,hb1⟩;have hown1:w1.ownsRow w.heap.size 9 1 u3 i (strs (ss.take i)):=aW hown (fun k hk=>hb1.block k (hown.lt k hk).2);have hw1:Below w.heap.size w w1:=hb.trans (hb1.mono hsz);have z1:=hb1.size)
    |(at_builtin;refine wpList_append_own _ rfl _ _ 29 rfl w.heap.size 9 i0 _ 1 16 Tryz.underlying29 hi0 hz0 hz1 hz2 rfl (by decide) u3 i (strs (ss.take i)) rfl (hown1.alloc _) ⟨w1.heap.size,0,none⟩ 1 1 [.string s] rfl rfl (q8w w1 s) (by intro u hu;simp at hu;subst hu;rfl) (by unfold maxLen;omega) (by omega) (by simp;omega) ?_;intro v2 w2 hown2 hgrow2 _))
   have hb2:Below w.heap.size w w2:=(hw1.alloc (by omega) _).grown hgrow2 (by simp;omega) (fun k hk=>(hown1.lt k hk).1)
   exact⟨⟨i+1,hlt,by go_num,by rw[HT.out];exact hown2,hb2⟩,by simp only[intOf];omega⟩
  ·have hie:i=ss.length:=by omega
   go_wp2_with fail;go_ret;subst hie;rw[List.take_length] at hown;exact⟨_,rfl,hown,hb⟩

end Go.Proofs.YtlojfgdpmaigmagGreatDoor
