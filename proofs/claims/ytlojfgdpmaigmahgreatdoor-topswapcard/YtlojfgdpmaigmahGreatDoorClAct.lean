/- slices.Clone of acts. -/
import Derived.Test.YtlojfgdpmaigmahGreatDoorActsWalk
namespace Go.Proofs.YtlojfgdpmaigmahGreatDoor
open Go.RowKit Plain Go.Shelf

set_option maxRecDepth 20000 in
theorem qkn(A:Option Addr)(C:Nat)(acs:List Ac)(w:World)(hA:q0i w.heap.size w A (q1f acs))(hA':A=none->C=0/\acs=[])(hz:acs.length<=1000):
  Calls Tryz.prog 9 #[.slice A acs.length C] w fun e w'=>∃v,e=.returned v/\w'.ownsRow w.heap.size 26 6 v acs.length (q1f acs)/\Below w.heap.size w w':=by
 obtain⟨i0,hi0,hz0,hz1,hz2⟩:=info_parts qnh
 cases A with
 |none=>
  obtain⟨rfl,rfl⟩:=hA' rfl
  simp only[List.length_nil]
  have hnil:∀W,(binOp BinOp.eql 31 (Value.slice none 0 0) (Value.slice none 0 0)).run Tryz.prog W=.ok (.bool true) W:=fun _=>by kernel_rfl
  go_enter Tryz.func9,Tryz.ntmps9
  go_wp2_with fail
  go_ret
  exact⟨_,rfl,World.ownsRow_nil _ _ _ _,Below.refl _ _⟩
 |some ad=>
  have hcmp:∀n:Nat,∀W,(binOp BinOp.eql 31 (Value.slice (some ad) n C) (Value.slice none 0 0)).run Tryz.prog W=.ok (.bool false) W:=fun _ _=>by kernel_rfl
  have hc:=hcmp acs.length
  have HN:=q0a (World.ownsRow_made (e:=26) (size:=6) (base:=w.heap.size) w #[] 0 (Nat.le_refl _) (by decide) rfl)
  have hw:∀o:Obj,∀j u,(q1f acs)[j]? =some u->(w.alloc o).cell? (ad.add j)=some u:=fun o=>qlb (hA.up ((Below.refl _ _).alloc (Nat.le_refl _) o))
  have HL:=q1l acs
  have HO:=q2q acs
  obtain⟨fl,hfl⟩:∃fl,q1f acs=fl:=⟨_,rfl⟩
  rw[hfl] at hw HL HO ⊢
  clear hA hA' hcmp hfl
  obtain⟨n,hn⟩:∃n,acs.length=n:=⟨_,rfl⟩
  rw[hn] at hz hc HL ⊢
  clear hn
  have hw':=q0a hw
  have HL':=q0a HL
  have HO':=q0a HO
  clear hw HL HO
  go_enter Tryz.func9,Tryz.ntmps9
  go_wp2_with (at_builtin;refine wpList_append_own _ rfl _ _ 31 rfl w.heap.size 26 i0 _ 6 56 Tryz.underlying31 hi0 hz0 hz1 hz2 rfl (by decide) (.slice (some ⟨w.heap.size,0,none⟩) 0 0) 0 [] rfl HN.out ad n C fl rfl HL'.out (hw'.out _) HO'.out (by unfold maxLen;omega) (by omega) (by simp) ?_;intro v1 w1 hown1 hgrow1 _;have HO1:=q0a hown1;have HG1:=q0a hgrow1;clear hown1 hgrow1)
  go_ret
  have h1:=HO1.out
  rw[Nat.zero_add,List.nil_append] at h1
  exact⟨_,rfl,h1,⟨HG1.out.os,HG1.out.tape,HG1.out.output,Nat.le_trans (by simp) HG1.out.size,fun k hk=>(HG1.out.block k (by simp;omega) (by simp[Value.ownBlock];omega)).trans (Below.heap_alloc _ _ _ hk)⟩⟩

end Go.Proofs.YtlojfgdpmaigmahGreatDoor
