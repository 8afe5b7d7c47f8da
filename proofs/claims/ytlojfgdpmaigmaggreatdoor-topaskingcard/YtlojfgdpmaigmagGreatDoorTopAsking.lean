/- For every list of raw things: who asks changes nothing: the bytes of the base in the end are those without the asking. No condition beside the table of sizes, which is tied to the program's text. -/
import Derived.Test.YtlojfgdpmaigmagGreatDoorP53
import Derived.Test.YtlojfgdpmaigmagGreatDoorP49
import Derived.Test.YtlojfgdpmaigmagGreatDoorLaidSz
import Derived.ChangeMaps5
namespace Go.Proofs.YtlojfgdpmaigmagGreatDoor
open Go.ChangeShapes Go.WideShapes Go.ChangeAt Go.RowKit Plain Go.Shelf

def q9n(a:Ac):Bool:=!(decide (a.k=2)||decide (a.k=3))

set_option maxRecDepth 20000 in
set_option maxHeartbeats 4000000 in
theorem qf0(A:Option Addr)(C:Nat)(xs:List Rw)(w:World)(hZ:SzAt w)(hA:q0i w.heap.size w A (qa9 xs))(_:xs.length*32<=140737488351232)(hwf:∀x∈xs,x.wf):
  Calls Tryz.prog 8 #[.slice A xs.length C] w fun e w'=>e=.returned (.bool true)/\Below w.heap.size w w':=by
 have AC:=q0a (qau A C xs 40 w hA hwf (by decide) (by decide))
 have hok:∀a∈(xs.take (40:Int).toNat).map q5a,a.s.size<=140737488351232:=fun a ha=>by
  obtain⟨x,_,rfl⟩:=List.mem_map.1 ha
  have:=(qh9 x).sz
  omega
 have hlen:((xs.take (40:Int).toNat).map q5a).length<=40:=by simp;omega
 obtain⟨acs,has⟩:∃acs,(xs.take (40:Int).toNat).map q5a=acs:=⟨_,rfl⟩
 rw[has] at AC hok hlen
 have HZ:=q0a hZ
 have HOK:=q0a hok
 obtain⟨M,S,Y,hM⟩:∃M S Y,runM mc0 mc0 acs=(M,S,Y):=⟨_,_,_,rfl⟩
 have hM2:∃S' Y',runM mc0 mc0 (acs.filter q9n)=(M,S',Y'):=by
  refine⟨(runM mc0 mc0 (acs.filter q9n)).2.1,(runM mc0 mc0 (acs.filter q9n)).2.2,?_⟩
  have:=(qc3 acs mc0 mc0).1
  rw[hM] at this
  exact Prod.ext this rfl
 obtain⟨S',Y',hM2⟩:=hM2
 have HM:=q0a hM
 have HM2:=q0a hM2
 clear hZ hok has hA hwf hM hM2
 obtain⟨i0,hi0,hz0,hz1,hz2⟩:=info_parts qiy
 go_enter Tryz.func8,Tryz.ntmps8
 go_upto_region 2 with(go_at_call 9;refine AC.out.mono ?_;rintro e w1 ⟨v,rfl,hown,hb1⟩;obtain⟨VA,VC,hv,hnn,hlc,-,hrow⟩:=q0g hown;subst hv;have HR1:=q0a hrow;have HB1:=q0a hb1;clear hrow hb1 hnn hown AC)
 go_wp2_with fail
 go_loopw [4,15] (fun vo vi wr=>∃(k:Nat),k<=acs.length/\vi=.int .i64 (k:Int)/\Below w1.heap.size w1 wr/\wr.ownsRow w1.heap.size 26 6 vo ((acs.take k).filter q9n).length (q0z ((acs.take k).filter q9n))) (fun _ vi _=>acs.length-(intOf vi).toNat)
 case atStart=>exact⟨0,Nat.zero_le _,rfl,Below.refl _ _,World.ownsRow_nil _ _ _ _⟩
 case round=>
  obtain⟨k,hk,rfl,hbl,hown⟩:=hrel
  have hge:=hbl.size
  by_cases hlt:k<acs.length
  ·obtain⟨b,o,rfl,hbb,hcc⟩:=(HR1.out.below hbl (Nat.le_refl _)).ac6 hlt
   have hft:=q0a (qdz (P:=q9n) hlt)
   have hfl:((acs.take k).filter q9n).length<=40:=Nat.le_trans (List.length_filter_le _ _) (by rw[List.length_take];omega)
   obtain⟨fs,hfs⟩:∃fs,(acs.take k).filter q9n=fs:=⟨_,rfl⟩
   rw[hfs] at hft hfl hown
   clear hfs
   generalize acs[k]=a at *
   obtain⟨ak,as',at',az,an,av⟩:=a
   obtain⟨c0,c1,c2,c3,c4,c5⟩:=hcc
   simp only at c0 c1 c2 c3 c4 c5
   have HO:=q0a hown
   have HBL:=q0a hbl
   clear hown hbl
   have lbr:b<wr.heap.size:=by omega
   have q0:(0:Int)<=(k:Int):=by omega
   have q1:(k:Int)<(acs.length:Int):=by omega
   by_cases h2:ak=2
   ·have HF:Hid ((acs.take (k+1)).filter q9n=fs):=by
     show _=_
     rw[hft.out,if_neg (by simp[q9n,h2]),List.append_nil]
    clear hft
    go_wp2_with fail
    go_roundw
    case rel=>
     go_light
     obtain⟨r1,r2⟩:=qcy HF.out HBL.out HO.out (.cells #[.int .i64 ak,.string as',.int .i64 at',.int .i64 az,.int .i64 an,.int .i64 av] 26)
     subst h2
     exact⟨k+1,hlt,by go_num,r1,r2⟩
    case measure=>simp[intOf];omega
   ·have hq2:(ak==2)=false:=by simpa using h2
    by_cases h3:ak=3
    ·have HF:Hid ((acs.take (k+1)).filter q9n=fs):=by
      show _=_
      rw[hft.out,if_neg (by simp[q9n,h3]),List.append_nil]
     clear hft hq2 h2
     subst h3
     go_wp2_with fail
     go_roundw
     case rel=>
      go_light
      obtain⟨r1,r2⟩:=qcy HF.out HBL.out HO.out (.cells #[.int .i64 3,.string as',.int .i64 at',.int .i64 az,.int .i64 an,.int .i64 av] 26)
      exact⟨k+1,hlt,by go_num,r1,r2⟩
     case measure=>simp[intOf];omega
    ·have hq3:(ak==3)=false:=by simpa using h3
     have hn2:(ak != 2)=true:=by simpa using h2
     have hn3:(ak != 3)=true:=by simpa using h3
     have hn4:(!(ak==2))=true:=by simpa using h2
     have hn5:(!(ak==3))=true:=by simpa using h3
     have HF:Hid ((acs.take (k+1)).filter q9n=fs++[⟨ak,as',at',az,an,av⟩]):=by
      show _=_
      rw[hft.out,if_pos (by simp[q9n,h2,h3])]
     clear hft
     go_wp2_with (at_builtin;refine wpList_append_own _ rfl _ _ 23 rfl w1.heap.size 26 i0 _ 6 56 Tryz.underlying23 hi0 hz0 hz1 hz2 rfl (by decide) u4 fs.length (q0z fs) rfl (q1o HO.out (q3i _ _ _)) ⟨wr.heap.size+1,0,none⟩ 1 1 (q0z [⟨ak,as',at',az,an,av⟩]) rfl (q1c _) (qy0 wr _ ⟨ak,as',at',az,an,av⟩) (q2q _) (by unfold maxLen;omega) (by omega) (by simp;omega) ?_;intro v7 w7 hown7 hgrow7 _)
     go_roundw
     case rel=>
      go_light
      obtain⟨r1,r2⟩:=qo9 HF.out HBL.out HO.out hown7 hgrow7 hlt
      exact⟨k+1,hlt,by go_num,r1,r2⟩
     case measure=>simp[intOf];omega
  ·have hkk:k=acs.length:=by omega
   have htk:acs.take k=acs:=by rw[hkk];exact List.take_length
   rw[htk] at hown
   have hfl:(acs.filter q9n).length<=40:=Nat.le_trans (List.length_filter_le _ _) hlen
   have BY1:=q0a (qdc (LA:=VA) (LC:=VC) HM.out rfl (HZ.out.below (q0e HB1.out (Nat.le_refl _) hbl)) (HR1.out.up hbl) HOK.out (by omega))
   obtain⟨UA,UC,hu4,-,-,-,hrow4⟩:=q0g hown
   subst hu4
   have hfok:∀a∈acs.filter q9n,a.s.size<=140737488351232:=fun a ha=>HOK.out a (List.mem_filter.1 ha).1
   have BY2:=q0a fun W (hW:Below wr.heap.size wr W)=>qdc (LA:=UA) (LC:=UC) HM2.out rfl (HZ.out.below (q0e (q0e HB1.out (Nat.le_refl _) hbl) (Nat.le_refl _) hW)) (hrow4.up hW) hfok (by omega)
   have HBL:=q0a (q0e HB1.out (Nat.le_refl _) hbl)
   obtain⟨fn,hfn⟩:∃fn,(acs.filter q9n).length=fn:=⟨_,rfl⟩
   rw[hfn] at BY2 ⊢
   clear hfn hfok hrow4 hbl hown htk HR1
   go_upto_region 10 with(go_at_call 20;refine BY1.out.mono ?_;rintro e w2 ⟨g2,p2,L2,he2,hy2,hL2,hb2⟩;have HY2:=q0a hy2;have HL2:=q0a hL2;have HB2:=q0a hb2;clear hy2 hL2 hb2 BY1;subst he2)
   go_upto_region 11 with(go_at_call 20;refine(BY2.out _ (by exact HB2.out)).mono ?_;rintro e w3 ⟨g3,p3,L3,he3,hy3,hL3,hb3⟩;have HY3:=q0a hy3;have HB3:=q0a hb3;have e23:=qxy HL2.out hL3;clear hy3 hL3 hb3 BY2;subst he3;subst e23)
   have hu:=q0a (qhc M.ss M.f L2)
   obtain⟨EB,hEB⟩:∃EB,encB M.ss M.f L2=EB:=⟨_,rfl⟩
   rw[hEB] at HY2 HY3 hu ⊢
   have t2:=q3u (HY2.out.below HB3.out (Nat.le_refl _)) hu.out
   have t3:=q3u HY3.out hu.out
   obtain⟨ST,hST⟩:∃ST,q8o EB=ST:=⟨_,rfl⟩
   rw[hST] at t2 t3
   clear hEB hST
   go_wp2_with fail
   go_ret
   exact⟨rfl,q0e HBL.out (Nat.le_refl _) (q0e HB2.out (Nat.le_refl _) HB3.out)⟩

set_option maxRecDepth 100000 in
theorem qcn(os:Os)(started:os.Started)(H:Type)(enc:TypeId × Value->H):
  ReturnsInHanded {} Tryz.checked os 8 .any (fun w args=>(Rows.topAskingSpec.pre enc Tryz.prog Tryz.f8 [] false w args/\laidMetH Tryz.prog q7k w)/\sizedMet enc Tryz.prog Tryz.f8 (OpenSpec.ofChange Rows.topAskingSpec) false w args)
   (Rows.topAskingSpec.post enc Tryz.prog Tryz.f8 false true false false):=by
 refine returnsInHanded_of_change_and (C:=Tryz.checked) (X:=fun w _=>laidMetH Tryz.prog q7k w) (fun _ _ _ hh h=>h.of_heap hh) own started (by kernel_rfl) Tryz.func8
  (ChangeSpec.witness_at (enc:=enc) (C:=Tryz.checked) (os:=os) (X:=fun w _=>laidMetH Tryz.prog q7k w) false (World.laidAll Tryz.prog os q7k) #[.slice none 0 0] 8 (World.laidAll_os _ _ _) (by kernel_rfl) (by kernel_rfl) (by kernel_rfl) (by kernel_rfl) (by kernel_rfl)
   (by rw[MakeChecks.laidMetH_plain _ _ _ (by kernel_rfl)];exact laidMet_laidAll _ (by kernel_rfl) (by kernel_rfl))) ?_
 intro W base args ds gs before hval0 hW _ hsz0 hL _
 have hval:∀(j:Nat) t v,Tryz.f8.params[j]? =some t->args[j]? =some v->Value.okWide Tryz.prog W .any base t v:=hval0
 have hW':=hW
 obtain⟨p,q,hA0,hV,rfl,hfz,hnd⟩:=hW
 have hA:DataW.TrodAll enc Tryz.prog W 0 (fun _=>true) true Tryz.f8.params.toList args.toList ds p:=hA0
 have hsz:(DataW.weightsEach Tryz.prog (Tryz.f8.params.toList++Rows.topAskingSpec.plain.varTypes Tryz.prog) (ds++gs)).all (·<=reachBytes)=true:=hsz0
 rw[Tryz.params8] at hA hval hsz
 obtain⟨v0,vs0,d0,ds0,p0,q0,hargs,rfl,rfl,h0,r0⟩:=trodAll_cons hA
 obtain⟨rfl,rfl,rfl⟩:=trodAll_nil r0
 obtain rfl:args=#[v0]:=by cases args;simp_all
 obtain⟨rfl,rfl⟩:=trodVars_none hV
 have k0:=h0
 have lt0:∀x∈p0,x.block<W.heap.size:=by obtain⟨m,hm⟩:=k0;exact DataW.trod_lt m _ _ _ hm
 obtain⟨A0,C0,xs0,rfl,hR0,hz0,hw0⟩:=q5n (hval 0 22 v0 rfl rfl) h0 (fun n hn=>by
  have:=List.all_eq_true.1 hsz n (DataW.weights_mem_each (j:=0) (t:=22) rfl rfl n hn)
  exact of_decide_eq_true this)
 clear hA0 hval0 hsz0
 refine(qf0 A0 C0 xs0 W (qkt hL) hR0 hz0 hw0).mono fun e W' ⟨he,bel⟩=>?_
 subst he
 exact⟨_,rfl,_,_,_,[],_,[],hW',trodAll_mk1 (shut_bool Tryz.underlying4 _),(trodAll_cons_mk (Below.trod qdn (by kernel_rfl) (of_decide_eq_true (by kernel_rfl)) k0 bel lt0) trodAll_mk0),rfl,bel.frame _,fun h=>by cases h⟩

theorem qec:Rows.TopAskingSaid:=
 OpenClaim.holds_of_wide 8 Tryz.f8 rfl rfl rfl rfl rfl rfl rfl ⟨rfl,rfl,rfl,rfl,rfl⟩ rfl rfl rfl rfl rfl (by kernel_rfl) Tryz.func8 (by kernel_rfl)
  (of_decide_eq_true (by kernel_rfl)) (by unfold Func.isWrapper;first|(rw[if_pos (by decide+kernel)];kernel_rfl)|(rw[if_neg (by decide+kernel)];exact⟨rfl,rfl⟩))
  (fun os started H enc _=>qcn os started H enc)

theorem topAskingCard_holds:Rows.TopAskingCardSaid:=
 Claim7.holds_tied_plain_at .later [] [.data] true (true, "0657e646ef2f390bec603b8aca188c56945d5f7249e5dbb24548ab29f89e546d") false qec (fun _ h => by cases h) (by kernel_rfl) (fun _ h => by cases h) topAsking_row_tie rfl ⟨rfl, rfl⟩ (by kernel_rfl) rfl
  (fun f fn hf hfn=>by
   obtain rfl : f = 8 := Option.some.inj ((show Tryz.prog.funcNamed "winnower/winnowertop.TopAsking" = some 8 by kernel_rfl).symm.trans hf) |>.symm
   obtain rfl:fn=Tryz.f8:=(Option.some.inj (Tryz.func8.symm.trans hfn)).symm
   exact⟨by kernel_rfl,fun j t ht=>by
    rw[Tryz.params8] at ht
    have hm:t∈[22]:=by simpa using Array.mem_of_getElem? ht
    have hall:([22].all fun u=>!Tryz.prog.wantsStandIn u)=true:=by kernel_rfl
    exact(show Tryz.prog.wantsStandIn t=false by simpa using List.all_eq_true.1 hall t hm)⟩)
  (by kernel_rfl)
#print axioms topAskingCard_holds
end Go.Proofs.YtlojfgdpmaigmagGreatDoor
