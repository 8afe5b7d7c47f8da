/- For every two lists of raw things: what came behind what was saved is gone, when that is loaded: the bytes of the base are those that were then. No condition beside the table of sizes, which is tied to the program's text. -/
import Derived.Test.YtlojfgdpmaigmagGreatDoorP53
import Derived.Test.YtlojfgdpmaigmagGreatDoorP49
import Derived.Test.YtlojfgdpmaigmagGreatDoorCatAct
import Derived.Test.YtlojfgdpmaigmagGreatDoorLaidSz
import Derived.ChangeMaps5
namespace Go.Proofs.YtlojfgdpmaigmagGreatDoor
open Go.ChangeShapes Go.WideShapes Go.ChangeAt Go.RowKit Plain Go.Shelf

def q6u(a:Ac):Bool:=!(decide (a.k=5)||decide (a.k=6))

def svA:Ac:=⟨5,ByteArray.empty,0,0,0,0⟩
def ldA:Ac:=⟨6,ByteArray.empty,0,0,0,0⟩

theorem qav(xs:List Rw)(n:Nat):∀a∈(xs.take n).map q5a,a.s.size<=140737488351232:=fun a ha=>by
 obtain⟨x,_,rfl⟩:=List.mem_map.1 ha
 have:=(qh9 x).sz
 omega

theorem qdg(xs:List Rw)(n:Nat):((xs.take n).map q5a).length<=n:=by
 rw[List.length_map,List.length_take]
 omega

set_option maxRecDepth 20000 in
set_option maxHeartbeats 4000000 in
theorem qi4(A:Option Addr)(C:Nat)(xs:List Rw)(A':Option Addr)(C':Nat)(ys:List Rw)(w:World)(hZ:SzAt w)(hA:q0i w.heap.size w A (qa9 xs))(_:xs.length*32<=140737488351232)(hwf:∀x∈xs,x.wf)(hA':q0i w.heap.size w A' (qa9 ys))(_:ys.length*32<=140737488351232)(hwf':∀x∈ys,x.wf):
  Calls Tryz.prog 7 #[.slice A xs.length C,.slice A' ys.length C'] w fun e w'=>e=.returned (.bool true)/\Below w.heap.size w w':=by
 have AC1:=q0a (qau A C xs 30 w hA hwf (by decide) (by decide))
 have AC2:=q0a fun W (hW:Below w.heap.size w W)=>qau A' C' ys 30 W (hA'.up hW) hwf' (by decide) (by decide)
 have hok:=qav xs (30:Int).toNat
 have hlen:=qdg xs (30:Int).toNat
 have hok':=qav ys (30:Int).toNat
 have hlen':=qdg ys (30:Int).toNat
 obtain⟨acs,has⟩:∃acs,(xs.take (30:Int).toNat).map q5a=acs:=⟨_,rfl⟩
 obtain⟨bcs,hbs⟩:∃bcs,(ys.take (30:Int).toNat).map q5a=bcs:=⟨_,rfl⟩
 rw[has] at AC1 hok hlen
 rw[hbs] at AC2 hok' hlen'
 have hlen:acs.length<=30:=hlen
 have hlen':bcs.length<=30:=hlen'
 have HZ:=q0a hZ
 have HOK:=q0a hok
 have HOK':=q0a hok'
 obtain⟨M,S,Y,hM⟩:∃M S Y,runM mc0 mc0 (acs++[svA])=(M,S,Y):=⟨_,_,_,rfl⟩
 have hM2:∃S' Y',runM mc0 mc0 (acs++svA::bcs.filter q6u++[ldA])=(M,S',Y'):=by
  have h:=qx9 acs (bcs.filter q6u) mc0 mc0 (sv:=svA) (ld:=ldA) rfl rfl (fun a ha=>by
   have:=(List.mem_filter.1 ha).2
   simp[q6u] at this
   exact this.1)
  rw[hM] at h
  simp only at h
  exact⟨(runM mc0 mc0 (acs++svA::bcs.filter q6u++[ldA])).2.1,(runM mc0 mc0 (acs++svA::bcs.filter q6u++[ldA])).2.2,by rw[<-h]⟩
 obtain⟨S',Y',hM2⟩:=hM2
 have HM:=q0a hM
 have HM2:=q0a hM2
 clear hZ hok hok' has hbs hA hwf hA' hwf' hM hM2
 obtain⟨i0,hi0,hz0,hz1,hz2⟩:=info_parts qiy
 go_enter Tryz.func7,Tryz.ntmps7
 go_upto_region 3 with(first
  |(go_at_call 9;refine AC1.out.mono ?_;rintro e w1 ⟨v,rfl,hown,hb1⟩;obtain⟨VA,VC,hv,-,-,-,-⟩:=q0g hown;subst hv;have HO1:=q0a hown;have HB1:=q0a hb1;have hs1:=hb1.size;clear hb1 hown AC1)
  |(at_builtin;refine wpList_append_own _ rfl _ _ 23 rfl w.heap.size 26 i0 _ 6 56 Tryz.underlying23 hi0 hz0 hz1 hz2 rfl (by decide) (.slice VA acs.length VC) acs.length (q0z acs) rfl (q1o HO1.out ((Below.refl _ _).alloc (Nat.le_refl _) _)) ⟨w1.heap.size,0,none⟩ 1 1 (q0z [svA]) rfl (q1c _) (qcl (x:=svA) (q0b w1 _ _)) (q2q _) (by unfold maxLen;omega) (by omega) (by simp;omega) ?_;intro v2 w2 hown2 hgrow2 _;obtain⟨VA2,VC2,hv2,hna2,hnc2,-,hrow2⟩:=q0g hown2;subst hv2;have HNA:=q0a (And.intro hna2 hnc2);clear hna2 hnc2;have HB2:=q0a (qow (HB1.out.alloc hs1 (.cells svA.vals.toArray 26)) (by simp;omega) hgrow2 (fun q hq=>(HO1.out.lt q hq).1));have HR2:=q0a hrow2;clear hrow2 hown2 hgrow2 HO1 HB1 hs1))
 go_wp2_with (go_at_call 9;refine(AC2.out _ (by exact HB2.out)).mono ?_;rintro e w3 ⟨v3,rfl,hown3,hb3⟩;obtain⟨VB,VD,hv3,-,-,-,hrow3⟩:=q0g hown3;subst hv3;have HR3:=q0a hrow3;have HB3:=q0a hb3;clear hb3 hown3 hrow3 AC2)
 go_loopw [6,21] (fun vo vi wr=>∃(k:Nat),k<=bcs.length/\vi=.int .i64 (k:Int)/\Below w3.heap.size w3 wr/\wr.ownsRow w3.heap.size 26 6 vo ((bcs.take k).filter q6u).length (q0z ((bcs.take k).filter q6u))) (fun _ vi _=>bcs.length-(intOf vi).toNat)
 case atStart=>exact⟨0,Nat.zero_le _,rfl,Below.refl _ _,World.ownsRow_nil _ _ _ _⟩
 case round=>
  obtain⟨k,hk,rfl,hbl,hown⟩:=hrel
  have hge:=hbl.size
  by_cases hlt:k<bcs.length
  ·obtain⟨b,o,rfl,hbb,hcc⟩:=(HR3.out.below hbl (Nat.le_refl _)).ac6 hlt
   have hft:=q0a (qdz (P:=q6u) hlt)
   have hfl:((bcs.take k).filter q6u).length<=40:=Nat.le_trans (List.length_filter_le _ _) (by rw[List.length_take];omega)
   obtain⟨fs,hfs⟩:∃fs,(bcs.take k).filter q6u=fs:=⟨_,rfl⟩
   rw[hfs] at hft hfl hown
   clear hfs
   generalize bcs[k]=a at *
   obtain⟨ak,as',at',az,an,av⟩:=a
   obtain⟨c0,c1,c2,c3,c4,c5⟩:=hcc
   simp only at c0 c1 c2 c3 c4 c5
   have HO:=q0a hown
   have HBL:=q0a hbl
   clear hown hbl
   have lbr:b<wr.heap.size:=by omega
   have q0:(0:Int)<=(k:Int):=by omega
   have q1:(k:Int)<(bcs.length:Int):=by omega
   by_cases h2:ak=5
   ·have HF:=qip hft.out (by simp[q6u,h2])
    clear hft
    subst h2
    go_wp2_with fail
    go_roundw
    case rel=>
     go_light
     obtain⟨r1,r2⟩:=qcy HF.out HBL.out HO.out (.cells #[.int .i64 5,.string as',.int .i64 at',.int .i64 az,.int .i64 an,.int .i64 av] 26)
     exact⟨k+1,hlt,by go_num,r1,r2⟩
    case measure=>simp[intOf];omega
   ·by_cases h3:ak=6
    ·have HF:=qip hft.out (by simp[q6u,h3])
     clear hft h2
     subst h3
     go_wp2_with fail
     go_roundw
     case rel=>
      go_light
      obtain⟨r1,r2⟩:=qcy HF.out HBL.out HO.out (.cells #[.int .i64 6,.string as',.int .i64 at',.int .i64 az,.int .i64 an,.int .i64 av] 26)
      exact⟨k+1,hlt,by go_num,r1,r2⟩
     case measure=>simp[intOf];omega
    ·have hn2:(ak != 5)=true:=by simpa using h2
     have hn3:(ak != 6)=true:=by simpa using h3
     have hn4:(!(ak==5))=true:=by simpa using h2
     have hn5:(!(ak==6))=true:=by simpa using h3
     have hn6:(ak==5)=false:=by simpa using h2
     have hn7:(ak==6)=false:=by simpa using h3
     have HF:=qpc hft.out (by simp[q6u,h2,h3])
     clear hft
     go_wp2_with (at_builtin;refine wpList_append_own _ rfl _ _ 23 rfl w3.heap.size 26 i0 _ 6 56 Tryz.underlying23 hi0 hz0 hz1 hz2 rfl (by decide) u6 fs.length (q0z fs) rfl (q1o HO.out (q3i _ _ _)) ⟨wr.heap.size+1,0,none⟩ 1 1 (q0z [⟨ak,as',at',az,an,av⟩]) rfl (q1c _) (qy0 wr _ ⟨ak,as',at',az,an,av⟩) (q2q _) (by unfold maxLen;omega) (by omega) (by simp;omega) ?_;intro v7 w7 hown7 hgrow7 _)
     go_roundw
     case rel=>
      go_light
      obtain⟨r1,r2⟩:=qo9 HF.out HBL.out HO.out hown7 hgrow7 hlt
      exact⟨k+1,hlt,by go_num,r1,r2⟩
     case measure=>simp[intOf];omega
  ·have hkk:k=bcs.length:=by omega
   have htk:bcs.take k=bcs:=by rw[hkk];exact List.take_length
   rw[htk] at hown
   have hfl:(bcs.filter q6u).length<=30:=Nat.le_trans (List.length_filter_le _ _) hlen'
   have hB2r:=q0e HB3.out (Nat.le_refl _) hbl
   have hBr:=q0a (q0e HB2.out (Nat.le_refl _) hB2r)
   have BY1:=q0a (qdc (LA:=VA2) (LC:=VC2) (n:=acs.length+1) HM.out (by simp) (HZ.out.below hBr.out) (by rw[q4q];exact HR2.out.up hB2r) (fun a ha=>by
    rcases List.mem_append.1 ha with h|h
    ·exact HOK.out a h
    ·obtain rfl:a=svA:=by simpa using h
     exact(show ByteArray.empty.size<=140737488351232 by decide)) (by omega))
   obtain⟨UA,UC,hu4,hun,huc,-,hrow4⟩:=q0g hown
   subst hu4
   obtain⟨fs,hfs⟩:∃fs,bcs.filter q6u=fs:=⟨_,rfl⟩
   have hfok:Hid (∀a∈fs,a.s.size<=140737488351232):=fun a ha=>by
    rw[<-hfs] at ha
    exact HOK'.out a (List.mem_filter.1 ha).1
   rw[hfs] at hfl hrow4 HM2 huc ⊢
   have HR4:=q0a hrow4
   have HNU:=q0a (And.intro hun huc)
   have HRA:=q0a (HR2.out.up hB2r)
   clear hfs hrow4 hbl hown htk HR2 HR3 hB2r hun huc
   go_upto_region 10 with(go_at_call 20;refine BY1.out.mono ?_;rintro e w4 ⟨g2,p2,L2,he2,hy2,hL2,hb2⟩;have HY2:=q0a hy2;have HL2:=q0a hL2;have HB4:=q0a hb2;clear hy2 hL2 hb2 BY1;subst he2)
   obtain⟨ls,hls⟩:∃ls:List Sl,ls=[⟨VA2,VC2,acs++[svA]⟩,⟨UA,UC,fs⟩,⟨some ⟨w4.heap.size,0,none⟩,1,[ldA]⟩]:=⟨_,rfl⟩
   have hcat:cat ls=acs++svA::fs++[ldA]:=by rw[hls];simp[cat]
   have CAT:Hid (Calls Tryz.prog 18 #[.slice (some ⟨w4.heap.size+1,0,none⟩) 3 3] ((w4.alloc (.cells #[.int .i64 6,.string ByteArray.empty,.int .i64 0,.int .i64 0,.int .i64 0,.int .i64 0] 26)).alloc (.cells #[.slice VA2 (acs.length+1) VC2,.slice UA fs.length UC,.slice (some ⟨w4.heap.size,0,none⟩) 1 1] 23)) fun e w'=>∃v,e=.returned v/\w'.ownsRow ((w4.alloc (.cells #[.int .i64 6,.string ByteArray.empty,.int .i64 0,.int .i64 0,.int .i64 0,.int .i64 0] 26)).alloc (.cells #[.slice VA2 (acs.length+1) VC2,.slice UA fs.length UC,.slice (some ⟨w4.heap.size,0,none⟩) 1 1] 23)).heap.size 26 6 v (cat ls).length (q0z (cat ls))/\Below ((w4.alloc (.cells #[.int .i64 6,.string ByteArray.empty,.int .i64 0,.int .i64 0,.int .i64 0,.int .i64 0] 26)).alloc (.cells #[.slice VA2 (acs.length+1) VC2,.slice UA fs.length UC,.slice (some ⟨w4.heap.size,0,none⟩) 1 1] 23)).heap.size ((w4.alloc (.cells #[.int .i64 6,.string ByteArray.empty,.int .i64 0,.int .i64 0,.int .i64 0,.int .i64 0] 26)).alloc (.cells #[.slice VA2 (acs.length+1) VC2,.slice UA fs.length UC,.slice (some ⟨w4.heap.size,0,none⟩) 1 1] 23)) w'):=by
    have hb6:=q3i w4 (.cells #[.int .i64 6,.string ByteArray.empty,.int .i64 0,.int .i64 0,.int .i64 0,.int .i64 0] 26) (.cells #[.slice VA2 (acs.length+1) VC2,.slice UA fs.length UC,.slice (some ⟨w4.heap.size,0,none⟩) 1 1] 23)
    have hg6:=(q0b (w4.alloc (.cells #[.int .i64 6,.string ByteArray.empty,.int .i64 0,.int .i64 0,.int .i64 0,.int .i64 0] 26)) [.slice VA2 (acs.length+1) VC2,.slice UA fs.length UC,.slice (some ⟨w4.heap.size,0,none⟩) 1 1] 23).row
    have hl6:=((q0b w4 [.int .i64 6,.string ByteArray.empty,.int .i64 0,.int .i64 0,.int .i64 0,.int .i64 0] 26).of_block (Below.heap_alloc (w4.alloc (.cells #[.int .i64 6,.string ByteArray.empty,.int .i64 0,.int .i64 0,.int .i64 0,.int .i64 0] 26)) (.cells #[.slice VA2 (acs.length+1) VC2,.slice UA fs.length UC,.slice (some ⟨w4.heap.size,0,none⟩) 1 1] 23) _ (by simp))).row
    rw[show(w4.alloc (.cells #[.int .i64 6,.string ByteArray.empty,.int .i64 0,.int .i64 0,.int .i64 0,.int .i64 0] 26)).heap.size=w4.heap.size+1 by simp] at hg6
    have k:=qfv (some ⟨w4.heap.size+1,0,none⟩) 3 ls ((w4.alloc (.cells #[.int .i64 6,.string ByteArray.empty,.int .i64 0,.int .i64 0,.int .i64 0,.int .i64 0] 26)).alloc (.cells #[.slice VA2 (acs.length+1) VC2,.slice UA fs.length UC,.slice (some ⟨w4.heap.size,0,none⟩) 1 1] 23)) (by
     rw[hls]
     simp only[List.map_cons,List.map_nil,Sl.v,List.length_append,List.length_singleton]
     exact hg6) (by
     rw[hls]
     intro x hx
     simp only[List.mem_cons,List.not_mem_nil,or_false] at hx
     rcases hx with rfl|rfl|rfl
     ·refine⟨by rw[q4q];exact HRA.out.up (q0e HB4.out (Nat.le_refl _) hb6),fun e=>?_⟩
      have h1:=HNA.out.1 e
      have h2:=HNA.out.2
      exfalso
      omega
     ·refine⟨HR4.out.up (q0e HB4.out (Nat.le_refl _) hb6),fun e=>?_⟩
      have h1:=HNU.out.1 e
      have h2:=HNU.out.2
      exact⟨h1,show fs=[] from List.length_eq_zero_iff.1 (by omega)⟩
     ·exact⟨hl6,fun e=>by cases e⟩) (by rw[hcat];simp;omega) (by rw[hls];simp)
    rw[show ls.length=3 by rw[hls];rfl] at k
    exact k
   rw[hcat] at CAT
   have hcl:(acs++svA::fs++[ldA]).length<=70:=by simp;omega
   have HB6:=q0a (q0e HB4.out (Nat.le_refl _) (q3i w4 (.cells #[.int .i64 6,.string ByteArray.empty,.int .i64 0,.int .i64 0,.int .i64 0,.int .i64 0] 26) (.cells #[.slice VA2 (acs.length+1) VC2,.slice UA fs.length UC,.slice (some ⟨w4.heap.size,0,none⟩) 1 1] 23)))
   have HCOK:Hid (∀a∈acs++svA::fs++[ldA],a.s.size<=140737488351232):=fun a ha=>by
    rcases List.mem_append.1 ha with h|h
    ·rcases List.mem_append.1 h with h|h
     ·exact HOK.out a h
     ·rcases List.mem_cons.1 h with rfl|h
      ·exact(show ByteArray.empty.size<=140737488351232 by decide)
      ·exact hfok.out a h
    ·obtain rfl:a=ldA:=by simpa using h
     exact(show ByteArray.empty.size<=140737488351232 by decide)
   obtain⟨call,hcall⟩:∃call,acs++svA::fs++[ldA]=call:=⟨_,rfl⟩
   rw[hcall] at CAT hcl HCOK HM2
   obtain⟨cn,hcn⟩:∃cn,call.length=cn:=⟨_,rfl⟩
   have HCN:=q0a hcn
   rw[hcn] at CAT hcl
   obtain⟨kn,hkn⟩:∃kn,(encB M.ss M.f L2).length=kn:=⟨_,rfl⟩
   have HKN:=q0a hkn
   rw[hkn]
   clear hcall hcn hcat hls hkn
   go_upto_region 11 with(first
    |(go_at_call 18;refine CAT.out.mono ?_;rintro e w7 ⟨v7,rfl,hown7,hb7⟩;obtain⟨WA,WC,hv7,-,-,-,hrow7⟩:=q0g hown7;subst hv7;have HB7:=q0a (q0e HB6.out (Nat.le_refl _) hb7);have HW47:=q0a (q0e (q3i w4 _ _) (Nat.le_refl _) hb7);have BY2:=q0a (qdc (LA:=WA) (LC:=WC) HM2.out HCN.out (HZ.out.below (q0e hBr.out (Nat.le_refl _) HB7.out)) hrow7 HCOK.out (by omega));clear hown7 hrow7 hb7 CAT)
    |(go_at_call 20;refine BY2.out.mono ?_;rintro e w8 ⟨g3,p3,L3,he3,hy3,hL3,hb3⟩;have HY3:=q0a hy3;have HB8:=q0a (q0e HB7.out (Nat.le_refl _) hb3);have e23:=qxy HL2.out hL3;have HW8:=q0a hb3;clear hy3 hL3 hb3 BY2;subst he3;subst e23;rw[HKN.out]))
   have hu:=q0a (qhc M.ss M.f L2)
   have hy2:=HY2.out.below (q0e HW47.out (Nat.le_refl _) HW8.out) (Nat.le_refl _)
   have t2:=q3u hy2 hu.out
   have t3:=q3u HY3.out hu.out
   rw[HKN.out] at t2 t3
   obtain⟨ST,hST⟩:∃ST,q8o (encB M.ss M.f L2)=ST:=⟨_,rfl⟩
   rw[hST] at t2 t3
   clear hy2 hST
   go_wp2_with fail
   go_ret
   exact⟨rfl,q0e hBr.out (Nat.le_refl _) HB8.out⟩

set_option maxRecDepth 100000 in
theorem qf2(os:Os)(started:os.Started)(H:Type)(enc:TypeId × Value->H):
  ReturnsInHanded {} Tryz.checked os 7 .any (fun w args=>(Rows.topBackSpec.pre enc Tryz.prog Tryz.f7 [] false w args/\laidMetH Tryz.prog q7k w)/\sizedMet enc Tryz.prog Tryz.f7 (OpenSpec.ofChange Rows.topBackSpec) false w args)
   (Rows.topBackSpec.post enc Tryz.prog Tryz.f7 false true false false):=by
 refine returnsInHanded_of_change_and (C:=Tryz.checked) (X:=fun w _=>laidMetH Tryz.prog q7k w) (fun _ _ _ hh h=>h.of_heap hh) own started (by kernel_rfl) Tryz.func7
  (ChangeSpec.witness_at (enc:=enc) (C:=Tryz.checked) (os:=os) (X:=fun w _=>laidMetH Tryz.prog q7k w) false (World.laidAll Tryz.prog os q7k) #[.slice none 0 0,.slice none 0 0] 8 (World.laidAll_os _ _ _) (by kernel_rfl) (by kernel_rfl) (by kernel_rfl) (by kernel_rfl) (by kernel_rfl)
   (by rw[MakeChecks.laidMetH_plain _ _ _ (by kernel_rfl)];exact laidMet_laidAll _ (by kernel_rfl) (by kernel_rfl))) ?_
 intro W base args ds gs before hval0 hW _ hsz0 hL _
 have hval:∀(j:Nat) t v,Tryz.f7.params[j]? =some t->args[j]? =some v->Value.okWide Tryz.prog W .any base t v:=hval0
 have hW':=hW
 obtain⟨p,q,hA0,hV,rfl,hfz,hnd⟩:=hW
 have hA:DataW.TrodAll enc Tryz.prog W 0 (fun _=>true) true Tryz.f7.params.toList args.toList ds p:=hA0
 have hsz:(DataW.weightsEach Tryz.prog (Tryz.f7.params.toList++Rows.topBackSpec.plain.varTypes Tryz.prog) (ds++gs)).all (·<=reachBytes)=true:=hsz0
 rw[Tryz.params7] at hA hval hsz
 obtain⟨v0,vs0,d0,ds0,p0,q0,hargs,rfl,rfl,h0,r0⟩:=trodAll_cons hA
 obtain⟨v1,vs1,d1,ds1,p1,q1,rfl,rfl,rfl,h1,r1⟩:=trodAll_cons r0
 obtain⟨rfl,rfl,rfl⟩:=trodAll_nil r1
 obtain rfl:args=#[v0,v1]:=by cases args;simp_all
 obtain⟨rfl,rfl⟩:=trodVars_none hV
 have k0:=h0
 have lt0:∀x∈p0,x.block<W.heap.size:=by obtain⟨m,hm⟩:=k0;exact DataW.trod_lt m _ _ _ hm
 obtain⟨A0,C0,xs0,rfl,hR0,hz0,hw0⟩:=q5n (hval 0 22 v0 rfl rfl) h0 (fun n hn=>by
  have:=List.all_eq_true.1 hsz n (DataW.weights_mem_each (j:=0) (t:=22) rfl rfl n hn)
  exact of_decide_eq_true this)
 have k1:=h1
 have lt1:∀x∈p1,x.block<W.heap.size:=by obtain⟨m,hm⟩:=k1;exact DataW.trod_lt m _ _ _ hm
 obtain⟨A1,C1,xs1,rfl,hR1,hz1,hw1⟩:=q5n (hval 1 22 v1 rfl rfl) h1 (fun n hn=>by
  have:=List.all_eq_true.1 hsz n (DataW.weights_mem_each (j:=1) (t:=22) rfl rfl n hn)
  exact of_decide_eq_true this)
 clear hA0 hval0 hsz0
 refine(qi4 A0 C0 xs0 A1 C1 xs1 W (qkt hL) hR0 hz0 hw0 hR1 hz1 hw1).mono fun e W' ⟨he,bel⟩=>?_
 subst he
 exact⟨_,rfl,_,_,_,[],_,[],hW',trodAll_mk1 (shut_bool Tryz.underlying4 _),(trodAll_cons_mk (Below.trod qdn (by kernel_rfl) (of_decide_eq_true (by kernel_rfl)) k0 bel lt0) (trodAll_cons_mk (Below.trod qdn (by kernel_rfl) (of_decide_eq_true (by kernel_rfl)) k1 bel lt1) trodAll_mk0)),rfl,bel.frame _,fun h=>by cases h⟩

theorem qhe:Rows.TopBackSaid:=
 OpenClaim.holds_of_wide 7 Tryz.f7 rfl rfl rfl rfl rfl rfl rfl ⟨rfl,rfl,rfl,rfl,rfl⟩ rfl rfl rfl rfl rfl (by kernel_rfl) Tryz.func7 (by kernel_rfl)
  (of_decide_eq_true (by kernel_rfl)) (by unfold Func.isWrapper;first|(rw[if_pos (by decide+kernel)];kernel_rfl)|(rw[if_neg (by decide+kernel)];exact⟨rfl,rfl⟩))
  (fun os started H enc _=>qf2 os started H enc)

theorem topBackCard_holds:Rows.TopBackCardSaid:=
 Claim7.holds_tied_plain_at .later [] [.data] true (true, "0657e646ef2f390bec603b8aca188c56945d5f7249e5dbb24548ab29f89e546d") false qhe (fun _ h => by cases h) (by kernel_rfl) (fun _ h => by cases h) topBack_row_tie rfl ⟨rfl, rfl⟩ (by kernel_rfl) rfl
  (fun f fn hf hfn=>by
   obtain rfl : f = 7 := Option.some.inj ((show Tryz.prog.funcNamed "winnower/winnowertop.TopBack" = some 7 by kernel_rfl).symm.trans hf) |>.symm
   obtain rfl:fn=Tryz.f7:=(Option.some.inj (Tryz.func7.symm.trans hfn)).symm
   exact⟨by kernel_rfl,fun j t ht=>by
    rw[Tryz.params7] at ht
    have hm:t∈[22,22]:=by simpa using Array.mem_of_getElem? ht
    have hall:([22,22].all fun u=>!Tryz.prog.wantsStandIn u)=true:=by kernel_rfl
    exact(show Tryz.prog.wantsStandIn t=false by simpa using List.all_eq_true.1 hall t hm)⟩)
  (by kernel_rfl)
#print axioms topBackCard_holds
end Go.Proofs.YtlojfgdpmaigmagGreatDoor
