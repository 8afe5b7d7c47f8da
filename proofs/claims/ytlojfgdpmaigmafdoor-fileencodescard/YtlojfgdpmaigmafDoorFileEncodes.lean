/- For every base, file.Encode answers what promise P4.3 says. No condition beside the table of sizes, which is tied to the program's text. -/
import Derived.Test.YtlojfgdpmaigmafDoorEncDoc2
import Derived.Test.YtlojfgdpmaigmafDoorReadNames
import Derived.Test.YtlojfgdpmaigmafDoorLaidSz
import Derived.ChangeMaps5
namespace Go.Proofs.YtlojfgdpmaigmafDoor
open Go.ChangeShapes Go.WideShapes Go.ChangeAt Go.RowKit Plain

/-- What both tell, in one form. -/
def FeTo (w : World) (c : Int) (bs : List Int) (e : Ending) (w' : World) : Prop :=
  ∃ (g : Option Addr) (cap : Nat), e = .returned (.tuple #[.slice g bs.length cap, .int .i64 c]) ∧ BytesAt w'.heap.size w' g cap bs ∧ Below w.heap.size w w'

theorem feTo {ss : List ByteArray} {f : Int} {L : List En} {w w' : World} {e : Ending} (h : EncTo ss f L w e w') : FeTo w (if 10000 < L.length ∨ 200000 < (encB ss f L).length then 1 else 0) (if 10000 < L.length ∨ 200000 < (encB ss f L).length then [] else encB ss f L) e w' := by
  rcases h with ⟨hb, ⟨h1, rfl⟩ | ⟨h1, h2, v, rfl, hv⟩⟩
  · rw [if_pos h1, if_pos h1]
    exact ⟨none, 0, rfl, BytesAt.nil _ _, hb⟩
  · rw [if_neg (by omega), if_neg (by omega)]
    obtain ⟨g, cap, rfl, hy⟩ := hv.bytes
    exact ⟨_, cap, rfl, hy, hb⟩

theorem feNo {w w' : World} {e : Ending} (h : e = .returned (.tuple #[.slice none 0 0, .int .i64 7]) ∧ Below w.heap.size w w') : FeTo w 7 [] e w' := by
  obtain ⟨rfl, hb⟩ := h
  exact ⟨none, 0, rfl, BytesAt.nil _ _, hb⟩

set_option maxRecDepth 20000 in
set_option maxHeartbeats 2000000 in
theorem encodes_law (a0 a1 a2 a3 a4 a5 a6 a7 : Value) (c : Int) (bs : List Int) (hu : U8 bs) (w : World)
    (E1 : ∀ W, Below w.heap.size w W → Calls Tryd.prog 4 #[.agg #[a0, a1, a2, a3, a4, a5, a6, a7]] W (FeTo W c bs))
    (E2 : ∀ W, Below w.heap.size w W → Calls Tryd.prog 5 #[.agg #[a0, a1, a2, a3, a4, a5, a6, a7]] W (FeTo W c bs)) :
    Calls Tryd.prog 3 #[.agg #[a0, a1, a2, a3, a4, a5, a6, a7]] w fun e w' => e = .returned (.bool true) ∧ Below w.heap.size w w' := by
  have E1 := hideF E1
  have E2 := hideF E2
  have HU := hideF hu
  have b0 : ∀ o : Obj, Below w.heap.size w (w.alloc o) := fun o => (Below.refl _ _).alloc (Nat.le_refl _) o
  unfold FeTo at E1 E2
  clear hu
  go_enter Tryd.func3, Tryd.ntmps3
  go_wp2_with (first
    | (go_at_call 4; refine (E1.out _ (b0 _)).mono ?_; rintro e w1 ⟨g1, cap1, rfl, hy1, hb1⟩; have Y1 := hideF hy1; have XB := hideF ((rowL_alloc w [a0, a1, a2, a3, a4, a5, a6, a7] 28).below hb1 (by simp)); have x := fun j => XB.out.cell j; have lx := XB.out.lt; have HB1 := hideF (nextB (b0 _) (Nat.le_refl _) hb1); clear hy1 hb1)
    | (go_at_call 5; refine (E2.out _ HB1.out).mono ?_; rintro e w2 ⟨g2, cap2, rfl, hy2, hb2⟩; have HB2 := hideF (nextB HB1.out (Nat.le_refl _) hb2); have kc1 := str_of_bytes ((Y1.out.below hb2 (Nat.le_refl _)).mono hb2.size) HU.out; have kc2 := str_of_bytes hy2 HU.out; clear hy2 hb2))
  go_ret
  exact ⟨rfl, HB2.out⟩

theorem fileEncodes_walk (A : Option Addr) (C : Nat) (ss : List ByteArray) (t0 t1 t2 : TR) (f : Int) (w : World) (hZ : SzAt w) (hC : ss.length ≤ C) (hS : StrsAt w.heap.size w A ss) (h0 : t0.ok w) (h1 : t1.ok w) (h2 : t2.ok w) (_ : (Lit.int .i64 f).wf = true) :
    Calls Tryd.prog 3 #[.agg (baseV A C ss t0 t1 t2 f).toArray] w fun e w' => e = .returned (.bool true) ∧ Below w.heap.size w w' := by
  have okup : ∀ (t : TR) (W : World), Below w.heap.size w W → t.ok w → t.ok W := fun t W hW ht => ⟨ht.1.up hW, ht.2.1, ht.2.2⟩
  cases hb : baseB ss f (t0.ps.map PN.nd) t0.r (t1.ps.map PN.nd) t1.r (t2.ps.map PN.nd) t2.r with
  | false =>
    exact encodes_law _ _ _ _ _ _ _ _ 7 [] (fun _ h => by simp at h) w (fun W hW => (encode_bad A C ss t0 t1 t2 f W (hZ.below hW) hC (hS.up hW) (okup t0 W hW h0) (okup t1 W hW h1) (okup t2 W hW h2) hb).mono fun _ _ h => feNo h)
      (fun W hW => (baseBytes_bad A C ss t0 t1 t2 f W (hS.up hW) (okup t0 W hW h0) (okup t1 W hW h1) (okup t2 W hW h2) hb).mono fun _ _ h => feNo h)
  | true =>
    refine encodes_law _ _ _ _ _ _ _ _ _ _ ?_ w (fun W hW => (encode_any A C ss t0 t1 t2 f W (hZ.below hW) hC (hS.up hW) (okup t0 W hW h0) (okup t1 W hW h1) (okup t2 W hW h2) hb).mono fun _ _ h => feTo h)
      (fun W hW => (baseBytes_any A C ss t0 t1 t2 f W (hS.up hW) (okup t0 W hW h0) (okup t1 W hW h1) (okup t2 W hW h2) hb).mono fun _ _ h => feTo h)
    split
    · exact fun _ h => by simp at h
    · exact encB_u8 _ _ _

set_option maxRecDepth 100000 in
theorem fileEncodes_lifted (os : Os) (started : os.Started) (H : Type) (enc : TypeId × Value → H) :
    ReturnsInHanded {} Tryd.checked os 3 .any (fun w args => (Rows.fileEncodesSpec.pre enc Tryd.prog Tryd.f3 [] false w args ∧ laidMetH Tryd.prog laidSz w) ∧ sizedMet enc Tryd.prog Tryd.f3 (OpenSpec.ofChange Rows.fileEncodesSpec) false w args)
      (Rows.fileEncodesSpec.post enc Tryd.prog Tryd.f3 false true false false) := by
  refine returnsInHanded_of_change_and (C := Tryd.checked) (X := fun w _ => laidMetH Tryd.prog laidSz w) (fun _ _ _ hh h => h.of_heap hh) own started (by kernel_rfl) Tryd.func3
    (ChangeSpec.witness_at (enc := enc) (C := Tryd.checked) (os := os) (X := fun w _ => laidMetH Tryd.prog laidSz w) false (World.laidAll Tryd.prog os laidSz) #[.agg #[.slice none 0 0, .slice none 0 0, .int .i64 0, .slice none 0 0, .int .i64 0, .slice none 0 0, .int .i64 0, .int .i64 0]] 8 (World.laidAll_os _ _ _) (by kernel_rfl) (by kernel_rfl) (by kernel_rfl) (by kernel_rfl) (by kernel_rfl)
      (by rw [MakeChecks.laidMetH_plain _ _ _ (by kernel_rfl)]; exact laidMet_laidAll _ (by kernel_rfl) (by kernel_rfl))) ?_
  intro W base args ds gs before hval0 hW _ hsz0 hL _
  have hval : ∀ (j : Nat) t v, Tryd.f3.params[j]? = some t → args[j]? = some v → Value.okWide Tryd.prog W .any base t v := hval0
  have hW' := hW
  obtain ⟨p, q, hA0, hV, rfl, hfz, hnd⟩ := hW
  have hA : DataW.TrodAll enc Tryd.prog W 0 (fun _ => true) true Tryd.f3.params.toList args.toList ds p := hA0
  have hsz : (DataW.weightsEach Tryd.prog (Tryd.f3.params.toList ++ Rows.fileEncodesSpec.plain.varTypes Tryd.prog) (ds ++ gs)).all (· ≤ reachBytes) = true := hsz0
  rw [Tryd.params3] at hA hval hsz
  obtain ⟨v0, vs0, d0, ds0, p0, q0, hargs, rfl, rfl, h0, r0⟩ := trodAll_cons hA
  obtain ⟨rfl, rfl, rfl⟩ := trodAll_nil r0
  obtain rfl : args = #[v0] := by cases args; simp_all
  obtain ⟨rfl, rfl⟩ := trodVars_none hV
  have k0 := h0
  have lt0 : ∀ x ∈ p0, x.block < W.heap.size := by obtain ⟨m, hm⟩ := k0; exact DataW.trod_lt m _ _ _ hm
  obtain ⟨A0, C0, ss0, ta0, tb0, tc0, f0, rfl, -, hC0, hS0, ha0, hb0, hc0, w0⟩ := open_base rfl (hval 0 28 v0 rfl rfl) h0 (fun n hn => by
    have := List.all_eq_true.1 hsz n (DataW.weights_mem_each (j := 0) (t := 28) rfl rfl n hn)
    exact of_decide_eq_true this)
  clear hA0 hval0 hsz0
  refine (fileEncodes_walk A0 C0 ss0 ta0 tb0 tc0 f0 W (szAt_of hL) hC0 hS0 ha0 hb0 hc0 w0).mono fun e W' ⟨he, bel⟩ => ?_
  subst he
  exact ⟨_, rfl, _, _, _, [], _, [], hW', trodAll_mk1 (shut_bool Tryd.underlying4 _), (trodAll_cons_mk (Below.trod laidOut (by kernel_rfl) (of_decide_eq_true (by kernel_rfl)) k0 bel lt0) trodAll_mk0), rfl, bel.frame _, fun h => by cases h⟩

theorem fileEncodes_holds : Rows.FileEncodesSaid :=
  OpenClaim.holds_of_wide 3 Tryd.f3 rfl rfl rfl rfl rfl rfl rfl ⟨rfl, rfl, rfl, rfl, rfl⟩ rfl rfl rfl rfl rfl (by kernel_rfl) Tryd.func3 (by kernel_rfl)
    (of_decide_eq_true (by kernel_rfl)) (by unfold Func.isWrapper; first | (rw [if_pos (by decide +kernel)]; kernel_rfl) | (rw [if_neg (by decide +kernel)]; exact ⟨rfl, rfl⟩))
    (fun os started H enc _ => fileEncodes_lifted os started H enc)

theorem fileEncodesCard_holds : Rows.FileEncodesCardSaid :=
  Claim7.holds_tied_plain_at .later [] [.data] true (true, "bfae1a7029965a8e6b9fa3dc2103e96d88e87e3727a94100f20ebdb5bbf15a4c") false fileEncodes_holds (fun _ h => by cases h) (by kernel_rfl) (fun _ h => by cases h) fileEncodes_row_tie rfl ⟨rfl, rfl⟩ (by kernel_rfl) rfl
    (fun f fn hf hfn => by
      obtain rfl : f = 3 := Option.some.inj ((show Tryd.prog.funcNamed "winnower/winnowerlaw.FileEncodes" = some 3 by kernel_rfl).symm.trans hf) |>.symm
      obtain rfl : fn = Tryd.f3 := (Option.some.inj (Tryd.func3.symm.trans hfn)).symm
      exact ⟨by kernel_rfl, fun j t ht => by
        rw [Tryd.params3] at ht
        have hm : t ∈ [28] := by simpa using Array.mem_of_getElem? ht
        have hall : ([28].all fun u => !Tryd.prog.wantsStandIn u) = true := by kernel_rfl
        exact (show Tryd.prog.wantsStandIn t = false by simpa using List.all_eq_true.1 hall t hm)⟩)
    (by kernel_rfl)
#print axioms fileEncodesCard_holds
end Go.Proofs.YtlojfgdpmaigmafDoor
