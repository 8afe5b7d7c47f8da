/- For all bytes: what Decode makes a base of, Encode tells again as the same bytes; and what is refused gives a base without names. No condition beside the table of sizes, which is tied to the program's text. -/
import Derived.Test.YtlojfgdpmaigmafGreatDoorP52
import Derived.Test.YtlojfgdpmaigmafGreatDoorP46
import Derived.Test.YtlojfgdpmaigmafGreatDoorLaidSz
import Derived.ChangeMaps5
namespace Go.Proofs.YtlojfgdpmaigmafGreatDoor
open Go.ChangeShapes Go.WideShapes Go.ChangeAt Go.RowKit Plain Go.Shelf

theorem base_eq {M M' : Option Addr} {m m' D D' : Nat} {X0 X0' : Option Addr} {x0 x0' Y0 Y0' : Nat} {z0 z0' : Int} {X1 X1' : Option Addr} {x1 x1' Y1 Y1' : Nat} {z1 z1' : Int} {X2 X2' : Option Addr} {x2 x2' Y2 Y2' : Nat} {z2 z2' z z' : Int}
    (h : [Value.slice M m D, .slice X0 x0 Y0, .int .i64 z0, .slice X1 x1 Y1, .int .i64 z1, .slice X2 x2 Y2, .int .i64 z2, .int .i64 z] = [Value.slice M' m' D', .slice X0' x0' Y0', .int .i64 z0', .slice X1' x1' Y1', .int .i64 z1', .slice X2' x2' Y2', .int .i64 z2', .int .i64 z']) :
    M = M' ∧ m = m' ∧ D = D' ∧ X0 = X0' ∧ x0 = x0' ∧ Y0 = Y0' ∧ z0 = z0' ∧ X1 = X1' ∧ x1 = x1' ∧ Y1 = Y1' ∧ z1 = z1' ∧ X2 = X2' ∧ x2 = x2' ∧ Y2 = Y2' ∧ z2 = z2' ∧ z = z' := by
  simpa [and_assoc] using h

/-- What Encode tells of a base that was read. -/
theorem enc_dec {bs : List Int} {A : Option Addr} {C : Nat} {t0 t1 t2 : TR} {w w1 W : World} (hu : U8 bs) (hZ : SzAt W) (hW : Below w1.heap.size w1 W) (hY : DecYes bs A C t0 t1 t2 w w1) :
    Calls Tryz.prog 14 #[.agg (baseV A C (rdNames (bodyP bs)).1 t0 t1 t2 (rdFloor (bodyP bs)).1).toArray] W fun e w' => ∃ g cap, e = .returned (.tuple #[.slice (some ⟨g, 0, none⟩) bs.length cap, .int .i64 0]) ∧ BytesAt w'.heap.size w' (some ⟨g, 0, none⟩) cap bs ∧ Below W.heap.size W w' := by
  obtain ⟨he, hT⟩ := dec_once hu hY.dec
  have hl : bs.length ≤ 200000 := by
    have hs : sealC bs = 0 := by
      have := hY.dec
      unfold decC at this
      split at this
      · assumption
      · exact this
    exact (sealC_zero hs).1
  have k := enc_kn hZ (hY.at.up hW) hY.base hY.all hT.m (by rw [← he]; exact hl)
  rw [← he] at k
  exact k

set_option maxRecDepth 20000 in
set_option maxHeartbeats 4000000 in
theorem filesOnce_walk (A : Option Addr) (C : Nat) (bs : List Int) (w : World) (hZ : SzAt w) (hA : bs = [] ∨ BytesAt w.heap.size w A C bs) (_ : bs.length ≤ 140737488351232) (hu : U8 bs) :
    Calls Tryz.prog 5 #[.slice A bs.length C] w fun e w' => e = .returned (.bool true) ∧ Below w.heap.size w w' := by
  have DC := hideC (decode_any A C bs w hZ hA hu)
  have HZ := hideC hZ
  have HA := hideC hA
  have HU := hideC hu
  clear hZ hA hu
  go_enter Tryz.func5, Tryz.ntmps5
  go_upto_region 2 with (first
    | (go_at_call 8; refine DC.out.mono ?_; rintro e w1 ⟨M, m, D, U0, x0, Y0, z0, U1, x1, Y1, z1, U2, x2, Y2, z2, z, c, rfl, hb, hR⟩; have HB1 := hideC hb; have HR := hideC hR; have X1 := hideC (rowL_alloc w1 [.slice M m D, .slice U0 x0 Y0, .int .i64 z0, .slice U1 x1 Y1, .int .i64 z1, .slice U2 x2 Y2, .int .i64 z2, .int .i64 z] 29); clear hb hR DC))
  rcases HR.out with ⟨hc, h8, _⟩ | ⟨rfl, A1, C1, ⟨A10, C10, q0, s0⟩, ⟨A11, C11, q1, s1⟩, ⟨A12, C12, q2, s2⟩, h8, hY⟩
  · obtain ⟨rfl, rfl, rfl, rfl, rfl, rfl, rfl, rfl, rfl, rfl, rfl, rfl, rfl, rfl, rfl, rfl⟩ := base_eq h8
    have x := fun j => X1.out.cell j
    clear h8
    have hne : (c != 0) = true := by simpa using hc
    clear HR hc
    go_wp2_with fail
    go_ret
    exact ⟨rfl, HB1.out.alloc HB1.out.size _⟩
  · obtain ⟨rfl, rfl, rfl, rfl, rfl, rfl, rfl, rfl, rfl, rfl, rfl, rfl, rfl, rfl, rfl, rfl⟩ := base_eq h8
    have x := fun j => X1.out.cell j
    clear h8
    have hd := hY.dec
    have hby : BytesAt w.heap.size w A C bs := by
      rcases HA.out with rfl | h
      · exact absurd hd (by decide)
      · exact h
    have BY := hideC hby
    have EN := hideC fun W (hW : Below w1.heap.size w1 W) => enc_dec HU.out (HZ.out.below (nextB HB1.out (Nat.le_refl _) hW)) hW hY
    simp only [baseV] at EN
    have b0 : ∀ o : Obj, Below w1.heap.size w1 (w1.alloc o) := fun o => (Below.refl _ _).alloc (Nat.le_refl _) o
    clear HR hY hd hby HA
    go_wp2_with (first
      | (go_at_call 14; refine (EN.out _ (b0 _)).mono ?_; rintro e w2 ⟨g, cap, rfl, hy, hb2⟩; have HB2 := hideC (nextB HB1.out (Nat.le_refl _) (nextB (b0 _) (Nat.le_refl _) hb2)); have kc1 := str_of_bytes hy HU.out; have kc2 := str_of_bytes ((BY.out.below HB2.out (Nat.le_refl _)).mono HB2.out.size) HU.out; clear hy hb2))
    go_ret
    exact ⟨rfl, HB2.out⟩
set_option maxRecDepth 100000 in
theorem filesOnce_lifted (os : Os) (started : os.Started) (H : Type) (enc : TypeId × Value → H) :
    ReturnsInHanded {} Tryz.checked os 5 .any (fun w args => (Rows.filesOnceSpec.pre enc Tryz.prog Tryz.f5 [] false w args ∧ laidMetH Tryz.prog laidSz w) ∧ sizedMet enc Tryz.prog Tryz.f5 (OpenSpec.ofChange Rows.filesOnceSpec) false w args)
      (Rows.filesOnceSpec.post enc Tryz.prog Tryz.f5 false true false false) := by
  refine returnsInHanded_of_change_and (C := Tryz.checked) (X := fun w _ => laidMetH Tryz.prog laidSz w) (fun _ _ _ hh h => h.of_heap hh) own started (by kernel_rfl) Tryz.func5
    (ChangeSpec.witness_at (enc := enc) (C := Tryz.checked) (os := os) (X := fun w _ => laidMetH Tryz.prog laidSz w) false (World.laidAll Tryz.prog os laidSz) #[.slice none 0 0] 8 (World.laidAll_os _ _ _) (by kernel_rfl) (by kernel_rfl) (by kernel_rfl) (by kernel_rfl) (by kernel_rfl)
      (by rw [MakeChecks.laidMetH_plain _ _ _ (by kernel_rfl)]; exact laidMet_laidAll _ (by kernel_rfl) (by kernel_rfl))) ?_
  intro W base args ds gs before hval0 hW _ hsz0 hL _
  have hval : ∀ (j : Nat) t v, Tryz.f5.params[j]? = some t → args[j]? = some v → Value.okWide Tryz.prog W .any base t v := hval0
  have hW' := hW
  obtain ⟨p, q, hA0, hV, rfl, hfz, hnd⟩ := hW
  have hA : DataW.TrodAll enc Tryz.prog W 0 (fun _ => true) true Tryz.f5.params.toList args.toList ds p := hA0
  have hsz : (DataW.weightsEach Tryz.prog (Tryz.f5.params.toList ++ Rows.filesOnceSpec.plain.varTypes Tryz.prog) (ds ++ gs)).all (· ≤ reachBytes) = true := hsz0
  rw [Tryz.params5] at hA hval hsz
  obtain ⟨v0, vs0, d0, ds0, p0, q0, hargs, rfl, rfl, h0, r0⟩ := trodAll_cons hA
  obtain ⟨rfl, rfl, rfl⟩ := trodAll_nil r0
  obtain rfl : args = #[v0] := by cases args; simp_all
  obtain ⟨rfl, rfl⟩ := trodVars_none hV
  have k0 := h0
  have lt0 : ∀ x ∈ p0, x.block < W.heap.size := by obtain ⟨m, hm⟩ := k0; exact DataW.trod_lt m _ _ _ hm
  obtain ⟨A0, C0, bs0, rfl, hR0, hz0, hu0⟩ := open_bytesArg (hval 0 22 v0 rfl rfl) h0 (fun n hn => by
    have := List.all_eq_true.1 hsz n (DataW.weights_mem_each (j := 0) (t := 22) rfl rfl n hn)
    exact of_decide_eq_true this)
  clear hA0 hval0 hsz0
  refine (filesOnce_walk A0 C0 bs0 W (szAt_of hL) hR0 hz0 hu0).mono fun e W' ⟨he, bel⟩ => ?_
  subst he
  exact ⟨_, rfl, _, _, _, [], _, [], hW', trodAll_mk1 (shut_bool Tryz.underlying4 _), (trodAll_cons_mk (Below.trod laidOut (by kernel_rfl) (of_decide_eq_true (by kernel_rfl)) k0 bel lt0) trodAll_mk0), rfl, bel.frame _, fun h => by cases h⟩

theorem filesOnce_holds : Rows.FilesOnceSaid :=
  OpenClaim.holds_of_wide 5 Tryz.f5 rfl rfl rfl rfl rfl rfl rfl ⟨rfl, rfl, rfl, rfl, rfl⟩ rfl rfl rfl rfl rfl (by kernel_rfl) Tryz.func5 (by kernel_rfl)
    (of_decide_eq_true (by kernel_rfl)) (by unfold Func.isWrapper; first | (rw [if_pos (by decide +kernel)]; kernel_rfl) | (rw [if_neg (by decide +kernel)]; exact ⟨rfl, rfl⟩))
    (fun os started H enc _ => filesOnce_lifted os started H enc)

theorem filesOnceCard_holds : Rows.FilesOnceCardSaid :=
  Claim7.holds_tied_plain_at .later [] [.data] true (true, "a102583fe28ffa609899a275fe48454efada5daf74d5e6fcddfa7c764d9a7f81") false filesOnce_holds (fun _ h => by cases h) (by kernel_rfl) (fun _ h => by cases h) filesOnce_row_tie rfl ⟨rfl, rfl⟩ (by kernel_rfl) rfl
    (fun f fn hf hfn => by
      obtain rfl : f = 5 := Option.some.inj ((show Tryz.prog.funcNamed "winnower/winnowerkeep.FilesOnce" = some 5 by kernel_rfl).symm.trans hf) |>.symm
      obtain rfl : fn = Tryz.f5 := (Option.some.inj (Tryz.func5.symm.trans hfn)).symm
      exact ⟨by kernel_rfl, fun j t ht => by
        rw [Tryz.params5] at ht
        have hm : t ∈ [22] := by simpa using Array.mem_of_getElem? ht
        have hall : ([22].all fun u => !Tryz.prog.wantsStandIn u) = true := by kernel_rfl
        exact (show Tryz.prog.wantsStandIn t = false by simpa using List.all_eq_true.1 hall t hm)⟩)
    (by kernel_rfl)
#print axioms filesOnceCard_holds
end Go.Proofs.YtlojfgdpmaigmafGreatDoor
