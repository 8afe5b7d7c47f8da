/- For every base and every point, package base's Add answers what promise P3.3 says. No condition beside the table of sizes, which is tied to the program's text. -/
import Derived.Test.YtlojfgdpmaigmadGreatDoorP52
import Derived.Test.YtlojfgdpmaigmadGreatDoorP14
import Derived.Test.YtlojfgdpmaigmadGreatDoorP19
import Derived.ChangeMaps5
namespace Go.Proofs.YtlojfgdpmaigmadGreatDoor
open Go.ChangeShapes Go.WideShapes Go.ChangeAt Go.RowKit Plain

theorem wf_nd : ∀ {ps qs : List PN}, qs.map PN.nd = ps.map PN.nd → (∀ p ∈ ps, p.wf) → ∀ q ∈ qs, q.wf := by
  intro ps qs h hp q hq
  have hm : q.nd ∈ ps.map PN.nd := by rw [← h]; exact List.mem_map.2 ⟨q, hq, rfl⟩
  obtain ⟨p, hpm, e⟩ := List.mem_map.1 hm
  have h1 := hp p hpm
  have e1 : p.ents = q.ents := congrArg Nd.ents e
  have e2 : p.keys = q.keys := congrArg Nd.keys e
  have e3 : p.kids = q.kids := congrArg Nd.kids e
  have e4 : p.buf = q.buf := congrArg Nd.buf e
  unfold PN.wf at h1 ⊢
  rw [e1, e2, e3, e4] at h1
  exact h1

/-- Add's answer: the eight cells of a base, and a code. -/
def AddP (ss : List ByteArray) (s : ByteArray) (t v f : Int) (n0 : List Nd) (r0 : Int) (n1 : List Nd) (r1 : Int) (n2 : List Nd) (r2 : Int) (w : World) (NA : Option Addr) (nl _NC : Nat) (X0 : Option Addr) (x0 _Y0 : Nat) (s0 : Int) (X1 : Option Addr) (x1 _Y1 : Nat) (s1 : Int) (X2 : Option Addr) (x2 _Y2 : Nat) (s2 g c : Int) : Prop :=
  (c ≠ 0 ∧ AddNo ss s t v f n0 r0 n1 r1 n2 r2 c ∧ nl = 0 ∧ x0 = 0 ∧ x1 = 0 ∧ x2 = 0 ∧ g = 0) ∨
  (c = 0 ∧ nl = (withS ss s).length ∧ g = f ∧ ∃ (q0 q1 q2 : List PN) (L0 L1 L2 M0 M1 M2 : List En), x0 = q0.length ∧ x1 = q1.length ∧ x2 = q2.length ∧ AddYes ss s t v f n0 r0 n1 r1 n2 r2 (q0.map PN.nd) s0 (q1.map PN.nd) s1 (q2.map PN.nd) s2 L0 L1 L2 M0 M1 M2 ∧ StrsAt w.heap.size w NA (withS ss s) ∧ NodesAt w.heap.size w X0 q0 ∧ NodesAt w.heap.size w X1 q1 ∧ NodesAt w.heap.size w X2 q2)

def DocP (ss : List ByteArray) (s : ByteArray) (t v f : Int) (n0 : List Nd) (r0 : Int) (n1 : List Nd) (r1 : Int) (n2 : List Nd) (r2 : Int) (w : World) (MA : Option Addr) (ml _MC : Nat) (EA : Option Addr) (el _EC : Nat) (d : Int) : Prop :=
  ((d ≠ 0 ∧ DocNo ss s t v f n0 r0 n1 r1 n2 r2 d) ∨ (d = 0 ∧ ∃ L0 L1 L2 M, DocYes ss s t v f n0 r0 n1 r1 n2 r2 L0 L1 L2 M ∧ ml = (withS ss s).length ∧ el = M.length ∧ StrsAt w.heap.size w MA (withS ss s) ∧ RowAt w.heap.size w EA (flatE M)))

theorem baseL_one {ss : List ByteArray} {f : Int} {n0 n1 n2 : List Nd} {r0 r1 r2 : Int} {L0 L1 L2 K0 K1 K2 : List En} (h : BaseL ss f n0 r0 n1 r1 n2 r2 L0 L1 L2) (k : BaseL ss f n0 r0 n1 r1 n2 r2 K0 K1 K2) : K0 = L0 ∧ K1 = L1 ∧ K2 = L2 :=
  ⟨(Prod.mk.inj (k.a0.symm.trans h.a0)).2, (Prod.mk.inj (k.a1.symm.trans h.a1)).2, (Prod.mk.inj (k.a2.symm.trans h.a2)).2⟩

theorem adds_law {ss : List ByteArray} {s : ByteArray} {t v f : Int} {p0 p1 p2 : List PN} {r0 r1 r2 : Int} {wa wb W : World} {NA : Option Addr} {nl NC : Nat} {X0 : Option Addr} {x0 Y0 : Nat} {s0 : Int} {X1 : Option Addr} {x1 Y1 : Nat} {s1 : Int} {X2 : Option Addr} {x2 Y2 : Nat} {s2 g c : Int} {MA : Option Addr} {ml MC : Nat} {EA : Option Addr} {el EC : Nat} {d : Int}
    (hP : AddP ss s t v f (p0.map PN.nd) r0 (p1.map PN.nd) r1 (p2.map PN.nd) r2 wa NA nl NC X0 x0 Y0 s0 X1 x1 Y1 s1 X2 x2 Y2 s2 g c) (hQ : DocP ss s t v f (p0.map PN.nd) r0 (p1.map PN.nd) r1 (p2.map PN.nd) r2 wb MA ml MC EA el EC d) (ha : Below wa.heap.size wa W) (hb : Below wb.heap.size wb W) :
    LawC p0 p1 p2 f W NA nl NC X0 x0 Y0 s0 X1 x1 Y1 s1 X2 x2 Y2 s2 g c MA ml MC EA el EC d := by
  rcases hP with ⟨hc, hno, z1, z2, z3, z4, z5⟩ | ⟨rfl, rfl, rfl, q0, q1, q2, L0, L1, L2, M0, M1, M2, rfl, rfl, rfl, hy, hS, n0, n1, n2⟩
  · refine .inl ⟨hc, z1, z2, z3, z4, z5, ?_⟩
    rcases hQ with ⟨hd, dno⟩ | ⟨rfl, L0, L1, L2, M, dy, _⟩
    · left
      rcases hno with ⟨a, rfl⟩ | ⟨a, a2, rfl⟩ | ⟨a, a2, rfl, _⟩
      · rcases dno with ⟨_, rfl⟩ | ⟨b, _⟩ | ⟨b, _⟩
        · rfl
        · rw [a] at b; cases b
        · rw [a] at b; cases b
      · rcases dno with ⟨b, _⟩ | ⟨_, _, rfl⟩ | ⟨_, b, _⟩
        · rw [a] at b; cases b
        · rfl
        · exact absurd b a2
      · rcases dno with ⟨b, _⟩ | ⟨_, b, _⟩ | ⟨_, _, rfl, _⟩
        · rw [a] at b; cases b
        · exact absurd a2 b
        · rfl
    · right
      rcases hno with ⟨a, _⟩ | ⟨_, a, _⟩ | ⟨_, _, rfl, h⟩
      · rw [dy.was] at a; cases a
      · exact absurd dy.pt a
      · refine ⟨rfl, rfl, ?_⟩
        rcases h with h | ⟨_, h⟩
        · have := dy.few; omega
        · rcases h L0 L1 L2 dy.lst with (h | h | h) | h
          · rw [dy.i0] at h; cases h
          · exact absurd h dy.i1
          · exact absurd h dy.i2
          · simpa using h
  · right
    obtain ⟨hb1, hb2⟩ := hy.base
    rcases hQ with ⟨hd, dno⟩ | ⟨rfl, K0, K1, K2, M, dy, rfl, rfl, hS', hR⟩
    · exfalso
      rcases dno with ⟨b, _⟩ | ⟨_, b, _⟩ | ⟨_, _, _, h⟩
      · rw [hy.was] at b; cases b
      · exact b hy.pt
      · rcases h with h | ⟨K0, K1, K2, hK, h⟩
        · have := hy.few; omega
        · obtain ⟨rfl, rfl, rfl⟩ := baseL_one hy.lst hK
          rcases h with h | h | h
          · rw [hy.i0] at h; cases h
          · rw [hy.i1] at h; cases h
          · rw [hy.i2] at h; cases h
    · obtain ⟨rfl, rfl, rfl⟩ := baseL_one hy.lst dy.lst
      obtain rfl : M = M0 := by have := dy.i0.symm.trans hy.i0; exact Option.some.inj this
      refine ⟨rfl, rfl, fun V hV => ?_⟩
      have h1 := ha.trans (hV.mono ha.size)
      have h2 := hb.trans (hV.mono hb.size)
      exact baseIs_yes NA MA EA NC MC EC (withS ss s) ⟨X0, Y0, q0, s0⟩ ⟨X1, Y1, q1, s1⟩ ⟨X2, Y2, q2, s2⟩ g M V (hS.up h1) (hS'.up h2) (n0.up h1) (n1.up h1) (n2.up h1) (hR.up h2) dy.len hb1 hb2

set_option maxHeartbeats 1000000 in
theorem baseAdds_walk (A : Option Addr) (C : Nat) (ss : List ByteArray) (t0 t1 t2 : TR) (f : Int) (s : ByteArray) (t v : Int) (w : World) (hZ : SzAt w) (hA : A = none → C = 0) (_ : ss.length ≤ C) (hS : StrsAt w.heap.size w A ss) (h0 : t0.ok w) (h1 : t1.ok w) (h2 : t2.ok w) (_ : (Lit.int .i64 f).wf = true) (hs : s.size ≤ 140737488351232) (_ : (Lit.int .i64 t).wf = true) (_ : (Lit.int .i64 v).wf = true) :
    Calls Tryz.prog 3 #[.agg (baseV A C ss t0 t1 t2 f).toArray, .agg #[.string s, .int .i64 t, .int .i64 v]] w fun e w' => e = .returned (.bool true) ∧ Below w.heap.size w w' := by
  have okup : ∀ (t : TR) (w' : World), Below w.heap.size w w' → t.ok w → t.ok w' := fun t w' hb ht => ⟨ht.1.up hb, ht.2.1, ht.2.2⟩
  have z0 := h0.1.z
  have z1 := h1.1.z
  have z2 := h2.1.z
  refine adds_s A t0.A t1.A t2.A C t0.C t1.C t2.C ss t0.ps t1.ps t2.ps t0.r t1.r t2.r f s t v w
    (AddP ss s t v f (t0.ps.map PN.nd) t0.r (t1.ps.map PN.nd) t1.r (t2.ps.map PN.nd) t2.r) (DocP ss s t v f (t0.ps.map PN.nd) t0.r (t1.ps.map PN.nd) t1.r (t2.ps.map PN.nd) t2.r) (by omega) (by omega) (by omega)
    (fun W hW => ?_) (fun VA VC G0 G1 G2 D0 D1 D2 q0 q1 q2 W hW hc => ?_) (fun W hW => ?_) (fun VA VC G0 G1 G2 D0 D1 D2 q0 q1 q2 W hW hc => ?_) ?_
  · refine (rbcopy_any A C ss t0 t1 t2 f W (hS.up hW) hA (h0.1.up hW) (h1.1.up hW) (h2.1.up hW)).mono ?_
    rintro e w' ⟨VA, VC, G0, G1, G2, D0, D1, D2, q0, q1, q2, rfl, hl, hst, n0, n1, n2, e0, e1, e2, hb⟩
    exact ⟨VA, VC, G0, G1, G2, D0, D1, D2, q0, q1, q2, rfl, ⟨hl, hst, n0, n1, n2, e0, e1, e2⟩, hb⟩
  · have k := badd_any VA VC ss ⟨G0, D0, q0, t0.r⟩ ⟨G1, D1, q1, t1.r⟩ ⟨G2, D2, q2, t2.r⟩ f s t v W (hZ.below hW) hc.len hc.st hs ⟨hc.n0, wf_nd hc.e0 h0.2.1, h0.2.2⟩ ⟨hc.n1, wf_nd hc.e1 h1.2.1, h1.2.2⟩ ⟨hc.n2, wf_nd hc.e2 h2.2.1, h2.2.2⟩
    simp only [hc.e0, hc.e1, hc.e2] at k
    refine k.mono ?_
    rintro e w' ⟨hb, h⟩
    rcases h with ⟨c, hc0, hno, rfl⟩ | ⟨A', C', u0, u1, u2, L0, L1, L2, M0, M1, M2, hy, rfl, hA', hl', hst, k0, k1, k2⟩
    · exact ⟨none, 0, 0, none, 0, 0, 0, none, 0, 0, 0, none, 0, 0, 0, 0, c, rfl, hb, .inl ⟨hc0, hno, rfl, rfl, rfl, rfl, rfl⟩⟩
    · exact ⟨A', _, C', u0.A, _, u0.C, u0.r, u1.A, _, u1.C, u1.r, u2.A, _, u2.C, u2.r, f, 0, rfl, hb, .inr ⟨rfl, rfl, rfl, u0.ps, u1.ps, u2.ps, L0, L1, L2, M0, M1, M2, rfl, rfl, rfl, hy, hst, k0.1, k1.1, k2.1⟩⟩
  · refine (addedOf_any A C ss t0 t1 t2 f s t v W hA (hS.up hW) hs (okup t0 W hW h0) (okup t1 W hW h1) (okup t2 W hW h2)).mono ?_
    rintro e w' ⟨MA, EA, ml, MC, el, EC, d, rfl, hb, h⟩
    exact ⟨MA, ml, MC, EA, el, EC, d, rfl, hb, h⟩
  · exact sameBase_eq VA A VC C ss ⟨G0, D0, q0, t0.r⟩ ⟨G1, D1, q1, t1.r⟩ ⟨G2, D2, q2, t2.r⟩ t0 t1 t2 f W hc.st.row (hS.up hW) hc.n0 hc.n1 hc.n2 (h0.1.up hW) (h1.1.up hW) (h2.1.up hW) hc.e0 hc.e1 hc.e2 rfl rfl rfl
  · intro wa wb V NA nl NC X0 x0 Y0 s0 X1 x1 Y1 s1 X2 x2 Y2 s2 g c MA ml MC EA el EC d hP hQ ha hb
    exact adds_law hP hQ ha hb

set_option maxRecDepth 100000 in
theorem baseAdds_lifted (os : Os) (started : os.Started) (H : Type) (enc : TypeId × Value → H) :
    ReturnsInHanded {} Tryz.checked os 3 .any (fun w args => (Rows.baseAddsSpec.pre enc Tryz.prog Tryz.f3 [] false w args ∧ laidMetH Tryz.prog laidSz w) ∧ sizedMet enc Tryz.prog Tryz.f3 (OpenSpec.ofChange Rows.baseAddsSpec) false w args)
      (Rows.baseAddsSpec.post enc Tryz.prog Tryz.f3 false true false false) := by
  refine returnsInHanded_of_change_and (C := Tryz.checked) (X := fun w _ => laidMetH Tryz.prog laidSz w) (fun _ _ _ hh h => h.of_heap hh) own started (by kernel_rfl) Tryz.func3
    (ChangeSpec.witness_at (enc := enc) (C := Tryz.checked) (os := os) (X := fun w _ => laidMetH Tryz.prog laidSz w) false (World.laidAll Tryz.prog os laidSz) #[.agg #[.slice none 0 0, .slice none 0 0, .int .i64 0, .slice none 0 0, .int .i64 0, .slice none 0 0, .int .i64 0, .int .i64 0], .agg #[.string ByteArray.empty, .int .i64 0, .int .i64 0]] 8 (World.laidAll_os _ _ _) (by kernel_rfl) (by kernel_rfl) (by kernel_rfl) (by kernel_rfl) (by kernel_rfl)
      (by rw [MakeChecks.laidMetH_plain _ _ _ (by kernel_rfl)]; exact laidMet_laidAll _ (by kernel_rfl) (by kernel_rfl))) ?_
  intro W base args ds gs before hval0 hW _ hsz0 hL _
  have hval : ∀ (j : Nat) t v, Tryz.f3.params[j]? = some t → args[j]? = some v → Value.okWide Tryz.prog W .any base t v := hval0
  have hW' := hW
  obtain ⟨p, q, hA0, hV, rfl, hfz, hnd⟩ := hW
  have hA : DataW.TrodAll enc Tryz.prog W 0 (fun _ => true) true Tryz.f3.params.toList args.toList ds p := hA0
  have hsz : (DataW.weightsEach Tryz.prog (Tryz.f3.params.toList ++ Rows.baseAddsSpec.plain.varTypes Tryz.prog) (ds ++ gs)).all (· ≤ reachBytes) = true := hsz0
  rw [Tryz.params3] at hA hval hsz
  obtain ⟨v0, vs0, d0, ds0, p0, q0, hargs, rfl, rfl, h0, r0⟩ := trodAll_cons hA
  obtain ⟨v1, vs1, d1, ds1, p1, q1, rfl, rfl, rfl, h1, r1⟩ := trodAll_cons r0
  obtain ⟨rfl, rfl, rfl⟩ := trodAll_nil r1
  obtain rfl : args = #[v0, v1] := by cases args; simp_all
  obtain ⟨rfl, rfl⟩ := trodVars_none hV
  have k0 := h0
  have lt0 : ∀ x ∈ p0, x.block < W.heap.size := by obtain ⟨m, hm⟩ := k0; exact DataW.trod_lt m _ _ _ hm
  obtain ⟨A0, C0, ss0, ta0, tb0, tc0, f0, rfl, hA0, hC0, hS0, ha0, hb0, hc0, w0⟩ := open_base rfl (hval 0 28 v0 rfl rfl) h0 (fun n hn => by
    have := List.all_eq_true.1 hsz n (DataW.weights_mem_each (j := 0) (t := 28) rfl rfl n hn)
    exact of_decide_eq_true this)
  have k1 := h1
  have lt1 : ∀ x ∈ p1, x.block < W.heap.size := by obtain ⟨m, hm⟩ := k1; exact DataW.trod_lt m _ _ _ hm
  obtain ⟨a1, t1, x1, rfl, hs1, wt1, wx1⟩ := open_point rfl (hval 1 30 v1 rfl rfl) h1 (fun n hn => by
    have := List.all_eq_true.1 hsz n (DataW.weights_mem_each (j := 1) (t := 30) rfl rfl n hn)
    exact of_decide_eq_true this)
  clear hA0 hval0 hsz0
  refine (baseAdds_walk A0 C0 ss0 ta0 tb0 tc0 f0 a1 t1 x1 W (szAt_of hL) hA0 hC0 hS0 ha0 hb0 hc0 w0 hs1 wt1 wx1).mono fun e W' ⟨he, bel⟩ => ?_
  subst he
  exact ⟨_, rfl, _, _, _, [], _, [], hW', trodAll_mk1 (shut_bool Tryz.underlying4 _), (trodAll_cons_mk (Below.trod laidOut (by kernel_rfl) (of_decide_eq_true (by kernel_rfl)) k0 bel lt0) (trodAll_cons_mk (Below.trod laidOut (by kernel_rfl) (of_decide_eq_true (by kernel_rfl)) k1 bel lt1) trodAll_mk0)), rfl, bel.frame _, fun h => by cases h⟩

theorem baseAdds_holds : Rows.BaseAddsSaid :=
  OpenClaim.holds_of_wide 3 Tryz.f3 rfl rfl rfl rfl rfl rfl rfl ⟨rfl, rfl, rfl, rfl, rfl⟩ rfl rfl rfl rfl rfl (by kernel_rfl) Tryz.func3 (by kernel_rfl)
    (of_decide_eq_true (by kernel_rfl)) (by unfold Func.isWrapper; first | (rw [if_pos (by decide +kernel)]; kernel_rfl) | (rw [if_neg (by decide +kernel)]; exact ⟨rfl, rfl⟩))
    (fun os started H enc _ => baseAdds_lifted os started H enc)

theorem baseAddsCard_holds : Rows.BaseAddsCardSaid :=
  Claim7.holds_tied_plain_at .later [] [.data] true (true, "4d7c3c22875f8ca10597f4c586916121b7906f5ee92ae4a145c6866ed335f9c1") false baseAdds_holds (fun _ h => by cases h) (by kernel_rfl) (fun _ h => by cases h) baseAdds_row_tie rfl ⟨rfl, rfl⟩ (by kernel_rfl) rfl
    (fun f fn hf hfn => by
      obtain rfl : f = 3 := Option.some.inj ((show Tryz.prog.funcNamed "winnower/winnowerlaw.BaseAdds" = some 3 by kernel_rfl).symm.trans hf) |>.symm
      obtain rfl : fn = Tryz.f3 := (Option.some.inj (Tryz.func3.symm.trans hfn)).symm
      exact ⟨by kernel_rfl, fun j t ht => by
        rw [Tryz.params3] at ht
        have hm : t ∈ [28, 30] := by simpa using Array.mem_of_getElem? ht
        have hall : ([28, 30].all fun u => !Tryz.prog.wantsStandIn u) = true := by kernel_rfl
        exact (show Tryz.prog.wantsStandIn t = false by simpa using List.all_eq_true.1 hall t hm)⟩)
    (by kernel_rfl)
#print axioms baseAddsCard_holds
end Go.Proofs.YtlojfgdpmaigmadGreatDoor
