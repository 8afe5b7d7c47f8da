/- For every base and every time, package base's Expire answers what promise P3.6 says. No condition beside the table of sizes, which is tied to the program's text. -/
import Derived.Test.YtlojfgdpmaigmaeGreatDoorP51
import Derived.Test.YtlojfgdpmaigmaeGreatDoorLaidSz
import Derived.ChangeMaps5
namespace Go.Proofs.YtlojfgdpmaigmaeGreatDoor
open Go.ChangeShapes Go.WideShapes Go.ChangeAt Go.RowKit Plain

/-- Expire's answer: the eight cells of a base, and a code. -/
def ExpP (ss : List ByteArray) (f t : Int) (n0 : List Nd) (r0 : Int) (n1 : List Nd) (r1 : Int) (n2 : List Nd) (r2 : Int) (w : World) (NA : Option Addr) (nl _NC : Nat) (X0 : Option Addr) (x0 _Y0 : Nat) (s0 : Int) (X1 : Option Addr) (x1 _Y1 : Nat) (s1 : Int) (X2 : Option Addr) (x2 _Y2 : Nat) (s2 g c : Int) : Prop :=
  (c ≠ 0 ∧ ExpNo ss f t n0 r0 n1 r1 n2 r2 c ∧ nl = 0 ∧ x0 = 0 ∧ x1 = 0 ∧ x2 = 0 ∧ g = 0) ∨
  (c = 0 ∧ nl = ss.length ∧ g = t ∧ ∃ (q0 q1 q2 : List PN) (L0 L1 L2 : List En), x0 = q0.length ∧ x1 = q1.length ∧ x2 = q2.length ∧ ExpYes ss f t n0 r0 n1 r1 n2 r2 (q0.map PN.nd) s0 (q1.map PN.nd) s1 (q2.map PN.nd) s2 L0 L1 L2 ∧ StrsAt w.heap.size w NA ss ∧ NodesAt w.heap.size w X0 q0 ∧ NodesAt w.heap.size w X1 q1 ∧ NodesAt w.heap.size w X2 q2)

def ExdP (ss : List ByteArray) (f t : Int) (n0 : List Nd) (r0 : Int) (n1 : List Nd) (r1 : Int) (n2 : List Nd) (r2 : Int) (w : World) (EA : Option Addr) (el _EC : Nat) (d : Int) : Prop :=
  (d ≠ 0 ∧ ((baseB ss f n0 r0 n1 r1 n2 r2 = false ∧ d = 7) ∨ (baseB ss f n0 r0 n1 r1 n2 r2 = true ∧ floorC f t ≠ 0 ∧ d = floorC f t))) ∨
  (d = 0 ∧ baseB ss f n0 r0 n1 r1 n2 r2 = true ∧ floorC f t = 0 ∧ ∃ L0, bookP n0 r0 ss.length f = some L0 ∧ el = (L0.filter (yngB t)).length ∧ RowAt w.heap.size w EA (flatE (L0.filter (yngB t))))

theorem expires_law {A : Option Addr} {C : Nat} {ss : List ByteArray} {f t : Int} {p0 p1 p2 : List PN} {r0 r1 r2 : Int} {w wa wb W : World} {NA : Option Addr} {nl NC : Nat} {X0 : Option Addr} {x0 Y0 : Nat} {s0 : Int} {X1 : Option Addr} {x1 Y1 : Nat} {s1 : Int} {X2 : Option Addr} {x2 Y2 : Nat} {s2 g c : Int} {EA : Option Addr} {el EC : Nat} {d : Int} (hS0 : StrsAt w.heap.size w A ss)
    (hP : ExpP ss f t (p0.map PN.nd) r0 (p1.map PN.nd) r1 (p2.map PN.nd) r2 wa NA nl NC X0 x0 Y0 s0 X1 x1 Y1 s1 X2 x2 Y2 s2 g c) (hQ : ExdP ss f t (p0.map PN.nd) r0 (p1.map PN.nd) r1 (p2.map PN.nd) r2 wb EA el EC d) (ha : Below wa.heap.size wa W) (hb : Below wb.heap.size wb W) (hw : Below w.heap.size w W) :
    LawX ss A C t W NA nl NC X0 x0 Y0 s0 X1 x1 Y1 s1 X2 x2 Y2 s2 g c EA el EC d := by
  rcases hP with ⟨hc, hno, z1, z2, z3, z4, z5⟩ | ⟨rfl, rfl, rfl, q0, q1, q2, L0, L1, L2, rfl, rfl, rfl, hy, hS, n0, n1, n2⟩
  · refine .inl ⟨hc, z1, z2, z3, z4, z5, ?_⟩
    rcases hQ with ⟨hd, dno⟩ | ⟨rfl, db, df, L0, hbk, rfl, _⟩
    · left
      rcases hno with ⟨a, rfl⟩ | ⟨a, a2, rfl⟩ | ⟨a, a2, rfl, _⟩
      · rcases dno with ⟨_, rfl⟩ | ⟨b, _⟩
        · rfl
        · rw [a] at b; cases b
      · rcases dno with ⟨b, _⟩ | ⟨_, _, rfl⟩
        · rw [a] at b; cases b
        · rfl
      · rcases dno with ⟨b, _⟩ | ⟨_, b, _⟩
        · rw [a] at b; cases b
        · exact absurd a2 b
    · right
      rcases hno with ⟨a, _⟩ | ⟨_, a, _⟩ | ⟨_, _, rfl, h⟩
      · rw [db] at a; cases a
      · exact absurd df a
      · obtain ⟨K0, K1, K2, hK⟩ := baseL db
        obtain rfl : K0 = L0 := Option.some.inj (hK.book.symm.trans hbk)
        exact ⟨rfl, rfl, h K0 K1 K2 hK⟩
  · right
    obtain ⟨hb1, hb2⟩ := hy.base
    rcases hQ with ⟨hd, dno⟩ | ⟨rfl, db, df, K0, hbk, rfl, hR⟩
    · exfalso
      rcases dno with ⟨b, _⟩ | ⟨_, b, _⟩
      · rw [hy.was] at b; cases b
      · exact b hy.fl
    · obtain rfl : L0 = K0 := Option.some.inj (hy.lst.book.symm.trans hbk)
      have fl := allP_len (q0.map PN.nd) s0 0 1099511627776
      rw [hy.a0] at fl
      have fl2 : (L0.filter (yngB g)).length ≤ 28000 := fl
      refine ⟨rfl, rfl, fun V hV => ?_⟩
      have h1 := ha.trans (hV.mono ha.size)
      have h2 := hb.trans (hV.mono hb.size)
      have h3 := hw.trans (hV.mono hw.size)
      exact baseIs_yes NA A EA NC C EC ss ⟨X0, Y0, q0, s0⟩ ⟨X1, Y1, q1, s1⟩ ⟨X2, Y2, q2, s2⟩ g (L0.filter (yngB g)) V (hS.up h1) (hS0.up h3) (n0.up h1) (n1.up h1) (n2.up h1) (hR.up h2) (by omega) hb1 hb2

set_option maxHeartbeats 1000000 in
theorem baseExpires_walk (A : Option Addr) (C : Nat) (ss : List ByteArray) (t0 t1 t2 : TR) (f t : Int) (w : World) (hZ : SzAt w) (hC : ss.length ≤ C) (hS : StrsAt w.heap.size w A ss) (h0 : t0.ok w) (h1 : t1.ok w) (h2 : t2.ok w) (_ : (Lit.int .i64 f).wf = true) (_ : (Lit.int .i64 t).wf = true) :
    Calls Tryz.prog 3 #[.agg (baseV A C ss t0 t1 t2 f).toArray, .int .i64 t] w fun e w' => e = .returned (.bool true) ∧ Below w.heap.size w w' := by
  have okup : ∀ (t : TR) (w' : World), Below w.heap.size w w' → t.ok w → t.ok w' := fun t w' hb ht => ⟨ht.1.up hb, ht.2.1, ht.2.2⟩
  refine expires_s A t0.A t1.A t2.A C t0.C t1.C t2.C ss t0.ps t1.ps t2.ps t0.r t1.r t2.r f t w
    (ExpP ss f t (t0.ps.map PN.nd) t0.r (t1.ps.map PN.nd) t1.r (t2.ps.map PN.nd) t2.r) (ExdP ss f t (t0.ps.map PN.nd) t0.r (t1.ps.map PN.nd) t1.r (t2.ps.map PN.nd) t2.r)
    (fun W hW => ?_) (fun W hW => ?_) ?_
  · refine (bexp_any A C ss t0 t1 t2 f t W (hZ.below hW) hC (hS.up hW) (okup t0 W hW h0) (okup t1 W hW h1) (okup t2 W hW h2)).mono ?_
    rintro e w' ⟨hb, h⟩
    rcases h with ⟨c, hc0, hno, rfl⟩ | ⟨A', C', u0, u1, u2, L0, L1, L2, hy, rfl, ho⟩
    · exact ⟨none, 0, 0, none, 0, 0, 0, none, 0, 0, 0, none, 0, 0, 0, 0, c, rfl, hb, .inl ⟨hc0, hno, rfl, rfl, rfl, rfl, rfl⟩⟩
    · obtain ⟨_, _, e9, _, _, _, hrow9⟩ := own_row ho.sr
      cases e9
      obtain ⟨g0, e0, n0⟩ := ho.n0
      obtain ⟨g1, e1, n1⟩ := ho.n1
      obtain ⟨g2, e2, n2⟩ := ho.n2
      have hz := hS.z
      exact ⟨A', _, C', u0.A, _, u0.C, u0.r, u1.A, _, u1.C, u1.r, u2.A, _, u2.C, u2.r, t, 0, rfl, hb, .inr ⟨rfl, rfl, rfl, u0.ps, u1.ps, u2.ps, L0, L1, L2, rfl, rfl, rfl, hy, ⟨hrow9, hz, ho.se⟩, by rw [e0]; exact n0.nodes, by rw [e1]; exact n1.nodes, by rw [e2]; exact n2.nodes⟩⟩
  · refine (expiredOf_any A C ss t0 t1 t2 f t W (hS.up hW) (okup t0 W hW h0) (okup t1 W hW h1) (okup t2 W hW h2)).mono ?_
    rintro e w' ⟨EA, el, EC, d, rfl, hb, h⟩
    exact ⟨EA, el, EC, d, rfl, hb, h⟩
  · intro wa wb V NA nl NC X0 x0 Y0 s0 X1 x1 Y1 s1 X2 x2 Y2 s2 g c EA el EC d hP hQ ha hb hw
    exact expires_law hS hP hQ ha hb hw

set_option maxRecDepth 100000 in
theorem baseExpires_lifted (os : Os) (started : os.Started) (H : Type) (enc : TypeId × Value → H) :
    ReturnsInHanded {} Tryz.checked os 3 .any (fun w args => (Rows.baseExpiresSpec.pre enc Tryz.prog Tryz.f3 [] false w args ∧ laidMetH Tryz.prog laidSz w) ∧ sizedMet enc Tryz.prog Tryz.f3 (OpenSpec.ofChange Rows.baseExpiresSpec) false w args)
      (Rows.baseExpiresSpec.post enc Tryz.prog Tryz.f3 false true false false) := by
  refine returnsInHanded_of_change_and (C := Tryz.checked) (X := fun w _ => laidMetH Tryz.prog laidSz w) (fun _ _ _ hh h => h.of_heap hh) own started (by kernel_rfl) Tryz.func3
    (ChangeSpec.witness_at (enc := enc) (C := Tryz.checked) (os := os) (X := fun w _ => laidMetH Tryz.prog laidSz w) false (World.laidAll Tryz.prog os laidSz) #[.agg #[.slice none 0 0, .slice none 0 0, .int .i64 0, .slice none 0 0, .int .i64 0, .slice none 0 0, .int .i64 0, .int .i64 0], .int .i64 0] 8 (World.laidAll_os _ _ _) (by kernel_rfl) (by kernel_rfl) (by kernel_rfl) (by kernel_rfl) (by kernel_rfl)
      (by rw [MakeChecks.laidMetH_plain _ _ _ (by kernel_rfl)]; exact laidMet_laidAll _ (by kernel_rfl) (by kernel_rfl))) ?_
  intro W base args ds gs before hval0 hW _ hsz0 hL _
  have hval : ∀ (j : Nat) t v, Tryz.f3.params[j]? = some t → args[j]? = some v → Value.okWide Tryz.prog W .any base t v := hval0
  have hW' := hW
  obtain ⟨p, q, hA0, hV, rfl, hfz, hnd⟩ := hW
  have hA : DataW.TrodAll enc Tryz.prog W 0 (fun _ => true) true Tryz.f3.params.toList args.toList ds p := hA0
  have hsz : (DataW.weightsEach Tryz.prog (Tryz.f3.params.toList ++ Rows.baseExpiresSpec.plain.varTypes Tryz.prog) (ds ++ gs)).all (· ≤ reachBytes) = true := hsz0
  rw [Tryz.params3] at hA hval hsz
  obtain ⟨v0, vs0, d0, ds0, p0, q0, hargs, rfl, rfl, h0, r0⟩ := trodAll_cons hA
  obtain ⟨v1, vs1, d1, ds1, p1, q1, rfl, rfl, rfl, h1, r1⟩ := trodAll_cons r0
  obtain ⟨rfl, rfl, rfl⟩ := trodAll_nil r1
  obtain rfl : args = #[v0, v1] := by cases args; simp_all
  obtain ⟨rfl, rfl⟩ := trodVars_none hV
  have k0 := h0
  have lt0 : ∀ x ∈ p0, x.block < W.heap.size := by obtain ⟨m, hm⟩ := k0; exact DataW.trod_lt m _ _ _ hm
  obtain ⟨A0, C0, ss0, ta0, tb0, tc0, f0, rfl, -, hC0, hS0, ha0, hb0, hc0, w0⟩ := open_base rfl (hval 0 28 v0 rfl rfl) h0 (fun n hn => by
    have := List.all_eq_true.1 hsz n (DataW.weights_mem_each (j := 0) (t := 28) rfl rfl n hn)
    exact of_decide_eq_true this)
  have k1 := h1
  have lt1 : ∀ x ∈ p1, x.block < W.heap.size := by obtain ⟨m, hm⟩ := k1; exact DataW.trod_lt m _ _ _ hm
  obtain ⟨a1, rfl, w1⟩ : ∃ n : Int, v1 = .int .i64 n ∧ (Lit.int .i64 n).wf = true := by
    obtain ⟨n, h, _, _, w⟩ := open_int Tryz.underlying3 (hval 1 3 v1 rfl rfl) h1; exact ⟨n, h, w⟩
  clear hA0 hval0 hsz0
  refine (baseExpires_walk A0 C0 ss0 ta0 tb0 tc0 f0 a1 W (szAt_of hL) hC0 hS0 ha0 hb0 hc0 w0 w1).mono fun e W' ⟨he, bel⟩ => ?_
  subst he
  exact ⟨_, rfl, _, _, _, [], _, [], hW', trodAll_mk1 (shut_bool Tryz.underlying4 _), (trodAll_cons_mk (Below.trod laidOut (by kernel_rfl) (of_decide_eq_true (by kernel_rfl)) k0 bel lt0) (trodAll_cons_mk (Below.trod laidOut (by kernel_rfl) (of_decide_eq_true (by kernel_rfl)) k1 bel lt1) trodAll_mk0)), rfl, bel.frame _, fun h => by cases h⟩

theorem baseExpires_holds : Rows.BaseExpiresSaid :=
  OpenClaim.holds_of_wide 3 Tryz.f3 rfl rfl rfl rfl rfl rfl rfl ⟨rfl, rfl, rfl, rfl, rfl⟩ rfl rfl rfl rfl rfl (by kernel_rfl) Tryz.func3 (by kernel_rfl)
    (of_decide_eq_true (by kernel_rfl)) (by unfold Func.isWrapper; first | (rw [if_pos (by decide +kernel)]; kernel_rfl) | (rw [if_neg (by decide +kernel)]; exact ⟨rfl, rfl⟩))
    (fun os started H enc _ => baseExpires_lifted os started H enc)

theorem baseExpiresCard_holds : Rows.BaseExpiresCardSaid :=
  Claim7.holds_tied_plain_at .later [] [.data] true (true, "70812a8111c496b7e791c729587af830859d64019f6e8c761a5939306b334728") false baseExpires_holds (fun _ h => by cases h) (by kernel_rfl) (fun _ h => by cases h) baseExpires_row_tie rfl ⟨rfl, rfl⟩ (by kernel_rfl) rfl
    (fun f fn hf hfn => by
      obtain rfl : f = 3 := Option.some.inj ((show Tryz.prog.funcNamed "winnower/winnowerlaw.BaseExpires" = some 3 by kernel_rfl).symm.trans hf) |>.symm
      obtain rfl : fn = Tryz.f3 := (Option.some.inj (Tryz.func3.symm.trans hfn)).symm
      exact ⟨by kernel_rfl, fun j t ht => by
        rw [Tryz.params3] at ht
        have hm : t ∈ [28, 3] := by simpa using Array.mem_of_getElem? ht
        have hall : ([28, 3].all fun u => !Tryz.prog.wantsStandIn u) = true := by kernel_rfl
        exact (show Tryz.prog.wantsStandIn t = false by simpa using List.all_eq_true.1 hall t hm)⟩)
    (by kernel_rfl)
#print axioms baseExpiresCard_holds
end Go.Proofs.YtlojfgdpmaigmaeGreatDoor
