/- base.Add: what it answers, at any base and any point. -/
import Derived.Test.YtlojfgdpmaigmacGreatDoorAddCore
import Derived.Test.YtlojfgdpmaigmacGreatDoorP47
namespace Go.Proofs.YtlojfgdpmaigmacGreatDoor
open Go.RowKit Plain Go.Shelf

/-- Why a point is refused. -/
def AddNo (ss : List ByteArray) (s : ByteArray) (t v f : Int) (n0 : List Nd) (r0 : Int) (n1 : List Nd) (r1 : Int) (n2 : List Nd) (r2 c : Int) : Prop :=
  (baseB ss f n0 r0 n1 r1 n2 r2 = false ∧ c = 7) ∨ (baseB ss f n0 r0 n1 r1 n2 r2 = true ∧ ptC s t v f ≠ 0 ∧ c = ptC s t v f) ∨
  (baseB ss f n0 r0 n1 r1 n2 r2 = true ∧ ptC s t v f = 0 ∧ c = 1 ∧ (16 < (withS ss s).length ∨ ((withS ss s).length ≤ 16 ∧ ∀ L0 L1 L2, BaseL ss f n0 r0 n1 r1 n2 r2 L0 L1 L2 →
    (ins L0 (ptE (plc ss s) t v) = none ∨ ins L1 (bk 60 (ptE (plc ss s) t v)) = none ∨ ins L2 (bk 3600 (ptE (plc ss s) t v)) = none) ∨ (200 < n0.length ∧ 900 < L0.length) ∨ (200 < n1.length ∧ 900 < L1.length) ∨ (200 < n2.length ∧ 900 < L2.length))))

/-- What a base knows, once a point was added. -/
structure AddYes (ss : List ByteArray) (s : ByteArray) (t v f : Int) (n0 : List Nd) (r0 : Int) (n1 : List Nd) (r1 : Int) (n2 : List Nd) (r2 : Int) (m0 : List Nd) (q0 : Int) (m1 : List Nd) (q1 : Int) (m2 : List Nd) (q2 : Int) (L0 L1 L2 M0 M1 M2 : List En) : Prop where
  was : baseB ss f n0 r0 n1 r1 n2 r2 = true
  pt : ptC s t v f = 0
  few : (withS ss s).length ≤ 16
  lst : BaseL ss f n0 r0 n1 r1 n2 r2 L0 L1 L2
  i0 : ins L0 (ptE (plc ss s) t v) = some M0
  i1 : ins L1 (bk 60 (ptE (plc ss s) t v)) = some M1
  i2 : ins L2 (bk 3600 (ptE (plc ss s) t v)) = some M2
  a0 : allP m0 q0 0 1099511627776 = (0, M0)
  a1 : allP m1 q1 0 1099511627776 = (0, M1)
  a2 : allP m2 q2 0 1099511627776 = (0, M2)

/-- A base in memory of its own. -/
structure OwnB (B : Nat) (w : World) (A : Option Addr) (C : Nat) (ss : List ByteArray) (t0 t1 t2 : TR) : Prop where
  sr : w.ownsRow B 9 1 (.slice A ss.length C) ss.length (strs ss)
  se : ∀ s ∈ ss, s.size ≤ 140737488351232
  sn : ss.length ≤ 17
  n0 : ∃ g, t0.A = some ⟨g, 0, none⟩ ∧ NT B w g t0.C t0.ps
  n1 : ∃ g, t1.A = some ⟨g, 0, none⟩ ∧ NT B w g t1.C t1.ps
  n2 : ∃ g, t2.A = some ⟨g, 0, none⟩ ∧ NT B w g t2.C t2.ps

/-- What Add answers. -/
def AddTo (ss : List ByteArray) (s : ByteArray) (t v f : Int) (n0 : List Nd) (r0 : Int) (n1 : List Nd) (r1 : Int) (n2 : List Nd) (r2 : Int) (w : World) (e : Ending) (w' : World) : Prop :=
  Below w.heap.size w w' ∧ ((∃ c, c ≠ 0 ∧ AddNo ss s t v f n0 r0 n1 r1 n2 r2 c ∧ e = .returned (noBase c)) ∨
    ∃ (A' : Option Addr) (C' : Nat) (t0 t1 t2 : TR) (L0 L1 L2 M0 M1 M2 : List En), AddYes ss s t v f n0 r0 n1 r1 n2 r2 (t0.ps.map PN.nd) t0.r (t1.ps.map PN.nd) t1.r (t2.ps.map PN.nd) t2.r L0 L1 L2 M0 M1 M2 ∧ e = .returned (.tuple #[.agg (baseV A' C' (withS ss s) t0 t1 t2 f).toArray, .int .i64 0]) ∧
      (A' = none → C' = 0) ∧ (withS ss s).length ≤ C' ∧ StrsAt w'.heap.size w' A' (withS ss s) ∧ t0.ok w' ∧ t1.ok w' ∧ t2.ok w' ∧ OwnB w.heap.size w' A' C' (withS ss s) t0 t1 t2)

theorem knows_allP {ns : List Nd} {root : Int} {l : List En} (h : allP ns root 0 1099511627776 = (0, l)) : Knows ns root l := by
  obtain ⟨h1, h2⟩ := allP_zero h
  rw [allR_all h1] at h2
  exact Knows.mk' h1 h2

theorem put_con {A : Option Addr} {C : Nat} {root key : Int} {r : Ru} {ps : List PN} {L : List En} {x : En} {W : World} (hN : NodesAt W.heap.size W A ps) (hwf : ∀ p ∈ ps, p.wf) (ha : allP (ps.map PN.nd) root 0 1099511627776 = (0, L)) (hg : Good r) (hk : 0 ≤ key ∧ key ≤ 1099511627775) (hx : x = mkE key r) :
    Calls Tryz.prog 13 #[.agg #[.slice A ps.length C, .int .i64 root], .int .i64 key, .agg #[.int .i64 r.c, .int .i64 r.s, .int .i64 r.lo, .int .i64 r.hi, .int .i64 r.t, .int .i64 r.l]] W (PutC (fun c => c = 1 ∧ (ins L x = none ∨ (200 < (ps.map PN.nd).length ∧ 900 < L.length))) (fun m q => ∃ M, ins L x = some M ∧ allP m q 0 1099511627776 = (0, M)) W) := by
  subst hx
  refine (put_any A C root key r ps W hN hwf).mono ?_
  intro e w' h
  have hcode := put_code (key := key) ha hg hk
  rcases h with ⟨h0, rfl, hb⟩ | ⟨h0, hc, hP⟩
  · rcases hcode with ⟨h1, _⟩ | ⟨h1, h2⟩
    · exact absurd h1 h0
    · rw [h1]
      exact ⟨none, 0, 0, 0, 1, rfl, hb, .inl ⟨by decide, rfl, .inl h2⟩⟩
  · obtain ⟨ns2, root2, hok, hb, ⟨h2, rfl⟩ | ⟨h2, g, C', qs, rfl, hNT, hm⟩⟩ := hP.res
    · refine ⟨none, 0, 0, 0, 1, rfl, hb, .inl ⟨by decide, rfl, .inr ⟨by have := hok.few; omega, ?_⟩⟩⟩
      rcases hcode with ⟨_, ys, h3⟩ | ⟨h1, _⟩
      · have h4 := (knows_allP ha).put_few hok h3
        have h5 := (ins_good (x := mkE key r) hg (knows_allP ha).good h3).2
        omega
      · omega
    · rcases hcode with ⟨_, ys, h3⟩ | ⟨h1, _⟩
      · refine ⟨some ⟨g, 0, none⟩, qs.length, C', root2, 0, rfl, hb, .inr ⟨rfl, g, qs, rfl, rfl, hNT, ys, h3, ?_⟩⟩
        rw [hm]
        exact put_allP ha h0 hok h2 h3
      · omega

theorem root_wf {ns : List Nd} {root : Int} (h : treeC ns root = 0) : (Lit.int .i64 root).wf = true := by
  have hz := (tree_each h).1
  have : 0 ≤ root ∧ root ≤ 2000 := by
    rcases treeC_sub h with ⟨ht, P, hs, hp⟩ | ⟨_, rfl⟩
    · have := Sub_self hs
      omega
    · omega
  exact WalkArith.wf_i64 (by omega)

theorem badd_any (A : Option Addr) (C : Nat) (ss : List ByteArray) (t0 t1 t2 : TR) (f : Int) (s : ByteArray) (t v : Int) (w : World) (hZ : SzAt w) (hC : ss.length ≤ C) (hS : StrsAt w.heap.size w A ss) (hs : s.size ≤ 140737488351232) (h0 : t0.ok w) (h1 : t1.ok w) (h2 : t2.ok w) :
    Calls Tryz.prog 22 #[.agg (baseV A C ss t0 t1 t2 f).toArray, .agg #[.string s, .int .i64 t, .int .i64 v]] w (AddTo ss s t v f (t0.ps.map PN.nd) t0.r (t1.ps.map PN.nd) t1.r (t2.ps.map PN.nd) t2.r w) := by
  have okup : ∀ (t : TR) (w' : World), Below w.heap.size w w' → t.ok w → t.ok w' := fun t w' hb ht => ⟨ht.1.up hb, ht.2.1, ht.2.2⟩
  have ck := fun (bb : Bool) (hbb : Hid (baseB ss f (t0.ps.map PN.nd) t0.r (t1.ps.map PN.nd) t1.r (t2.ps.map PN.nd) t2.r = bb)) W (hW : Below w.heap.size w W) => bcheck_any A C ss t0 t1 t2 f W (hZ.below hW) hC (hS.up hW) (okup t0 W hW h0) (okup t1 W hW h1) (okup t2 W hW h2) bb hbb
  have pf := fun W => pointFor_any A C ss t0 t1 t2 f s t v W
  cases hB : baseB ss f (t0.ps.map PN.nd) t0.r (t1.ps.map PN.nd) t1.r (t2.ps.map PN.nd) t2.r with
  | false =>
    refine (add_b1 _ _ _ _ _ _ _ _ _ rfl s t v 7 (by decide) w (fun W hW => ?_)).mono ?_
    · have k := ck false hB W hW
      simp only [Bool.false_eq_true, if_false] at k
      exact k
    · rintro e w' ⟨rfl, hb⟩
      exact ⟨hb, .inl ⟨7, by decide, .inl ⟨hB, rfl⟩, rfl⟩⟩
  | true =>
    have ck0 : ∀ W, Below w.heap.size w W → Calls Tryz.prog 43 #[.agg (baseV A C ss t0 t1 t2 f).toArray] W fun e w' => e = .returned (.int .i64 0) ∧ Below W.heap.size W w' := fun W hW => by
      have k := ck true hB W hW
      simp only [if_true] at k
      exact k
    by_cases hp : ptC s t v f = 0
    · obtain ⟨L0, L1, L2, hL⟩ := baseL hB
      obtain ⟨hn, ht, hv, hf⟩ := pt_facts hp
      have hr : ptR s t v f = one t v := by unfold ptR; rw [if_pos hp]
      obtain ⟨e1, e2, e3⟩ := plc_with ss s
      have hfew := hL.few
      have hlen : (withS ss s).length ≤ ss.length + 1 := by
        unfold withS
        split <;> simp
      have hpl : 0 ≤ plc ss s ∧ plc ss s < 17 := by omega
      have hg := one_good ht hv
      have hes : ∀ x ∈ withS ss s, x.size ≤ 140737488351232 := by
        intro x hx
        unfold withS at hx
        split at hx
        · rcases List.mem_append.1 hx with hx | hx
          · exact hS.each x hx
          · obtain rfl : x = s := by simpa using hx
            exact hs
        · exact hS.each x hx
      have kb : ∀ sz : Int, (sz = 1 ∨ sz = 60 ∨ sz = 3600) → (0 ≤ t - t % sz ∧ t - t % sz < 1048576) ∧ 0 ≤ plc ss s * 1048576 + (t - t % sz) ∧ plc ss s * 1048576 + (t - t % sz) ≤ 1099511627775 := by
        intro sz hsz
        rcases hsz with rfl | rfl | rfl <;> omega
      have x0 : ptE (plc ss s) t v = mkE (plc ss s * 1048576 + (t - t % 1)) (one t v) := by
        have e : t - t % 1 = t := by omega
        rw [e]
        rfl
      have x1 : bk 60 (ptE (plc ss s) t v) = mkE (plc ss s * 1048576 + (t - t % 60)) (one t v) := pt_bk ht
      have x2 : bk 3600 (ptE (plc ss s) t v) = mkE (plc ss s * 1048576 + (t - t % 3600)) (one t v) := pt_bk ht
      refine (add_core A t0.A t1.A t2.A C t0.C t1.C t2.C ss (withS ss s) t0.ps t1.ps t2.ps t0.r t1.r t2.r f s t v (one t v) w _ _ _ _ _ _ (plc ss s) (t - t % 1) (t - t % 60) (t - t % 3600) (plc ss s * 1048576 + (t - t % 1)) (plc ss s * 1048576 + (t - t % 60)) (plc ss s * 1048576 + (t - t % 3600)) (by omega) hes ck0 (fun W => ?_) (fun W hW => namesWith_any A C ss s W (hS.up hW) hs hfew) (fun VA VC W h => ?_) (fun W hW => sizes_any W (hZ.below hW))
        (fun W => bbegin_any t 1 W (by omega) (.inl rfl)) (fun W => bbegin_any t 60 W (by omega) (.inr (.inl rfl))) (fun W => bbegin_any t 3600 W (by omega) (.inr (.inr rfl)))
        (fun W => keyOf_any _ _ W (by omega) (kb 1 (.inl rfl)).1) (fun W => keyOf_any _ _ W (by omega) (kb 60 (.inr (.inl rfl))).1) (fun W => keyOf_any _ _ W (by omega) (kb 3600 (.inr (.inr rfl))).1)
        (fun W hW => put_con (L := L0) (h0.1.up hW) h0.2.1 hL.a0 hg (kb 1 (.inl rfl)).2 x0) (fun W hW => put_con (L := L1) (h1.1.up hW) h1.2.1 hL.a1 hg (kb 60 (.inr (.inl rfl))).2 x1) (fun W hW => put_con (L := L2) (h2.1.up hW) h2.2.1 hL.a2 hg (kb 3600 (.inr (.inr rfl))).2 x2)).mono ?_
      · have k := pf W
        rw [hp, hr] at k
        exact k
      · have k := index_any VA VC (withS ss s) s W h
        rw [e1] at k
        exact k
      · intro e w' h
        obtain ⟨hb, h⟩ := h
        refine ⟨hb, ?_⟩
        rcases h with ⟨h16, rfl⟩ | ⟨h16, c, hc0, hbad, rfl⟩ | ⟨h16, VA, VC, g0, D0, g1, D1, g2, D2, q0, q1, q2, s0, s1, s2, rfl, hown, N0, N1, N2, ⟨M0, i0, a0⟩, ⟨M1, i1, a1⟩, M2, i2, a2⟩
        · exact .inl ⟨1, by decide, .inr (.inr ⟨hB, hp, rfl, .inl h16⟩), rfl⟩
        · have hc1 : c = 1 := by
            rcases hbad with h | h | h <;> exact h.1
          refine .inl ⟨c, hc0, .inr (.inr ⟨hB, hp, hc1, .inr ⟨h16, fun K0 K1 K2 hK => ?_⟩⟩), rfl⟩
          obtain rfl : K0 = L0 := by have := hK.a0.symm.trans hL.a0; exact (Prod.mk.inj this).2
          obtain rfl : K1 = L1 := by have := hK.a1.symm.trans hL.a1; exact (Prod.mk.inj this).2
          obtain rfl : K2 = L2 := by have := hK.a2.symm.trans hL.a2; exact (Prod.mk.inj this).2
          rcases hbad with ⟨_, h | h⟩ | ⟨_, h | h⟩ | ⟨_, h | h⟩
          · exact .inl (.inl h)
          · exact .inr (.inl h)
          · exact .inl (.inr (.inl h))
          · exact .inr (.inr (.inl h))
          · exact .inl (.inr (.inr h))
          · exact .inr (.inr (.inr h))
        · have k0 := (allP_zero a0).1
          have k1 := (allP_zero a1).1
          have k2 := (allP_zero a2).1
          obtain ⟨_, _, e9, hA9, hl9, _, hrow9⟩ := own_row hown
          cases e9
          exact .inr ⟨VA, VC, ⟨some ⟨g0, 0, none⟩, D0, q0, s0⟩, ⟨some ⟨g1, 0, none⟩, D1, q1, s1⟩, ⟨some ⟨g2, 0, none⟩, D2, q2, s2⟩, L0, L1, L2, M0, M1, M2, ⟨hB, hp, h16, hL, i0, i1, i2, a0, a1, a2⟩, rfl, hA9, hl9, ⟨hrow9, by omega, hes⟩, ⟨N0.nodes, treeC_wf k0, root_wf k0⟩, ⟨N1.nodes, treeC_wf k1, root_wf k1⟩, ⟨N2.nodes, treeC_wf k2, root_wf k2⟩, hown, hes, by omega, ⟨g0, rfl, N0⟩, ⟨g1, rfl, N1⟩, ⟨g2, rfl, N2⟩⟩
    · refine (add_b2 _ _ _ _ _ _ _ _ _ rfl s t v _ _ hp w ck0 pf).mono ?_
      rintro e w' ⟨rfl, hb⟩
      exact ⟨hb, .inl ⟨_, hp, .inr (.inl ⟨hB, hp, rfl⟩), rfl⟩⟩

end Go.Proofs.YtlojfgdpmaigmacGreatDoor
