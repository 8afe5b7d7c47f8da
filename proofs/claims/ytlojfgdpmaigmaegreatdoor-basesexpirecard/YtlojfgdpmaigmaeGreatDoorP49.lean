/- base.Add: what it answers, at any base and any point. -/
import Derived.Test.YtlojfgdpmaigmaeGreatDoorAddCore
import Derived.Test.YtlojfgdpmaigmaeGreatDoorP44
import Derived.Test.YtlojfgdpmaigmaeGreatDoorP23
import Derived.Test.YtlojfgdpmaigmaeGreatDoorP15
import Derived.Test.YtlojfgdpmaigmaeGreatDoorP17
import Derived.Test.YtlojfgdpmaigmaeGreatDoorP48
import Derived.Test.YtlojfgdpmaigmaeGreatDoorP42
import Derived.Test.YtlojfgdpmaigmaeGreatDoorP27
import Derived.Test.YtlojfgdpmaigmaeGreatDoorP12
import Derived.Deep.RegionHeld3
import Derived.Deep.DeepCutAuto
import Derived.Deep.AppendLies
import Derived.Test.YtlojfgdpmaigmaeGreatDoorP03
namespace Go.Proofs.YtlojfgdpmaigmaeGreatDoor
open Go.RowKit Plain Go.Shelf

/-- Why a point is refused. -/
def AddNo (ss : List ByteArray) (s : ByteArray) (t v f : Int) (n0 : List Nd) (r0 : Int) (n1 : List Nd) (r1 : Int) (n2 : List Nd) (r2 c : Int) : Prop :=
  (baseB ss f n0 r0 n1 r1 n2 r2 = false ∧ c = 7) ∨ (baseB ss f n0 r0 n1 r1 n2 r2 = true ∧ ptC s t v f ≠ 0 ∧ c = ptC s t v f) ∨
  (baseB ss f n0 r0 n1 r1 n2 r2 = true ∧ ptC s t v f = 0 ∧ c = 1 ∧ (16 < (withS ss s).length ∨ ((withS ss s).length ≤ 16 ∧ ∀ L0 L1 L2, BaseL ss f n0 r0 n1 r1 n2 r2 L0 L1 L2 →
    (ins L0 (ptE (plc ss s) t v) = none ∨ ins L1 (bk 60 (ptE (plc ss s) t v)) = none ∨ ins L2 (bk 3600 (ptE (plc ss s) t v)) = none) ∨ (200 < n0.length ∧ 900 < L0.length) ∨ (200 < n1.length ∧ 900 < L1.length) ∨ (200 < n2.length ∧ 900 < L2.length))))

/-- What a base knows, once a point was added. -/
structure AddYes (ss : List ByteArray) (s : ByteArray) (t v f : Int) (n0 : List Nd) (r0 : Int) (n1 : List Nd) (r1 : Int) (n2 : List Nd) (r2 : Int) (m0 : List Nd) (q0 : Int) (m1 : List Nd) (q1 : Int) (m2 : List Nd) (q2 : Int) (L0 L1 L2 M0 M1 M2 : List En) : Prop where
  was : baseB ss f n0 r0 n1 r1 n2 r2 = true
  pt : ptC s t v f = 0
  few : (withS ss s).length ≤ 16
  lst : BaseL ss f n0 r0 n1 r1 n2 r2 L0 L1 L2
  i0 : ins L0 (ptE (plc ss s) t v) = some M0
  i1 : ins L1 (bk 60 (ptE (plc ss s) t v)) = some M1
  i2 : ins L2 (bk 3600 (ptE (plc ss s) t v)) = some M2
  a0 : allP m0 q0 0 1099511627776 = (0, M0)
  a1 : allP m1 q1 0 1099511627776 = (0, M1)
  a2 : allP m2 q2 0 1099511627776 = (0, M2)

theorem AddYes.base {ss : List ByteArray} {s : ByteArray} {t v f : Int} {n0 n1 n2 m0 m1 m2 : List Nd} {r0 r1 r2 q0 q1 q2 : Int} {L0 L1 L2 M0 M1 M2 : List En} (h : AddYes ss s t v f n0 r0 n1 r1 n2 r2 m0 q0 m1 q1 m2 q2 L0 L1 L2 M0 M1 M2) :
    baseB (withS ss s) f m0 q0 m1 q1 m2 q2 = true ∧ bookP m0 q0 (withS ss s).length f = some M0 := by
  obtain ⟨h1, h2, h3, h4⟩ := pt_facts h.pt
  exact add_base h.was h.lst h1 h.few h2 h3 h4 h.i0 h.i1 h.i2 h.a0 h.a1 h.a2

/-- A base in memory of its own. -/
structure OwnB (B : Nat) (w : World) (A : Option Addr) (C : Nat) (ss : List ByteArray) (t0 t1 t2 : TR) : Prop where
  sr : w.ownsRow B 9 1 (.slice A ss.length C) ss.length (strs ss)
  se : ∀ s ∈ ss, s.size ≤ 140737488351232
  sn : ss.length ≤ 17
  n0 : ∃ g, t0.A = some ⟨g, 0, none⟩ ∧ NT B w g t0.C t0.ps
  n1 : ∃ g, t1.A = some ⟨g, 0, none⟩ ∧ NT B w g t1.C t1.ps
  n2 : ∃ g, t2.A = some ⟨g, 0, none⟩ ∧ NT B w g t2.C t2.ps

theorem OwnB.keep {B B' : Nat} {w w' : World} {A : Option Addr} {C : Nat} {ss : List ByteArray} {t0 t1 t2 : TR} (h : OwnB B w A C ss t0 t1 t2) (hb : B' ≤ B) (hk : ∀ k, B ≤ k → k < w.heap.size → w'.heap[k]? = w.heap[k]?) : OwnB B' w' A C ss t0 t1 t2 := by
  obtain ⟨g0, e0, k0⟩ := h.n0
  obtain ⟨g1, e1, k1⟩ := h.n1
  obtain ⟨g2, e2, k2⟩ := h.n2
  exact ⟨own_mono (own_of_block h.sr fun k hk' => hk k (h.sr.lt k hk').1 (h.sr.lt k hk').2) hb, h.se, h.sn, ⟨g0, e0, (k0.of_blocks fun k hk' => hk k (k0.lt k hk').1 (k0.lt k hk').2).low hb⟩, ⟨g1, e1, (k1.of_blocks fun k hk' => hk k (k1.lt k hk').1 (k1.lt k hk').2).low hb⟩, ⟨g2, e2, (k2.of_blocks fun k hk' => hk k (k2.lt k hk').1 (k2.lt k hk').2).low hb⟩⟩

/-- What Add answers. -/
def AddTo (ss : List ByteArray) (s : ByteArray) (t v f : Int) (n0 : List Nd) (r0 : Int) (n1 : List Nd) (r1 : Int) (n2 : List Nd) (r2 : Int) (w : World) (e : Ending) (w' : World) : Prop :=
  Below w.heap.size w w' ∧ ((∃ c, c ≠ 0 ∧ AddNo ss s t v f n0 r0 n1 r1 n2 r2 c ∧ e = .returned (noBase c)) ∨
    ∃ (A' : Option Addr) (C' : Nat) (t0 t1 t2 : TR) (L0 L1 L2 M0 M1 M2 : List En), AddYes ss s t v f n0 r0 n1 r1 n2 r2 (t0.ps.map PN.nd) t0.r (t1.ps.map PN.nd) t1.r (t2.ps.map PN.nd) t2.r L0 L1 L2 M0 M1 M2 ∧ e = .returned (.tuple #[.agg (baseV A' C' (withS ss s) t0 t1 t2 f).toArray, .int .i64 0]) ∧
      (A' = none → C' = 0) ∧ (withS ss s).length ≤ C' ∧ StrsAt w'.heap.size w' A' (withS ss s) ∧ t0.ok w' ∧ t1.ok w' ∧ t2.ok w' ∧ OwnB w.heap.size w' A' C' (withS ss s) t0 t1 t2)

theorem knows_allP {ns : List Nd} {root : Int} {l : List En} (h : allP ns root 0 1099511627776 = (0, l)) : Knows ns root l := by
  obtain ⟨h1, h2⟩ := allP_zero h
  rw [allR_all h1] at h2
  exact Knows.mk' h1 h2

theorem put_con {A : Option Addr} {C : Nat} {root key : Int} {r : Ru} {ps : List PN} {L : List En} {x : En} {W : World} (hN : NodesAt W.heap.size W A ps) (hwf : ∀ p ∈ ps, p.wf) (ha : allP (ps.map PN.nd) root 0 1099511627776 = (0, L)) (hg : Good r) (hk : 0 ≤ key ∧ key ≤ 1099511627775) (hx : x = mkE key r) :
    Calls Tryz.prog 51 #[.agg #[.slice A ps.length C, .int .i64 root], .int .i64 key, .agg #[.int .i64 r.c, .int .i64 r.s, .int .i64 r.lo, .int .i64 r.hi, .int .i64 r.t, .int .i64 r.l]] W (PutC (fun c => c = 1 ∧ (ins L x = none ∨ (200 < (ps.map PN.nd).length ∧ 900 < L.length))) (fun m q => ∃ M, ins L x = some M ∧ allP m q 0 1099511627776 = (0, M)) W) := by
  subst hx
  refine (put_any A C root key r ps W hN hwf).mono ?_
  intro e w' h
  have hcode := put_code (key := key) ha hg hk
  rcases h with ⟨h0, rfl, hb⟩ | ⟨h0, hc, hP⟩
  · rcases hcode with ⟨h1, _⟩ | ⟨h1, h2⟩
    · exact absurd h1 h0
    · rw [h1]
      exact ⟨none, 0, 0, 0, 1, rfl, hb, .inl ⟨by decide, rfl, .inl h2⟩⟩
  · obtain ⟨ns2, root2, hok, hb, ⟨h2, rfl⟩ | ⟨h2, g, C', qs, rfl, hNT, hm⟩⟩ := hP.res
    · refine ⟨none, 0, 0, 0, 1, rfl, hb, .inl ⟨by decide, rfl, .inr ⟨by have := hok.few; omega, ?_⟩⟩⟩
      rcases hcode with ⟨_, ys, h3⟩ | ⟨h1, _⟩
      · have h4 := (knows_allP ha).put_few hok h3
        have h5 := (ins_good (x := mkE key r) hg (knows_allP ha).good h3).2
        omega
      · omega
    · rcases hcode with ⟨_, ys, h3⟩ | ⟨h1, _⟩
      · refine ⟨some ⟨g, 0, none⟩, qs.length, C', root2, 0, rfl, hb, .inr ⟨rfl, g, qs, rfl, rfl, hNT, ys, h3, ?_⟩⟩
        rw [hm]
        exact put_allP ha h0 hok h2 h3
      · omega

theorem root_wf {ns : List Nd} {root : Int} (h : treeC ns root = 0) : (Lit.int .i64 root).wf = true := by
  have hz := (tree_each h).1
  have : 0 ≤ root ∧ root ≤ 2000 := by
    rcases treeC_sub h with ⟨ht, P, hs, hp⟩ | ⟨_, rfl⟩
    · have := Sub_self hs
      omega
    · omega
  exact WalkArith.wf_i64 (by omega)

theorem badd_any (A : Option Addr) (C : Nat) (ss : List ByteArray) (t0 t1 t2 : TR) (f : Int) (s : ByteArray) (t v : Int) (w : World) (hZ : SzAt w) (hC : ss.length ≤ C) (hS : StrsAt w.heap.size w A ss) (hs : s.size ≤ 140737488351232) (h0 : t0.ok w) (h1 : t1.ok w) (h2 : t2.ok w) :
    Calls Tryz.prog 22 #[.agg (baseV A C ss t0 t1 t2 f).toArray, .agg #[.string s, .int .i64 t, .int .i64 v]] w (AddTo ss s t v f (t0.ps.map PN.nd) t0.r (t1.ps.map PN.nd) t1.r (t2.ps.map PN.nd) t2.r w) := by
  have okup : ∀ (t : TR) (w' : World), Below w.heap.size w w' → t.ok w → t.ok w' := fun t w' hb ht => ⟨ht.1.up hb, ht.2.1, ht.2.2⟩
  have ck := fun (bb : Bool) (hbb : Hid (baseB ss f (t0.ps.map PN.nd) t0.r (t1.ps.map PN.nd) t1.r (t2.ps.map PN.nd) t2.r = bb)) W (hW : Below w.heap.size w W) => bcheck_any A C ss t0 t1 t2 f W (hZ.below hW) hC (hS.up hW) (okup t0 W hW h0) (okup t1 W hW h1) (okup t2 W hW h2) bb hbb
  have pf := fun W => pointFor_any A C ss t0 t1 t2 f s t v W
  cases hB : baseB ss f (t0.ps.map PN.nd) t0.r (t1.ps.map PN.nd) t1.r (t2.ps.map PN.nd) t2.r with
  | false =>
    refine (add_b1 _ _ _ _ _ _ _ _ _ rfl s t v 7 (by decide) w (fun W hW => ?_)).mono ?_
    · have k := ck false hB W hW
      simp only [Bool.false_eq_true, if_false] at k
      exact k
    · rintro e w' ⟨rfl, hb⟩
      exact ⟨hb, .inl ⟨7, by decide, .inl ⟨hB, rfl⟩, rfl⟩⟩
  | true =>
    have ck0 : ∀ W, Below w.heap.size w W → Calls Tryz.prog 19 #[.agg (baseV A C ss t0 t1 t2 f).toArray] W fun e w' => e = .returned (.int .i64 0) ∧ Below W.heap.size W w' := fun W hW => by
      have k := ck true hB W hW
      simp only [if_true] at k
      exact k
    by_cases hp : ptC s t v f = 0
    · obtain ⟨L0, L1, L2, hL⟩ := baseL hB
      obtain ⟨hn, ht, hv, hf⟩ := pt_facts hp
      have hr : ptR s t v f = one t v := by unfold ptR; rw [if_pos hp]
      obtain ⟨e1, e2, e3⟩ := plc_with ss s
      have hfew := hL.few
      have hlen : (withS ss s).length ≤ ss.length + 1 := by
        unfold withS
        split <;> simp
      have hpl : 0 ≤ plc ss s ∧ plc ss s < 17 := by omega
      have hg := one_good ht hv
      have hes : ∀ x ∈ withS ss s, x.size ≤ 140737488351232 := by
        intro x hx
        unfold withS at hx
        split at hx
        · rcases List.mem_append.1 hx with hx | hx
          · exact hS.each x hx
          · obtain rfl : x = s := by simpa using hx
            exact hs
        · exact hS.each x hx
      have kb : ∀ sz : Int, (sz = 1 ∨ sz = 60 ∨ sz = 3600) → (0 ≤ t - t % sz ∧ t - t % sz < 1048576) ∧ 0 ≤ plc ss s * 1048576 + (t - t % sz) ∧ plc ss s * 1048576 + (t - t % sz) ≤ 1099511627775 := by
        intro sz hsz
        rcases hsz with rfl | rfl | rfl <;> omega
      have x0 : ptE (plc ss s) t v = mkE (plc ss s * 1048576 + (t - t % 1)) (one t v) := by
        have e : t - t % 1 = t := by omega
        rw [e]
        rfl
      have x1 : bk 60 (ptE (plc ss s) t v) = mkE (plc ss s * 1048576 + (t - t % 60)) (one t v) := pt_bk ht
      have x2 : bk 3600 (ptE (plc ss s) t v) = mkE (plc ss s * 1048576 + (t - t % 3600)) (one t v) := pt_bk ht
      refine (add_core A t0.A t1.A t2.A C t0.C t1.C t2.C ss (withS ss s) t0.ps t1.ps t2.ps t0.r t1.r t2.r f s t v (one t v) w _ _ _ _ _ _ (plc ss s) (t - t % 1) (t - t % 60) (t - t % 3600) (plc ss s * 1048576 + (t - t % 1)) (plc ss s * 1048576 + (t - t % 60)) (plc ss s * 1048576 + (t - t % 3600)) (by omega) hes ck0 (fun W => ?_) (fun W hW => namesWith_any A C ss s W (hS.up hW) hs hfew) (fun VA VC W h => ?_) (fun W hW => sizes_any W (hZ.below hW))
        (fun W => bbegin_any t 1 W (by omega) (.inl rfl)) (fun W => bbegin_any t 60 W (by omega) (.inr (.inl rfl))) (fun W => bbegin_any t 3600 W (by omega) (.inr (.inr rfl)))
        (fun W => keyOf_any _ _ W (by omega) (kb 1 (.inl rfl)).1) (fun W => keyOf_any _ _ W (by omega) (kb 60 (.inr (.inl rfl))).1) (fun W => keyOf_any _ _ W (by omega) (kb 3600 (.inr (.inr rfl))).1)
        (fun W hW => put_con (L := L0) (h0.1.up hW) h0.2.1 hL.a0 hg (kb 1 (.inl rfl)).2 x0) (fun W hW => put_con (L := L1) (h1.1.up hW) h1.2.1 hL.a1 hg (kb 60 (.inr (.inl rfl))).2 x1) (fun W hW => put_con (L := L2) (h2.1.up hW) h2.2.1 hL.a2 hg (kb 3600 (.inr (.inr rfl))).2 x2)).mono ?_
      · have k := pf W
        rw [hp, hr] at k
        exact k
      · have k := index_any VA VC (withS ss s) s W h
        rw [e1] at k
        exact k
      · intro e w' h
        obtain ⟨hb, h⟩ := h
        refine ⟨hb, ?_⟩
        rcases h with ⟨h16, rfl⟩ | ⟨h16, c, hc0, hbad, rfl⟩ | ⟨h16, VA, VC, g0, D0, g1, D1, g2, D2, q0, q1, q2, s0, s1, s2, rfl, hown, N0, N1, N2, ⟨M0, i0, a0⟩, ⟨M1, i1, a1⟩, M2, i2, a2⟩
        · exact .inl ⟨1, by decide, .inr (.inr ⟨hB, hp, rfl, .inl h16⟩), rfl⟩
        · have hc1 : c = 1 := by
            rcases hbad with h | h | h <;> exact h.1
          refine .inl ⟨c, hc0, .inr (.inr ⟨hB, hp, hc1, .inr ⟨h16, fun K0 K1 K2 hK => ?_⟩⟩), rfl⟩
          obtain rfl : K0 = L0 := by have := hK.a0.symm.trans hL.a0; exact (Prod.mk.inj this).2
          obtain rfl : K1 = L1 := by have := hK.a1.symm.trans hL.a1; exact (Prod.mk.inj this).2
          obtain rfl : K2 = L2 := by have := hK.a2.symm.trans hL.a2; exact (Prod.mk.inj this).2
          rcases hbad with ⟨_, h | h⟩ | ⟨_, h | h⟩ | ⟨_, h | h⟩
          · exact .inl (.inl h)
          · exact .inr (.inl h)
          · exact .inl (.inr (.inl h))
          · exact .inr (.inr (.inl h))
          · exact .inl (.inr (.inr h))
          · exact .inr (.inr (.inr h))
        · have k0 := (allP_zero a0).1
          have k1 := (allP_zero a1).1
          have k2 := (allP_zero a2).1
          obtain ⟨_, _, e9, hA9, hl9, _, hrow9⟩ := own_row hown
          cases e9
          exact .inr ⟨VA, VC, ⟨some ⟨g0, 0, none⟩, D0, q0, s0⟩, ⟨some ⟨g1, 0, none⟩, D1, q1, s1⟩, ⟨some ⟨g2, 0, none⟩, D2, q2, s2⟩, L0, L1, L2, M0, M1, M2, ⟨hB, hp, h16, hL, i0, i1, i2, a0, a1, a2⟩, rfl, hA9, hl9, ⟨hrow9, by omega, hes⟩, ⟨N0.nodes, treeC_wf k0, root_wf k0⟩, ⟨N1.nodes, treeC_wf k1, root_wf k1⟩, ⟨N2.nodes, treeC_wf k2, root_wf k2⟩, hown, hes, by omega, ⟨g0, rfl, N0⟩, ⟨g1, rfl, N1⟩, ⟨g2, rfl, N2⟩⟩
    · refine (add_b2 _ _ _ _ _ _ _ _ _ rfl s t v _ _ hp w ck0 pf).mono ?_
      rintro e w' ⟨rfl, hb⟩
      exact ⟨hb, .inl ⟨_, hp, .inr (.inl ⟨hB, hp, rfl⟩), rfl⟩⟩

end Go.Proofs.YtlojfgdpmaigmaeGreatDoor

/- Points that a base knows: in plain terms. -/
namespace Go.Proofs.YtlojfgdpmaigmaeGreatDoor
open Go.RowKit Plain

structure Pt where
  s : ByteArray
  t : Int
  v : Int
deriving Inhabited

/-- A point's entry, at the place of its series. -/
def ptIn (ss : List ByteArray) (p : Pt) : En := ptE (Lib.idxOfS ss p.s) p.t p.v

/-- A point that may be, not older than the Floor. -/
structure Pt.ok (f : Int) (p : Pt) : Prop where
  t0 : 0 ≤ p.t
  t1 : p.t ≤ 1048575
  v0 : -1000000 ≤ p.v
  v1 : p.v ≤ 1000000
  f0 : f ≤ p.t

theorem sumC_bk (size : Int) : ∀ l : List En, sumC (l.map (bk size)) = sumC l
  | [] => rfl
  | y :: r => by
    simp only [List.map_cons, sumC, sumC_bk size r]
    rfl

theorem sumC_pts (ss : List ByteArray) : ∀ l : List Pt, sumC (l.map (ptIn ss)) = l.length
  | [] => rfl
  | p :: r => by
    simp only [List.map_cons, sumC, sumC_pts ss r, List.length_cons]
    show (1 : Int) + _ = _
    omega

/-- A base that may be, and the points that it knows of. -/
structure KnowsB (ss : List ByteArray) (f : Int) (n0 : List Nd) (r0 : Int) (n1 : List Nd) (r1 : Int) (n2 : List Nd) (r2 : Int) (pts : List Pt) (L0 L1 L2 : List En) : Prop where
  ok : baseB ss f n0 r0 n1 r1 n2 r2 = true
  lst : BaseL ss f n0 r0 n1 r1 n2 r2 L0 L1 L2
  all : allL (pts.map (ptIn ss)) = some L0
  pt : ∀ p ∈ pts, p.s ∈ ss ∧ p.ok f

section
variable {ss : List ByteArray} {f : Int} {n0 n1 n2 m0 m1 m2 : List Nd} {r0 r1 r2 q0 q1 q2 : Int} {pts : List Pt} {L0 L1 L2 : List En}

theorem KnowsB.good (h : KnowsB ss f n0 r0 n1 r1 n2 r2 pts L0 L1 L2) : (∀ y ∈ L0, Good y.ru) ∧ (∀ y ∈ L1, Good y.ru) ∧ ∀ y ∈ L2, Good y.ru := by
  have f0 := allP_facts (ns := n0) (r := r0) (low := 0) (high := 1099511627776)
  have f1 := allP_facts (ns := n1) (r := r1) (low := 0) (high := 1099511627776)
  have f2 := allP_facts (ns := n2) (r := r2) (low := 0) (high := 1099511627776)
  rw [h.lst.a0] at f0
  rw [h.lst.a1] at f1
  rw [h.lst.a2] at f2
  exact ⟨f0.2.1, f1.2.1, f2.2.1⟩

theorem KnowsB.sum (h : KnowsB ss f n0 r0 n1 r1 n2 r2 pts L0 L1 L2) : sumC L0 = pts.length ∧ sumC L1 = pts.length ∧ sumC L2 = pts.length := by
  have h0 := (all_sum h.all).trans (sumC_pts ss pts)
  exact ⟨h0, ((all_sum h.lst.p1).trans (sumC_bk 60 L0)).trans h0, ((all_sum h.lst.p2).trans (sumC_bk 3600 L0)).trans h0⟩

theorem KnowsB.few (h : KnowsB ss f n0 r0 n1 r1 n2 r2 pts L0 L1 L2) : L0.length ≤ pts.length ∧ L1.length ≤ pts.length ∧ L2.length ≤ pts.length := by
  obtain ⟨g0, g1, g2⟩ := h.good
  obtain ⟨s0, s1, s2⟩ := h.sum
  have := sumC_len (pos_good g0)
  have := sumC_len (pos_good g1)
  have := sumC_len (pos_good g2)
  omega

theorem ins_few {L : List En} {x : En} (hg : ∀ y ∈ L, Good y.ru) (hx : x.c = 1) (hs : sumC L ≤ 1000000) : ins L x ≠ none := fun h => by
  have h1 := ins_none (pos_good hg) h
  have h2 := cntK_sum (k := x.key) (pos_good hg)
  omega

/-- To a base of few points a point is added that may be. -/
theorem KnowsB.add_ok (h : KnowsB ss f n0 r0 n1 r1 n2 r2 pts L0 L1 L2) {s : ByteArray} {t v c : Int} (hp : ptC s t v f = 0) (hl : (withS ss s).length ≤ 16) (hn : pts.length ≤ 900) : ¬ AddNo ss s t v f n0 r0 n1 r1 n2 r2 c := by
  obtain ⟨g0, g1, g2⟩ := h.good
  obtain ⟨s0, s1, s2⟩ := h.sum
  obtain ⟨l0, l1, l2⟩ := h.few
  rintro (⟨h1, _⟩ | ⟨_, h1, _⟩ | ⟨_, _, _, h1⟩)
  · rw [h.ok] at h1; cases h1
  · exact h1 hp
  · rcases h1 with h1 | ⟨_, h1⟩
    · omega
    · rcases h1 L0 L1 L2 h.lst with (h1 | h1 | h1) | h1 | h1 | h1
      · exact ins_few g0 rfl (by omega) h1
      · exact ins_few g1 rfl (by omega) h1
      · exact ins_few g2 rfl (by omega) h1
      · omega
      · omega
      · omega

theorem idx_app {ss : List ByteArray} {q s : ByteArray} (h : q ∈ ss) : Lib.idxOfS (ss ++ [s]) q = Lib.idxOfS ss q := by
  obtain ⟨k, hk, e, hd⟩ := idx_at h
  obtain ⟨k', h1, h2, h3⟩ := first_at (ss := ss) k hd
  have e1 := Lib.idxOfS_hit ss ss.length k' q (by omega) (Nat.le_refl _) h2 h3
  rw [List.take_length] at e1
  have gd : ∀ j, j < ss.length → (ss ++ [s]).getD j ByteArray.empty = ss.getD j ByteArray.empty := fun j hj => by
    rw [getD_of_lt (by simp; omega), List.getElem_append_left hj, getD_of_lt hj]
  have e2 := Lib.idxOfS_hit (ss ++ [s]) (ss ++ [s]).length k' q (by simp; omega) (Nat.le_refl _) (by rw [gd k' (by omega)]; exact h2) (fun j hj => by rw [gd j (by omega)]; exact h3 j hj)
  rw [List.take_length] at e2
  rw [e1, e2]

theorem idx_with {ss : List ByteArray} {q s : ByteArray} (h : q ∈ ss) : Lib.idxOfS (withS ss s) q = Lib.idxOfS ss q := by
  unfold withS
  split
  · exact idx_app h
  · rfl

theorem mem_with {ss : List ByteArray} {q s : ByteArray} (h : q ∈ ss) : q ∈ withS ss s := by
  unfold withS
  split
  · exact List.mem_append_left _ h
  · exact h

theorem with_mem (ss : List ByteArray) (s : ByteArray) : s ∈ withS ss s := by
  unfold withS
  split
  · simp
  · rename_i h
    exact Classical.byContradiction fun c => h (idx_neg.2 c)

theorem KnowsB.add (h : KnowsB ss f n0 r0 n1 r1 n2 r2 pts L0 L1 L2) {s : ByteArray} {t v : Int} {K0 K1 K2 M0 M1 M2 : List En} (hy : AddYes ss s t v f n0 r0 n1 r1 n2 r2 m0 q0 m1 q1 m2 q2 K0 K1 K2 M0 M1 M2) : KnowsB (withS ss s) f m0 q0 m1 q1 m2 q2 (pts ++ [⟨s, t, v⟩]) M0 M1 M2 := by
  obtain ⟨hb, -⟩ := hy.base
  obtain ⟨J0, J1, J2, hJ⟩ := baseL hb
  obtain rfl : J0 = M0 := (Prod.mk.inj (hJ.a0.symm.trans hy.a0)).2
  obtain rfl : J1 = M1 := (Prod.mk.inj (hJ.a1.symm.trans hy.a1)).2
  obtain rfl : J2 = M2 := (Prod.mk.inj (hJ.a2.symm.trans hy.a2)).2
  obtain rfl : K0 = L0 := (Prod.mk.inj (hy.lst.a0.symm.trans h.lst.a0)).2
  obtain ⟨_, h2, h3, h4⟩ := pt_facts hy.pt
  refine ⟨hb, hJ, ?_, fun p hp => ?_⟩
  · have e : pts.map (ptIn (withS ss s)) = pts.map (ptIn ss) := List.map_congr_left fun p hp => by
      unfold ptIn
      rw [idx_with (h.pt p hp).1]
    rw [List.map_append, e, List.map_singleton, allL_snoc, h.all]
    have e2 : ptIn (withS ss s) ⟨s, t, v⟩ = ptE (plc ss s) t v := by
      unfold ptIn
      rw [(plc_with ss s).1]
    rw [e2]
    exact hy.i0
  · rcases List.mem_append.1 hp with hp | hp
    · exact ⟨mem_with (h.pt p hp).1, (h.pt p hp).2⟩
    · obtain rfl : p = ⟨s, t, v⟩ := by simpa using hp
      exact ⟨with_mem ss s, ⟨h2.1, h2.2, h3.1, h3.2, h4⟩⟩

/-! ### Of a series, within times -/

def inPt (x : ByteArray) (a b : Int) (p : Pt) : Bool := decide (p.s = x) && (decide (a ≤ p.t) && decide (p.t ≤ b))
def ofPts (x : ByteArray) (a b : Int) (l : List Pt) : List Pt := l.filter (inPt x a b)
def ruP (p : Pt) : Ru := one p.t p.v
def sumR (l : List Pt) : Ru := l.foldl (fun o p => (mrg o (ruP p)).1) zro

theorem sel_pt {p : Pt} {x : ByteArray} {i a b : Int} (hm : p.s ∈ ss) (hx : Lib.idxOfS ss x = i) (_ : 0 ≤ i) (hp : p.ok f) : selK i a b (ptIn ss p) = inPt x a b p := by
  have h0 := hp.t0
  have h1 := hp.t1
  obtain ⟨k, hk, ek, hd⟩ := idx_at hm
  have k1 : (ptIn ss p).key / 1048576 = k := by
    show (Lib.idxOfS ss p.s * 1048576 + p.t) / 1048576 = k
    rw [ek]; omega
  have k2 : (ptIn ss p).key % 1048576 = p.t := by
    show (Lib.idxOfS ss p.s * 1048576 + p.t) % 1048576 = p.t
    rw [ek]; omega
  unfold selK keyB inPt
  rw [k1, k2]
  congr 1
  refine decide_eq_decide.2 ⟨fun e => ?_, fun e => ?_⟩
  · have hxm : x ∈ ss := by
      rw [← Lib.idxOfS_nonneg_iff]
      omega
    obtain ⟨j, hj, ej, hdj⟩ := idx_at hxm
    have : j = k := by omega
    rw [← hd, ← hdj, this]
  · rw [← hx, ← e, ek]

theorem KnowsB.sel (h : KnowsB ss f n0 r0 n1 r1 n2 r2 pts L0 L1 L2) {x : ByteArray} {i a b : Int} (hx : Lib.idxOfS ss x = i) (hi : 0 ≤ i) : allL ((ofPts x a b pts).map (ptIn ss)) = some (L0.filter (selK i a b)) := by
  have h1 := allL_filter (P := keyB i a b) (pts.map (ptIn ss)) [] L0 (by simp) h.all
  have e : ((pts.map (ptIn ss)).filter fun z => keyB i a b z.key) = (ofPts x a b pts).map (ptIn ss) := by
    rw [List.filter_map]
    congr 1
    exact List.filter_congr fun p hp => sel_pt (h.pt p hp).1 hx hi (h.pt p hp).2
  rw [e] at h1
  exact h1

theorem ptIn_good {p : Pt} (hp : p.ok f) : Good (ptIn ss p).ru := one_good ⟨hp.t0, hp.t1⟩ ⟨hp.v0, hp.v1⟩

theorem fold_mrg : ∀ (l : List Pt) (o : Ru), (o = zro ∨ Good o) → (∀ p ∈ l, ∃ f, Pt.ok f p) → o.c + l.length ≤ 1073741824 → ∀ (ss : List ByteArray), (l.map (ptIn ss)).foldl stepK (o, 0) = (l.foldl (fun o p => (mrg o (ruP p)).1) o, 0) ∧ (l.foldl (fun o p => (mrg o (ruP p)).1) o).c = o.c + l.length ∧ ((l.foldl (fun o p => (mrg o (ruP p)).1) o) = zro ∨ Good (l.foldl (fun o p => (mrg o (ruP p)).1) o))
  | [], o, ho, _, _, _ => ⟨rfl, by simp, ho⟩
  | p :: l, o, ho, hp, hc, ss => by
    obtain ⟨f, hf⟩ := hp p List.mem_cons_self
    have hg : Good (ruP p) := one_good ⟨hf.t0, hf.t1⟩ ⟨hf.v0, hf.v1⟩
    have c1 : (ruP p).c = 1 := rfl
    have hl : ((p :: l).length : Int) = l.length + 1 := by simp
    rw [hl] at hc ⊢
    have hm : (mrg o (ruP p)).2 = 0 ∧ (mrg o (ruP p)).1.c = o.c + 1 ∧ Good (mrg o (ruP p)).1 := by
      rcases ho with rfl | ho
      · rw [mrg_zro hg]
        exact ⟨rfl, by rw [c1]; rfl, hg⟩
      · rw [mrg_good ho hg, if_pos (by rw [c1]; omega)]
        exact ⟨rfl, rfl, good_jn ho hg (by rw [c1]; omega)⟩
    obtain ⟨h1, h2, h3⟩ := fold_mrg l (mrg o (ruP p)).1 (.inr hm.2.2) (fun q hq => hp q (List.mem_cons_of_mem _ hq)) (by omega) ss
    simp only [List.map_cons, List.foldl_cons]
    have e : stepK (o, 0) (ptIn ss p) = ((mrg o (ruP p)).1, 0) := by
      unfold stepK
      rw [if_pos rfl]
      exact Prod.ext rfl hm.1
    rw [e]
    exact ⟨h1, by rw [h2, hm.2.1]; omega, h3⟩

/-- What points come to. -/
theorem tot_pts {l : List Pt} (ss : List ByteArray) (hp : ∀ p ∈ l, ∃ f, Pt.ok f p) (hc : (l.length : Int) ≤ 1073741824) : tot (l.map (ptIn ss)) = (sumR l, 0) ∧ (sumR l).c = l.length := by
  have k := fold_mrg l zro (.inl rfl) hp (by show (0 : Int) + _ ≤ _; omega) ss
  exact ⟨k.1, k.2.1.trans (by show (0 : Int) + _ = _; omega)⟩

/-- A total is what the points come to. -/
theorem KnowsB.total (h : KnowsB ss f n0 r0 n1 r1 n2 r2 pts L0 L1 L2) {x : ByteArray} {i a b : Int} (hx : Lib.idxOfS ss x = i) (hi : 0 ≤ i) (hn : pts.length ≤ 100000) : tot (L0.filter (selB i a b)) = (sumR (ofPts x a b pts), 0) := by
  have hsub : ∀ p ∈ ofPts x a b pts, p ∈ pts := fun p hp => (List.mem_filter.1 hp).1
  have hl : (ofPts x a b pts).length ≤ pts.length := List.length_filter_le _ _
  have h1 := h.sel (a := a) (b := b) hx hi
  have hg1 : ∀ y ∈ (ofPts x a b pts).map (ptIn ss), Good y.ru := fun y hy => by
    obtain ⟨p, hp, rfl⟩ := List.mem_map.1 hy
    exact ptIn_good (h.pt p (hsub p hp)).2
  have h2 := z_all hg1 h1
  rw [← (tot_pts ss (fun p hp => ⟨f, (h.pt p (hsub p hp)).2⟩) (by omega)).1]
  exact (tot_eq hg1 (fun y hy => h.good.1 y (List.mem_filter.1 hy).1) h2).symm
end

end Go.Proofs.YtlojfgdpmaigmaeGreatDoor

/- TreeTells of package winnowerkeep: it is so. -/
namespace Go.Proofs.YtlojfgdpmaigmaeGreatDoor
open Go.RowKit Plain Go.Shelf

theorem new_allP : allP ([zleaf].map PN.nd) 0 0 1099511627776 = (0, []) := by
  have h : treeC ([zleaf].map PN.nd) 0 = 0 := by decide
  exact allP_of h (by rw [allR_all h]; rfl)

theorem new_base : baseB [] 0 ([zleaf].map PN.nd) 0 ([zleaf].map PN.nd) 0 ([zleaf].map PN.nd) 0 = true := by
  have hb : bookP ([zleaf].map PN.nd) 0 0 0 = some [] := by
    unfold bookP
    rw [new_allP]
    rfl
  have hs : ∀ sz, stepB sz [] ([zleaf].map PN.nd) 0 = true := fun sz => by
    unfold stepB
    rw [new_allP]
    rfl
  have ht : treesB 0 0 ([zleaf].map PN.nd) 0 ([zleaf].map PN.nd) 0 ([zleaf].map PN.nd) 0 = true := by
    unfold treesB
    rw [hb]
    simp only [hs]
    rfl
  unfold baseB
  have e : ((([] : List ByteArray).length : Nat) : Int) = 0 := rfl
  rw [e, ht]
  decide

theorem new_L {L0 L1 L2 : List En} (h : BaseL [] 0 ([zleaf].map PN.nd) 0 ([zleaf].map PN.nd) 0 ([zleaf].map PN.nd) 0 L0 L1 L2) : L0 = [] ∧ L1 = [] ∧ L2 = [] :=
  ⟨(Prod.mk.inj (h.a0.symm.trans new_allP)).2, (Prod.mk.inj (h.a1.symm.trans new_allP)).2, (Prod.mk.inj (h.a2.symm.trans new_allP)).2⟩

end Go.Proofs.YtlojfgdpmaigmaeGreatDoor

/- A base in memory, and the points that it knows: what the calls make of it. -/
namespace Go.Proofs.YtlojfgdpmaigmaeGreatDoor
open Go.RowKit Plain Go.Shelf

structure BaseAt (w : World) (A : Option Addr) (C : Nat) (ss : List ByteArray) (t0 t1 t2 : TR) : Prop where
  nn : A = none → C = 0
  len : ss.length ≤ C
  st : StrsAt w.heap.size w A ss
  o0 : t0.ok w
  o1 : t1.ok w
  o2 : t2.ok w

/-- The points that a base knows. -/
def KB (ss : List ByteArray) (f : Int) (t0 t1 t2 : TR) (pts : List Pt) : Prop := ∃ L0 L1 L2, KnowsB ss f (t0.ps.map PN.nd) t0.r (t1.ps.map PN.nd) t1.r (t2.ps.map PN.nd) t2.r pts L0 L1 L2

section
variable {B C : Nat} {A : Option Addr} {ss : List ByteArray} {t0 t1 t2 : TR} {f : Int} {pts : List Pt} {w w' : World}

theorem BaseAt.up (h : BaseAt w A C ss t0 t1 t2) (hb : Below w.heap.size w w') : BaseAt w' A C ss t0 t1 t2 :=
  ⟨h.nn, h.len, h.st.up hb, ⟨h.o0.1.up hb, h.o0.2⟩, ⟨h.o1.1.up hb, h.o1.2⟩, ⟨h.o2.1.up hb, h.o2.2⟩⟩

theorem OwnB.at (h : OwnB B w A C ss t0 t1 t2) (k : KB ss f t0 t1 t2 pts) : BaseAt w A C ss t0 t1 t2 := by
  obtain ⟨L0, L1, L2, k⟩ := k
  obtain ⟨A', C', e, hn, hl, _, hr⟩ := own_row h.sr
  cases e
  obtain ⟨g0, e0, n0⟩ := h.n0
  obtain ⟨g1, e1, n1⟩ := h.n1
  obtain ⟨g2, e2, n2⟩ := h.n2
  have k0 := (allP_zero k.lst.a0).1
  have k1 := (allP_zero k.lst.a1).1
  have k2 := (allP_zero k.lst.a2).1
  have hs := h.sn
  exact ⟨hn, hl, ⟨hr, by omega, h.se⟩, ⟨by rw [e0]; exact n0.nodes, treeC_wf k0, root_wf k0⟩, ⟨by rw [e1]; exact n1.nodes, treeC_wf k1, root_wf k1⟩, ⟨by rw [e2]; exact n2.nodes, treeC_wf k2, root_wf k2⟩⟩

theorem OwnB.next (h : OwnB B w A C ss t0 t1 t2) (hb : Below w.heap.size w w') : OwnB B w' A C ss t0 t1 t2 :=
  h.keep (Nat.le_refl _) fun k _ hk => hb.block k hk

theorem OwnB.set8 (h : OwnB B w A C ss t0 t1 t2) {b : Nat} (hb : b < B) (x0 x1 x2 x3 x4 x5 x6 x7 : Value) : OwnB B (set8 w b x0 x1 x2 x3 x4 x5 x6 x7) A C ss t0 t1 t2 :=
  h.keep (Nat.le_refl _) fun k hk _ => set8_far _ _ _ _ _ _ _ _ _ _ k (by omega)

/-- What Add answers, where the point may be and there is room. -/
def AddKn (ss : List ByteArray) (f : Int) (pts : List Pt) (w : World) (e : Ending) (w' : World) : Prop :=
  ∃ (A : Option Addr) (C : Nat) (t0 t1 t2 : TR), e = .returned (.tuple #[.agg (baseV A C ss t0 t1 t2 f).toArray, .int .i64 0]) ∧ OwnB w.heap.size w' A C ss t0 t1 t2 ∧ KB ss f t0 t1 t2 pts ∧ Below w.heap.size w w'

theorem badd_kn (hZ : SzAt w) (hB : BaseAt w A C ss t0 t1 t2) (hK : KB ss f t0 t1 t2 pts) {s : ByteArray} {t v : Int} (hs : s.size ≤ 140737488351232) (hp : ptC s t v f = 0) (hl : (withS ss s).length ≤ 16) (hn : pts.length ≤ 900) :
    Calls Tryz.prog 22 #[.agg (baseV A C ss t0 t1 t2 f).toArray, .agg #[.string s, .int .i64 t, .int .i64 v]] w (AddKn (withS ss s) f (pts ++ [⟨s, t, v⟩]) w) := by
  obtain ⟨L0, L1, L2, k⟩ := hK
  refine (badd_any A C ss t0 t1 t2 f s t v w hZ hB.len hB.st hs hB.o0 hB.o1 hB.o2).mono ?_
  rintro e w' ⟨hb, h⟩
  rcases h with ⟨c, _, hno, _⟩ | ⟨A', C', u0, u1, u2, K0, K1, K2, M0, M1, M2, hy, rfl, _, _, _, _, _, _, ho⟩
  · exact absurd hno (k.add_ok hp hl hn)
  · exact ⟨A', C', u0, u1, u2, rfl, ho, ⟨M0, M1, M2, k.add hy⟩, hb⟩

/-- What is refused of a point, whatever is known. -/
theorem badd_pt (hZ : SzAt w) (hB : BaseAt w A C ss t0 t1 t2) (hK : KB ss f t0 t1 t2 pts) {s : ByteArray} {t v c : Int} (hs : s.size ≤ 140737488351232) (hp : ptC s t v f = c) (hc : c ≠ 0) :
    Calls Tryz.prog 22 #[.agg (baseV A C ss t0 t1 t2 f).toArray, .agg #[.string s, .int .i64 t, .int .i64 v]] w fun e w' => e = .returned (noBase c) ∧ Below w.heap.size w w' := by
  obtain ⟨L0, L1, L2, k⟩ := hK
  refine (badd_any A C ss t0 t1 t2 f s t v w hZ hB.len hB.st hs hB.o0 hB.o1 hB.o2).mono ?_
  rintro e w' ⟨hb, h⟩
  rcases h with ⟨d, _, hno, rfl⟩ | ⟨A', C', u0, u1, u2, K0, K1, K2, M0, M1, M2, hy, _⟩
  · rcases hno with ⟨h1, _⟩ | ⟨_, _, h1⟩ | ⟨_, h1, _⟩
    · rw [k.ok] at h1; cases h1
    · rw [h1, hp]
      exact ⟨rfl, hb⟩
    · omega
  · exact absurd (hy.pt.symm.trans hp).symm hc

theorem bcheck_kn (hZ : SzAt w) (hB : BaseAt w A C ss t0 t1 t2) (hK : KB ss f t0 t1 t2 pts) :
    Calls Tryz.prog 19 #[.agg (baseV A C ss t0 t1 t2 f).toArray] w fun e w' => e = .returned (.int .i64 0) ∧ Below w.heap.size w w' := by
  obtain ⟨L0, L1, L2, k⟩ := hK
  exact bcheck_any A C ss t0 t1 t2 f w hZ hB.len hB.st hB.o0 hB.o1 hB.o2 true k.ok

theorem idx_lt : ∀ (zs : List ByteArray) (x : ByteArray) (i : Nat), Lib.idxFromS zs x i < i + zs.length ∨ Lib.idxFromS zs x i = -1
  | [], _, _ => .inr rfl
  | z :: zs, x, i => by
    by_cases hz : z = x
    · left
      simp only [Lib.idxFromS, hz, if_true, List.length_cons]
      omega
    · simp only [Lib.idxFromS, hz, if_false, List.length_cons]
      rcases idx_lt zs x (i + 1) with h | h
      · left; omega
      · exact .inr h

theorem idx_16 {x : ByteArray} {p : Int} (hx : Lib.idxOfS ss x = p) (hf : ss.length ≤ 16) : p < 16 := by
  have k := idx_lt ss x 0
  have e : Lib.idxFromS ss x 0 = p := hx
  rw [e] at k
  omega

theorem total_kn (hZ : SzAt w) (hB : BaseAt w A C ss t0 t1 t2) (hK : KB ss f t0 t1 t2 pts) {x : ByteArray} {a b : Int} (hx : 0 ≤ Lib.idxOfS ss x) (hsp : spanB a b = true) (hn : pts.length ≤ 100000) :
    Calls Tryz.prog 16 #[.agg (baseV A C ss t0 t1 t2 f).toArray, .string x, .int .i64 a, .int .i64 b] w (MaTo (sumR (ofPts x a b pts), 0) w) := by
  obtain ⟨L0, L1, L2, k⟩ := hK
  have c := total_ok A C ss t0 t1 t2 f x a b _ L0 L1 L2 w hZ hB.len hB.st hB.o0 hB.o1 hB.o2 k.ok k.lst rfl hx (idx_16 rfl k.lst.few) hsp
  rw [k.total rfl hx hn] at c
  exact c

end

theorem kb_new : KnowsB [] 0 ([zleaf].map PN.nd) 0 ([zleaf].map PN.nd) 0 ([zleaf].map PN.nd) 0 [] [] [] [] := by
  obtain ⟨L0, L1, L2, hL⟩ := baseL new_base
  obtain ⟨rfl, rfl, rfl⟩ := new_L hL
  exact ⟨new_base, hL, rfl, fun p hp => by simp at hp⟩

/-- What New answers. -/
theorem bnew_kn (w : World) : Calls Tryz.prog 21 #[] w fun e w' => ∃ t0 t1 t2, e = .returned (.agg (baseV none 0 [] t0 t1 t2 0).toArray) ∧ OwnB w.heap.size w' none 0 [] t0 t1 t2 ∧ KB [] 0 t0 t1 t2 [] ∧ Below w.heap.size w w' := by
  refine (bnew_own w).mono ?_
  rintro e w' ⟨g0, g1, g2, rfl, n0, n1, n2, hb⟩
  exact ⟨⟨some ⟨g0, 0, none⟩, 1, [zleaf], 0⟩, ⟨some ⟨g1, 0, none⟩, 1, [zleaf], 0⟩, ⟨some ⟨g2, 0, none⟩, 1, [zleaf], 0⟩, rfl, ⟨World.ownsRow_nil _ _ _ _, by simp, by simp, ⟨g0, rfl, n0⟩, ⟨g1, rfl, n1⟩, ⟨g2, rfl, n2⟩⟩, ⟨[], [], [], kb_new⟩, hb⟩

end Go.Proofs.YtlojfgdpmaigmaeGreatDoor

/- Points of raw things: package winnowerkeep. -/
namespace Go.Proofs.YtlojfgdpmaigmaeGreatDoor
open Go.RowKit Plain Go.Shelf

/-- The name of a series. -/
def nmS (i : Int) : ByteArray := if i = 0 then ⟨#[99, 112, 117]⟩ else if i = 1 then ⟨#[109, 101, 109]⟩ else if i = 2 then ⟨#[110, 101, 116, 46, 105, 110]⟩ else ⟨#[57]⟩

theorem nmS_size (i : Int) : (nmS i).size ≤ 6 := by
  unfold nmS
  split
  · decide
  · split
    · decide
    · split <;> decide

theorem nmS_name (i : Int) : nameB (nmS i) = true := by
  unfold nmS
  split
  · decide
  · split
    · decide
    · split <;> decide

set_option maxHeartbeats 400000 in
theorem kname_any (n : Int) (w : World) (hn : i64B n) : Calls Tryz.prog 14 #[.int .i64 n] w fun e w' => e = .returned (.string (nmS (pick n 4))) ∧ Below w.heap.size w w' := by
  have hb := pick_bd n (show (0 : Int) < 4 by decide)
  have con := hideC fun W => picked_any n 4 W hn.1 hn.2 (by decide) (by decide)
  rcases (show pick n 4 = 0 ∨ pick n 4 = 1 ∨ pick n 4 = 2 ∨ pick n 4 = 3 by omega) with h | h | h | h <;> rw [h] at con ⊢ <;>
  · go_enter Tryz.func14, Tryz.ntmps14
    go_wp2_with (go_at_call 15; refine (con.out _).mono ?_; rintro e w1 ⟨rfl, hw1⟩; subst w1)
    go_ret
    exact ⟨rfl, (Below.refl _ _).alloc (Nat.le_refl _) _⟩

def Pt.vals (p : Pt) : List Value := [.string p.s, .int .i64 p.t, .int .i64 p.v]
def flatP : List Pt → List Value
  | [] => []
  | x :: r => x.vals ++ flatP r

theorem flatP_length : ∀ xs : List Pt, (flatP xs).length = xs.length * 3
  | [] => rfl
  | x :: r => by simp [flatP, Pt.vals, flatP_length r]; omega

theorem flatP_append : ∀ xs ys : List Pt, flatP (xs ++ ys) = flatP xs ++ flatP ys
  | [], _ => rfl
  | x :: r, ys => by simp [flatP, flatP_append r ys]

theorem flatP_one (xs : List Pt) : ∀ u ∈ flatP xs, u.oneCell' = true := by
  induction xs with
  | nil => simp [flatP]
  | cons x r ih =>
    intro u hu
    simp only [flatP, Pt.vals, List.cons_append, List.nil_append, List.mem_cons] at hu
    rcases hu with h | h | h | h
    all_goals first | (subst h; rfl) | exact ih u h

theorem flatP_get (xs : List Pt) (k j : Nat) (hk : k < xs.length) (hj : j < 3) : (flatP xs)[k * 3 + j]? = (xs[k]).vals[j]? := by
  induction xs generalizing k with
  | nil => simp at hk
  | cons x r ih =>
    cases k with
    | zero => simp only [flatP]; rw [List.getElem?_append_left (by simp [Pt.vals]; omega)]; simp
    | succ k =>
      simp only [flatP]
      rw [List.getElem?_append_right (by simp [Pt.vals]; omega)]
      have := ih k (by simpa using hk)
      simp only [Pt.vals, List.length_cons, List.length_nil] at *
      rw [show (k + 1) * 3 + j - (0 + 1 + 1 + 1) = k * 3 + j by omega]
      simpa using this

structure PtAt (w : World) (b o : Nat) (x : Pt) : Prop where
  c0 : w.cell? ⟨b, o, none⟩ = some (.string x.s)
  c1 : w.cell? ⟨b, o + 1, none⟩ = some (.int .i64 x.t)
  c2 : w.cell? ⟨b, o + 2, none⟩ = some (.int .i64 x.v)

theorem RowAt.pt3 {B : Nat} {w : World} {A : Option Addr} {xs : List Pt} (h : RowAt B w A (flatP xs)) {k : Nat} (hk : k < xs.length) :
    ∃ b o, A = some ⟨b, o, none⟩ ∧ b < B ∧ PtAt w b (o + k * 3) xs[k] := by
  rcases h with h | ⟨b, o, hA, hlt, hc⟩
  · have := flatP_length xs; rw [h] at this; simp at this; omega
  · refine ⟨b, o, hA, hlt, ?_⟩
    have g : ∀ j, j < 3 → ∀ u, (xs[k]).vals[j]? = some u → w.cell? ⟨b, o + k * 3 + j, none⟩ = some u := fun j hj u hu => by
      have := hc (k * 3 + j) u (by rw [flatP_get xs k j hk hj]; exact hu)
      rwa [← Nat.add_assoc] at this
    exact ⟨g 0 (by decide) _ rfl, g 1 (by decide) _ rfl, g 2 (by decide) _ rfl⟩

/-- The point of a raw thing. -/
def rawPt (x : Rw) : Pt := ⟨nmS (pick x.k 4), pick x.a 12000, pick x.b 2000 - 1000⟩

theorem rawPt_ok (x : Rw) : (rawPt x).ok 0 := by
  have h1 := pick_bd x.a (show (0 : Int) < 12000 by decide)
  have h2 := pick_bd x.b (show (0 : Int) < 2000 by decide)
  exact ⟨h1.1, by show pick x.a 12000 ≤ _; omega, by show -1000000 ≤ pick x.b 2000 - 1000; omega, by show pick x.b 2000 - 1000 ≤ _; omega, h1.1⟩

set_option maxRecDepth 20000 in
set_option maxHeartbeats 1000000 in
theorem kpoint_any (k a b c : Int) (w : World) (hk : i64B k) (ha : i64B a) (hb : i64B b) : Calls Tryz.prog 31 #[.agg #[.int .i64 k, .int .i64 a, .int .i64 b, .int .i64 c]] w fun e w' => e = .returned (.agg #[.string (nmS (pick k 4)), .int .i64 (pick a 12000), .int .i64 (pick b 2000 - 1000)]) ∧ Below w.heap.size w w' := by
  have q2 := pick_bd b (show (0 : Int) < 2000 by decide)
  have b2 : ∀ o1 o2 : Obj, Below w.heap.size w ((w.alloc o1).alloc o2) := fun o1 o2 => ((Below.refl _ _).alloc (Nat.le_refl _) _).alloc (by simp) _
  have c1 := hideC fun W => kname_any k W hk
  have c2 := hideC fun W => picked_any a 12000 W ha.1 ha.2 (by decide) (by decide)
  have c3 := hideC fun W => picked_any b 2000 W hb.1 hb.2 (by decide) (by decide)
  obtain ⟨s, hs⟩ : ∃ s, nmS (pick k 4) = s := ⟨_, rfl⟩
  obtain ⟨t, ht⟩ : ∃ t, pick a 12000 = t := ⟨_, rfl⟩
  obtain ⟨u, hu⟩ : ∃ u, pick b 2000 = u := ⟨_, rfl⟩
  rw [hs] at c1 ⊢
  rw [ht] at c2 ⊢
  rw [hu] at c3 q2 ⊢
  clear hs ht hu
  have k1 : IntKind.i64.wrap (u - 1000) = u - 1000 := by rw [IntKind.wrap_i64]; omega
  go_enter Tryz.func31, Tryz.ntmps31
  go_wp2_with fail
  go_region_held3 (fun w' => w'.cell? ⟨w.heap.size, 0, none⟩ = some (.int .i64 k) ∧ w'.cell? ⟨w.heap.size, 1, none⟩ = some (.int .i64 a) ∧ w'.cell? ⟨w.heap.size, 2, none⟩ = some (.int .i64 b)) (go_keep)
    (first
      | (go_at_call 14; refine (c1.out _).mono ?_; rintro e w1 ⟨rfl, hb1⟩; have T1 := (bcells (hb1.mono (show w.heap.size + 1 ≤ _ by simp))).1; have D1 := (bcells (hb1.mono (show w.heap.size + 1 + 1 ≤ _ by simp))).1; have F1 := (bcells (hb1.mono (show w.heap.size + 1 + 1 ≤ _ by simp))).2; have HB := hideC hb1)
      | (go_at_call_of 15 a; refine (c2.out _).mono ?_; rintro e w2 ⟨rfl, hw2⟩; subst w2)
      | (go_at_call_of 15 b; refine (c3.out _).mono ?_; rintro e w3 ⟨rfl, hw3⟩; subst w3))
  all_goals
    go_wp2
    have D2 := fun o => D1 (w.heap.size + 1) o (by omega)
    refine bodyPost_ret (v := .agg #[.string s, .int .i64 t, .int .i64 (u - 1000)]) (by simp [results, Tryz.results31, go_sem, D2]) rfl ⟨rfl, ?_⟩
    have hb := nextB ((b2 _ _).drew) (Nat.le_refl _) HB.out
    exact set1_below (set1_below (set1_below hb (by omega) _ _) (by omega) _ _) (by omega) _ _

end Go.Proofs.YtlojfgdpmaigmaeGreatDoor

/- Base of package winnowerkeep: what it makes of raw things. -/
namespace Go.Proofs.YtlojfgdpmaigmaeGreatDoor
open Go.RowKit Plain Go.Shelf

/-- Names that raw things have. -/
def Few4 (ss : List ByteArray) : Prop := ∀ s ∈ ss, ∃ i, s = nmS i

theorem names_nodup {ss : List ByteArray} (h : namesB ss = true) : ss.Nodup := by
  unfold namesB at h
  rw [List.all_eq_true] at h
  refine List.pairwise_iff_getElem.2 fun i j hi hj hij e => ?_
  have k := h j (by simpa using hj)
  unfold okN at k
  rw [getD_of_lt hj, Bool.and_eq_true] at k
  have k2 := k.2
  rw [Bool.not_eq_true'] at k2
  have : Lib.containsS (ss.take j) ss[j] = true := (Lib.containsS_iff _ _).2 (List.mem_take_iff_getElem.2 ⟨i, by omega, e⟩)
  rw [this] at k2
  cases k2

theorem nmS_mem (i : Int) : nmS i ∈ [nmS 0, nmS 1, nmS 2, nmS 3] := by
  by_cases h0 : i = 0
  · subst h0; simp
  · by_cases h1 : i = 1
    · subst h1; simp
    · by_cases h2 : i = 2
      · subst h2; simp
      · have e : nmS i = nmS 3 := by
          unfold nmS
          rw [if_neg h0, if_neg h1, if_neg h2]
          rfl
        rw [e]; simp

theorem few4_len {ss : List ByteArray} (h : namesB ss = true) (hf : Few4 ss) : ss.length ≤ 4 := by
  have := nodup_le ss [nmS 0, nmS 1, nmS 2, nmS 3] (names_nodup h) (fun s hs => by
    obtain ⟨i, rfl⟩ := hf s hs
    exact nmS_mem i)
  simpa using this

theorem few4_with {ss : List ByteArray} (h : Few4 ss) (i : Int) : Few4 (withS ss (nmS i)) := by
  unfold withS
  split
  · intro s hs
    rcases List.mem_append.1 hs with hs | hs
    · exact h s hs
    · exact ⟨i, by simpa using hs⟩
  · exact h

theorem KB.names {ss : List ByteArray} {f : Int} {t0 t1 t2 : TR} {pts : List Pt} (h : KB ss f t0 t1 t2 pts) : namesB ss = true := by
  obtain ⟨L0, L1, L2, k⟩ := h
  have := k.ok
  unfold baseB at this
  simp only [Bool.and_eq_true] at this
  exact this.2.2.2.1

theorem KB.with_len {ss : List ByteArray} {f : Int} {t0 t1 t2 : TR} {pts : List Pt} (h : KB ss f t0 t1 t2 pts) (h4 : Few4 ss) (i : Int) : (withS ss (nmS i)).length ≤ 16 := by
  have := few4_len (names_with h.names (nmS_name i)) (few4_with h4 i)
  omega

theorem rawPt_c (x : Rw) : ptC (rawPt x).s (rawPt x).t (rawPt x).v 0 = 0 := by
  have h := rawPt_ok x
  unfold ptC
  rw [if_pos (show nameB (rawPt x).s = true from nmS_name _), if_pos, if_neg (by have := h.t0; omega)]
  unfold ofOk
  have h0 := h.t0
  have h1 := h.t1
  have h2 := h.v0
  have h3 := h.v1
  simp only [Bool.and_eq_true]
  exact ⟨(inB_iff _ _ _).2 ⟨h0, h1⟩, (inB_iff _ _ _).2 ⟨h2, h3⟩⟩

/-- Where the base lies: not in the box bb. -/
def KbOwn (B bb : Nat) (wr : World) (A : Option Addr) (C : Nat) (ss : List ByteArray) (t0 t1 t2 : TR) : Prop :=
  (∃ B', bb < B' ∧ OwnB B' wr A C ss t0 t1 t2) ∨ ∃ w0 : World, OwnB B w0 A C ss t0 t1 t2 ∧ w0.heap.size ≤ bb ∧ Below w0.heap.size w0 wr

structure KbA (w wr : World) (bb : Nat) (A : Option Addr) (C : Nat) (ss : List ByteArray) (t0 t1 t2 : TR) (pts : List Pt) : Prop where
  below : Below w.heap.size w wr
  res : RowL wr w.heap.size 28 zb8
  bx : RowL wr bb 28 (baseV A C ss t0 t1 t2 0)
  own : KbOwn (w.heap.size + 1) bb wr A C ss t0 t1 t2
  kb : KB ss 0 t0 t1 t2 pts
  lo : w.heap.size < bb
  few : Few4 ss

section
variable {w wr w' : World} {bb : Nat} {A : Option Addr} {C : Nat} {ss : List ByteArray} {t0 t1 t2 : TR} {pts : List Pt}

theorem KbOwn.any {B : Nat} (h : KbOwn B bb wr A C ss t0 t1 t2) (hB : B ≤ bb + 1) : OwnB B wr A C ss t0 t1 t2 := by
  rcases h with ⟨B', h1, h2⟩ | ⟨w0, h1, h2, h3⟩
  · exact h2.keep (by omega) fun _ _ _ => rfl
  · exact h1.next h3

theorem KbOwn.next {B : Nat} (h : KbOwn B bb wr A C ss t0 t1 t2) (hb : Below wr.heap.size wr w') : KbOwn B bb w' A C ss t0 t1 t2 := by
  rcases h with ⟨B', h1, h2⟩ | ⟨w0, h1, h2, h3⟩
  · exact .inl ⟨B', h1, h2.next hb⟩
  · exact .inr ⟨w0, h1, h2, nextB h3 (Nat.le_refl _) hb⟩

theorem KbA.next (h : KbA w wr bb A C ss t0 t1 t2 pts) (hb : Below wr.heap.size wr w') : KbA w w' bb A C ss t0 t1 t2 pts :=
  ⟨nextB h.below (Nat.le_refl _) hb, h.res.below hb h.res.lt, h.bx.below hb h.bx.lt, h.own.next hb, h.kb, h.lo, h.few⟩

theorem KbA.at (h : KbA w wr bb A C ss t0 t1 t2 pts) : BaseAt wr A C ss t0 t1 t2 := (h.own.any (by have := h.lo; omega)).at h.kb

/-- Another base is laid into the box. -/
theorem KbA.turn (h : KbA w wr bb A C ss t0 t1 t2 pts) {A' : Option Addr} {C' : Nat} {ss' : List ByteArray} {u0 u1 u2 : TR} {pts' : List Pt} {B' : Nat} {w5 : World} (hb : Below wr.heap.size wr w5) (hB : bb < B') (ho : OwnB B' w5 A' C' ss' u0 u1 u2) (hk : KB ss' 0 u0 u1 u2 pts') (hf : Few4 ss') :
    KbA w (set8 w5 bb (.slice A' ss'.length C') (.slice u0.A u0.ps.length u0.C) (.int .i64 u0.r) (.slice u1.A u1.ps.length u1.C) (.int .i64 u1.r) (.slice u2.A u2.ps.length u2.C) (.int .i64 u2.r) (.int .i64 0)) bb A' C' ss' u0 u1 u2 pts' := by
  have hl := h.lo
  have hn := h.next hb
  refine ⟨set8_below hn.below (by omega) _ _ _ _ _ _ _ _, hn.res.of_block (set8_far _ _ _ _ _ _ _ _ _ _ _ (by omega)), ?_, .inl ⟨B', hB, ho.set8 hB _ _ _ _ _ _ _ _⟩, hk, hl, hf⟩
  have := (((((((hn.bx.set 0 (.slice A' ss'.length C')).set 1 (.slice u0.A u0.ps.length u0.C)).set 2 (.int .i64 u0.r)).set 3 (.slice u1.A u1.ps.length u1.C)).set 4 (.int .i64 u1.r)).set 5 (.slice u2.A u2.ps.length u2.C)).set 6 (.int .i64 u2.r)).set 7 (.int .i64 0)
  exact this

theorem KbA.fin (h : KbA w wr bb A C ss t0 t1 t2 pts) (x0 x1 x2 x3 x4 x5 x6 x7 : Value) : OwnB (w.heap.size + 1) (set8 wr w.heap.size x0 x1 x2 x3 x4 x5 x6 x7) A C ss t0 t1 t2 ∧ Below w.heap.size w (set8 wr w.heap.size x0 x1 x2 x3 x4 x5 x6 x7) :=
  ⟨(h.own.any (by have := h.lo; omega)).set8 (by omega) _ _ _ _ _ _ _ _, set8_below h.below (Nat.le_refl _) _ _ _ _ _ _ _ _⟩
end

/-- Another base is laid into the box, behind what was laid of it. -/
theorem kba_laid {w w5 wd : World} {bb B' : Nat} {A A' : Option Addr} {C C' : Nat} {ss ss' : List ByteArray} {t0 t1 t2 u0 u1 u2 : TR} {pts pts' : List Pt} (h : KbA w w5 bb A C ss t0 t1 t2 pts) (hB : bb < B') (ho : OwnB B' w5 A' C' ss' u0 u1 u2) (hk : KB ss' 0 u0 u1 u2 pts') (hf : Few4 ss')
    (hwd : wd = set8 w5 bb (.slice A' ss'.length C') (.slice u0.A u0.ps.length u0.C) (.int .i64 u0.r) (.slice u1.A u1.ps.length u1.C) (.int .i64 u1.r) (.slice u2.A u2.ps.length u2.C) (.int .i64 u2.r) (.int .i64 0)) :
    KbA w wd bb A' C' ss' u0 u1 u2 pts' ∧ OwnB B' wd A' C' ss' u0 u1 u2 ∧ (∀ j, j < w5.heap.size → j ≠ bb → wd.heap[j]? = w5.heap[j]?) ∧ w5.heap.size = wd.heap.size := by
  subst hwd
  exact ⟨h.turn (Below.refl _ _) hB ho hk hf, ho.set8 hB _ _ _ _ _ _ _ _, fun j _ h2 => set8_far _ _ _ _ _ _ _ _ _ _ _ h2, by simp [set8]⟩

/-- The row of points grew, the base stays. -/
theorem KbA.grown {w wd w7 : World} {bb B' : Nat} {A : Option Addr} {C : Nat} {ss : List ByteArray} {t0 t1 t2 : TR} {pts : List Pt} {v : Value} (h : KbA w wd bb A C ss t0 t1 t2 pts) (hB : bb < B') (ho : OwnB B' wd A C ss t0 t1 t2) (hg : wd.grownBy w7 v.ownBlock) (hv : ∀ q, v.ownBlock = some q → bb + 1 ≤ q ∧ q < B') : KbA w w7 bb A C ss t0 t1 t2 pts := by
  have hl := h.lo
  have hs := h.below.size
  have hk : ∀ k, k < wd.heap.size → (k ≤ bb ∨ B' ≤ k) → w7.heap[k]? = wd.heap[k]? := fun k h1 h2 => hg.block k h1 (fun e => by have := hv k e.symm; omega)
  exact ⟨⟨hg.os.trans h.below.os, hg.tape.trans h.below.tape, hg.output.trans h.below.output, Nat.le_trans hs hg.size, fun k hk' => (hk k (by omega) (by omega)).trans (h.below.block k hk')⟩, h.res.of_block (hk _ h.res.lt (by omega)), h.bx.of_block (hk _ h.bx.lt (by omega)), .inl ⟨B', hB, ho.keep (Nat.le_refl _) fun k h1 h2 => hk k h2 (.inr h1)⟩, h.kb, hl, h.few⟩

theorem kba_start {w w2 : World} {t0 t1 t2 : TR} (hb : Below (w.alloc (.cells zb8.toArray 28)).heap.size (w.alloc (.cells zb8.toArray 28)) w2) (ho : OwnB (w.heap.size + 1) w2 none 0 [] t0 t1 t2) (hk : KB [] 0 t0 t1 t2 []) :
    KbA w (w2.alloc (.cells (baseV none 0 [] t0 t1 t2 0).toArray 28)) w2.heap.size none 0 [] t0 t1 t2 [] := by
  have hs : w.heap.size + 1 ≤ w2.heap.size := Nat.le_trans (by simp) hb.size
  have b1 : Below w2.heap.size w2 (w2.alloc (.cells (baseV none 0 [] t0 t1 t2 0).toArray 28)) := (Below.refl _ _).alloc (Nat.le_refl _) _
  exact ⟨nextB (nextB ((Below.refl _ _).alloc (Nat.le_refl _) _) (Nat.le_refl _) hb) (Nat.le_refl _) b1, ((rowL_alloc w _ _).below hb (by simp)).below b1 (by omega), rowL_alloc w2 _ _, .inr ⟨w2, ho, Nat.le_refl _, b1⟩, hk, by omega, fun s hs => by simp at hs⟩

theorem infoPt : (Tryz.prog.info? 61).map (fun i => (i.zero, i.size, i.bytes)) = some (some (.agg #[.string ByteArray.empty, .int .i64 0, .int .i64 0]), 3, 32) := by kernel_rfl

theorem newsP {w : World} {vb : Nat} {t : TypeId} {x : Pt} (hv : RowL w vb t x.vals) : ∀ j u, (flatP [x])[j]? = some u → w.cell? (Addr.add ⟨vb, 0, none⟩ j) = some u := by
  intro j u hu
  rw [WideShapes.add_plain, Nat.zero_add, hv.cell]
  simpa [flatP] using hu

theorem newsP2 (w : World) (o : Obj) (x : Pt) : ∀ j u, (flatP [x])[j]? = some u → ((w.alloc o).alloc (.cells x.vals.toArray 61)).cell? (Addr.add ⟨w.heap.size + 1, 0, none⟩ j) = some u := by
  have h := rowL_alloc (w.alloc o) x.vals 61
  have e : (w.alloc o).heap.size = w.heap.size + 1 := by simp
  rw [e] at h
  exact newsP h

theorem alloc2_below (w : World) (o o' : Obj) : Below w.heap.size w ((w.alloc o).alloc o') := ((Below.refl _ _).alloc (Nat.le_refl _) _).alloc (by simp) _

/-- What Base answers. -/
def KbTo (pts : List Pt) (w : World) (e : Ending) (w' : World) : Prop :=
  ∃ (A PA : Option Addr) (C PC : Nat) (ss : List ByteArray) (t0 t1 t2 : TR), e = .returned (.tuple #[.agg (baseV A C ss t0 t1 t2 0).toArray, .slice PA pts.length PC]) ∧ OwnB (w.heap.size + 1) w' A C ss t0 t1 t2 ∧ KB ss 0 t0 t1 t2 pts ∧ Few4 ss ∧ RowAt w'.heap.size w' PA (flatP pts) ∧ Below w.heap.size w w'

set_option maxRecDepth 20000 in
set_option maxHeartbeats 4000000 in
theorem kbase_any (PA : Option Addr) (PC : Nat) (xs : List Rw) (most : Int) (w : World) (hZ : SzAt w) (hA : RowAt w.heap.size w PA (flatR xs)) (hwf : ∀ x ∈ xs, x.wf) (hm1 : 0 ≤ most) (hm2 : most ≤ 200) :
    Calls Tryz.prog 13 #[.slice PA xs.length PC, .int .i64 most] w (KbTo ((xs.take most.toNat).map rawPt) w) := by
  obtain ⟨i0, hi0, hz0, hz1, hz2⟩ := info_parts infoPt
  have HZ := hideC hZ
  have HA := hideC hA
  obtain ⟨PT, hPT⟩ : ∃ PT, (xs.take most.toNat).map rawPt = PT := ⟨_, rfl⟩
  rw [hPT]
  have HPT := hideC hPT
  clear hZ hA hPT
  go_enter Tryz.func13, Tryz.ntmps13
  go_wp2_with (first | (go_at_call 21; refine (bnew_kn _).mono ?_; rintro e w2 ⟨u0, u1, u2, he, ho2, hk2, hb2⟩; have HS := hideC (kba_start hb2 (by simpa using ho2) hk2); clear ho2 hk2 hb2; obtain ⟨A0, C0, p0, r0⟩ := u0; obtain ⟨A1, C1, p1, r1⟩ := u1; obtain ⟨A2, C2, p2, r2⟩ := u2; simp only [baseV] at he; subst he))
  obtain ⟨bb, hbb⟩ : ∃ bb, bb = w2.heap.size := ⟨_, rfl⟩
  rw [← hbb] at HS ⊢
  clear hbb
  go_loopw [7, 8] (fun vo vi wr => ∃ (k : Nat) (A : Option Addr) (C : Nat) (ss : List ByteArray) (t0 t1 t2 : TR), k ≤ xs.length ∧ (k : Int) ≤ most ∧ vi = .int .i64 (k : Int) ∧ KbA w wr bb A C ss t0 t1 t2 ((xs.take k).map rawPt) ∧ wr.ownsRow (bb + 1) 61 3 vo k (flatP ((xs.take k).map rawPt))) (fun _ vi _ => xs.length - (intOf vi).toNat)
  case atStart => exact ⟨0, none, 0, [], ⟨A0, C0, p0, r0⟩, ⟨A1, C1, p1, r1⟩, ⟨A2, C2, p2, r2⟩, Nat.zero_le _, hm1, rfl, HS.out, World.ownsRow_nil _ _ _ _⟩
  case round =>
    obtain ⟨k, A, C, ss, t0, t1, t2, hk, hkm, rfl, hat, hown⟩ := hrel
    clear HS
    have lt := hat.bx.lt
    have hlo := hat.lo
    have hge := hat.below.size
    obtain ⟨VA, VC, hvo, -, -, -, hvr⟩ := own_row hown
    subst hvo
    have hov := ownR_lt hown
    by_cases hlt : k < xs.length ∧ (k : Int) < most
    · obtain ⟨hlt, hl5⟩ := hlt
      obtain ⟨b, o, rfl, hbl, hrw⟩ := (HA.out.below hat.below (Nat.le_refl _)).rw4 hlt
      have hx := hwf _ (List.getElem_mem hlt)
      have htk : Hid ((xs.take (k + 1)).map rawPt = (xs.take k).map rawPt ++ [rawPt xs[k]]) := by
        show _ = _
        rw [List.take_succ_eq_append_getElem hlt, List.map_append]
        rfl
      have hlen : ((xs.take k).map rawPt).length = k := by simp; omega
      obtain ⟨pts, hpts⟩ : ∃ pts, (xs.take k).map rawPt = pts := ⟨_, rfl⟩
      rw [hpts] at htk hlen hat hown
      clear hpts
      generalize xs[k] = x at *
      have hpc := rawPt_c x
      have hw16 := hat.kb.with_len hat.few (pick x.k 4)
      have hf4 := few4_with hat.few (pick x.k 4)
      have hsz := nmS_size (pick x.k 4)
      have con1 := hideC fun W => kpoint_any x.k x.a x.b x.c W hx.1 hx.2.1 hx.2.2.1
      have htk2 : Hid ((xs.take (k + 1)).map rawPt = pts ++ [⟨nmS (pick x.k 4), pick x.a 12000, pick x.b 2000 - 1000⟩]) := htk
      obtain ⟨s, hs⟩ : ∃ s, nmS (pick x.k 4) = s := ⟨_, rfl⟩
      obtain ⟨t, ht⟩ : ∃ t, pick x.a 12000 = t := ⟨_, rfl⟩
      obtain ⟨v, hv⟩ : ∃ v, pick x.b 2000 - 1000 = v := ⟨_, rfl⟩
      simp only [rawPt] at hpc
      rw [hs, ht, hv] at con1 htk2 hpc
      rw [hs] at hw16 hf4 hsz
      obtain ⟨xk, xa, xb, xc⟩ := x
      obtain ⟨c0, c1, c2, c3⟩ := hrw
      simp only at c0 c1 c2 c3 con1
      clear hs ht hv htk hx
      have hbr : b < wr.heap.size := by omega
      have q0 : (0 : Int) ≤ (k : Int) := by omega
      have q1 : (k : Int) < (xs.length : Int) := by omega
      have con2 : Hid (∀ W, Below wr.heap.size wr W → Calls Tryz.prog 22 #[.agg (baseV A C ss t0 t1 t2 0).toArray, .agg #[.string s, .int .i64 t, .int .i64 v]] W (AddKn (withS ss s) 0 (pts ++ [⟨s, t, v⟩]) W)) := fun W hW => badd_kn (HZ.out.below (nextB hat.below (Nat.le_refl _) hW)) (hat.at.up hW) hat.kb (by omega) hpc hw16 (by omega)
      have HT := hideC hat
      have b0 := fun j => hat.bx.cell j
      have HO := hideC hown
      have HF4 := hideC hf4
      have HVR := hideC hov
      clear hat hown hf4 hpc hw16 hsz hov hvr
      obtain ⟨A0, C0, p0, r0⟩ := t0
      obtain ⟨A1, C1, p1, r1⟩ := t1
      obtain ⟨A2, C2, p2, r2⟩ := t2
      simp only [baseV] at con2 b0
      go_upto_region 9 with (first
        | (go_at_call 31; refine (con1.out _).mono ?_; rintro e w3 ⟨rfl, hb3⟩; have H3 := hideC (HT.out.next hb3); have b3 := fun j => H3.out.bx.cell j; simp only [baseV] at b3; have l3 := H3.out.bx.lt; have P3 := hideC (rowL_alloc w3 [.string s, .int .i64 t, .int .i64 v] 61); have HB3 := hideC hb3; clear hb3 b0)
        | (go_at_call 22; refine (con2.out _ (nextB HB3.out (Nat.le_refl _) ((Below.refl _ _).alloc (Nat.le_refl _) _))).mono ?_; rintro e w5 ⟨A5, C5, ⟨A50, C50, q0, s0⟩, ⟨A51, C51, q1, s1⟩, ⟨A52, C52, q2, s2⟩, he5, ho5, hk5, hb5⟩; simp only [baseV] at he5; subst he5; have H5 := hideC (H3.out.next (nextB ((Below.refl _ _).alloc (Nat.le_refl _) _) (Nat.le_refl _) hb5)); have b5 := fun j => H5.out.bx.cell j; have f5 := fun j => H5.out.bx.frozen j; simp only [baseV] at b5; have l5 := H5.out.bx.lt; have P5 := hideC (P3.out.below hb5 P3.out.lt); have O5 := hideC ho5; have K5 := hideC hk5; have HB5 := hideC hb5; clear hb5 ho5 hk5 b3))
      go_upto_region 10 with fail
      obtain ⟨wd, hwd⟩ : ∃ wd, wd = set8 w5 bb (.slice A5 (withS ss s).length C5) (.slice A50 q0.length C50) (.int .i64 s0) (.slice A51 q1.length C51) (.int .i64 s1) (.slice A52 q2.length C52) (.int .i64 s2) (.int .i64 0) := ⟨_, rfl⟩
      have z3 := HB3.out.size
      have z5 : w3.heap.size + 1 ≤ w5.heap.size := by simpa using HB5.out.size
      have KL := kba_laid (pts' := pts ++ [⟨s, t, v⟩]) H5.out (by simp; omega) O5.out K5.out HF4.out hwd
      have HD := hideC KL.1
      have hOD := hideC KL.2.1
      have hsd := KL.2.2.2
      have hblk : ∀ j, j < wr.heap.size → j ≠ bb → wd.heap[j]? = wr.heap[j]? := fun j h1 h2 =>
        (KL.2.2.1 j (by omega) h2).trans ((HB5.out.block j (by simp; omega)).trans ((Below.heap_alloc _ _ _ (by omega)).trans (HB3.out.block j h1)))
      have PD : RowL wd w3.heap.size 61 [.string s, .int .i64 t, .int .i64 v] := P5.out.of_block (KL.2.2.1 _ (by omega) (by omega))
      clear KL
      have hOwn : Hid (wd.ownsRow (bb + 1) 61 3 (.slice VA k VC) k (flatP pts)) := own_of_block HO.out fun j hj => hblk j (HVR.out j hj).2 (by have := (HVR.out j hj).1; omega)
      have hov2 : Hid (∀ q, (Value.slice VA k VC).ownBlock = some q → bb + 1 ≤ q ∧ q < (w3.alloc (.cells #[.string s, .int .i64 t, .int .i64 v] 61)).heap.size) := fun q hq => by have := HVR.out q hq; simp; omega
      simp only [set8] at hwd
      rw [← hwd]
      have p0 := PD.cell 0
      have p1 := PD.cell 1
      have p2 := PD.cell 2
      simp only [List.getElem?_cons_zero, List.getElem?_cons_succ] at p0 p1 p2
      have lp := PD.lt
      have hlenP : pts.length = k := hlen
      clear hwd hblk PD P5 O5 K5 H5 b5 f5 HB5 H3 P3 HB3 HT HO con1 con2 HA HZ c0 c1 c2 c3
      have hmx : bb + 1 ≤ wd.heap.size + 2 := by omega
      go_wp2_with (at_builtin; refine wpList_append_own _ rfl _ _ 39 rfl (bb + 1) 61 i0 _ 3 32 Tryz.underlying39 hi0 hz0 hz1 hz2 rfl (by decide) (.slice VA k VC) k (flatP pts) rfl (ownR_next hOwn.out (alloc2_below _ _ _)) ⟨wd.heap.size + 1, 0, none⟩ 1 1 (flatP [⟨s, t, v⟩]) rfl (flatP_length _) (newsP2 wd _ ⟨s, t, v⟩) (flatP_one _) (by unfold maxLen; omega) (by omega) (by simp; omega) ?_; intro v7 w7 hown7 hgrow7 _)
      go_roundw
      case rel =>
        go_light
        refine ⟨k + 1, A5, C5, withS ss s, ⟨A50, C50, q0, s0⟩, ⟨A51, C51, q1, s1⟩, ⟨A52, C52, q2, s2⟩, by omega, by omega, by go_num, ?_, ?_⟩
        · rw [htk2.out]
          exact (HD.out.next (alloc2_below _ _ _)).grown (by simp; omega) (hOD.out.next (alloc2_below _ _ _)) hgrow7 hov2.out
        · rw [htk2.out, flatP_append]
          exact hown7
      case measure => simp [intOf]; omega
    · have hlen : ((xs.take k).map rawPt).length = k := by simp; omega
      have htk : (xs.take most.toNat).map rawPt = (xs.take k).map rawPt := by
        by_cases h1 : k < xs.length
        · rw [show most.toNat = k by omega]
        · rw [List.take_of_length_le (by omega), List.take_of_length_le (by omega)]
      have HT := hideC hat
      have HK := hideC (HPT.out.symm.trans htk)
      have HL := hideC hlen
      have HO := hideC hown
      have HV := hideC hov
      have b0 := fun j => hat.bx.cell j
      have r0 := fun j => hat.res.cell j
      have rf := fun j => hat.res.frozen j
      clear hat htk hlen hvr hown hov
      obtain ⟨A0, C0, p0, r0'⟩ := t0
      obtain ⟨A1, C1, p1, r1'⟩ := t1
      obtain ⟨A2, C2, p2, r2'⟩ := t2
      simp only [baseV, zb8] at b0 r0
      have FIN : Hid (∀ x0 x1 x2 x3 x4 x5 x6 x7, KbTo PT w (.returned (.tuple #[.agg #[.slice A ss.length C, .slice A0 p0.length C0, .int .i64 r0', .slice A1 p1.length C1, .int .i64 r1', .slice A2 p2.length C2, .int .i64 r2', .int .i64 0], .slice VA k VC])) (set8 wr w.heap.size x0 x1 x2 x3 x4 x5 x6 x7)) := fun x0 x1 x2 x3 x4 x5 x6 x7 => by
        obtain ⟨f1, f2⟩ := HT.out.fin x0 x1 x2 x3 x4 x5 x6 x7
        rw [HK.out]
        refine ⟨A, VA, C, VC, ss, ⟨A0, C0, p0, r0'⟩, ⟨A1, C1, p1, r1'⟩, ⟨A2, C2, p2, r2'⟩, by rw [HL.out]; rfl, f1, HT.out.kb, HT.out.few, ?_, f2⟩
        have ho := own_of_block HO.out (w' := set8 wr w.heap.size x0 x1 x2 x3 x4 x5 x6 x7) fun j hj => set8_far _ _ _ _ _ _ _ _ _ _ j (by have := (HV.out j hj).1; omega)
        exact (own_ok ho).1
      have lw : w.heap.size < wr.heap.size := by omega
      by_cases h1 : k < xs.length
      · have h2 : ¬ (k : Int) < most := fun h2 => hlt ⟨h1, h2⟩
        have q1 : (k : Int) < (xs.length : Int) := by omega
        clear hlt
        go_wp2_with fail
        exact bodyPost_ret (v := .tuple #[.agg #[.slice A ss.length C, .slice A0 p0.length C0, .int .i64 r0', .slice A1 p1.length C1, .int .i64 r1', .slice A2 p2.length C2, .int .i64 r2', .int .i64 0], .slice VA k VC]) (by simp [results, Tryz.results13, go_sem, r0]) rfl (FIN.out _ _ _ _ _ _ _ _)
      · have q1 : ¬ (k : Int) < (xs.length : Int) := by omega
        clear hlt
        go_wp2_with fail
        exact bodyPost_ret (v := .tuple #[.agg #[.slice A ss.length C, .slice A0 p0.length C0, .int .i64 r0', .slice A1 p1.length C1, .int .i64 r1', .slice A2 p2.length C2, .int .i64 r2', .int .i64 0], .slice VA k VC]) (by simp [results, Tryz.results13, go_sem, r0]) rfl (FIN.out _ _ _ _ _ _ _ _)

end Go.Proofs.YtlojfgdpmaigmaeGreatDoor

/- What points come to, of those of a series, within times: known of package winnowerkeep. -/
namespace Go.Proofs.YtlojfgdpmaigmaeGreatDoor
open Go.RowKit Plain Go.Shelf

theorem sumR_snoc (x : ByteArray) (a b : Int) (l : List Pt) (p : Pt) : sumR (ofPts x a b (l ++ [p])) = if inPt x a b p = true then (mrg (sumR (ofPts x a b l)) (ruP p)).1 else sumR (ofPts x a b l) := by
  unfold ofPts
  rw [List.filter_append]
  by_cases h : inPt x a b p = true
  · rw [if_pos h, List.filter_cons_of_pos h, List.filter_nil]
    unfold sumR
    rw [List.foldl_append]
    rfl
  · rw [if_neg h, List.filter_cons_of_neg h, List.filter_nil, List.append_nil]

theorem ruV_ret (r : Ru) : Value.agg #[.int .i64 r.c, .int .i64 r.s, .int .i64 r.lo, .int .i64 r.hi, .int .i64 r.t, .int .i64 r.l] = .agg (ruV r).toArray := rfl

set_option maxRecDepth 20000 in
set_option maxHeartbeats 2000000 in
theorem knownK_any (A : Option Addr) (C : Nat) (l : List Pt) (x : ByteArray) (a b : Int) (w : World) (h : RowAt w.heap.size w A (flatP l)) (hz : l.length ≤ 1000000) (hg : ∀ p ∈ l, ∃ f, Pt.ok f p) :
    Calls Tryz.prog 18 #[.slice A l.length C, .string x, .int .i64 a, .int .i64 b] w fun e w' => e = .returned (.agg (ruV (sumR (ofPts x a b l))).toArray) ∧ Below w.heap.size w w' := by
  have HS := hideB (MaA.start w)
  obtain ⟨S, hS⟩ : ∃ S, sumR (ofPts x a b l) = S := ⟨_, rfl⟩
  rw [hS]
  have HSS := hideB hS
  clear hS
  go_enter Tryz.func18, Tryz.ntmps18
  go_wp2_with fail
  go_loopw [17] (fun vi wr => ∃ (i : Nat) (r : Ru), i ≤ l.length ∧ vi = .int .i64 i ∧ Hid (sumR (ofPts x a b (l.take i)) = r) ∧ MaA w wr r) (fun vi _ => l.length - (intOf vi).toNat)
  case atStart => exact ⟨0, zro, Nat.zero_le _, rfl, (by show _ = _; rfl), HS.out⟩
  case round =>
    obtain ⟨i, r, hi, rfl, HT, hat⟩ := hrel
    have hsz := hat.below.size
    have lt1 := hat.tot.lt
    clear HS
    by_cases hlt : i < l.length
    · obtain ⟨bb, oo, rfl, hbl, c0, c1, c2⟩ := (h.below hat.below (Nat.le_refl _)).pt3 hlt
      obtain ⟨f, hgi⟩ := hg _ (List.getElem_mem hlt)
      have HN : Hid (sumR (ofPts x a b (l.take (i + 1))) = if inPt x a b l[i] = true then (mrg r (ruP l[i])).1 else r) := by
        show _ = _
        rw [List.take_succ_eq_append_getElem hlt, sumR_snoc, HT.out]
      generalize l[i] = p at c0 c1 c2 hgi HN
      obtain ⟨s, t, v⟩ := p
      simp only at c0 c1 c2
      have lb : bb < wr.heap.size := by omega
      have q0 : (0 : Int) ≤ (i : Int) := by omega
      have q1 : (i : Int) < (l.length : Int) := by omega
      have t1 := fun j => hat.tot.cell j
      simp only [ruV] at t1
      by_cases hin : inPt x a b ⟨s, t, v⟩ = true
      · rw [if_pos hin] at HN
        simp only [inPt, Bool.and_eq_true, decide_eq_true_eq] at hin
        obtain ⟨rfl, ha, hb⟩ := hin
        have OF := hideB fun W => of_yes t v W ((inB_iff _ _ _).2 ⟨hgi.t0, hgi.t1⟩) ((inB_iff _ _ _).2 ⟨hgi.v0, hgi.v1⟩)
        obtain ⟨m, hm⟩ : ∃ m, mrg r (one t v) = m := ⟨_, rfl⟩
        have con := hideB fun W => merge_any r (one t v) W
        rw [hm] at con
        simp only [one] at con
        have HM : Hid (sumR (ofPts s a b (l.take (i + 1))) = m.1) := by
          show _ = _
          rw [HN.out, ← hm]
          rfl
        have HA := hideB hat
        clear hat HN hm hgi
        go_wp2_with (first
          | (go_at_call 39; refine (OF.out _).mono ?_; rintro e w3 ⟨rfl, hb3⟩; have H3 := hideB ((HA.out.next ((Below.refl _ _).alloc (Nat.le_refl _) _)).next hb3); have t3 := fun j => H3.out.tot.cell j; simp only [ruV] at t3; have l3 := H3.out.tot.lt; clear hb3 t1)
          | (go_at_call 40; refine (con.out _).mono ?_; rintro e w5 ⟨rfl, hb5⟩; have H5 := hideB ((H3.out.next ((Below.refl _ _).alloc (Nat.le_refl _) _)).next hb5); have t5 := fun j => H5.out.tot.cell j; simp only [ruV] at t5; have f5 := fun j => H5.out.tot.frozen j; have l5 := H5.out.tot.lt; clear hb5 t3))
        go_roundw
        case rel =>
          go_light
          exact ⟨i + 1, m.1, by omega, by go_num, HM, H5.out.turn⟩
        case measure => simp [intOf]; omega
      · rw [if_neg hin] at HN
        have HA := hideB hat
        clear hat
        by_cases h1 : s = x
        · subst h1
          by_cases h2 : a ≤ t
          · have h3 : ¬ t ≤ b := fun h3 => hin (by simp [inPt, h2, h3])
            clear hin
            go_wp2_with fail
            all_goals (try (exfalso; omega))
            go_roundw
            case rel =>
              go_light
              exact ⟨i + 1, r, by omega, by go_num, HN, HA.out.next ((Below.refl _ _).alloc (Nat.le_refl _) _)⟩
            case measure => simp [intOf]; omega
          · clear hin
            go_wp2_with fail
            all_goals (try (exfalso; omega))
            go_roundw
            case rel =>
              go_light
              exact ⟨i + 1, r, by omega, by go_num, HN, HA.out.next ((Below.refl _ _).alloc (Nat.le_refl _) _)⟩
            case measure => simp [intOf]; omega
        · have h1' : ¬ s.toList = x.toList := fun e => h1 (ByteArray.ext (by simpa [ByteArray.toList_eq] using e))
          clear hin
          go_wp2_with fail
          go_roundw
          case rel =>
            go_light
            exact ⟨i + 1, r, by omega, by go_num, HN, HA.out.next ((Below.refl _ _).alloc (Nat.le_refl _) _)⟩
          case measure => simp [intOf]; omega
    · obtain rfl : i = l.length := by omega
      have hni : ¬ ((l.length : Int) < (l.length : Int)) := by omega
      have HT' : Hid (r = S) := by
        have e := HT.out
        rw [List.take_length, HSS.out] at e
        exact e.symm
      have t1 := fun j => hat.tot.cell j
      have s1 := fun j => hat.res.cell j
      have f1 := fun j => hat.res.frozen j
      simp only [ruV, zro] at t1 s1
      have HA := hideB hat
      clear hat HT
      go_wp2_with fail
      exact bodyPost_ret (v := .agg #[.int .i64 r.c, .int .i64 r.s, .int .i64 r.lo, .int .i64 r.hi, .int .i64 r.t, .int .i64 r.l]) (by simp [results, Tryz.results18, go_sem, s1]) rfl ⟨by rw [ruV_ret, HT'.out], setB6_below HA.out.below (Nat.le_refl _) r⟩

end Go.Proofs.YtlojfgdpmaigmaeGreatDoor
