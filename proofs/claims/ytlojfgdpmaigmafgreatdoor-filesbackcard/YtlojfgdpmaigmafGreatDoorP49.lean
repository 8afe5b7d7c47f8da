/- base.Add: what it answers, at any base and any point. -/
import Derived.Test.YtlojfgdpmaigmafGreatDoorP46
import Derived.Test.YtlojfgdpmaigmafGreatDoorP45
import Derived.Test.YtlojfgdpmaigmafGreatDoorP15
import Derived.Test.YtlojfgdpmaigmafGreatDoorP12
import Derived.Test.YtlojfgdpmaigmafGreatDoorP35
import Derived.Test.YtlojfgdpmaigmafGreatDoorP34
import Derived.Test.YtlojfgdpmaigmafGreatDoorP28
import Derived.Test.YtlojfgdpmaigmafGreatDoorP25
import Derived.Test.YtlojfgdpmaigmafGreatDoorP02
import Derived.Deep.RegionHeld3
import Derived.Deep.DeepCutAuto
import Derived.Test.YtlojfgdpmaigmafGreatDoorP24
namespace Go.Proofs.YtlojfgdpmaigmafGreatDoor
section
open Go.RowKit Plain Go.Shelf

def qwh (ss : List ByteArray) (s : ByteArray) (t v f : Int) (n0 : List Nd) (r0 : Int) (n1 : List Nd) (r1 : Int) (n2 : List Nd) (r2 c : Int) : Prop :=
 (q3h ss f n0 r0 n1 r1 n2 r2 = false ∧ c = 7) ∨ (q3h ss f n0 r0 n1 r1 n2 r2 = true ∧ ptC s t v f ≠ 0 ∧ c = ptC s t v f) ∨
 (q3h ss f n0 r0 n1 r1 n2 r2 = true ∧ ptC s t v f = 0 ∧ c = 1 ∧ (16 < (q1w ss s).length ∨ ((q1w ss s).length ≤ 16 ∧ ∀ L0 L1 L2, qfh ss f n0 r0 n1 r1 n2 r2 L0 L1 L2 →
   (ins L0 (ptE (plc ss s) t v) = none ∨ ins L1 (bk 60 (ptE (plc ss s) t v)) = none ∨ ins L2 (bk 3600 (ptE (plc ss s) t v)) = none) ∨ (200 < n0.length ∧ 900 < L0.length) ∨ (200 < n1.length ∧ 900 < L1.length) ∨ (200 < n2.length ∧ 900 < L2.length))))

structure qlg (ss : List ByteArray) (s : ByteArray) (t v f : Int) (n0 : List Nd) (r0 : Int) (n1 : List Nd) (r1 : Int) (n2 : List Nd) (r2 : Int) (m0 : List Nd) (q0 : Int) (m1 : List Nd) (q1 : Int) (m2 : List Nd) (q2 : Int) (L0 L1 L2 M0 M1 M2 : List En) : Prop where
 was : q3h ss f n0 r0 n1 r1 n2 r2 = true
 pt : ptC s t v f = 0
 few : (q1w ss s).length ≤ 16
 lst : qfh ss f n0 r0 n1 r1 n2 r2 L0 L1 L2
 i0 : ins L0 (ptE (plc ss s) t v) = some M0
 i1 : ins L1 (bk 60 (ptE (plc ss s) t v)) = some M1
 i2 : ins L2 (bk 3600 (ptE (plc ss s) t v)) = some M2
 a0 : allP m0 q0 0 1099511627776 = (0, M0)
 a1 : allP m1 q1 0 1099511627776 = (0, M1)
 a2 : allP m2 q2 0 1099511627776 = (0, M2)

theorem qlg.base {ss : List ByteArray} {s : ByteArray} {t v f : Int} {n0 n1 n2 m0 m1 m2 : List Nd} {r0 r1 r2 q0 q1 q2 : Int} {L0 L1 L2 M0 M1 M2 : List En} (h : qlg ss s t v f n0 r0 n1 r1 n2 r2 m0 q0 m1 q1 m2 q2 L0 L1 L2 M0 M1 M2) :
   q3h (q1w ss s) f m0 q0 m1 q1 m2 q2 = true ∧ q7z m0 q0 (q1w ss s).length f = some M0 := by
 obtain ⟨h1, h2, h3, h4⟩ := qft h.pt
 exact qs6 h.was h.lst h1 h.few h2 h3 h4 h.i0 h.i1 h.i2 h.a0 h.a1 h.a2

structure OwnB (B : Nat) (w : World) (A : Option Addr) (C : Nat) (ss : List ByteArray) (t0 t1 t2 : TR) : Prop where
 sr : w.ownsRow B 9 1 (.slice A ss.length C) ss.length (strs ss)
 se : ∀ s ∈ ss, s.size ≤ 140737488351232
 sn : ss.length ≤ 17
 n0 : ∃ g, t0.A = some ⟨g, 0, none⟩ ∧ NT B w g t0.C t0.ps
 n1 : ∃ g, t1.A = some ⟨g, 0, none⟩ ∧ NT B w g t1.C t1.ps
 n2 : ∃ g, t2.A = some ⟨g, 0, none⟩ ∧ NT B w g t2.C t2.ps

theorem OwnB.keep {B B' : Nat} {w w' : World} {A : Option Addr} {C : Nat} {ss : List ByteArray} {t0 t1 t2 : TR} (h : OwnB B w A C ss t0 t1 t2) (hb : B' ≤ B) (hk : ∀ k, B ≤ k → k < w.heap.size → w'.heap[k]? = w.heap[k]?) : OwnB B' w' A C ss t0 t1 t2 := by
 obtain ⟨g0, e0, k0⟩ := h.n0
 obtain ⟨g1, e1, k1⟩ := h.n1
 obtain ⟨g2, e2, k2⟩ := h.n2
 exact ⟨q0o (q0c h.sr fun k hk' => hk k (h.sr.lt k hk').1 (h.sr.lt k hk').2) hb, h.se, h.sn, ⟨g0, e0, (k0.of_blocks fun k hk' => hk k (k0.lt k hk').1 (k0.lt k hk').2).low hb⟩, ⟨g1, e1, (k1.of_blocks fun k hk' => hk k (k1.lt k hk').1 (k1.lt k hk').2).low hb⟩, ⟨g2, e2, (k2.of_blocks fun k hk' => hk k (k2.lt k hk').1 (k2.lt k hk').2).low hb⟩⟩

def z0d (ss : List ByteArray) (s : ByteArray) (t v f : Int) (n0 : List Nd) (r0 : Int) (n1 : List Nd) (r1 : Int) (n2 : List Nd) (r2 : Int) (w : World) (e : Ending) (w' : World) : Prop :=
 Below w.heap.size w w' ∧ ((∃ c, c ≠ 0 ∧ qwh ss s t v f n0 r0 n1 r1 n2 r2 c ∧ e = .returned (q4f c)) ∨
   ∃ (A' : Option Addr) (C' : Nat) (t0 t1 t2 : TR) (L0 L1 L2 M0 M1 M2 : List En), qlg ss s t v f n0 r0 n1 r1 n2 r2 (t0.ps.map PN.nd) t0.r (t1.ps.map PN.nd) t1.r (t2.ps.map PN.nd) t2.r L0 L1 L2 M0 M1 M2 ∧ e = .returned (.tuple #[.agg (q1k A' C' (q1w ss s) t0 t1 t2 f).toArray, .int .i64 0]) ∧
     (A' = none → C' = 0) ∧ (q1w ss s).length ≤ C' ∧ q2z w'.heap.size w' A' (q1w ss s) ∧ t0.ok w' ∧ t1.ok w' ∧ t2.ok w' ∧ OwnB w.heap.size w' A' C' (q1w ss s) t0 t1 t2)

theorem qap {ns : List Nd} {root : Int} {l : List En} (h : allP ns root 0 1099511627776 = (0, l)) : qhh ns root l := by
 obtain ⟨h1, h2⟩ := q2v h
 rw [qaa h1] at h2
 exact qhh.mk' h1 h2

theorem qfx {A : Option Addr} {C : Nat} {root key : Int} {r : Ru} {ps : List PN} {L : List En} {x : En} {W : World} (hN : q0j W.heap.size W A ps) (hwf : ∀ p ∈ ps, p.wf) (ha : allP (ps.map PN.nd) root 0 1099511627776 = (0, L)) (hg : Good r) (hk : 0 ≤ key ∧ key ≤ 1099511627775) (hx : x = mkE key r) :
   Calls Tryz.prog 46 #[.agg #[.slice A ps.length C, .int .i64 root], .int .i64 key, .agg #[.int .i64 r.c, .int .i64 r.s, .int .i64 r.lo, .int .i64 r.hi, .int .i64 r.t, .int .i64 r.l]] W (PutC (fun c => c = 1 ∧ (ins L x = none ∨ (200 < (ps.map PN.nd).length ∧ 900 < L.length))) (fun m q => ∃ M, ins L x = some M ∧ allP m q 0 1099511627776 = (0, M)) W) := by
 subst hx
 refine (qwo A C root key r ps W hN hwf).mono ?_
 intro e w' h
 have hcode := qto (key := key) ha hg hk
 rcases h with ⟨h0, rfl, hb⟩ | ⟨h0, hc, hP⟩
 · rcases hcode with ⟨h1, _⟩ | ⟨h1, h2⟩
   · exact absurd h1 h0
   · rw [h1]
     exact ⟨none, 0, 0, 0, 1, rfl, hb, .inl ⟨by decide, rfl, .inl h2⟩⟩
 · obtain ⟨ns2, root2, hok, hb, ⟨h2, rfl⟩ | ⟨h2, g, C', qs, rfl, hNT, hm⟩⟩ := hP.res
   · refine ⟨none, 0, 0, 0, 1, rfl, hb, .inl ⟨by decide, rfl, .inr ⟨by have := hok.few; omega, ?_⟩⟩⟩
     rcases hcode with ⟨_, ys, h3⟩ | ⟨h1, _⟩
     · have h4 := (qap ha).put_few hok h3
       have h5 := (q5p (x := mkE key r) hg (qap ha).good h3).2
       omega
     · omega
   · rcases hcode with ⟨_, ys, h3⟩ | ⟨h1, _⟩
     · refine ⟨some ⟨g, 0, none⟩, qs.length, C', root2, 0, rfl, hb, .inr ⟨rfl, g, qs, rfl, rfl, hNT, ys, h3, ?_⟩⟩
       rw [hm]
       exact qtk ha h0 hok h2 h3
     · omega

theorem q6y {ns : List Nd} {root : Int} (h : q1e ns root = 0) : (Lit.int .i64 root).wf = true := by
 have hz := (q8d h).1
 have : 0 ≤ root ∧ root ≤ 2000 := by
   rcases q8l h with ⟨ht, P, hs, hp⟩ | ⟨_, rfl⟩
   · have := qf9 hs
     omega
   · omega
 exact WalkArith.wf_i64 (by omega)

theorem qm0 (A : Option Addr) (C : Nat) (ss : List ByteArray) (t0 t1 t2 : TR) (f : Int) (s : ByteArray) (t v : Int) (w : World) (hZ : SzAt w) (hC : ss.length ≤ C) (hS : q2z w.heap.size w A ss) (hs : s.size ≤ 140737488351232) (h0 : t0.ok w) (h1 : t1.ok w) (h2 : t2.ok w) :
   Calls Tryz.prog 49 #[.agg (q1k A C ss t0 t1 t2 f).toArray, .agg #[.string s, .int .i64 t, .int .i64 v]] w (z0d ss s t v f (t0.ps.map PN.nd) t0.r (t1.ps.map PN.nd) t1.r (t2.ps.map PN.nd) t2.r w) := by
 have okup : ∀ (t : TR) (w' : World), Below w.heap.size w w' → t.ok w → t.ok w' := fun t w' hb ht => ⟨ht.1.up hb, ht.2.1, ht.2.2⟩
 have ck := fun (bb : Bool) (hbb : Hid (q3h ss f (t0.ps.map PN.nd) t0.r (t1.ps.map PN.nd) t1.r (t2.ps.map PN.nd) t2.r = bb)) W (hW : Below w.heap.size w W) => q7d A C ss t0 t1 t2 f W (hZ.below hW) hC (hS.up hW) (okup t0 W hW h0) (okup t1 W hW h1) (okup t2 W hW h2) bb hbb
 have pf := fun W => qgs A C ss t0 t1 t2 f s t v W
 cases hB : q3h ss f (t0.ps.map PN.nd) t0.r (t1.ps.map PN.nd) t1.r (t2.ps.map PN.nd) t2.r with
 | false =>
   refine (qz9 _ _ _ _ _ _ _ _ _ rfl s t v 7 (by decide) w (fun W hW => ?_)).mono ?_
   · have k := ck false hB W hW
     simp only [Bool.false_eq_true, if_false] at k
     exact k
   · rintro e w' ⟨rfl, hb⟩
     exact ⟨hb, .inl ⟨7, by decide, .inl ⟨hB, rfl⟩, rfl⟩⟩
 | true =>
   have ck0 : ∀ W, Below w.heap.size w W → Calls Tryz.prog 15 #[.agg (q1k A C ss t0 t1 t2 f).toArray] W fun e w' => e = .returned (.int .i64 0) ∧ Below W.heap.size W w' := fun W hW => by
     have k := ck true hB W hW
     simp only [if_true] at k
     exact k
   by_cases hp : ptC s t v f = 0
   · obtain ⟨L0, L1, L2, hL⟩ := qf7 hB
     obtain ⟨hn, ht, hv, hf⟩ := qft hp
     have hr : ptR s t v f = one t v := by unfold ptR; rw [if_pos hp]
     obtain ⟨e1, e2, e3⟩ := qfu ss s
     have hfew := hL.few
     have hlen : (q1w ss s).length ≤ ss.length + 1 := by
       unfold q1w
       split <;> simp
     have hpl : 0 ≤ plc ss s ∧ plc ss s < 17 := by omega
     have hg := q9u ht hv
     have hes : ∀ x ∈ q1w ss s, x.size ≤ 140737488351232 := by
       intro x hx
       unfold q1w at hx
       split at hx
       · rcases List.mem_append.1 hx with hx | hx
         · exact hS.each x hx
         · obtain rfl : x = s := by simpa using hx
           exact hs
       · exact hS.each x hx
     have kb : ∀ sz : Int, (sz = 1 ∨ sz = 60 ∨ sz = 3600) → (0 ≤ t - t % sz ∧ t - t % sz < 1048576) ∧ 0 ≤ plc ss s * 1048576 + (t - t % sz) ∧ plc ss s * 1048576 + (t - t % sz) ≤ 1099511627775 := by
       intro sz hsz
       rcases hsz with rfl | rfl | rfl <;> omega
     have x0 : ptE (plc ss s) t v = mkE (plc ss s * 1048576 + (t - t % 1)) (one t v) := by
       have e : t - t % 1 = t := by omega
       rw [e]
       rfl
     have x1 : bk 60 (ptE (plc ss s) t v) = mkE (plc ss s * 1048576 + (t - t % 60)) (one t v) := qy5 ht
     have x2 : bk 3600 (ptE (plc ss s) t v) = mkE (plc ss s * 1048576 + (t - t % 3600)) (one t v) := qy5 ht
     refine (qt4 A t0.A t1.A t2.A C t0.C t1.C t2.C ss (q1w ss s) t0.ps t1.ps t2.ps t0.r t1.r t2.r f s t v (one t v) w _ _ _ _ _ _ (plc ss s) (t - t % 1) (t - t % 60) (t - t % 3600) (plc ss s * 1048576 + (t - t % 1)) (plc ss s * 1048576 + (t - t % 60)) (plc ss s * 1048576 + (t - t % 3600)) (by omega) hes ck0 (fun W => ?_) (fun W hW => qfr A C ss s W (hS.up hW) hs hfew) (fun VA VC W h => ?_) (fun W hW => q2w W (hZ.below hW))
       (fun W => q3g t 1 W (by omega) (.inl rfl)) (fun W => q3g t 60 W (by omega) (.inr (.inl rfl))) (fun W => q3g t 3600 W (by omega) (.inr (.inr rfl)))
       (fun W => q7h _ _ W (by omega) (kb 1 (.inl rfl)).1) (fun W => q7h _ _ W (by omega) (kb 60 (.inr (.inl rfl))).1) (fun W => q7h _ _ W (by omega) (kb 3600 (.inr (.inr rfl))).1)
       (fun W hW => qfx (L := L0) (h0.1.up hW) h0.2.1 hL.a0 hg (kb 1 (.inl rfl)).2 x0) (fun W hW => qfx (L := L1) (h1.1.up hW) h1.2.1 hL.a1 hg (kb 60 (.inr (.inl rfl))).2 x1) (fun W hW => qfx (L := L2) (h2.1.up hW) h2.2.1 hL.a2 hg (kb 3600 (.inr (.inr rfl))).2 x2)).mono ?_
     · have k := pf W
       rw [hp, hr] at k
       exact k
     · have k := qhq VA VC (q1w ss s) s W h
       rw [e1] at k
       exact k
     · intro e w' h
       obtain ⟨hb, h⟩ := h
       refine ⟨hb, ?_⟩
       rcases h with ⟨h16, rfl⟩ | ⟨h16, c, hc0, hbad, rfl⟩ | ⟨h16, VA, VC, g0, D0, g1, D1, g2, D2, q0, q1, q2, s0, s1, s2, rfl, hown, N0, N1, N2, ⟨M0, i0, a0⟩, ⟨M1, i1, a1⟩, M2, i2, a2⟩
       · exact .inl ⟨1, by decide, .inr (.inr ⟨hB, hp, rfl, .inl h16⟩), rfl⟩
       · have hc1 : c = 1 := by
           rcases hbad with h | h | h <;> exact h.1
         refine .inl ⟨c, hc0, .inr (.inr ⟨hB, hp, hc1, .inr ⟨h16, fun K0 K1 K2 hK => ?_⟩⟩), rfl⟩
         obtain rfl : K0 = L0 := by have := hK.a0.symm.trans hL.a0; exact (Prod.mk.inj this).2
         obtain rfl : K1 = L1 := by have := hK.a1.symm.trans hL.a1; exact (Prod.mk.inj this).2
         obtain rfl : K2 = L2 := by have := hK.a2.symm.trans hL.a2; exact (Prod.mk.inj this).2
         rcases hbad with ⟨_, h | h⟩ | ⟨_, h | h⟩ | ⟨_, h | h⟩
         · exact .inl (.inl h)
         · exact .inr (.inl h)
         · exact .inl (.inr (.inl h))
         · exact .inr (.inr (.inl h))
         · exact .inl (.inr (.inr h))
         · exact .inr (.inr (.inr h))
       · have k0 := (q2v a0).1
         have k1 := (q2v a1).1
         have k2 := (q2v a2).1
         obtain ⟨_, _, e9, hA9, hl9, _, hrow9⟩ := q0k hown
         cases e9
         exact .inr ⟨VA, VC, ⟨some ⟨g0, 0, none⟩, D0, q0, s0⟩, ⟨some ⟨g1, 0, none⟩, D1, q1, s1⟩, ⟨some ⟨g2, 0, none⟩, D2, q2, s2⟩, L0, L1, L2, M0, M1, M2, ⟨hB, hp, h16, hL, i0, i1, i2, a0, a1, a2⟩, rfl, hA9, hl9, ⟨hrow9, by omega, hes⟩, ⟨N0.nodes, q4k k0, q6y k0⟩, ⟨N1.nodes, q4k k1, q6y k1⟩, ⟨N2.nodes, q4k k2, q6y k2⟩, hown, hes, by omega, ⟨g0, rfl, N0⟩, ⟨g1, rfl, N1⟩, ⟨g2, rfl, N2⟩⟩
   · refine (qyu _ _ _ _ _ _ _ _ _ rfl s t v _ _ hp w ck0 pf).mono ?_
     rintro e w' ⟨rfl, hb⟩
     exact ⟨hb, .inl ⟨_, hp, .inr (.inl ⟨hB, hp, rfl⟩), rfl⟩⟩

end
section
open Go.RowKit Plain

structure Pt where
 s : ByteArray
 t : Int
 v : Int
deriving Inhabited

def ptIn (ss : List ByteArray) (p : Pt) : En := ptE (Lib.idxOfS ss p.s) p.t p.v

structure Pt.ok (f : Int) (p : Pt) : Prop where
 t0 : 0 ≤ p.t
 t1 : p.t ≤ 1048575
 v0 : -1000000 ≤ p.v
 v1 : p.v ≤ 1000000
 f0 : f ≤ p.t

theorem qk2 (size : Int) : ∀ l : List En, sumC (l.map (bk size)) = sumC l
 | [] => rfl
 | y :: r => by
   simp only [List.map_cons, sumC, qk2 size r]
   rfl

theorem qmc (ss : List ByteArray) : ∀ l : List Pt, sumC (l.map (ptIn ss)) = l.length
 | [] => rfl
 | p :: r => by
   simp only [List.map_cons, sumC, qmc ss r, List.length_cons]
   show (1 : Int) + _ = _
   omega

structure q4e (ss : List ByteArray) (f : Int) (n0 : List Nd) (r0 : Int) (n1 : List Nd) (r1 : Int) (n2 : List Nd) (r2 : Int) (pts : List Pt) (L0 L1 L2 : List En) : Prop where
 ok : q3h ss f n0 r0 n1 r1 n2 r2 = true
 lst : qfh ss f n0 r0 n1 r1 n2 r2 L0 L1 L2
 all : allL (pts.map (ptIn ss)) = some L0
 pt : ∀ p ∈ pts, p.s ∈ ss ∧ p.ok f

section
variable {ss : List ByteArray} {f : Int} {n0 n1 n2 m0 m1 m2 : List Nd} {r0 r1 r2 q0 q1 q2 : Int} {pts : List Pt} {L0 L1 L2 : List En}

theorem q4e.good (h : q4e ss f n0 r0 n1 r1 n2 r2 pts L0 L1 L2) : (∀ y ∈ L0, Good y.ru) ∧ (∀ y ∈ L1, Good y.ru) ∧ ∀ y ∈ L2, Good y.ru := by
 have f0 := q1u (ns := n0) (r := r0) (low := 0) (high := 1099511627776)
 have f1 := q1u (ns := n1) (r := r1) (low := 0) (high := 1099511627776)
 have f2 := q1u (ns := n2) (r := r2) (low := 0) (high := 1099511627776)
 rw [h.lst.a0] at f0
 rw [h.lst.a1] at f1
 rw [h.lst.a2] at f2
 exact ⟨f0.2.1, f1.2.1, f2.2.1⟩

theorem q4e.sum (h : q4e ss f n0 r0 n1 r1 n2 r2 pts L0 L1 L2) : sumC L0 = pts.length ∧ sumC L1 = pts.length ∧ sumC L2 = pts.length := by
 have h0 := (qjj h.all).trans (qmc ss pts)
 exact ⟨h0, ((qjj h.lst.p1).trans (qk2 60 L0)).trans h0, ((qjj h.lst.p2).trans (qk2 3600 L0)).trans h0⟩

theorem q4e.few (h : q4e ss f n0 r0 n1 r1 n2 r2 pts L0 L1 L2) : L0.length ≤ pts.length ∧ L1.length ≤ pts.length ∧ L2.length ≤ pts.length := by
 obtain ⟨g0, g1, g2⟩ := h.good
 obtain ⟨s0, s1, s2⟩ := h.sum
 have := qc8 (q3r g0)
 have := qc8 (q3r g1)
 have := qc8 (q3r g2)
 omega

theorem qj6 {L : List En} {x : En} (hg : ∀ y ∈ L, Good y.ru) (hx : x.c = 1) (hs : sumC L ≤ 1000000) : ins L x ≠ none := fun h => by
 have h1 := qc9 (q3r hg) h
 have h2 := ql4 (k := x.key) (q3r hg)
 omega

theorem q4e.add_ok (h : q4e ss f n0 r0 n1 r1 n2 r2 pts L0 L1 L2) {s : ByteArray} {t v c : Int} (hp : ptC s t v f = 0) (hl : (q1w ss s).length ≤ 16) (hn : pts.length ≤ 900) : ¬ qwh ss s t v f n0 r0 n1 r1 n2 r2 c := by
 obtain ⟨g0, g1, g2⟩ := h.good
 obtain ⟨s0, s1, s2⟩ := h.sum
 obtain ⟨l0, l1, l2⟩ := h.few
 rintro (⟨h1, _⟩ | ⟨_, h1, _⟩ | ⟨_, _, _, h1⟩)
 · rw [h.ok] at h1; cases h1
 · exact h1 hp
 · rcases h1 with h1 | ⟨_, h1⟩
   · omega
   · rcases h1 L0 L1 L2 h.lst with (h1 | h1 | h1) | h1 | h1 | h1
     · exact qj6 g0 rfl (by omega) h1
     · exact qj6 g1 rfl (by omega) h1
     · exact qj6 g2 rfl (by omega) h1
     · omega
     · omega
     · omega

theorem qw8 {ss : List ByteArray} {q s : ByteArray} (h : q ∈ ss) : Lib.idxOfS (ss ++ [s]) q = Lib.idxOfS ss q := by
 obtain ⟨k, hk, e, hd⟩ := qlw h
 obtain ⟨k', h1, h2, h3⟩ := ql6 (ss := ss) k hd
 have e1 := Lib.idxOfS_hit ss ss.length k' q (by omega) (Nat.le_refl _) h2 h3
 rw [List.take_length] at e1
 have gd : ∀ j, j < ss.length → (ss ++ [s]).getD j ByteArray.empty = ss.getD j ByteArray.empty := fun j hj => by
   rw [q4y (by simp; omega), List.getElem_append_left hj, q4y hj]
 have e2 := Lib.idxOfS_hit (ss ++ [s]) (ss ++ [s]).length k' q (by simp; omega) (Nat.le_refl _) (by rw [gd k' (by omega)]; exact h2) (fun j hj => by rw [gd j (by omega)]; exact h3 j hj)
 rw [List.take_length] at e2
 rw [e1, e2]

theorem qt7 {ss : List ByteArray} {q s : ByteArray} (h : q ∈ ss) : Lib.idxOfS (q1w ss s) q = Lib.idxOfS ss q := by
 unfold q1w
 split
 · exact qw8 h
 · rfl

theorem qsd {ss : List ByteArray} {q s : ByteArray} (h : q ∈ ss) : q ∈ q1w ss s := by
 unfold q1w
 split
 · exact List.mem_append_left _ h
 · exact h

theorem qsr (ss : List ByteArray) (s : ByteArray) : s ∈ q1w ss s := by
 unfold q1w
 split
 · simp
 · rename_i h
   exact Classical.byContradiction fun c => h (idx_neg.2 c)

theorem q4e.add (h : q4e ss f n0 r0 n1 r1 n2 r2 pts L0 L1 L2) {s : ByteArray} {t v : Int} {K0 K1 K2 M0 M1 M2 : List En} (hy : qlg ss s t v f n0 r0 n1 r1 n2 r2 m0 q0 m1 q1 m2 q2 K0 K1 K2 M0 M1 M2) : q4e (q1w ss s) f m0 q0 m1 q1 m2 q2 (pts ++ [⟨s, t, v⟩]) M0 M1 M2 := by
 obtain ⟨hb, -⟩ := hy.base
 obtain ⟨J0, J1, J2, hJ⟩ := qf7 hb
 obtain rfl : J0 = M0 := (Prod.mk.inj (hJ.a0.symm.trans hy.a0)).2
 obtain rfl : J1 = M1 := (Prod.mk.inj (hJ.a1.symm.trans hy.a1)).2
 obtain rfl : J2 = M2 := (Prod.mk.inj (hJ.a2.symm.trans hy.a2)).2
 obtain rfl : K0 = L0 := (Prod.mk.inj (hy.lst.a0.symm.trans h.lst.a0)).2
 obtain ⟨_, h2, h3, h4⟩ := qft hy.pt
 refine ⟨hb, hJ, ?_, fun p hp => ?_⟩
 · have e : pts.map (ptIn (q1w ss s)) = pts.map (ptIn ss) := List.map_congr_left fun p hp => by
     unfold ptIn
     rw [qt7 (h.pt p hp).1]
   rw [List.map_append, e, List.map_singleton, qab, h.all]
   have e2 : ptIn (q1w ss s) ⟨s, t, v⟩ = ptE (plc ss s) t v := by
     unfold ptIn
     rw [(qfu ss s).1]
   rw [e2]
   exact hy.i0
 · rcases List.mem_append.1 hp with hp | hp
   · exact ⟨qsd (h.pt p hp).1, (h.pt p hp).2⟩
   · obtain rfl : p = ⟨s, t, v⟩ := by simpa using hp
     exact ⟨qsr ss s, ⟨h2.1, h2.2, h3.1, h3.2, h4⟩⟩

def inPt (x : ByteArray) (a b : Int) (p : Pt) : Bool := decide (p.s = x) && (decide (a ≤ p.t) && decide (p.t ≤ b))
def q8c (x : ByteArray) (a b : Int) (l : List Pt) : List Pt := l.filter (inPt x a b)
def ruP (p : Pt) : Ru := one p.t p.v
def sumR (l : List Pt) : Ru := l.foldl (fun o p => (mrg o (ruP p)).1) zro

theorem qy9 {p : Pt} {x : ByteArray} {i a b : Int} (hm : p.s ∈ ss) (hx : Lib.idxOfS ss x = i) (_ : 0 ≤ i) (hp : p.ok f) : selK i a b (ptIn ss p) = inPt x a b p := by
 have h0 := hp.t0
 have h1 := hp.t1
 obtain ⟨k, hk, ek, hd⟩ := qlw hm
 have k1 : (ptIn ss p).key / 1048576 = k := by
   show (Lib.idxOfS ss p.s * 1048576 + p.t) / 1048576 = k
   rw [ek]; omega
 have k2 : (ptIn ss p).key % 1048576 = p.t := by
   show (Lib.idxOfS ss p.s * 1048576 + p.t) % 1048576 = p.t
   rw [ek]; omega
 unfold selK keyB inPt
 rw [k1, k2]
 congr 1
 refine decide_eq_decide.2 ⟨fun e => ?_, fun e => ?_⟩
 · have hxm : x ∈ ss := by
     rw [← Lib.idxOfS_nonneg_iff]
     omega
   obtain ⟨j, hj, ej, hdj⟩ := qlw hxm
   have : j = k := by omega
   rw [← hd, ← hdj, this]
 · rw [← hx, ← e, ek]

theorem q4e.sel (h : q4e ss f n0 r0 n1 r1 n2 r2 pts L0 L1 L2) {x : ByteArray} {i a b : Int} (hx : Lib.idxOfS ss x = i) (hi : 0 ≤ i) : allL ((q8c x a b pts).map (ptIn ss)) = some (L0.filter (selK i a b)) := by
 have h1 := q6k (P := keyB i a b) (pts.map (ptIn ss)) [] L0 (by simp) h.all
 have e : ((pts.map (ptIn ss)).filter fun z => keyB i a b z.key) = (q8c x a b pts).map (ptIn ss) := by
   rw [List.filter_map]
   congr 1
   exact List.filter_congr fun p hp => qy9 (h.pt p hp).1 hx hi (h.pt p hp).2
 rw [e] at h1
 exact h1

theorem qqe {p : Pt} (hp : p.ok f) : Good (ptIn ss p).ru := q9u ⟨hp.t0, hp.t1⟩ ⟨hp.v0, hp.v1⟩

theorem qlq : ∀ (l : List Pt) (o : Ru), (o = zro ∨ Good o) → (∀ p ∈ l, ∃ f, Pt.ok f p) → o.c + l.length ≤ 1073741824 → ∀ (ss : List ByteArray), (l.map (ptIn ss)).foldl q2t (o, 0) = (l.foldl (fun o p => (mrg o (ruP p)).1) o, 0) ∧ (l.foldl (fun o p => (mrg o (ruP p)).1) o).c = o.c + l.length ∧ ((l.foldl (fun o p => (mrg o (ruP p)).1) o) = zro ∨ Good (l.foldl (fun o p => (mrg o (ruP p)).1) o))
 | [], o, ho, _, _, _ => ⟨rfl, by simp, ho⟩
 | p :: l, o, ho, hp, hc, ss => by
   obtain ⟨f, hf⟩ := hp p List.mem_cons_self
   have hg : Good (ruP p) := q9u ⟨hf.t0, hf.t1⟩ ⟨hf.v0, hf.v1⟩
   have c1 : (ruP p).c = 1 := rfl
   have hl : ((p :: l).length : Int) = l.length + 1 := by simp
   rw [hl] at hc ⊢
   have hm : (mrg o (ruP p)).2 = 0 ∧ (mrg o (ruP p)).1.c = o.c + 1 ∧ Good (mrg o (ruP p)).1 := by
     rcases ho with rfl | ho
     · rw [qfv hg]
       exact ⟨rfl, by rw [c1]; rfl, hg⟩
     · rw [q7s ho hg, if_pos (by rw [c1]; omega)]
       exact ⟨rfl, rfl, q8k ho hg (by rw [c1]; omega)⟩
   obtain ⟨h1, h2, h3⟩ := qlq l (mrg o (ruP p)).1 (.inr hm.2.2) (fun q hq => hp q (List.mem_cons_of_mem _ hq)) (by omega) ss
   simp only [List.map_cons, List.foldl_cons]
   have e : q2t (o, 0) (ptIn ss p) = ((mrg o (ruP p)).1, 0) := by
     unfold q2t
     rw [if_pos rfl]
     exact Prod.ext rfl hm.1
   rw [e]
   exact ⟨h1, by rw [h2, hm.2.1]; omega, h3⟩

theorem qwg {l : List Pt} (ss : List ByteArray) (hp : ∀ p ∈ l, ∃ f, Pt.ok f p) (hc : (l.length : Int) ≤ 1073741824) : tot (l.map (ptIn ss)) = (sumR l, 0) ∧ (sumR l).c = l.length := by
 have k := qlq l zro (.inl rfl) hp (by show (0 : Int) + _ ≤ _; omega) ss
 exact ⟨k.1, k.2.1.trans (by show (0 : Int) + _ = _; omega)⟩

theorem q4e.total (h : q4e ss f n0 r0 n1 r1 n2 r2 pts L0 L1 L2) {x : ByteArray} {i a b : Int} (hx : Lib.idxOfS ss x = i) (hi : 0 ≤ i) (hn : pts.length ≤ 100000) : tot (L0.filter (selB i a b)) = (sumR (q8c x a b pts), 0) := by
 have hsub : ∀ p ∈ q8c x a b pts, p ∈ pts := fun p hp => (List.mem_filter.1 hp).1
 have hl : (q8c x a b pts).length ≤ pts.length := List.length_filter_le _ _
 have h1 := h.sel (a := a) (b := b) hx hi
 have hg1 : ∀ y ∈ (q8c x a b pts).map (ptIn ss), Good y.ru := fun y hy => by
   obtain ⟨p, hp, rfl⟩ := List.mem_map.1 hy
   exact qqe (h.pt p (hsub p hp)).2
 have h2 := qyb hg1 h1
 rw [← (qwg ss (fun p hp => ⟨f, (h.pt p (hsub p hp)).2⟩) (by omega)).1]
 exact (qv6 hg1 (fun y hy => h.good.1 y (List.mem_filter.1 hy).1) h2).symm
end

end
section
open Go.RowKit Plain Go.Shelf

theorem qa5 {w : World} {g : Nat} (h : q4q w g) : q0j w.heap.size w (some ⟨g, 0, none⟩) [q1t] := by
 refine ⟨.inr ⟨g, 0, rfl, h.lt, fun j u hu => ?_⟩, fun k hk => ?_, by decide⟩
 · have hj : j < 5 := by
     have := (List.getElem?_eq_some_iff.1 hu).1
     simpa [q1s] using this
   rw [Nat.zero_add]
   rcases (show j = 0 ∨ j = 1 ∨ j = 2 ∨ j = 3 ∨ j = 4 by omega) with rfl | rfl | rfl | rfl | rfl <;> cases hu
   · exact h.c0
   · exact h.c1
   · exact h.c2
   · exact h.c3
   · exact h.c4
 · obtain rfl : k = 0 := by simpa using hk
   exact ⟨.inl rfl, .inl rfl, .inl rfl, .inl rfl, fun _ => rfl, fun _ => rfl, fun _ => rfl, fun _ => rfl, by simp [q1t], by simp [q1t], by simp [q1t], by simp [q1t]⟩

theorem qcc : ∀ p ∈ [q1t], p.wf := by
 intro p hp
 obtain rfl : p = q1t := by simpa using hp
 unfold PN.wf q1t
 simp

theorem q9c : allP ([q1t].map PN.nd) 0 0 1099511627776 = (0, []) := by
 have h : q1e ([q1t].map PN.nd) 0 = 0 := by decide
 exact qq8 h (by rw [qaa h]; rfl)

theorem q8v : q3h [] 0 ([q1t].map PN.nd) 0 ([q1t].map PN.nd) 0 ([q1t].map PN.nd) 0 = true := by
 have hb : q7z ([q1t].map PN.nd) 0 0 0 = some [] := by
   unfold q7z
   rw [q9c]
   rfl
 have hs : ∀ sz, q2x sz [] ([q1t].map PN.nd) 0 = true := fun sz => by
   unfold q2x
   rw [q9c]
   rfl
 have ht : q9g 0 0 ([q1t].map PN.nd) 0 ([q1t].map PN.nd) 0 ([q1t].map PN.nd) 0 = true := by
   unfold q9g
   rw [hb]
   simp only [hs]
   rfl
 unfold q3h
 have e : ((([] : List ByteArray).length : Nat) : Int) = 0 := rfl
 rw [e, ht]
 decide

theorem qxb {L0 L1 L2 : List En} (h : qfh [] 0 ([q1t].map PN.nd) 0 ([q1t].map PN.nd) 0 ([q1t].map PN.nd) 0 L0 L1 L2) : L0 = [] ∧ L1 = [] ∧ L2 = [] :=
 ⟨(Prod.mk.inj (h.a0.symm.trans q9c)).2, (Prod.mk.inj (h.a1.symm.trans q9c)).2, (Prod.mk.inj (h.a2.symm.trans q9c)).2⟩

theorem qmh (s : ByteArray) : q1w [] s = [s] := by
 unfold q1w
 rw [if_pos (by show (-1 : Int) < 0; decide)]
 rfl

theorem qvt {s : ByteArray} {t v c : Int} (hp : ptC s t v 0 = 0) : ¬ qwh [] s t v 0 ([q1t].map PN.nd) 0 ([q1t].map PN.nd) 0 ([q1t].map PN.nd) 0 c := by
 rintro (⟨h, _⟩ | ⟨_, h, _⟩ | ⟨_, _, _, h⟩)
 · rw [q8v] at h; cases h
 · exact h hp
 · rw [qmh] at h
   obtain ⟨L0, L1, L2, hL⟩ := qf7 q8v
   obtain ⟨rfl, rfl, rfl⟩ := qxb hL
   rcases h with h | ⟨_, h⟩
   · simp at h
   · rcases h [] [] [] hL with (h | h | h) | h | h | h
     · cases h
     · cases h
     · cases h
     · simp at h
     · simp at h
     · simp at h

theorem quq {Bad : Int → Prop} {Fine : List Nd → Int → Prop} {wr w3 : World} {XA : Option Addr} {xl XC mb base : Nat} {sr c k : Int} (hb : Below wr.heap.size wr w3) (hm : wr.heap.size ≤ mb) (hmb : mb < base) (hr : RowL w3 mb 26 [.slice none 0 0, .int .i64 0]) (h : PutP Bad Fine base w3 XA xl XC sr c) :
   PutM Bad Fine k wr (.pointer (some ⟨mb, 0, none⟩)) (.int .i64 c) (.int .i64 k) ((w3.setCell ⟨mb, 0, none⟩ (.slice XA xl XC)).setCell ⟨mb, 1, none⟩ (.int .i64 sr)) :=
 ⟨mb, XA, xl, XC, sr, c, rfl, rfl, rfl, hm, q0u (q0u hb hm _ _) hm _ _, (hr.set 0 _).set 1 _, h.keep (by omega) fun k hk _ => (Below.heap_setCell _ _ _ _ (show k ≠ mb by omega)).trans (Below.heap_setCell _ _ _ _ (show k ≠ mb by omega))⟩

end
section
open Go.RowKit Plain Go.Shelf

theorem qz3 {M : List En} {w w' : World} {e : Ending} (hf : q3b M = 0) (h : OfP M w e w') : PutC (fun c => c = 1 ∧ 2900 < M.length) (fun m q => allP m q 0 1099511627776 = (0, M)) w e w' := by
 obtain ⟨hb, h⟩ := h
 rcases h with ⟨c, h0, rfl, h | ⟨_, h1, h2⟩⟩ | ⟨_, g, C', qs, root, rfl, hN, hc, hp⟩
 · rw [hf] at h
   exact absurd h h0
 · exact ⟨none, 0, 0, 0, c, rfl, hb, .inl ⟨h0, h1, h2⟩⟩
 · have h1 := qwa hf hp
   refine ⟨_, _, _, _, 0, rfl, hb, .inr ⟨rfl, g, qs, rfl, rfl, hN, ?_⟩⟩
   show allP _ _ 0 1099511627776 = (0, M)
   unfold allP
   rw [if_neg (by simpa using hc), h1]

end
section
open Go.RowKit Plain Go.Shelf

def nmS (i : Int) : ByteArray := if i = 0 then ⟨#[99, 112, 117]⟩ else if i = 1 then ⟨#[109, 101, 109]⟩ else if i = 2 then ⟨#[110, 101, 116, 46, 105, 110]⟩ else ⟨#[57]⟩

theorem qtm (i : Int) : (nmS i).size ≤ 6 := by
 unfold nmS
 split
 · decide
 · split
   · decide
   · split <;> decide

theorem qko (i : Int) : q6z (nmS i) = true := by
 unfold nmS
 split
 · decide
 · split
   · decide
   · split <;> decide

set_option maxHeartbeats 400000 in
theorem qpe (n : Int) (w : World) (hn : i64B n) : Calls Tryz.prog 102 #[.int .i64 n] w fun e w' => e = .returned (.string (nmS (pick n 4))) ∧ Below w.heap.size w w' := by
 have hb := qcm n (show (0 : Int) < 4 by decide)
 have con := q0a fun W => q8s n 4 W hn.1 hn.2 (by decide) (by decide)
 rcases (show pick n 4 = 0 ∨ pick n 4 = 1 ∨ pick n 4 = 2 ∨ pick n 4 = 3 by omega) with h | h | h | h <;> rw [h] at con ⊢ <;>
 · go_enter Tryz.func102, Tryz.ntmps102
   go_wp2_with (go_at_call 20; refine (con.out _).mono ?_; rintro e w1 ⟨rfl, hw1⟩; subst w1)
   go_ret
   exact ⟨rfl, (Below.refl _ _).alloc (Nat.le_refl _) _⟩

def Pt.vals (p : Pt) : List Value := [.string p.s, .int .i64 p.t, .int .i64 p.v]
def q5y : List Pt → List Value
 | [] => []
 | x :: r => x.vals ++ q5y r

theorem q8g : ∀ xs : List Pt, (q5y xs).length = xs.length * 3
 | [] => rfl
 | x :: r => by simp [q5y, Pt.vals, q8g r]; omega

theorem qbe : ∀ xs ys : List Pt, q5y (xs ++ ys) = q5y xs ++ q5y ys
 | [], _ => rfl
 | x :: r, ys => by simp [q5y, qbe r ys]

theorem qqn (xs : List Pt) : ∀ u ∈ q5y xs, u.oneCell' = true := by
 induction xs with
 | nil => simp [q5y]
 | cons x r ih =>
   intro u hu
   simp only [q5y, Pt.vals, List.cons_append, List.nil_append, List.mem_cons] at hu
   rcases hu with h | h | h | h
   all_goals first | (subst h; rfl) | exact ih u h

theorem qrp (xs : List Pt) (k j : Nat) (hk : k < xs.length) (hj : j < 3) : (q5y xs)[k * 3 + j]? = (xs[k]).vals[j]? := by
 induction xs generalizing k with
 | nil => simp at hk
 | cons x r ih =>
   cases k with
   | zero => simp only [q5y]; rw [List.getElem?_append_left (by simp [Pt.vals]; omega)]; simp
   | succ k =>
     simp only [q5y]
     rw [List.getElem?_append_right (by simp [Pt.vals]; omega)]
     have := ih k (by simpa using hk)
     simp only [Pt.vals, List.length_cons, List.length_nil] at *
     rw [show (k + 1) * 3 + j - (0 + 1 + 1 + 1) = k * 3 + j by omega]
     simpa using this

structure PtAt (w : World) (b o : Nat) (x : Pt) : Prop where
 c0 : w.cell? ⟨b, o, none⟩ = some (.string x.s)
 c1 : w.cell? ⟨b, o + 1, none⟩ = some (.int .i64 x.t)
 c2 : w.cell? ⟨b, o + 2, none⟩ = some (.int .i64 x.v)

theorem q0l.pt3 {B : Nat} {w : World} {A : Option Addr} {xs : List Pt} (h : q0l B w A (q5y xs)) {k : Nat} (hk : k < xs.length) :
   ∃ b o, A = some ⟨b, o, none⟩ ∧ b < B ∧ PtAt w b (o + k * 3) xs[k] := by
 rcases h with h | ⟨b, o, hA, hlt, hc⟩
 · have := q8g xs; rw [h] at this; simp at this; omega
 · refine ⟨b, o, hA, hlt, ?_⟩
   have g : ∀ j, j < 3 → ∀ u, (xs[k]).vals[j]? = some u → w.cell? ⟨b, o + k * 3 + j, none⟩ = some u := fun j hj u hu => by
     have := hc (k * 3 + j) u (by rw [qrp xs k j hk hj]; exact hu)
     rwa [← Nat.add_assoc] at this
   exact ⟨g 0 (by decide) _ rfl, g 1 (by decide) _ rfl, g 2 (by decide) _ rfl⟩

def q6w (x : Rw) : Pt := ⟨nmS (pick x.k 4), pick x.a 12000, pick x.b 2000 - 1000⟩

theorem qrx (x : Rw) : (q6w x).ok 0 := by
 have h1 := qcm x.a (show (0 : Int) < 12000 by decide)
 have h2 := qcm x.b (show (0 : Int) < 2000 by decide)
 exact ⟨h1.1, by show pick x.a 12000 ≤ _; omega, by show -1000000 ≤ pick x.b 2000 - 1000; omega, by show pick x.b 2000 - 1000 ≤ _; omega, h1.1⟩

set_option maxRecDepth 20000 in
set_option maxHeartbeats 1000000 in
theorem qnw (k a b c : Int) (w : World) (hk : i64B k) (ha : i64B a) (hb : i64B b) : Calls Tryz.prog 51 #[.agg #[.int .i64 k, .int .i64 a, .int .i64 b, .int .i64 c]] w fun e w' => e = .returned (.agg #[.string (nmS (pick k 4)), .int .i64 (pick a 12000), .int .i64 (pick b 2000 - 1000)]) ∧ Below w.heap.size w w' := by
 have q2 := qcm b (show (0 : Int) < 2000 by decide)
 have b2 : ∀ o1 o2 : Obj, Below w.heap.size w ((w.alloc o1).alloc o2) := fun o1 o2 => ((Below.refl _ _).alloc (Nat.le_refl _) _).alloc (by simp) _
 have c1 := q0a fun W => qpe k W hk
 have c2 := q0a fun W => q8s a 12000 W ha.1 ha.2 (by decide) (by decide)
 have c3 := q0a fun W => q8s b 2000 W hb.1 hb.2 (by decide) (by decide)
 obtain ⟨s, hs⟩ : ∃ s, nmS (pick k 4) = s := ⟨_, rfl⟩
 obtain ⟨t, ht⟩ : ∃ t, pick a 12000 = t := ⟨_, rfl⟩
 obtain ⟨u, hu⟩ : ∃ u, pick b 2000 = u := ⟨_, rfl⟩
 rw [hs] at c1 ⊢
 rw [ht] at c2 ⊢
 rw [hu] at c3 q2 ⊢
 clear hs ht hu
 have k1 : IntKind.i64.wrap (u - 1000) = u - 1000 := by rw [IntKind.wrap_i64]; omega
 go_enter Tryz.func51, Tryz.ntmps51
 go_wp2_with fail
 go_region_held3 (fun w' => w'.cell? ⟨w.heap.size, 0, none⟩ = some (.int .i64 k) ∧ w'.cell? ⟨w.heap.size, 1, none⟩ = some (.int .i64 a) ∧ w'.cell? ⟨w.heap.size, 2, none⟩ = some (.int .i64 b)) (go_keep)
   (first
     | (go_at_call 102; refine (c1.out _).mono ?_; rintro e w1 ⟨rfl, hb1⟩; have T1 := (q0q (hb1.mono (show w.heap.size + 1 ≤ _ by simp))).1; have D1 := (q0q (hb1.mono (show w.heap.size + 1 + 1 ≤ _ by simp))).1; have F1 := (q0q (hb1.mono (show w.heap.size + 1 + 1 ≤ _ by simp))).2; have HB := q0a hb1)
     | (go_at_call_of 20 a; refine (c2.out _).mono ?_; rintro e w2 ⟨rfl, hw2⟩; subst w2)
     | (go_at_call_of 20 b; refine (c3.out _).mono ?_; rintro e w3 ⟨rfl, hw3⟩; subst w3))
 all_goals
   go_wp2
   have D2 := fun o => D1 (w.heap.size + 1) o (by omega)
   refine bodyPost_ret (v := .agg #[.string s, .int .i64 t, .int .i64 (u - 1000)]) (by simp [results, Tryz.results51, go_sem, D2]) rfl ⟨rfl, ?_⟩
   have hb := q0e ((b2 _ _).drew) (Nat.le_refl _) HB.out
   exact q0u (q0u (q0u hb (by omega) _ _) (by omega) _ _) (by omega) _ _

end
section
open Go.RowKit Plain Go.Shelf

def x57 : En := mkE 5 (one 5 7)
def badT (c : Int) : Prop := c = 1 ∧ (ins [] x57 = none ∨ (200 < ([q1t].map PN.nd).length ∧ 900 < ([] : List En).length))
def qxv (m : List Nd) (q : Int) : Prop := ∃ M, ins [] x57 = some M ∧ allP m q 0 1099511627776 = (0, M)

theorem qzh : ptC ⟨#[97]⟩ 5 7 0 = 0 := by decide

theorem qvm (g0 g1 g2 : Nat) (W : World) (hZ : SzAt W) (h0 : q4q W g0) (h1 : q4q W g1) (h2 : q4q W g2) :
   Calls Tryz.prog 49 #[.agg #[.slice none 0 0, .slice (some ⟨g0, 0, none⟩) 1 1, .int .i64 0, .slice (some ⟨g1, 0, none⟩) 1 1, .int .i64 0, .slice (some ⟨g2, 0, none⟩) 1 1, .int .i64 0, .int .i64 0], .agg #[.string ⟨#[97]⟩, .int .i64 5, .int .i64 7]] W
     fun e w' => (∃ NA NC X0 x0 Y0 s0 X1 x1 Y1 s1 X2 x2 Y2 s2, e = .returned (.tuple #[.agg #[.slice NA 1 NC, .slice X0 x0 Y0, .int .i64 s0, .slice X1 x1 Y1, .int .i64 s1, .slice X2 x2 Y2, .int .i64 s2, .int .i64 0], .int .i64 0])) ∧ Below W.heap.size W w' := by
 have hz : (Lit.int .i64 0).wf = true := by decide
 refine (qm0 none 0 [] ⟨some ⟨g0, 0, none⟩, 1, [q1t], 0⟩ ⟨some ⟨g1, 0, none⟩, 1, [q1t], 0⟩ ⟨some ⟨g2, 0, none⟩, 1, [q1t], 0⟩ 0 ⟨#[97]⟩ 5 7 W hZ (Nat.le_refl _) ⟨.inl rfl, by decide, by simp⟩ (by decide) ⟨qa5 h0, qcc, hz⟩ ⟨qa5 h1, qcc, hz⟩ ⟨qa5 h2, qcc, hz⟩).mono ?_
 rintro e w' ⟨hb, h⟩
 refine ⟨?_, hb⟩
 rcases h with ⟨c, _, hno, _⟩ | ⟨A', C', u0, u1, u2, L0, L1, L2, M0, M1, M2, _, rfl, _⟩
 · exact absurd hno (qvt qzh)
 · exact ⟨A', C', u0.A, _, u0.C, u0.r, u1.A, _, u1.C, u1.r, u2.A, _, u2.C, u2.r, by rw [qmh]; rfl⟩

set_option maxRecDepth 20000 in
set_option maxHeartbeats 4000000 in
theorem qqr (w : World) (hZ : SzAt w) : Calls Tryz.prog 12 #[] w fun e w' => e = .returned (.bool true) ∧ Below w.heap.size w w' := by
 have OF := q0a (qqy 5 7 w (by decide) (by decide))
 go_enter Tryz.func12, Tryz.ntmps12
 go_wp2_with (first | (go_at_call 45; refine OF.out.mono ?_; rintro e w1 ⟨rfl, hb1⟩))
 obtain ⟨wd, hwd⟩ : ∃ wd, wd = w1.alloc (.cells (ruV (one 5 7)).toArray 49) := ⟨_, rfl⟩
 obtain ⟨rb, hrb⟩ : ∃ rb, rb = w1.heap.size := ⟨_, rfl⟩
 have HD : Hid (Below w.heap.size w wd) := by rw [hwd]; exact hb1.alloc hb1.size _
 have HR : RowL wd rb 49 (ruV (one 5 7)) := by rw [hwd, hrb]; exact q0b w1 _ _
 simp only [ruV, one] at hwd
 rw [← hwd, ← hrb]
 have r0 : wd.cell? ⟨rb, 0, none⟩ = some (.int .i64 1) := HR.cell 0
 have r1 : wd.cell? ⟨rb, 1, none⟩ = some (.int .i64 7) := HR.cell 1
 have r2 : wd.cell? ⟨rb, 2, none⟩ = some (.int .i64 7) := HR.cell 2
 have r3 : wd.cell? ⟨rb, 3, none⟩ = some (.int .i64 7) := HR.cell 3
 have r4 : wd.cell? ⟨rb, 4, none⟩ = some (.int .i64 5) := HR.cell 4
 have r5 : wd.cell? ⟨rb, 5, none⟩ = some (.int .i64 7) := HR.cell 5
 have lr := HR.lt
 have n3 : ¬ rb = wd.heap.size := by omega
 have lr1 : rb < wd.heap.size + 1 := by omega
 clear hwd hrb hb1 HR OF
 have KS : ∀ (W : World) (b' o' j m : Nat) (u : Value), ¬ b' = m → (W.setCell ⟨m, j, none⟩ u).cell? ⟨b', o', none⟩ = W.cell? ⟨b', o', none⟩ := fun W b' o' j m u hb => World.cell?_setCell_far _ _ _ _ (fun e => hb e.symm)
 have PT : Hid (∀ (g : Nat) (W : World), q4q W g → Calls Tryz.prog 46 #[.agg #[.slice (some ⟨g, 0, none⟩) 1 1, .int .i64 0], .int .i64 5, .agg #[.int .i64 1, .int .i64 7, .int .i64 7, .int .i64 7, .int .i64 5, .int .i64 7]] W (PutC badT qxv W)) := fun g W hn => qfx (r := one 5 7) (x := x57) (qa5 hn) qcc q9c (q9u (by decide) (by decide)) (by decide) rfl
 go_cut [3, 4] (fun v3 v4 wc => PutM badT qxv 0 wd v3 v4 (.int .i64 0) wc)
 case first =>
   go_region_held3 (fun w' => w'.cell? ⟨rb, 0, none⟩ = some (.int .i64 1) ∧ w'.cell? ⟨rb, 1, none⟩ = some (.int .i64 7) ∧ w'.cell? ⟨rb, 2, none⟩ = some (.int .i64 7) ∧ w'.cell? ⟨rb, 3, none⟩ = some (.int .i64 7) ∧ w'.cell? ⟨rb, 4, none⟩ = some (.int .i64 5) ∧ w'.cell? ⟨rb, 5, none⟩ = some (.int .i64 7)) (go_keep)
     (first
       | (go_at_call 47; refine (qfa _).mono ?_; rintro e w2 ⟨g, rfl, hg, hn, hb2⟩; have T2 := (q0q (hb2.mono (show wd.heap.size ≤ _ by first | simp | (simp; omega)))).1; have D2 := (q0q hb2).1 wd.heap.size; have F2 := (q0q hb2).2 wd.heap.size; have Z2 : wd.heap.size ≤ w2.heap.size := Nat.le_trans (by first | simp | (simp; omega)) hb2.size; have Z2l : wd.heap.size < w2.heap.size := (by have h1 := hn.lt; have h2 := hg; simp at h2; omega); have n5 : ¬ wd.heap.size = w2.heap.size := (by omega); have n6 : wd.heap.size < w2.heap.size + 1 := (by omega); have n4 : ¬ rb = w2.heap.size := (by omega); have l4 : rb < w2.heap.size := (by omega); have l5 : rb < w2.heap.size + 1 := (by omega); have HB2 := q0a hb2; have HN2 := q0a hn; clear hb2 hn hg)
       | (go_at_call 46; refine (PT.out g _ ?_).mono ?_; (first | exact HN2.out | exact HN2.out.alloc _); rintro e w3 ⟨XA, xl, XC, sr, c, rfl, hb3, hP⟩; have T3 := (q0q (hb3.mono (show w2.heap.size ≤ _ by first | simp | (simp; omega)))).1; have D3 := (q0q hb3).1 wd.heap.size; have F3 := (q0q hb3).2 wd.heap.size; have D4 := (q0q hb3).1 w2.heap.size; have F4 := (q0q hb3).2 w2.heap.size; have HB3 := q0a hb3; have HP3 := q0a hP; clear hb3 hP))
   all_goals
     go_wp2
     go_meet
     case rel =>
       first
         | exact qc0 ((((Below.refl wd.heap.size wd).drew).trans (HB2.out.mono (by simp))).trans (HB3.out.mono Z2)) (HP3.out.keep Z2 fun _ _ _ => rfl)
         | exact quq ((((Below.refl wd.heap.size wd).drew).trans (HB2.out.mono (by simp))).trans (((Below.refl _ _).alloc Z2 _).trans (HB3.out.mono (by simp; omega)))) Z2 (by simp) ((q0b w2 [.slice none 0 0, .int .i64 0] 26).below HB3.out (by simp)) HP3.out
         | exact quq ((((Below.refl wd.heap.size wd).alloc (Nat.le_refl _) _).drew).trans ((HB2.out.mono (by simp)).trans (HB3.out.mono Z2))) (Nat.le_refl _) (by have := HB2.out.size; simp at this; omega) (((q0b wd [.slice none 0 0, .int .i64 0] 26).of_block (w' := (wd.alloc (.cells #[.slice none 0 0, .int .i64 0] 26)).drew) rfl |>.below HB2.out (by simp)).below HB3.out (by have := HB2.out.size; simp at this; omega)) HP3.out
 case rest =>
   obtain ⟨tb, XA, xl, XC, sr, c, rfl, rfl, -, hmb, hbc, hrm, hP⟩ := hcut
   obtain ⟨wq, hwq⟩ : ∃ wq, wq = wc := ⟨_, rfl⟩
   subst hwq
   rcases hP with ⟨_, _, h | h⟩ | ⟨rfl, g, q, rfl, rfl, hT, M, hM, ha⟩
   · cases h
   · simp at h
   · obtain rfl : M = [x57] := by cases hM; rfl
     have hk := qap ha
     have hgot : gotP (q.map PN.nd) sr 5 = (one 5 7, 0) := by rw [hk.got (by decide)]; rfl
     have GT := q0a (qx6 (some ⟨g, 0, none⟩) XC sr 5 q wq hT.nodes (q4k hk.ok))
     rw [hgot] at GT
     simp only [tupR, one] at GT
     have t0 := hrm.cell 0
     have t1 := hrm.cell 1
     simp only [List.getElem?_cons_zero, List.getElem?_cons_succ] at t0 t1
     have HQ : Hid (Below w.heap.size w wq) := q0e HD.out (Nat.le_refl _) hbc
     have HZ := q0a hZ
     clear hZ hk hgot ha hM hT hrm hbc r0 r1 r2 r3 r4 r5 KS PT
     go_wp2_with (first
       | (go_at_call 48; refine GT.out.mono ?_; rintro e w4 ⟨rfl, hb4⟩; have H4 : Hid (Below w.heap.size w w4) := q0e HQ.out (Nat.le_refl _) hb4; clear hb4 t0 t1)
       | (go_at_call 50; refine (qtw _).mono ?_; rintro e w5 ⟨g0, g1, g2, rfl, k0, k1, k2, hb5⟩; have H5 : Hid (Below w.heap.size w w5) := q0e (H4.out.alloc H4.out.size _) (Nat.le_refl _) hb5; have X5 : Hid (RowL w5 w4.heap.size 49 (ruV (one 5 7))) := (q0b w4 (ruV (one 5 7)) _).below hb5 (by simp); have K5 := q0a (And.intro k0 (And.intro k1 k2)); clear hb5 k0 k1 k2)
       | (go_at_call 49; refine (qvm g0 g1 g2 _ (HZ.out.below H5.out) K5.out.1 K5.out.2.1 K5.out.2.2).mono ?_; rintro e w6 ⟨⟨NA, NC, X0, x0, Y0, s0, X1, x1, Y1, s1, X2, x2, Y2, s2, rfl⟩, hb6⟩; have H6 : Hid (Below w.heap.size w w6) := q0e H5.out (Nat.le_refl _) hb6; have x6 := fun j => (X5.out.below hb6 X5.out.lt).cell j; have l6 : w4.heap.size < w6.heap.size := (X5.out.below hb6 X5.out.lt).lt; simp only [ruV, one] at x6; clear hb6))
     go_ret
     exact ⟨rfl, H6.out.alloc H6.out.size _⟩

end
end Go.Proofs.YtlojfgdpmaigmafGreatDoor
