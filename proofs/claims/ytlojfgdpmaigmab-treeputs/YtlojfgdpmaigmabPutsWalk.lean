/- The walk of the law on Put. -/
import Derived.Test.YtlojfgdpmaigmabP52
import Derived.Test.YtlojfgdpmaigmabTCopyWalk
import Derived.Test.YtlojfgdpmaigmabOpenTree
import Derived.Test.YtlojfgdpmaigmabAllWalk
namespace Go.Proofs.Ytlojfgdpmaigmab
open Go.RowKit Plain Go.Shelf

theorem allOf_ys (A : Option Addr) (C : Nat) (r : Int) (ps : List PN) (ys : List En) (w : World) (hN : NodesAt w.heap.size w A ps) (hc : treeC (ps.map PN.nd) r = 0) (hR : allR 0 1099511627776 ((ps.map PN.nd).flatMap Nd.lst) = some ys) :
    Calls Try.prog 14 #[.agg #[.slice A ps.length C, .int .i64 r], .int .i64 0, .int .i64 1099511627776] w fun e w' => Below w.heap.size w w' ∧ ∃ v, e = .returned (.tuple #[v, .int .i64 0]) ∧ w'.ownsRow w.heap.size 45 7 v ys.length (flatE ys) :=
  allOf_ok A C r 0 1099511627776 ps w hN hc _ (fun _ _ hb hs _ => ⟨hb, hs ys hR⟩)

theorem allOf_no (A : Option Addr) (C : Nat) (r : Int) (ps : List PN) (w : World) (hN : NodesAt w.heap.size w A ps) (hc : treeC (ps.map PN.nd) r = 0) (hR : allR 0 1099511627776 ((ps.map PN.nd).flatMap Nd.lst) = none) :
    Calls Try.prog 14 #[.agg #[.slice A ps.length C, .int .i64 r], .int .i64 0, .int .i64 1099511627776] w fun e w' => Below w.heap.size w w' ∧ e = .returned (.tuple #[.slice none 0 0, .int .i64 1]) :=
  allOf_ok A C r 0 1099511627776 ps w hN hc _ (fun _ _ hb _ hn => ⟨hb, hn hR⟩)

set_option maxRecDepth 20000 in
set_option maxHeartbeats 1000000 in
theorem knows_ys (A A' : Option Addr) (C C' : Nat) (r : Int) (ps : List PN) (ys : List En) (w : World) (hN : NodesAt w.heap.size w A ps) (hc : treeC (ps.map PN.nd) r = 0) (hR : allR 0 1099511627776 ((ps.map PN.nd).flatMap Nd.lst) = some ys) (h' : RowAt w.heap.size w A' (flatE ys)) (hz : ys.length * 56 ≤ 140737488351232) :
    Calls Try.prog 23 #[.agg #[.slice A ps.length C, .int .i64 r], .slice A' ys.length C'] w fun e w' => e = .returned (.bool true) ∧ Below w.heap.size w w' := by
  have b0 : ∀ o : Obj, Below w.heap.size w (w.alloc o) := fun o => (Below.refl _ _).alloc (Nat.le_refl _) o
  have g2 := hideC (fun w' hN => allOf_ys A C r ps ys w' hN hc hR)
  clear hc hR
  go_enter Try.func23, Try.ntmps23
  go_wp2_with (first
    | (go_at_call 14; refine (g2.out _ (hN.up (b0 _))).mono ?_; rintro e w2 ⟨hb2, v2, rfl, ho2⟩; obtain ⟨A2, C2, rfl, -, -, -, hr2⟩ := own_row ho2; have hg2 : Below w.heap.size w w2 := nextB (b0 _) (Nat.le_refl _) hb2; have sm := hideC (sameEntries_eq A2 A' C2 C' ys w2 hr2 (h'.up hg2) hz))
    | (go_at_call 15; refine sm.out.mono ?_; rintro e w3 ⟨rfl, hb3⟩))
  go_ret
  exact ⟨rfl, nextB hg2 (Nat.le_refl _) hb3⟩

set_option maxHeartbeats 400000 in
theorem large_any (A : Option Addr) (C n : Nat) (r : Int) (w : World) (h : 200 < n) : Calls Try.prog 21 #[.agg #[.slice A n C, .int .i64 r]] w fun e w' => e = .returned (.bool true) ∧ Below w.heap.size w w' := by
  have h' : (200 : Int) < (n : Int) := by omega
  go_enter Try.func21, Try.ntmps21
  go_wp2
  go_ret
  exact ⟨by simp, (Below.refl _ _).alloc (Nat.le_refl _) _⟩

theorem wf_same {ps qs : List PN} (h : qs.map PN.nd = ps.map PN.nd) (hw : ∀ p ∈ ps, p.wf) : ∀ q ∈ qs, q.wf := by
  intro q hq
  have hm : q.nd ∈ ps.map PN.nd := h ▸ List.mem_map.2 ⟨q, hq, rfl⟩
  obtain ⟨p, hp, e⟩ := List.mem_map.1 hm
  obtain ⟨h1, h2, h3, h4⟩ := hw p hp
  have e1 : p.ents = q.ents := congrArg Nd.ents e
  have e2 : p.keys = q.keys := congrArg Nd.keys e
  have e3 : p.kids = q.kids := congrArg Nd.kids e
  have e4 : p.buf = q.buf := congrArg Nd.buf e
  exact ⟨e1 ▸ h1, e2 ▸ h2, e3 ▸ h3, e4 ▸ h4⟩

/-- On the way: the boxes of the tree and of what is put. -/
structure LaA (w wr : World) (A : Option Addr) (n C : Nat) (root : Int) (r : Ru) : Prop where
  below : Below w.heap.size w wr
  bt : RowL wr w.heap.size 24 [.slice A n C, .int .i64 root]
  br : RowL wr (w.heap.size + 1) 36 (ruV r)

theorem LaA.next {w wr w' : World} {A : Option Addr} {n C : Nat} {root : Int} {r : Ru} (h : LaA w wr A n C root r) (hb : Below wr.heap.size wr w') : LaA w w' A n C root r :=
  ⟨nextB h.below (Nat.le_refl _) hb, h.bt.below hb h.bt.lt, h.br.below hb h.br.lt⟩

theorem LaA.start (w : World) (A : Option Addr) (n C : Nat) (root : Int) (r : Ru) : LaA w ((w.alloc (.cells #[.slice A n C, .int .i64 root] 24)).alloc (.cells (ruV r).toArray 36)) A n C root r := by
  have s1 : (w.alloc (.cells #[.slice A n C, .int .i64 root] 24)).heap.size = w.heap.size + 1 := by simp
  have r0 : RowL (w.alloc (.cells #[.slice A n C, .int .i64 root] 24)) w.heap.size 24 [.slice A n C, .int .i64 root] := rowL_alloc w _ _
  have r1 := rowL_alloc (w.alloc (.cells #[.slice A n C, .int .i64 root] 24)) (ruV r) 36
  rw [s1] at r1
  exact ⟨((Below.refl _ _).alloc (Nat.le_refl _) _).alloc (by omega) _, r0.of_block (Below.heap_alloc _ _ _ (by omega)), r1⟩

/-- Behind the copy, k in its box: .. -/
structure LaK (w wr : World) (kb : Nat) (A' : Option Addr) (n' C' : Nat) (root : Int) (qs : List PN) : Prop where
  bk : RowL wr kb 24 [.slice A' n' C', .int .i64 root]
  nk : NodesAt wr.heap.size wr A' qs

theorem LaK.next {w wr w' : World} {kb n' C' : Nat} {A' : Option Addr} {root : Int} {qs : List PN} (h : LaK w wr kb A' n' C' root qs) (hb : Below wr.heap.size wr w') : LaK w w' kb A' n' C' root qs :=
  ⟨h.bk.below hb h.bk.lt, h.nk.up hb⟩

set_option maxRecDepth 20000 in
set_option maxHeartbeats 4000000 in
theorem puts_bad (A : Option Addr) (C : Nat) (ps : List PN) (root key : Int) (r : Ru) (c : Int) (w : World) (hN : NodesAt w.heap.size w A ps) (hwf : ∀ p ∈ ps, p.wf) (hF : putF (ps.map PN.nd) root key r = c) (h0 : c ≠ 0) :
    Calls Try.prog 7 #[.agg #[.slice A ps.length C, .int .i64 root], .int .i64 key, .agg #[.int .i64 r.c, .int .i64 r.s, .int .i64 r.lo, .int .i64 r.hi, .int .i64 r.t, .int .i64 r.l]] w fun e w' => e = .returned (.bool true) ∧ Below w.heap.size w w' := by
  have con1 := hideC fun W (hW : Below w.heap.size w W) => treeCopy_any A C root ps W (hN.up hW)
  have con2 : Hid (∀ (A' : Option Addr) (C' : Nat) (qs : List PN) (W : World), NodesAt W.heap.size W A' qs → qs.map PN.nd = ps.map PN.nd → Calls Try.prog 19 #[.agg #[.slice A' qs.length C', .int .i64 root], .int .i64 key, .agg #[.int .i64 r.c, .int .i64 r.s, .int .i64 r.lo, .int .i64 r.hi, .int .i64 r.t, .int .i64 r.l]] W fun e w' => e = .returned (.tuple #[.agg #[.slice none 0 0, .int .i64 0], .int .i64 c]) ∧ Below W.heap.size W w') := fun A' C' qs W h1 h2 => by
    have k := put_any A' C' root key r qs W h1 (wf_same h2 hwf)
    rw [h2, hF] at k
    refine k.mono fun e w' h => ?_
    rcases h with ⟨_, h⟩ | ⟨h, _⟩
    · exact h
    · exact absurd h h0
  have con3 := hideC fun W (hW : Below w.heap.size w W) => putFault_any A C root key r ps W (hN.up hW)
  rw [hF] at con3
  have con4 := hideC fun A' C' qs W (h1 : NodesAt W.heap.size W A' qs) (hW : Below w.heap.size w W) (h2 : qs.map PN.nd = ps.map PN.nd) => sameTree_eq A' A C' C root qs ps W h1 (hN.up hW) h2
  have hc' : (c != 0) = true := by simpa using h0
  have hc'' : (c == c) = true := by simp
  have HS := hideC (LaA.start w A ps.length C root r)
  clear hF hwf
  go_enter Try.func7, Try.ntmps7
  go_wp2_with (first
    | (go_at_call 18; refine (con1.out _ HS.out.below).mono ?_; rintro e w1 ⟨A1, C1, qs, rfl, hk1, hq1, hb1⟩; have H1 := hideC ((HS.out.next hb1).next ((Below.refl _ _).alloc (Nat.le_refl _) (.cells #[.slice A1 qs.length C1, .int .i64 root] 24))); have K1 : Hid (LaK w (w1.alloc (.cells #[.slice A1 qs.length C1, .int .i64 root] 24)) w1.heap.size A1 qs.length C1 root qs) := ⟨rowL_alloc w1 _ _, hk1.up ((Below.refl _ _).alloc (Nat.le_refl _) _)⟩; have HQ := hideC hq1; have r1 := fun j => (HS.out.next hb1).br.cell j; simp only [ruV] at r1; have l1 := (HS.out.next hb1).br.lt; clear hb1 hk1 hq1)
    | (go_at_call 19; refine (con2.out A1 C1 qs _ K1.out.nk HQ.out).mono ?_; rintro e w2 ⟨rfl, hb2⟩; have H2 := hideC ((H1.out.next hb2).next ((Below.refl _ _).alloc (Nat.le_refl _) (.cells #[.slice none 0 0, .int .i64 0] 24))); have K2 := hideC ((K1.out.next hb2).next ((Below.refl _ _).alloc (Nat.le_refl _) (.cells #[.slice none 0 0, .int .i64 0] 24))); have r2 := fun j => (H1.out.next hb2).br.cell j; simp only [ruV] at r2; have l2 := (H1.out.next hb2).br.lt; have t20 : w2.cell? ⟨w.heap.size, 0, none⟩ = some (.slice A ps.length C) := (H1.out.next hb2).bt.cell 0; have t21 : w2.cell? ⟨w.heap.size, 1, none⟩ = some (.int .i64 root) := (H1.out.next hb2).bt.cell 1; have lt2 := (H1.out.next hb2).bt.lt; clear hb2 r1)
    | (go_at_call 20; refine (con3.out _ H2.out.below).mono ?_; rintro e w3 ⟨rfl, hb3⟩; have H3 := hideC (H2.out.next hb3); have K3 := hideC (K2.out.next hb3); have a3 : w3.cell? ⟨w2.heap.size, 0, none⟩ = some (.slice none 0 0) := (hb3.cell (p := ⟨w2.heap.size, 0, none⟩) (by simp)).trans (by simp); have k30 : w3.cell? ⟨w1.heap.size, 0, none⟩ = some (.slice A1 qs.length C1) := K3.out.bk.cell 0; have k31 : w3.cell? ⟨w1.heap.size, 1, none⟩ = some (.int .i64 root) := K3.out.bk.cell 1; have t30 : w3.cell? ⟨w.heap.size, 0, none⟩ = some (.slice A ps.length C) := H3.out.bt.cell 0; have t31 : w3.cell? ⟨w.heap.size, 1, none⟩ = some (.int .i64 root) := H3.out.bt.cell 1; have al3 : w2.heap.size < w3.heap.size := Nat.lt_of_lt_of_le (by simp) hb3.size; clear hb3 r2 t20 t21)
    | (go_at_call 12; refine (con4.out A1 C1 qs _ K3.out.nk H3.out.below HQ.out).mono ?_; rintro e w4 ⟨rfl, hb4⟩; have H4 := hideC (H3.out.next hb4); have a4 : w4.cell? ⟨w2.heap.size, 0, none⟩ = some (.slice none 0 0) := (hb4.cell (p := ⟨w2.heap.size, 0, none⟩) al3).trans a3; clear hb4 k30 k31 t30 t31))
  go_ret
  exact ⟨rfl, H4.out.below⟩

/-- What Put answers, held against the document. -/
def PutHeld (ps : List PN) (ys : Option (List En)) (W : World) (e : Ending) (w' : World) : Prop :=
  Below W.heap.size W w' ∧ ((200 < ps.length ∧ e = .returned (.tuple #[.agg #[.slice none 0 0, .int .i64 0], .int .i64 1])) ∨
    ∃ g' C' qs' root2, e = .returned (.tuple #[.agg #[.slice (some ⟨g', 0, none⟩) qs'.length C', .int .i64 root2], .int .i64 0]) ∧ NodesAt w'.heap.size w' (some ⟨g', 0, none⟩) qs' ∧ treeC (qs'.map PN.nd) root2 = 0 ∧ ∀ y, ys = some y → allR 0 1099511627776 ((qs'.map PN.nd).flatMap Nd.lst) = some y)

theorem put_held (A' : Option Addr) (C' : Nat) (root key : Int) (r : Ru) (ps qs : List PN) (ys : Option (List En)) (W : World) (h1 : NodesAt W.heap.size W A' qs) (h2 : qs.map PN.nd = ps.map PN.nd) (hwf : ∀ p ∈ ps, p.wf) (hF : putF (ps.map PN.nd) root key r = 0) (hy : ∀ y, ys = some y → ∃ l, allR 0 1099511627776 ((ps.map PN.nd).flatMap Nd.lst) = some l ∧ ins l (mkE key r) = some y) :
    Calls Try.prog 19 #[.agg #[.slice A' qs.length C', .int .i64 root], .int .i64 key, .agg #[.int .i64 r.c, .int .i64 r.s, .int .i64 r.lo, .int .i64 r.hi, .int .i64 r.t, .int .i64 r.l]] W (PutHeld ps ys W) := by
  have k := put_any A' C' root key r qs W h1 (wf_same h2 hwf)
  rw [h2, hF] at k
  refine k.mono fun e w' h => ?_
  rcases h with ⟨h, _⟩ | ⟨_, hc, hto⟩
  · exact absurd rfl h
  · obtain ⟨ns2, root2, hok, hb, hres⟩ := hto.res
    refine ⟨hb, ?_⟩
    rcases hres with ⟨hgt, he⟩ | ⟨hle, g', C', qs', he, hnt, hq⟩
    · left
      have := hok.few
      simp only [List.length_map] at this
      exact ⟨by omega, he⟩
    · right
      refine ⟨g', C', qs', root2, he, hnt.nodes, by rw [hq]; exact hok.fine hle, fun y hyy => ?_⟩
      obtain ⟨l, hl, hi⟩ := hy y hyy
      obtain ⟨ys', hi', hR, _⟩ := put_knows hF hok hle hl
      rw [hq, hR]
      rw [hi] at hi'
      exact hi'.symm

set_option maxRecDepth 20000 in
set_option maxHeartbeats 4000000 in
theorem puts_none (A : Option Addr) (C : Nat) (ps : List PN) (root key : Int) (r : Ru) (w : World) (hN : NodesAt w.heap.size w A ps) (hwf : ∀ p ∈ ps, p.wf) (hF : putF (ps.map PN.nd) root key r = 0) (hR : allR 0 1099511627776 ((ps.map PN.nd).flatMap Nd.lst) = none) :
    Calls Try.prog 7 #[.agg #[.slice A ps.length C, .int .i64 root], .int .i64 key, .agg #[.int .i64 r.c, .int .i64 r.s, .int .i64 r.lo, .int .i64 r.hi, .int .i64 r.t, .int .i64 r.l]] w fun e w' => e = .returned (.bool true) ∧ Below w.heap.size w w' := by
  have hc := (putF_zero hF).1
  have con1 := hideC fun W (hW : Below w.heap.size w W) => treeCopy_any A C root ps W (hN.up hW)
  have con2 := hideC fun A' C' qs W (h1 : NodesAt W.heap.size W A' qs) (h2 : qs.map PN.nd = ps.map PN.nd) => put_held A' C' root key r ps qs none W h1 h2 hwf hF (fun _ h => by cases h)
  have con3 := hideC fun W (hW : Below w.heap.size w W) => putFault_any A C root key r ps W (hN.up hW)
  rw [hF] at con3
  have con4 := hideC fun A' C' qs W (h1 : NodesAt W.heap.size W A' qs) (hW : Below w.heap.size w W) (h2 : qs.map PN.nd = ps.map PN.nd) => sameTree_eq A' A C' C root qs ps W h1 (hN.up hW) h2
  have con7 := hideC fun W (h : 200 < ps.length) => large_any A C ps.length root W h
  have HS := hideC (LaA.start w A ps.length C root r)
  have con5 := hideC fun W (hW : Below w.heap.size w W) => allOf_no A C root ps W (hN.up hW) hc hR
  clear hF hwf hR hc
  go_enter Try.func7, Try.ntmps7
  go_wp2_with (first
    | (go_at_call 18; refine (con1.out _ HS.out.below).mono ?_; rintro e w1 ⟨A1, C1, qs, rfl, hk1, hq1, hb1⟩; have H1 := hideC ((HS.out.next hb1).next ((Below.refl _ _).alloc (Nat.le_refl _) (.cells #[.slice A1 qs.length C1, .int .i64 root] 24))); have K1 : Hid (LaK w (w1.alloc (.cells #[.slice A1 qs.length C1, .int .i64 root] 24)) w1.heap.size A1 qs.length C1 root qs) := ⟨rowL_alloc w1 _ _, hk1.up ((Below.refl _ _).alloc (Nat.le_refl _) _)⟩; have HQ := hideC hq1; have r1 := fun j => (HS.out.next hb1).br.cell j; simp only [ruV] at r1; have l1 := (HS.out.next hb1).br.lt; clear hb1 hk1 hq1)
    | (go_at_call 19; refine (con2.out A1 C1 qs _ K1.out.nk HQ.out).mono ?_; rintro e w2 ⟨hb2, hres⟩; have H2' := hideC (H1.out.next hb2); have K2' := hideC (K1.out.next hb2); have r2 := fun j => H2'.out.br.cell j; simp only [ruV] at r2; have l2 := H2'.out.br.lt; have t20 : w2.cell? ⟨w.heap.size, 0, none⟩ = some (.slice A ps.length C) := H2'.out.bt.cell 0; have t21 : w2.cell? ⟨w.heap.size, 1, none⟩ = some (.int .i64 root) := H2'.out.bt.cell 1; have lt2 := H2'.out.bt.lt; clear hb2 r1; rcases hres with ⟨hbig, rfl⟩ | ⟨g2, C2, qs2, root2, rfl, hn2, hc2, hy2⟩)
    | (go_at_call 20; refine (con3.out _ (H2'.out.next ((Below.refl _ _).alloc (Nat.le_refl _) _)).below).mono ?_; rintro e w3 ⟨rfl, hb3⟩; have H3 := hideC ((H2'.out.next ((Below.refl _ _).alloc (Nat.le_refl _) _)).next hb3); have K3 := hideC ((K2'.out.next ((Below.refl _ _).alloc (Nat.le_refl _) _)).next hb3); have ha3 := hideC ((rowL_alloc w2 _ _).below hb3 (by simp)); have k30 : w3.cell? ⟨w1.heap.size, 0, none⟩ = some (.slice A1 qs.length C1) := K3.out.bk.cell 0; have k31 : w3.cell? ⟨w1.heap.size, 1, none⟩ = some (.int .i64 root) := K3.out.bk.cell 1; have t30 : w3.cell? ⟨w.heap.size, 0, none⟩ = some (.slice A ps.length C) := H3.out.bt.cell 0; have t31 : w3.cell? ⟨w.heap.size, 1, none⟩ = some (.int .i64 root) := H3.out.bt.cell 1; have B23 := hideC (nextB ((Below.refl w2.heap.size w2).alloc (Nat.le_refl _) _) (Nat.le_refl _) hb3); clear hb3 r2 t20 t21)
    | (go_at_call 12; refine (con4.out A1 C1 qs _ K3.out.nk H3.out.below HQ.out).mono ?_; rintro e w4 ⟨rfl, hb4⟩; have H4 := hideC (H3.out.next hb4); have ha4 := hideC (ha3.out.below hb4 ha3.out.lt); have a40 := ha4.out.cell 0; simp only [List.getElem?_cons_zero] at a40; have t40 : w4.cell? ⟨w.heap.size, 0, none⟩ = some (.slice A ps.length C) := H4.out.bt.cell 0; have t41 : w4.cell? ⟨w.heap.size, 1, none⟩ = some (.int .i64 root) := H4.out.bt.cell 1; have B24 := hideC (nextB B23.out (Nat.le_refl _) hb4); clear hb4 k30 k31 t30 t31)
    | (go_at_call 21; refine (con7.out _ hbig).mono ?_; rintro e w5 ⟨rfl, hb5⟩; have a50 : w5.cell? ⟨w2.heap.size, 0, none⟩ = some (.slice none 0 0) := (hb5.cell (p := ⟨w2.heap.size, 0, none⟩) ha4.out.lt).trans a40; have H5 := hideC (H4.out.next hb5); clear hb5)
    | (go_at_call 14; refine (con5.out _ H4.out.below).mono ?_; rintro e w6 ⟨hb6, rfl⟩; have H6 := hideC (H4.out.next hb6); clear hb6))
  · go_ret
    exact ⟨rfl, H5.out.below⟩
  · go_ret
    exact ⟨rfl, H6.out.below⟩

set_option maxRecDepth 20000 in
set_option maxHeartbeats 4000000 in
theorem puts_some (A : Option Addr) (C : Nat) (ps : List PN) (root key : Int) (r : Ru) (l : List En) (w : World) (hN : NodesAt w.heap.size w A ps) (hwf : ∀ p ∈ ps, p.wf) (hF : putF (ps.map PN.nd) root key r = 0) (hR : allR 0 1099511627776 ((ps.map PN.nd).flatMap Nd.lst) = some l) :
    Calls Try.prog 7 #[.agg #[.slice A ps.length C, .int .i64 root], .int .i64 key, .agg #[.int .i64 r.c, .int .i64 r.s, .int .i64 r.lo, .int .i64 r.hi, .int .i64 r.t, .int .i64 r.l]] w fun e w' => e = .returned (.bool true) ∧ Below w.heap.size w w' := by
  obtain ⟨hc, hg, -⟩ := putF_zero hF
  obtain ⟨ys, hi, hgl, hll, hyl⟩ := put_ins hF hR
  have con1 := hideC fun W (hW : Below w.heap.size w W) => treeCopy_any A C root ps W (hN.up hW)
  have con2 := hideC fun A' C' qs W (h1 : NodesAt W.heap.size W A' qs) (h2 : qs.map PN.nd = ps.map PN.nd) => put_held A' C' root key r ps qs (some ys) W h1 h2 hwf hF (fun y hy => ⟨l, hR, by rw [← hy]; exact hi⟩)
  have con3 := hideC fun W (hW : Below w.heap.size w W) => putFault_any A C root key r ps W (hN.up hW)
  rw [hF] at con3
  have con4 := hideC fun A' C' qs W (h1 : NodesAt W.heap.size W A' qs) (hW : Below w.heap.size w W) (h2 : qs.map PN.nd = ps.map PN.nd) => sameTree_eq A' A C' C root qs ps W h1 (hN.up hW) h2
  have con7 := hideC fun W (h : 200 < ps.length) => large_any A C ps.length root W h
  have HS := hideC (LaA.start w A ps.length C root r)
  have con5 := hideC fun W (hW : Below w.heap.size w W) => allOf_ys A C root ps l W (hN.up hW) hc hR
  have con6 : Hid (∀ (A' : Option Addr) (C' : Nat) (W : World), RowAt W.heap.size W A' (flatE l) → Calls Try.prog 22 #[.slice A' l.length C', .agg #[.int .i64 key, .int .i64 r.c, .int .i64 r.s, .int .i64 r.lo, .int .i64 r.hi, .int .i64 r.t, .int .i64 r.l]] W fun e w' => Below W.heap.size W w' ∧ ∃ v, e = .returned (.tuple #[v, .int .i64 0]) ∧ w'.ownsRow W.heap.size 45 7 v ys.length (flatE ys)) := fun A' C' W h => by
    have k := withEntry_any A' C' l (mkE key r) W h (by omega) hgl hg
    rw [hi] at k
    exact k
  have con8 := hideC fun A' A2 C' C2 root2 qs' W hN hc (hy : ∀ y, some ys = some y → allR 0 1099511627776 ((qs'.map PN.nd).flatMap Nd.lst) = some y) h' => knows_ys A' A2 C' C2 root2 qs' ys W hN hc (hy ys rfl) h' (by omega)
  clear hF hwf hR hc hg hi hgl hll hyl
  go_enter Try.func7, Try.ntmps7
  go_wp2_with (first
    | (go_at_call 18; refine (con1.out _ HS.out.below).mono ?_; rintro e w1 ⟨A1, C1, qs, rfl, hk1, hq1, hb1⟩; have H1 := hideC ((HS.out.next hb1).next ((Below.refl _ _).alloc (Nat.le_refl _) (.cells #[.slice A1 qs.length C1, .int .i64 root] 24))); have K1 : Hid (LaK w (w1.alloc (.cells #[.slice A1 qs.length C1, .int .i64 root] 24)) w1.heap.size A1 qs.length C1 root qs) := ⟨rowL_alloc w1 _ _, hk1.up ((Below.refl _ _).alloc (Nat.le_refl _) _)⟩; have HQ := hideC hq1; have r1 := fun j => (HS.out.next hb1).br.cell j; simp only [ruV] at r1; have l1 := (HS.out.next hb1).br.lt; clear hb1 hk1 hq1)
    | (go_at_call 19; refine (con2.out A1 C1 qs _ K1.out.nk HQ.out).mono ?_; rintro e w2 ⟨hb2, hres⟩; have H2' := hideC (H1.out.next hb2); have K2' := hideC (K1.out.next hb2); have r2 := fun j => H2'.out.br.cell j; simp only [ruV] at r2; have l2 := H2'.out.br.lt; have t20 : w2.cell? ⟨w.heap.size, 0, none⟩ = some (.slice A ps.length C) := H2'.out.bt.cell 0; have t21 : w2.cell? ⟨w.heap.size, 1, none⟩ = some (.int .i64 root) := H2'.out.bt.cell 1; have lt2 := H2'.out.bt.lt; clear hb2 r1; rcases hres with ⟨hbig, rfl⟩ | ⟨g2, C2, qs2, root2, rfl, hn2, hc2, hy2⟩)
    | (go_at_call 20; refine (con3.out _ (H2'.out.next ((Below.refl _ _).alloc (Nat.le_refl _) _)).below).mono ?_; rintro e w3 ⟨rfl, hb3⟩; have H3 := hideC ((H2'.out.next ((Below.refl _ _).alloc (Nat.le_refl _) _)).next hb3); have K3 := hideC ((K2'.out.next ((Below.refl _ _).alloc (Nat.le_refl _) _)).next hb3); have ha3 := hideC ((rowL_alloc w2 _ _).below hb3 (by simp)); have k30 : w3.cell? ⟨w1.heap.size, 0, none⟩ = some (.slice A1 qs.length C1) := K3.out.bk.cell 0; have k31 : w3.cell? ⟨w1.heap.size, 1, none⟩ = some (.int .i64 root) := K3.out.bk.cell 1; have t30 : w3.cell? ⟨w.heap.size, 0, none⟩ = some (.slice A ps.length C) := H3.out.bt.cell 0; have t31 : w3.cell? ⟨w.heap.size, 1, none⟩ = some (.int .i64 root) := H3.out.bt.cell 1; have B23 := hideC (nextB ((Below.refl w2.heap.size w2).alloc (Nat.le_refl _) _) (Nat.le_refl _) hb3); clear hb3 r2 t20 t21)
    | (go_at_call 12; refine (con4.out A1 C1 qs _ K3.out.nk H3.out.below HQ.out).mono ?_; rintro e w4 ⟨rfl, hb4⟩; have H4 := hideC (H3.out.next hb4); have ha4 := hideC (ha3.out.below hb4 ha3.out.lt); have a40 := ha4.out.cell 0; simp only [List.getElem?_cons_zero] at a40; have t40 : w4.cell? ⟨w.heap.size, 0, none⟩ = some (.slice A ps.length C) := H4.out.bt.cell 0; have t41 : w4.cell? ⟨w.heap.size, 1, none⟩ = some (.int .i64 root) := H4.out.bt.cell 1; have B24 := hideC (nextB B23.out (Nat.le_refl _) hb4); clear hb4 k30 k31 t30 t31)
    | (go_at_call 21; refine (con7.out _ hbig).mono ?_; rintro e w5 ⟨rfl, hb5⟩; have a50 : w5.cell? ⟨w2.heap.size, 0, none⟩ = some (.slice none 0 0) := (hb5.cell (p := ⟨w2.heap.size, 0, none⟩) ha4.out.lt).trans a40; have H5 := hideC (H4.out.next hb5); clear hb5)
    | (go_at_call 14; refine (con5.out _ H4.out.below).mono ?_; rintro e w6 ⟨hb6, v6, rfl, ho6⟩; have H6 := hideC (H4.out.next hb6); obtain ⟨A6, C6, rfl, -, -, -, hr6⟩ := own_row ho6; have HR6 := hideC hr6; have r6 := fun j => H6.out.br.cell j; simp only [ruV] at r6; have B26 := hideC (nextB B24.out (Nat.le_refl _) hb6); have ha6 := hideC (ha4.out.below hb6 ha4.out.lt); clear hb6 ho6 hr6)
    | (go_at_call 22; refine (con6.out A6 C6 _ HR6.out).mono ?_; rintro e w7 ⟨hb7, v7, rfl, ho7⟩; have H7 := hideC (H6.out.next hb7); obtain ⟨A7, C7, rfl, -, -, -, hr7⟩ := own_row ho7; have HR7 := hideC hr7; have ha7 := hideC (ha6.out.below hb7 ha6.out.lt); have a70 := ha7.out.cell 0; have a71 := ha7.out.cell 1; simp only [List.getElem?_cons_zero, List.getElem?_cons_succ] at a70 a71; have N7 := hideC (hn2.up (nextB B26.out (Nat.le_refl _) hb7)); clear hb7 ho7 hr7 r6)
    | (go_at_call 23; refine (con8.out _ _ _ _ _ _ _ N7.out hc2 hy2 HR7.out).mono ?_; rintro e w8 ⟨rfl, hb8⟩; have H8 := hideC (H7.out.next hb8); clear hb8))
  · go_ret
    exact ⟨rfl, H5.out.below⟩
  · go_ret
    exact ⟨rfl, H8.out.below⟩

end Go.Proofs.Ytlojfgdpmaigmab
