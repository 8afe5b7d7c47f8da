/- The walk of Put: what it refuses. -/
import Derived.Test.YtlojfgdpmaigmacP16
import Derived.Test.YtlojfgdpmaigmacP05
import Derived.Test.YtlojfgdpmaigmacP14
import Derived.Test.YtlojfgdpmaigmacP13
import Derived.Test.YtlojfgdpmaigmacP06
import Derived.Maps.Views
import Derived.Maps.OwnSet
import Derived.Maps.OwnOps
import Derived.Test.YtlojfgdpmaigmacP01
import Derived.Test.YtlojfgdpmaigmacRows
import Derived.WalkKit
import Derived.WalkSpells
import Derived.WalkLawsBesides
import Derived.Deep.DeepCutAuto
namespace Go.Proofs.Ytlojfgdpmaigmac
open Go.RowKit Plain Go.Shelf

def noTree (c : Int) : Value := .tuple #[.agg #[.slice none 0 0, .int .i64 0], .int .i64 c]

/-- What Put refuses: 0, if nothing. -/
def putF (ns : List Nd) (root key : Int) (r : Ru) : Int :=
  if treeC ns root ≠ 0 then treeC ns root else if entC (mkE key r) ≠ 0 then entC (mkE key r)
  else if ((Wl ns key (key + 1) 12 root).foldl stepK (zro, 0)).2 ≠ 0 then ((Wl ns key (key + 1) 12 root).foldl stepK (zro, 0)).2
  else (mrg ((Wl ns key (key + 1) 12 root).foldl stepK (zro, 0)).1 r).2

set_option maxRecDepth 20000 in
set_option maxHeartbeats 4000000 in
theorem put_bad1 (A : Option Addr) (C : Nat) (root key c : Int) (r : Ru) (ps : List PN) (w : World) (hN : NodesAt w.heap.size w A ps) (hwf : ∀ p ∈ ps, p.wf) (hc : treeC (ps.map PN.nd) root = c) (h0 : c ≠ 0) :
    Calls Try.prog 15 #[.agg #[.slice A ps.length C, .int .i64 root], .int .i64 key, .agg #[.int .i64 r.c, .int .i64 r.s, .int .i64 r.lo, .int .i64 r.hi, .int .i64 r.t, .int .i64 r.l]] w fun e w' => e = .returned (noTree c) ∧ Below w.heap.size w w' := by
  have con1 := hideC fun W (hW : Below w.heap.size w W) => checkT_any A C root ps W (hN.up hW) hwf
  rw [hc] at con1
  have hc' : (c != 0) = true := by simpa using h0
  have hc'' : (c == 0) = false := by simpa using h0
  have HS := hideC (PuA.start w A ps.length C root r)
  clear hc hwf
  go_enter Try.func15, Try.ntmps15
  go_wp2_with (first
    | (go_at_call 9; refine (con1.out _ HS.out.below).mono ?_; rintro e w1 ⟨rfl, hb1⟩; have H1 := hideC (HS.out.next hb1); have o0 : w1.cell? ⟨w.heap.size + 1 + 1, 0, none⟩ = some (.slice none 0 0) := H1.out.bo.cell 0; have o1 : w1.cell? ⟨w.heap.size + 1 + 1, 1, none⟩ = some (.int .i64 0) := H1.out.bo.cell 1; have of : ∀ j, w1.frozen? ⟨w.heap.size + 1 + 1, j, none⟩ = false := fun j => H1.out.bo.frozen j; clear hb1))
  exact bodyPost_ret (v := noTree c) (by simp [noTree, results, Try.results15, go_sem, o0, o1]) rfl ⟨rfl, (H1.out.below.setCell (by show w.heap.size ≤ w.heap.size + 1 + 1; omega) _).setCell (by show w.heap.size ≤ w.heap.size + 1 + 1; omega) _⟩

set_option maxRecDepth 20000 in
set_option maxHeartbeats 4000000 in
theorem put_bad2 (A : Option Addr) (C : Nat) (root key c : Int) (r : Ru) (ps : List PN) (w : World) (hN : NodesAt w.heap.size w A ps) (hwf : ∀ p ∈ ps, p.wf) (hc : treeC (ps.map PN.nd) root = 0) (he : entC (mkE key r) = c) (h0 : c ≠ 0) :
    Calls Try.prog 15 #[.agg #[.slice A ps.length C, .int .i64 root], .int .i64 key, .agg #[.int .i64 r.c, .int .i64 r.s, .int .i64 r.lo, .int .i64 r.hi, .int .i64 r.t, .int .i64 r.l]] w fun e w' => e = .returned (noTree c) ∧ Below w.heap.size w w' := by
  have con1 := hideC fun W (hW : Below w.heap.size w W) => checkT_any A C root ps W (hN.up hW) hwf
  have con2 := hideC fun W => checkEntry_any key r.c r.s r.lo r.hi r.t r.l W
  rw [hc] at con1
  rw [show entC ⟨key, r.c, r.s, r.lo, r.hi, r.t, r.l⟩ = c from he] at con2
  have hc' : (c != 0) = true := by simpa using h0
  have hc'' : (c == 0) = false := by simpa using h0
  have HS := hideC (PuA.start w A ps.length C root r)
  clear hc hwf he
  go_enter Try.func15, Try.ntmps15
  go_wp2_with (first
    | (go_at_call 9; refine (con1.out _ HS.out.below).mono ?_; rintro e w1 ⟨rfl, hb1⟩; have H1 := hideC (HS.out.next hb1); have r1 := fun j => H1.out.br.cell j; simp only [ruV] at r1; clear hb1)
    | (go_at_call 28; refine (con2.out _).mono ?_; rintro e w2 ⟨rfl, hb2⟩; have H2 := hideC (H1.out.next hb2); have o0 : w2.cell? ⟨w.heap.size + 1 + 1, 0, none⟩ = some (.slice none 0 0) := H2.out.bo.cell 0; have o1 : w2.cell? ⟨w.heap.size + 1 + 1, 1, none⟩ = some (.int .i64 0) := H2.out.bo.cell 1; have of : ∀ j, w2.frozen? ⟨w.heap.size + 1 + 1, j, none⟩ = false := fun j => H2.out.bo.frozen j; clear hb2 r1))
  exact bodyPost_ret (v := noTree c) (by simp [noTree, results, Try.results15, go_sem, o0, o1]) rfl ⟨rfl, (H2.out.below.setCell (by show w.heap.size ≤ w.heap.size + 1 + 1; omega) _).setCell (by show w.heap.size ≤ w.heap.size + 1 + 1; omega) _⟩

set_option maxRecDepth 20000 in
set_option maxHeartbeats 4000000 in
theorem put_bad3 (A : Option Addr) (C : Nat) (root key : Int) (r : Ru) (ps : List PN) (s : Ru × Int) (w : World) (hN : NodesAt w.heap.size w A ps) (hwf : ∀ p ∈ ps, p.wf) (hc : treeC (ps.map PN.nd) root = 0) (he : entC (mkE key r) = 0) (hk : 0 ≤ key ∧ key ≤ 1099511627775) (hs : (Wl (ps.map PN.nd) key (key + 1) 12 root).foldl stepK (zro, 0) = s) (h0 : s.2 ≠ 0) :
    Calls Try.prog 15 #[.agg #[.slice A ps.length C, .int .i64 root], .int .i64 key, .agg #[.int .i64 r.c, .int .i64 r.s, .int .i64 r.lo, .int .i64 r.hi, .int .i64 r.t, .int .i64 r.l]] w fun e w' => e = .returned (noTree s.2) ∧ Below w.heap.size w w' := by
  have hreach : Reach (ps.map PN.nd) 12 root := by
    obtain ⟨q, hW⟩ := treeC_W hc
    exact W_reach _ _ _ _ _ _ hW
  have con1 := hideC fun W (hW : Below w.heap.size w W) => checkT_any A C root ps W (hN.up hW) hwf
  have con2 := hideC fun W => checkEntry_any key r.c r.s r.lo r.hi r.t r.l W
  have con3 := hideC fun W (hW : Below w.heap.size w W) => knownAt_any A C root root key ps W (hN.up hW) hreach hk s hs
  rw [hc] at con1
  rw [show entC ⟨key, r.c, r.s, r.lo, r.hi, r.t, r.l⟩ = 0 from he] at con2
  generalize s.1 = s1 at con3
  generalize s.2 = c at con3 h0 ⊢
  have hc' : (c != 0) = true := by simpa using h0
  have hc'' : (c == 0) = false := by simpa using h0
  have HS := hideC (PuA.start w A ps.length C root r)
  clear hc hwf he hs hreach
  go_enter Try.func15, Try.ntmps15
  go_wp2_with (first
    | (go_at_call 9; refine (con1.out _ HS.out.below).mono ?_; rintro e w1 ⟨rfl, hb1⟩; have H1 := hideC (HS.out.next hb1); have r1 := fun j => H1.out.br.cell j; simp only [ruV] at r1; clear hb1)
    | (go_at_call 28; refine (con2.out _).mono ?_; rintro e w2 ⟨rfl, hb2⟩; have H2 := hideC (H1.out.next hb2); have t0 : w2.cell? ⟨w.heap.size, 0, none⟩ = some (.slice A ps.length C) := H2.out.bt.cell 0; have t1 : w2.cell? ⟨w.heap.size, 1, none⟩ = some (.int .i64 root) := H2.out.bt.cell 1; clear hb2 r1)
    | (go_at_call 18; refine (con3.out _ H2.out.below).mono ?_; rintro e w3 ⟨rfl, hb3⟩; have H3 := hideC (H2.out.next hb3); have o0 : w3.cell? ⟨w.heap.size + 1 + 1, 0, none⟩ = some (.slice none 0 0) := H3.out.bo.cell 0; have o1 : w3.cell? ⟨w.heap.size + 1 + 1, 1, none⟩ = some (.int .i64 0) := H3.out.bo.cell 1; have of : ∀ j, w3.frozen? ⟨w.heap.size + 1 + 1, j, none⟩ = false := fun j => H3.out.bo.frozen j; have l3 : w.heap.size + 1 + 1 < w3.heap.size := H3.out.bo.lt; have hs3 := H3.out.below.size; clear hb3 t0 t1))
  exact bodyPost_ret (v := noTree c) (by simp [noTree, results, Try.results15, go_sem, o0, o1, l3]) rfl ⟨rfl, ((H3.out.below.setCell (by show w.heap.size ≤ w.heap.size + 1 + 1; omega) _).setCell (by show w.heap.size ≤ w.heap.size + 1 + 1; omega) _).alloc (by simp; omega) _⟩

end Go.Proofs.Ytlojfgdpmaigmac

/- The walk of Put: all of it. -/
namespace Go.Proofs.Ytlojfgdpmaigmac
open Go.RowKit Plain Go.Shelf

set_option maxRecDepth 20000 in
set_option maxHeartbeats 4000000 in
theorem put_bad4 (A : Option Addr) (C : Nat) (root key : Int) (r : Ru) (ps : List PN) (s : Ru × Int) (w : World) (hN : NodesAt w.heap.size w A ps) (hwf : ∀ p ∈ ps, p.wf) (hc : treeC (ps.map PN.nd) root = 0) (he : entC (mkE key r) = 0) (hk : 0 ≤ key ∧ key ≤ 1099511627775) (hs : (Wl (ps.map PN.nd) key (key + 1) 12 root).foldl stepK (zro, 0) = s) (hs2 : s.2 = 0) (c : Int) (hm : (mrg s.1 r).2 = c) (h0 : c ≠ 0) :
    Calls Try.prog 15 #[.agg #[.slice A ps.length C, .int .i64 root], .int .i64 key, .agg #[.int .i64 r.c, .int .i64 r.s, .int .i64 r.lo, .int .i64 r.hi, .int .i64 r.t, .int .i64 r.l]] w fun e w' => e = .returned (noTree c) ∧ Below w.heap.size w w' := by
  have hreach : Reach (ps.map PN.nd) 12 root := by
    obtain ⟨q, hW⟩ := treeC_W hc
    exact W_reach _ _ _ _ _ _ hW
  have con1 := hideC fun W (hW : Below w.heap.size w W) => checkT_any A C root ps W (hN.up hW) hwf
  have con2 := hideC fun W => checkEntry_any key r.c r.s r.lo r.hi r.t r.l W
  have con3 := hideC fun W (hW : Below w.heap.size w W) => knownAt_any A C root root key ps W (hN.up hW) hreach hk s hs
  have con4 := hideC fun W => merge_any s.1 r W
  rw [hc] at con1
  rw [show entC ⟨key, r.c, r.s, r.lo, r.hi, r.t, r.l⟩ = 0 from he] at con2
  rw [hs2] at con3
  rw [hm] at con4
  generalize (mrg s.1 r).1 = m1 at con4
  generalize s.1 = s1 at con3 con4
  have hc' : (c != 0) = true := by simpa using h0
  have hc'' : (c == 0) = false := by simpa using h0
  have HS := hideC (PuA.start w A ps.length C root r)
  clear hs hs2 hm he hreach hc hwf
  go_enter Try.func15, Try.ntmps15
  go_wp2_with (first
    | (go_at_call 9; refine (con1.out _ HS.out.below).mono ?_; rintro e w1 ⟨rfl, hb1⟩; have H1 := hideC (HS.out.next hb1); have r1 := fun j => H1.out.br.cell j; simp only [ruV] at r1; clear hb1)
    | (go_at_call 28; refine (con2.out _).mono ?_; rintro e w2 ⟨rfl, hb2⟩; have H2 := hideC (H1.out.next hb2); have t0 : w2.cell? ⟨w.heap.size, 0, none⟩ = some (.slice A ps.length C) := H2.out.bt.cell 0; have t1 : w2.cell? ⟨w.heap.size, 1, none⟩ = some (.int .i64 root) := H2.out.bt.cell 1; clear hb2 r1)
    | (go_at_call 18; refine (con3.out _ H2.out.below).mono ?_; rintro e w3 ⟨rfl, hb3⟩; have H3 := hideC (H2.out.next hb3); have r3 := fun j => H3.out.br.cell j; simp only [ruV] at r3; have l3 := H3.out.br.lt; clear hb3 t0 t1)
    | (go_at_call 16; refine (con4.out _).mono ?_; rintro e w4 ⟨rfl, hb4⟩; have H4 := hideC ((H3.out.next ((Below.refl _ _).alloc (Nat.le_refl _) _)).next hb4); have o0 : w4.cell? ⟨w.heap.size + 1 + 1, 0, none⟩ = some (.slice none 0 0) := H4.out.bo.cell 0; have o1 : w4.cell? ⟨w.heap.size + 1 + 1, 1, none⟩ = some (.int .i64 0) := H4.out.bo.cell 1; have of : ∀ j, w4.frozen? ⟨w.heap.size + 1 + 1, j, none⟩ = false := fun j => H4.out.bo.frozen j; have l4 : w.heap.size + 1 + 1 < w4.heap.size := H4.out.bo.lt; have hs4 := H4.out.below.size; clear hb4 r3))
  exact bodyPost_ret (v := noTree c) (by simp [noTree, results, Try.results15, go_sem, o0, o1, l4]) rfl ⟨rfl, ((H4.out.below.setCell (by show w.heap.size ≤ w.heap.size + 1 + 1; omega) _).setCell (by show w.heap.size ≤ w.heap.size + 1 + 1; omega) _).alloc (by simp; omega) _⟩

theorem entC_good {key : Int} {r : Ru} (h : entC (mkE key r) = 0) : (0 ≤ key ∧ key ≤ 1099511627775) ∧ Good r ∧ entB (mkE key r) 0 1099511627776 = true := by
  unfold entC at h
  split at h
  · rename_i hc
    obtain ⟨h1, h2⟩ := hc
    have hk := (inB_iff _ _ _).1 h1
    have hk' : 0 ≤ key ∧ key ≤ 1099511627775 := hk
    have hg : Good r := ⟨h, h2⟩
    exact ⟨hk', hg, entB_iff.2 ⟨⟨hk'.1, by show key < 1099511627776; omega⟩, by rw [mkE_ru]; exact hg⟩⟩
  · omega

/-- What is known of a key comes together with one more: there is room for both. -/
theorem put_cnt {ns : List Nd} {root key : Int} {r : Ru} {s : Ru × Int} (hc : treeC ns root = 0) (hg : Good r) (hs : (Wl ns key (key + 1) 12 root).foldl stepK (zro, 0) = s) (hs2 : s.2 = 0) (hm : (mrg s.1 r).2 = 0) : cntK key (ns.flatMap cont) + r.c ≤ 1073741824 := by
  obtain ⟨_, f2, _⟩ := cont_few hc
  have gr := (good_iff.1 hg).1
  rcases treeC_sub hc with ⟨h, P, hsub, hp⟩ | ⟨he, rfl⟩
  · obtain ⟨a, b⟩ := known_cnt hsub (height_lt hsub hp f2) hs
    rw [← cntK_perm (cP_all hp), ← b hs2]
    rcases a with rfl | ⟨h1, _⟩ | h1
    · show (0 : Int) + r.c ≤ _
      omega
    · rw [mrg_good h1 hg] at hm
      split at hm
      · assumption
      · cases hm
    · exact absurd hs2 h1
  · rw [he]
    have : cntK key (([leafOf []] : List Nd).flatMap cont) = 0 := by simp [cont, leafOf, cntK]
    rw [this]
    omega

theorem put_any (A : Option Addr) (C : Nat) (root key : Int) (r : Ru) (ps : List PN) (w : World) (hN : NodesAt w.heap.size w A ps) (hwf : ∀ p ∈ ps, p.wf) :
    Calls Try.prog 15 #[.agg #[.slice A ps.length C, .int .i64 root], .int .i64 key, .agg #[.int .i64 r.c, .int .i64 r.s, .int .i64 r.lo, .int .i64 r.hi, .int .i64 r.t, .int .i64 r.l]] w
      fun e w' => (putF (ps.map PN.nd) root key r ≠ 0 ∧ e = .returned (noTree (putF (ps.map PN.nd) root key r)) ∧ Below w.heap.size w w') ∨ (putF (ps.map PN.nd) root key r = 0 ∧ treeC (ps.map PN.nd) root = 0 ∧ PutTo (ps.map PN.nd) (mkE key r) w e w') := by
  unfold putF
  by_cases hc : treeC (ps.map PN.nd) root = 0
  · rw [if_neg (by simpa using hc)]
    by_cases he : entC (mkE key r) = 0
    · rw [if_neg (by simpa using he)]
      obtain ⟨hk, hg, hx⟩ := entC_good he
      obtain ⟨s, hs⟩ : ∃ s, (Wl (ps.map PN.nd) key (key + 1) 12 root).foldl stepK (zro, 0) = s := ⟨_, rfl⟩
      rw [hs]
      by_cases h2 : s.2 = 0
      · rw [if_neg (by simpa using h2)]
        by_cases hm : (mrg s.1 r).2 = 0
        · refine (put_ok A C root key r ps s w hN hwf hc he hk hs h2 hm hx (put_cnt hc hg hs h2 hm)).mono ?_
          intro e w' h
          exact .inr ⟨hm, hc, h⟩
        · refine (put_bad4 A C root key r ps s w hN hwf hc he hk hs h2 _ rfl hm).mono ?_
          intro e w' h
          exact .inl ⟨hm, h⟩
      · rw [if_pos h2]
        refine (put_bad3 A C root key r ps s w hN hwf hc he hk hs h2).mono ?_
        intro e w' h
        exact .inl ⟨h2, h⟩
    · rw [if_pos he]
      refine (put_bad2 A C root key _ r ps w hN hwf hc rfl he).mono ?_
      intro e w' h
      exact .inl ⟨he, h⟩
  · rw [if_pos hc]
    refine (put_bad1 A C root key _ r ps w hN hwf rfl hc).mono ?_
    intro e w' h
    exact .inl ⟨hc, h⟩

end Go.Proofs.Ytlojfgdpmaigmac

/- The document's PutFault. -/
namespace Go.Proofs.Ytlojfgdpmaigmac
open Go.RowKit Plain Go.Shelf

structure PfA (w wr : World) (A : Option Addr) (n C : Nat) (root : Int) (r : Ru) : Prop where
  below : Below w.heap.size w wr
  bt : RowL wr w.heap.size 26 [.slice A n C, .int .i64 root]
  br : RowL wr (w.heap.size + 1) 31 (ruV r)

theorem PfA.next {w wr w' : World} {A : Option Addr} {n C : Nat} {root : Int} {r : Ru} (h : PfA w wr A n C root r) (hb : Below wr.heap.size wr w') : PfA w w' A n C root r :=
  ⟨nextB h.below (Nat.le_refl _) hb, h.bt.below hb h.bt.lt, h.br.below hb h.br.lt⟩

theorem PfA.start (w : World) (A : Option Addr) (n C : Nat) (root : Int) (r : Ru) : PfA w ((w.alloc (.cells #[.slice A n C, .int .i64 root] 26)).alloc (.cells (ruV r).toArray 31)) A n C root r := by
  have s1 : (w.alloc (.cells #[.slice A n C, .int .i64 root] 26)).heap.size = w.heap.size + 1 := by simp
  have r0 : RowL (w.alloc (.cells #[.slice A n C, .int .i64 root] 26)) w.heap.size 26 [.slice A n C, .int .i64 root] := rowL_alloc w _ _
  have r1 := rowL_alloc (w.alloc (.cells #[.slice A n C, .int .i64 root] 26)) (ruV r) 31
  rw [s1] at r1
  exact ⟨((Below.refl _ _).alloc (Nat.le_refl _) _).alloc (by omega) _, r0.of_block (Below.heap_alloc _ _ _ (by omega)), r1⟩

end Go.Proofs.Ytlojfgdpmaigmac

/- What Put's tree knows, held against the document's entries with one more: in plain terms. -/
namespace Go.Proofs.Ytlojfgdpmaigmac
open Go.RowKit Plain

theorem ins_cnt {x : En} {k : Int} : ∀ {l r : List En}, ins l x = some r → cntK k r = cntK k l + (if x.key = k then x.c else 0)
  | [], r, h => by
    simp [ins] at h
    subst h
    simp [cntK]
  | y :: l, r, h => by
    simp only [ins] at h
    split at h
    · cases h
      simp only [cntK]
      omega
    · split at h
      · rename_i hk
        split at h
        · cases h
          have e1 : (mkE x.key (jn y.ru x.ru)).key = x.key := rfl
          have e2 : (mkE x.key (jn y.ru x.ru)).c = y.c + x.c := rfl
          simp only [cntK, e1, e2, hk]
          split <;> omega
        · cases h
      · cases hr : ins l x with
        | none => rw [hr] at h; cases h
        | some q =>
          rw [hr] at h
          cases h
          have ih := ins_cnt (k := k) hr
          simp only [cntK]
          omega

theorem ins_none {x : En} : ∀ {l : List En}, Pos l → ins l x = none → 1073741824 < cntK x.key l + x.c
  | [], _, h => by simp [ins] at h
  | y :: l, hp, h => by
    have hl : Pos l := fun z hz => hp z (List.mem_cons_of_mem _ hz)
    have hn := cntK_nn (k := x.key) hl
    simp only [ins] at h
    split at h
    · cases h
    · split at h
      · rename_i hk
        split at h
        · cases h
        · simp only [cntK, hk, if_true]
          omega
      · rename_i hk
        cases hr : ins l x with
        | none =>
          have ih := ins_none hl hr
          simp only [cntK, hk, if_false]
          omega
        | some q => rw [hr] at h; cases h

theorem fold_facts : ∀ (xs l l' : List En), (∀ y ∈ l, Good y.ru) → (∀ y ∈ xs, Good y.ru) → xs.foldl insO (some l) = some l' → (∀ y ∈ l', Good y.ru) ∧ l'.length ≤ l.length + xs.length ∧ ∀ k, cntK k l' = cntK k l + cntK k xs
  | [], l, l', hl, _, h => by
    simp only [List.foldl_nil, Option.some.injEq] at h
    subst h
    exact ⟨hl, by simp, fun k => by simp [cntK]⟩
  | x :: xs, l, l', hl, hx, h => by
    simp only [List.foldl_cons, insO, Option.bind_some] at h
    cases hi : ins l x with
    | none => rw [hi] at h; exact absurd h (by rw [fold_none]; simp)
    | some q =>
      rw [hi] at h
      obtain ⟨g1, g2⟩ := ins_good (hx x List.mem_cons_self) hl hi
      obtain ⟨a, b, c⟩ := fold_facts xs q l' g1 (fun y hy => hx y (List.mem_cons_of_mem _ hy)) h
      refine ⟨a, by simp only [List.length_cons]; omega, fun k => ?_⟩
      have := ins_cnt (k := k) hi
      rw [c k, this]
      simp only [cntK]
      omega

theorem allL_facts {xs l : List En} (hx : ∀ y ∈ xs, Good y.ru) (h : allL xs = some l) : (∀ y ∈ l, Good y.ru) ∧ l.length ≤ xs.length ∧ ∀ k, cntK k l = cntK k xs := by
  obtain ⟨a, b, c⟩ := fold_facts xs [] l (by simp) hx h
  exact ⟨a, by simpa using b, fun k => by simpa [cntK] using c k⟩

theorem good_pos {l : List En} (h : ∀ y ∈ l, Good y.ru) : Pos l := fun y hy => (good_iff.1 (h y hy)).1.1

/-- What a tree that may be knows lies within the keys. -/
theorem tree_in {ns : List Nd} {root : Int} (h : treeC ns root = 0) : ∀ y ∈ ns.flatMap cont, (0 ≤ y.key ∧ y.key < 1099511627776) ∧ Good y.ru := by
  rcases treeC_sub h with ⟨ht, P, hs, hp⟩ | ⟨he, rfl⟩
  · intro y hy
    exact Sub_cont ht _ _ _ _ hs y ((cP_all hp).mem_iff.2 hy)
  · rw [he]
    simp [cont, leafOf]

theorem allR_all {ns : List Nd} {root : Int} (h : treeC ns root = 0) : allR 0 1099511627776 (ns.flatMap Nd.lst) = allL (ns.flatMap cont) := by
  have hin := tree_in h
  have hf : ∀ x ∈ ns.flatMap Nd.lst, inR 0 1099511627776 x = true := by
    intro x hx
    have := (hin x (lst_cont.mem_iff.1 hx)).1
    simp [inR]
    omega
  unfold allR
  rw [List.filter_eq_self.2 hf]
  exact allL_perm lst_cont fun x hx => (good_iff.1 (hin x (lst_cont.mem_iff.1 hx)).2).1.1

theorem putF_zero {ns : List Nd} {root key : Int} {r : Ru} (h : putF ns root key r = 0) : treeC ns root = 0 ∧ Good r ∧ (0 ≤ key ∧ key ≤ 1099511627775) ∧ cntK key (ns.flatMap cont) + r.c ≤ 1073741824 := by
  unfold putF at h
  by_cases hc : treeC ns root = 0
  · rw [if_neg (by simpa using hc)] at h
    by_cases he : entC (mkE key r) = 0
    · rw [if_neg (by simpa using he)] at h
      obtain ⟨hk, hg, _⟩ := entC_good he
      by_cases h2 : ((Wl ns key (key + 1) 12 root).foldl stepK (zro, 0)).2 = 0
      · rw [if_neg (by simpa using h2)] at h
        exact ⟨hc, hg, hk, put_cnt hc hg rfl h2 h⟩
      · rw [if_pos h2] at h
        exact absurd h h2
    · rw [if_pos he] at h
      exact absurd h he
  · rw [if_pos hc] at h
    exact absurd h hc

theorem put_knows {ns ns2 : List Nd} {root root2 key : Int} {r : Ru} {l : List En} (hF : putF ns root key r = 0) (hok : PutOk ns ns2 root2 (mkE key r)) (hz : ns2.length ≤ 2000) (hl : allR 0 1099511627776 (ns.flatMap Nd.lst) = some l) :
    ∃ ys, ins l (mkE key r) = some ys ∧ allR 0 1099511627776 (ns2.flatMap Nd.lst) = some ys ∧ (∀ y ∈ l, Good y.ru) ∧ l.length ≤ 28000 ∧ ys.length ≤ 28001 := by
  obtain ⟨hc, hg, hk, hcnt⟩ := putF_zero hF
  have hin := tree_in hc
  have hgs : ∀ y ∈ ns.flatMap cont, Good y.ru := fun y hy => (hin y hy).2
  obtain ⟨f1, f2, _⟩ := cont_few hc
  rw [allR_all hc] at hl
  obtain ⟨a, b, c⟩ := allL_facts hgs hl
  have hx : Good (mkE key r).ru := hg
  have e : allR 0 1099511627776 (ns2.flatMap Nd.lst) = ins l (mkE key r) := by
    rw [allR_all (hok.fine hz), ← hok.eqv.eq, allL_perm (l₁ := mkE key r :: ns.flatMap cont) (l₂ := ns.flatMap cont ++ [mkE key r]) (List.perm_append_comm (l₁ := [mkE key r])) hok.eqv.posl, allL_snoc, hl]
    rfl
  cases hi : ins l (mkE key r) with
  | none =>
    have := ins_none (good_pos a) hi
    rw [c] at this
    have e1 : (mkE key r).key = key := rfl
    have e2 : (mkE key r).c = r.c := rfl
    rw [e1, e2] at this
    omega
  | some ys =>
    obtain ⟨_, g2⟩ := ins_good hx a hi
    exact ⟨ys, rfl, by rw [e, hi], a, by omega, by omega⟩

theorem put_ins {ns : List Nd} {root key : Int} {r : Ru} {l : List En} (hF : putF ns root key r = 0) (hl : allR 0 1099511627776 (ns.flatMap Nd.lst) = some l) :
    ∃ ys, ins l (mkE key r) = some ys ∧ (∀ y ∈ l, Good y.ru) ∧ l.length ≤ 28000 ∧ ys.length ≤ 28001 := by
  obtain ⟨hc, hg, hk, hcnt⟩ := putF_zero hF
  have hgs : ∀ y ∈ ns.flatMap cont, Good y.ru := fun y hy => (tree_in hc y hy).2
  obtain ⟨f1, f2, _⟩ := cont_few hc
  rw [allR_all hc] at hl
  obtain ⟨a, b, c⟩ := allL_facts hgs hl
  cases hi : ins l (mkE key r) with
  | none =>
    have := ins_none (good_pos a) hi
    rw [c] at this
    have e1 : (mkE key r).key = key := rfl
    have e2 : (mkE key r).c = r.c := rfl
    rw [e1, e2] at this
    omega
  | some ys =>
    obtain ⟨_, g2⟩ := ins_good (x := mkE key r) hg a hi
    exact ⟨ys, rfl, a, by omega, by omega⟩

end Go.Proofs.Ytlojfgdpmaigmac

/- What comes of a list of entries whose keys do not fall, gone through once; and what a tree's walk hands to it. -/
namespace Go.Proofs.Ytlojfgdpmaigmac
open Go.RowKit Plain

theorem ins_end {x : En} {l : List En} (h : ∀ z ∈ l, z.key < x.key) : ins l x = some (l ++ [x]) := by
  have := ins_app (x := x) [] h
  simpa [ins] using this

theorem ins_last {x y : En} {l : List En} (h : ∀ z ∈ l, z.key < x.key) (hy : y.key = x.key) : ins (l ++ [y]) x = if y.c + x.c ≤ 1073741824 then some (l ++ [mkE x.key (jn y.ru x.ru)]) else none := by
  rw [ins_app _ h, ins_eq hy]
  split <;> simp

/-- What is out so far, of the first i of xs. -/
structure Brg (xs : List En) (i : Nat) (out : List En) : Prop where
  is : allL (xs.take i) = some out
  inc : out.Pairwise fun a b => a.key < b.key
  up : ∀ z ∈ out, ∀ x ∈ xs.drop i, z.key ≤ x.key
  good : ∀ z ∈ out, Good z.ru
  len : out.length ≤ i

theorem brg_start (xs : List En) : Brg xs 0 [] := ⟨by simp [allL], by simp, by simp, by simp, by simp⟩

theorem drop_mem {xs : List En} {i : Nat} {x : En} (h : x ∈ xs.drop (i + 1)) : x ∈ xs.drop i := by
  have : xs.drop (i + 1) = (xs.drop i).drop 1 := by rw [List.drop_drop]
  rw [this] at h
  exact List.mem_of_mem_drop h

theorem take_step {xs : List En} {i : Nat} (hi : i < xs.length) : allL (xs.take (i + 1)) = insO (allL (xs.take i)) xs[i] := by
  rw [List.take_succ_eq_append_getElem hi, allL_snoc]

theorem sorted_drop {xs : List En} (hs : xs.Pairwise fun a b => a.key ≤ b.key) {i : Nat} (hi : i < xs.length) : ∀ x ∈ xs.drop (i + 1), xs[i].key ≤ x.key := by
  intro x hx
  obtain ⟨j, hj, rfl⟩ := List.getElem_of_mem hx
  rw [List.getElem_drop]
  exact List.pairwise_iff_getElem.1 hs i (i + 1 + j) hi _ (by omega)

/-- The next one has a key of its own. -/
theorem brg_new {xs : List En} {i : Nat} {out : List En} (hs : xs.Pairwise fun a b => a.key ≤ b.key) (h : Brg xs i out) (hi : i < xs.length) (hg : Good xs[i].ru) (hn : ∀ l y, out = l ++ [y] → y.key ≠ xs[i].key) : Brg xs (i + 1) (out ++ [xs[i]]) := by
  have mem : xs[i] ∈ xs.drop i := by rw [List.drop_eq_getElem_cons hi]; exact List.mem_cons_self
  have low : ∀ z ∈ out, z.key < xs[i].key := by
    intro z hz
    rcases List.eq_nil_or_concat out with rfl | ⟨l, y, rfl⟩
    · simp at hz
    · have hy := h.up y (by simp) _ mem
      have hne := hn l y (by simp)
      rcases List.mem_append.1 (by simpa using hz : z ∈ l ++ [y]) with hz | hz
      · have := (List.pairwise_append.1 (by simpa using h.inc : (l ++ [y]).Pairwise _)).2.2 z hz y (by simp)
        omega
      · have : z = y := by simpa using hz
        subst this
        omega
  refine ⟨?_, ?_, ?_, ?_, ?_⟩
  · rw [take_step hi, h.is]
    exact ins_end low
  · rw [List.pairwise_append]
    exact ⟨h.inc, by simp, fun a ha b hb => by have : b = xs[i] := by simpa using hb
                                               subst this; exact low a ha⟩
  · intro z hz x hx
    rcases List.mem_append.1 hz with hz | hz
    · exact h.up z hz x (drop_mem hx)
    · have : z = xs[i] := by simpa using hz
      subst this
      exact sorted_drop hs hi x hx
  · intro z hz
    rcases List.mem_append.1 hz with hz | hz
    · exact h.good z hz
    · have : z = xs[i] := by simpa using hz
      subst this
      exact hg
  · have := h.len
    simp
    omega

/-- The next one has the last one's key. -/
theorem brg_same {xs : List En} {i : Nat} {l : List En} {y : En} (hs : xs.Pairwise fun a b => a.key ≤ b.key) (h : Brg xs i (l ++ [y])) (hi : i < xs.length) (hg : Good xs[i].ru) (hy : y.key = xs[i].key) :
    mrg y.ru xs[i].ru = (if y.c + xs[i].c ≤ 1073741824 then (jn y.ru xs[i].ru, 0) else (zro, 1)) ∧
    (y.c + xs[i].c ≤ 1073741824 → Brg xs (i + 1) (l ++ [mkE xs[i].key (jn y.ru xs[i].ru)])) ∧ (¬ y.c + xs[i].c ≤ 1073741824 → allL xs = none) := by
  have low : ∀ z ∈ l, z.key < xs[i].key := fun z hz => by
    have := (List.pairwise_append.1 h.inc).2.2 z hz y (by simp)
    omega
  have st : allL (xs.take (i + 1)) = if y.c + xs[i].c ≤ 1073741824 then some (l ++ [mkE xs[i].key (jn y.ru xs[i].ru)]) else none := by
    rw [take_step hi, h.is]
    exact ins_last low hy
  have gy := h.good y (by simp)
  refine ⟨mrg_good gy hg, fun hc => ?_, fun hc => ?_⟩
  · rw [if_pos hc] at st
    refine ⟨st, ?_, ?_, ?_, ?_⟩
    · rw [List.pairwise_append]
      exact ⟨(List.pairwise_append.1 h.inc).1, by simp, fun a ha b hb => by have : b = mkE xs[i].key (jn y.ru xs[i].ru) := by simpa using hb
                                                                            subst this; exact low a ha⟩
    · intro z hz x hx
      rcases List.mem_append.1 hz with hz | hz
      · exact h.up z (by simp [hz]) x (drop_mem hx)
      · have : z = mkE xs[i].key (jn y.ru xs[i].ru) := by simpa using hz
        subst this
        exact sorted_drop hs hi x hx
    · intro z hz
      rcases List.mem_append.1 hz with hz | hz
      · exact h.good z (by simp [hz])
      · have : z = mkE xs[i].key (jn y.ru xs[i].ru) := by simpa using hz
        subst this
        exact good_jn gy hg hc
    · have := h.len
      simp only [List.length_append, List.length_cons, List.length_nil] at this ⊢
      omega
  · rw [if_neg hc] at st
    have e : xs = xs.take (i + 1) ++ xs.drop (i + 1) := (List.take_append_drop _ _).symm
    rw [e]
    unfold allL at st ⊢
    rw [List.foldl_append, st]
    exact fold_none _

theorem brg_end {xs out : List En} (h : Brg xs xs.length out) : allL xs = some out := by
  have := h.is
  rwa [List.take_length] at this

theorem own_some {w : World} {base : Nat} {e : TypeId} {size n k : Nat} {v : Value} {vs : List Value} (h : w.ownsRow base e size v n vs) (hk : v.ownBlock = some k) : base ≤ k ∧ k < w.heap.size := by
  rcases h.2 with ⟨rfl, _⟩ | ⟨g, cap, cur, rfl, hb, hg, _⟩
  · cases hk
  · have : g = k := by simpa [Value.ownBlock] using hk
    subst this
    exact ⟨hb, (Array.getElem?_eq_some_iff.1 hg).1⟩

theorem news2 (w : World) (o : Obj) (x : En) : ∀ j u, x.vals[j]? = some u → ((w.alloc o).alloc (.cells x.vals.toArray 53)).cell? ((⟨w.heap.size + 1, 0, none⟩ : Addr).add j) = some u := by
  have := news1 (w.alloc o) x
  simpa using this

end Go.Proofs.Ytlojfgdpmaigmac

/- What comes together of some keys is what of all that comes together has them. -/
namespace Go.Proofs.Ytlojfgdpmaigmac
open Go.RowKit Plain

theorem ins_inc {x : En} : ∀ {l r : List En}, (l.Pairwise fun a b => a.key < b.key) → ins l x = some r → (r.Pairwise fun a b => a.key < b.key) ∧ ∀ z ∈ r, z.key = x.key ∨ ∃ y ∈ l, y.key = z.key
  | [], r, _, h => by
    cases h
    exact ⟨by simp, by simp⟩
  | y :: l, r, hp, h => by
    obtain ⟨h1, h2⟩ := List.pairwise_cons.1 hp
    rcases Int.lt_trichotomy x.key y.key with hk | hk | hk
    · rw [ins_lt hk] at h
      cases h
      refine ⟨List.pairwise_cons.2 ⟨fun z hz => ?_, hp⟩, fun z hz => ?_⟩
      · rcases List.mem_cons.1 hz with rfl | hz
        · exact hk
        · have := h1 z hz
          omega
      · rcases List.mem_cons.1 hz with rfl | hz
        · exact .inl rfl
        · exact .inr ⟨z, hz, rfl⟩
    · rw [ins_eq hk.symm] at h
      split at h
      · cases h
        refine ⟨List.pairwise_cons.2 ⟨fun z hz => ?_, h2⟩, fun z hz => ?_⟩
        · rw [mkE_key, hk]
          exact h1 z hz
        · rcases List.mem_cons.1 hz with rfl | hz
          · exact .inl rfl
          · exact .inr ⟨z, List.mem_cons_of_mem _ hz, rfl⟩
      · cases h
    · rw [ins_gt hk] at h
      cases hi : ins l x with
      | none => rw [hi] at h; cases h
      | some r' =>
        rw [hi] at h
        cases h
        obtain ⟨q1, q2⟩ := ins_inc h2 hi
        refine ⟨List.pairwise_cons.2 ⟨fun z hz => ?_, q1⟩, fun z hz => ?_⟩
        · rcases q2 z hz with e | ⟨u, hu, e⟩
          · omega
          · have := h1 u hu
            omega
        · rcases List.mem_cons.1 hz with rfl | hz
          · exact .inr ⟨z, List.mem_cons_self, rfl⟩
          · rcases q2 z hz with e | ⟨u, hu, e⟩
            · exact .inl e
            · exact .inr ⟨u, List.mem_cons_of_mem _ hu, e⟩

theorem ins_below {x : En} : ∀ {l : List En}, (∀ z ∈ l, x.key < z.key) → ins l x = some (x :: l)
  | [], _ => rfl
  | y :: _, h => ins_lt (h y List.mem_cons_self)

theorem ins_filter {P : Int → Bool} {x : En} : ∀ {o o' : List En}, (o.Pairwise fun a b => a.key < b.key) → ins o x = some o' →
    (P x.key = true → ins (o.filter fun z => P z.key) x = some (o'.filter fun z => P z.key)) ∧ (P x.key = false → (o'.filter fun z => P z.key) = o.filter fun z => P z.key)
  | [], o', _, h => by
    cases h
    exact ⟨fun hp => by simp [ins, hp], fun hp => by simp [hp]⟩
  | y :: r, o', hs, h => by
    obtain ⟨h1, h2⟩ := List.pairwise_cons.1 hs
    rcases Int.lt_trichotomy x.key y.key with hk | hk | hk
    · rw [ins_lt hk] at h
      cases h
      refine ⟨fun hp => ?_, fun hp => by rw [List.filter_cons_of_neg (by simp [hp])]⟩
      rw [List.filter_cons_of_pos (a := x) (by simpa using hp)]
      refine ins_below fun z hz => ?_
      rcases List.mem_cons.1 (List.mem_filter.1 hz).1 with rfl | hz
      · exact hk
      · have := h1 z hz
        omega
    · rw [ins_eq hk.symm] at h
      split at h
      · rename_i hc
        cases h
        refine ⟨fun hp => ?_, fun hp => ?_⟩
        · rw [List.filter_cons_of_pos (by rw [← hk]; exact hp), List.filter_cons_of_pos (by exact hp), ins_eq hk.symm, if_pos hc]
        · rw [List.filter_cons_of_neg (by rw [mkE_key, hp]; simp), List.filter_cons_of_neg (by rw [← hk, hp]; simp)]
      · cases h
    · rw [ins_gt hk] at h
      cases hi : ins r x with
      | none => rw [hi] at h; cases h
      | some r' =>
        rw [hi] at h
        cases h
        obtain ⟨q1, q2⟩ := ins_filter (P := P) h2 hi
        refine ⟨fun hp => ?_, fun hp => ?_⟩
        · by_cases hy : P y.key = true
          · rw [List.filter_cons_of_pos (by exact hy), List.filter_cons_of_pos (by exact hy), ins_gt hk, q1 hp]
            rfl
          · rw [List.filter_cons_of_neg (by exact hy), List.filter_cons_of_neg (by exact hy), q1 hp]
        · by_cases hy : P y.key = true
          · rw [List.filter_cons_of_pos (by exact hy), List.filter_cons_of_pos (by exact hy), q2 hp]
          · rw [List.filter_cons_of_neg (by exact hy), List.filter_cons_of_neg (by exact hy), q2 hp]

theorem allL_filter {P : Int → Bool} : ∀ (xs o r : List En), (o.Pairwise fun a b => a.key < b.key) → xs.foldl insO (some o) = some r → (xs.filter fun z => P z.key).foldl insO (some (o.filter fun z => P z.key)) = some (r.filter fun z => P z.key)
  | [], o, r, _, h => by
    cases h
    simp
  | x :: xs, o, r, hs, h => by
    rw [List.foldl_cons] at h
    cases hi : insO (some o) x with
    | none => rw [hi, fold_none] at h; cases h
    | some o' =>
      rw [hi] at h
      have hi' : ins o x = some o' := hi
      have ih := allL_filter (P := P) xs o' r (ins_inc hs hi').1 h
      obtain ⟨q1, q2⟩ := ins_filter (P := P) hs hi'
      by_cases hp : P x.key = true
      · rw [List.filter_cons_of_pos (by exact hp), List.foldl_cons, show insO (some (o.filter fun z => P z.key)) x = ins (o.filter fun z => P z.key) x from rfl, q1 hp]
        exact ih
      · rw [List.filter_cons_of_neg (by exact hp), ← q2 (by simpa using hp)]
        exact ih

end Go.Proofs.Ytlojfgdpmaigmac

/- A tree knows these entries, key by key: in plain terms. -/
namespace Go.Proofs.Ytlojfgdpmaigmac
open Go.RowKit Plain

/-- What is known of a key. -/
def look (l : List En) (key : Int) : Ru := ((l.find? fun y => y.key == key).map En.ru).getD zro
def hasE (l : List En) (key : Int) : Bool := l.any fun y => y.key == key

theorem look_cons (y : En) (l : List En) (key : Int) : look (y :: l) key = if y.key = key then y.ru else look l key := by
  unfold look
  by_cases h : y.key = key
  · simp [h]
  · simp [h]

theorem hasE_cons (y : En) (l : List En) (key : Int) : hasE (y :: l) key = (decide (y.key = key) || hasE l key) := by
  unfold hasE
  rw [List.any_cons]
  congr 1

theorem look_none {l : List En} {key : Int} (h : ∀ z ∈ l, z.key ≠ key) : look l key = zro := by
  unfold look
  rw [List.find?_eq_none.2 (fun z hz => by simpa using h z hz)]
  rfl

theorem hasE_none {l : List En} {key : Int} (h : ∀ z ∈ l, z.key ≠ key) : hasE l key = false := by
  unfold hasE
  rw [List.any_eq_false]
  intro z hz
  simpa using h z hz

theorem look_ins {x : En} (hx : Good x.ru) : ∀ {l r : List En}, (l.Pairwise fun a b => a.key < b.key) → (∀ y ∈ l, Good y.ru) → ins l x = some r →
    (∀ key, look r key = if x.key = key then (mrg (look l key) x.ru).1 else look l key) ∧ (∀ key, hasE r key = (decide (x.key = key) || hasE l key)) ∧ r.length = (if hasE l x.key = true then l.length else l.length + 1)
  | [], r, _, _, h => by
    cases h
    refine ⟨fun key => ?_, fun key => ?_, ?_⟩
    · rw [look_cons]
      have : look ([] : List En) key = zro := rfl
      rw [this, mrg_zro hx]
    · rw [hasE_cons]
    · rfl
  | y :: l, r, hp, hg, h => by
    obtain ⟨h1, h2⟩ := List.pairwise_cons.1 hp
    have hy := hg y List.mem_cons_self
    have hg' : ∀ z ∈ l, Good z.ru := fun z hz => hg z (List.mem_cons_of_mem _ hz)
    rcases Int.lt_trichotomy x.key y.key with hk | hk | hk
    · rw [ins_lt hk] at h
      cases h
      have hn : ∀ z ∈ y :: l, z.key ≠ x.key := fun z hz => by
        rcases List.mem_cons.1 hz with rfl | hz
        · omega
        · have := h1 z hz; omega
      refine ⟨fun key => ?_, fun key => ?_, ?_⟩
      · rw [look_cons x]
        by_cases e : x.key = key
        · rw [if_pos e, if_pos e]
          rw [← e, look_none hn, mrg_zro hx]
        · rw [if_neg e, if_neg e]
      · rw [hasE_cons x]
      · rw [hasE_none hn]
        rfl
    · rw [ins_eq hk.symm] at h
      split at h
      · rename_i hc
        cases h
        refine ⟨fun key => ?_, fun key => ?_, ?_⟩
        · rw [look_cons, look_cons y, mkE_key, mkE_ru]
          by_cases e : x.key = key
          · rw [if_pos e, if_pos e, if_pos (hk ▸ e), mrg_good hy hx, if_pos (show y.ru.c + x.ru.c ≤ 1073741824 from hc)]
          · rw [if_neg e, if_neg e, if_neg (hk ▸ e)]
        · rw [hasE_cons, hasE_cons y, mkE_key, hk]
          cases decide (y.key = key) <;> simp
        · rw [hasE_cons, show decide (y.key = x.key) = true by simpa using hk.symm]
          rfl
      · cases h
    · rw [ins_gt hk] at h
      cases hi : ins l x with
      | none => rw [hi] at h; cases h
      | some q =>
        rw [hi] at h
        cases h
        obtain ⟨a, b, c⟩ := look_ins hx h2 hg' hi
        have hne : ¬ y.key = x.key := by omega
        refine ⟨fun key => ?_, fun key => ?_, ?_⟩
        · rw [look_cons, look_cons y, a key]
          by_cases e : y.key = key
          · rw [if_pos e, if_pos e, if_neg (by omega)]
          · rw [if_neg e, if_neg e]
        · rw [hasE_cons, hasE_cons y, b key]
          cases decide (y.key = key) <;> cases decide (x.key = key) <;> simp
        · rw [hasE_cons, show decide (y.key = x.key) = false by simpa using hne, Bool.false_or, List.length_cons, c, List.length_cons]
          split <;> rfl

/-- A tree that may be, and what it knows. -/
structure Knows (ns : List Nd) (root : Int) (l : List En) : Prop where
  ok : treeC ns root = 0
  all : allL (ns.flatMap cont) = some l
  inc : l.Pairwise fun a b => a.key < b.key
  good : ∀ y ∈ l, Good y.ru

theorem fold_inc : ∀ (xs l l' : List En), (l.Pairwise fun a b => a.key < b.key) → xs.foldl insO (some l) = some l' → l'.Pairwise fun a b => a.key < b.key
  | [], l, l', hl, h => by
    cases h
    exact hl
  | x :: xs, l, l', hl, h => by
    rw [List.foldl_cons] at h
    cases hi : insO (some l) x with
    | none => rw [hi, fold_none] at h; cases h
    | some q =>
      rw [hi] at h
      exact fold_inc xs q l' (ins_inc hl (show ins l x = some q from hi)).1 h

theorem Knows.mk' {ns : List Nd} {root : Int} {l : List En} (h : treeC ns root = 0) (ha : allL (ns.flatMap cont) = some l) : Knows ns root l :=
  ⟨h, ha, fold_inc _ [] l (by simp) ha, (allL_facts (fun y hy => (tree_in h y hy).2) ha).1⟩

theorem Knows.new : Knows [leafOf []] 0 [] := Knows.mk' (by decide) rfl

theorem Knows.put {ns ns2 : List Nd} {root root2 key : Int} {r : Ru} {l : List En} (h : Knows ns root l) (hF : putF ns root key r = 0) (hok : PutOk ns ns2 root2 (mkE key r)) (hz : ns2.length ≤ 2000) :
    ∃ ys, ins l (mkE key r) = some ys ∧ Knows ns2 root2 ys ∧ Good r := by
  have hR : allR 0 1099511627776 (ns.flatMap Nd.lst) = some l := by rw [allR_all h.ok]; exact h.all
  obtain ⟨ys, hi, hy, _⟩ := put_knows hF hok hz hR
  rw [allR_all (hok.fine hz)] at hy
  exact ⟨ys, hi, Knows.mk' (hok.fine hz) hy, (putF_zero hF).2.1⟩

theorem find_filter {α : Type} (p : α → Bool) (l : List α) : (l.filter p).head? = l.find? p := List.head?_filter ..

theorem Knows.got {ns : List Nd} {root : Int} {l : List En} (h : Knows ns root l) {key : Int} (hk : 0 ≤ key ∧ key ≤ 1099511627775) : gotP ns root key = (look l key, 0) := by
  have hpos : ∀ x ∈ ns.flatMap Nd.lst, 1 ≤ x.c := fun x hx => (good_iff.1 (tree_in h.ok x (lst_cont.mem_iff.1 hx)).2).1.1
  have hall : allL (ns.flatMap Nd.lst) = some l := by rw [allL_perm lst_cont hpos]; exact h.all
  have hf := allL_filter (P := fun k => decide (key ≤ k) && decide (k < key + 1)) (ns.flatMap Nd.lst) [] l (by simp) hall
  have hf' : allR key (key + 1) (ns.flatMap Nd.lst) = some (l.filter (inR key (key + 1))) := hf
  unfold gotP
  rw [if_neg (by simpa using h.ok), if_pos ((inB_iff _ _ _).2 hk)]
  unfold gotA
  rw [hf']
  have e : l.filter (inR key (key + 1)) = l.filter (fun y => y.key == key) := by
    refine List.filter_congr fun y _ => ?_
    rw [Bool.eq_iff_iff]
    simp only [inR, Bool.and_eq_true, decide_eq_true_eq, beq_iff_eq]
    omega
  rw [e]
  unfold look
  rw [← find_filter]
  cases l.filter (fun y => y.key == key) <;> rfl

end Go.Proofs.Ytlojfgdpmaigmac

/- The numbers of a tree that may be are numbers. -/
namespace Go.Proofs.Ytlojfgdpmaigmac
open Go.RowKit Plain

def NB (N : Nat) (x : Nd) : Prop := (∀ z ∈ x.keys, 0 ≤ z ∧ z ≤ 1099511627776) ∧ ∀ z ∈ x.kids, 0 ≤ z ∧ z < N

theorem Sub_self {T m : Nat} {ns : List Nd} : ∀ {h : Nat} {p lo hi : Int} {P : List Int}, Sub T m ns h p lo hi P → 0 ≤ p ∧ p < ns.length
  | 0, _, _, _, _, hs => ⟨hs.1.1, hs.1.2.1⟩
  | _ + 1, _, _, _, _, hs => ⟨hs.1.1, hs.1.2.1⟩

theorem SubK_kids {T m : Nat} {ns : List Nd} {h : Nat} {hi : Int} : ∀ (kids keys : List Int) (lo : Int) (Q : List Int), keys.length + 1 = kids.length → SubK (Sub T m ns h) lo (ups kids keys hi) Q → ∀ d ∈ kids, 0 ≤ d ∧ d < ns.length
  | [], _, _, _, hk, _ => by simp at hk
  | [d], keys, lo, Q, hk, hQ => by
    obtain rfl : keys = [] := List.eq_nil_of_length_eq_zero (by simpa using hk)
    obtain ⟨Q1, Q2, rfl, h1, h2⟩ := hQ
    intro z hz
    obtain rfl : z = d := by simpa using hz
    exact Sub_self h1
  | d :: e :: ds, [], _, _, hk, _ => by simp at hk
  | d :: e :: ds, k :: ks, lo, Q, hk, hQ => by
    obtain ⟨Q1, Q2, rfl, h1, h2⟩ := hQ
    intro z hz
    rcases List.mem_cons.1 hz with rfl | hz
    · exact Sub_self h1
    · exact SubK_kids (e :: ds) ks k Q2 (by simpa using hk) h2 z hz

theorem Sub_nb {T m : Nat} {ns : List Nd} : ∀ (h : Nat) (p lo hi : Int) (P : List Int), 0 ≤ lo → hi ≤ 1099511627776 → Sub T m ns h p lo hi P → ∀ n ∈ P, NB ns.length (nth ns n)
  | 0, p, lo, hi, P, _, _, hs, n, hn => by
    obtain ⟨_, rfl, hl⟩ := hs
    obtain rfl : n = p := by simpa using hn
    unfold NB
    rw [hl.keys, hl.kids]
    exact ⟨by simp, by simp⟩
  | h + 1, p, lo, hi, P, hlo, hhi, hs, n, hn => by
    obtain ⟨_, Q, rfl, hin⟩ := hs
    rcases List.mem_cons.1 hn with rfl | hn
    · have hr := keys_rise (Sub_lt h) hin.keys hin.kids
      exact ⟨fun z hz => by have := hr.2.1 z hz; omega, SubK_kids _ _ _ _ hin.keys hin.kids⟩
    · have ih := Sub_nb (T := T) (m := m) (ns := ns) h
      have : ∀ (kids keys : List Int) (lo' : Int) (Q : List Int), 0 ≤ lo' → keys.length + 1 = kids.length → SubK (Sub T m ns h) lo' (ups kids keys hi) Q → ∀ n ∈ Q, NB ns.length (nth ns n) := by
        intro kids
        induction kids with
        | nil => intro keys lo' Q _ hk; simp at hk
        | cons d ds ihd =>
          intro keys lo' Q h0 hk hQ n hn
          have hr := keys_rise (Sub_lt h) hk hQ
          cases ds with
          | nil =>
            obtain rfl : keys = [] := List.eq_nil_of_length_eq_zero (by simpa using hk)
            obtain ⟨Q1, Q2, rfl, h1, h2⟩ := hQ
            cases h2
            rw [List.append_nil] at hn
            exact ih _ _ _ _ h0 hhi h1 n hn
          | cons e ds =>
            cases keys with
            | nil => simp at hk
            | cons k ks =>
              obtain ⟨Q1, Q2, rfl, h1, h2⟩ := hQ
              have hk1 := hr.2.1 k List.mem_cons_self
              rcases List.mem_append.1 hn with hn | hn
              · exact ih _ _ _ _ h0 (by omega) h1 n hn
              · exact ihd ks k Q2 (by omega) (by simpa using hk) h2 n hn
      exact this _ _ _ _ hlo hin.keys hin.kids n hn

theorem tree_nb {ns : List Nd} {root : Int} (h : treeC ns root = 0) : ∀ x ∈ ns, NB ns.length x := by
  rcases treeC_sub h with ⟨ht, P, hs, hp⟩ | ⟨he, rfl⟩
  · intro x hx
    obtain ⟨i, hi, rfl⟩ := List.getElem_of_mem hx
    have hm : (i : Int) ∈ P := hp.mem_iff.2 (placesF_mem.2 ⟨by omega, by omega⟩)
    have := Sub_nb ht _ _ _ _ (Int.le_refl _) (Int.le_refl _) hs (i : Int) hm
    have e : nth ns (i : Int) = ns[i] := by simp [nth, hi]
    rwa [e] at this
  · rw [he]
    intro x hx
    obtain rfl : x = leafOf [] := by simpa using hx
    exact ⟨by simp [leafOf], by simp [leafOf]⟩

theorem en_wf {y : En} (hk : 0 ≤ y.key ∧ y.key < 1099511627776) (hg : Good y.ru) : y.wf := by
  obtain ⟨b1, b2, b3, b4, b5, b6⟩ := check_bounds hg.1
  have e : y.ru = ⟨y.c, y.s, y.lo, y.hi, y.t, y.l⟩ := rfl
  have g := good_iff.1 hg
  simp only [e] at b1 b2 b3 b4 b5 b6 g
  exact ⟨WalkArith.wf_i64 (by omega), WalkArith.wf_i64 (by omega), WalkArith.wf_i64 (by omega), WalkArith.wf_i64 (by omega), WalkArith.wf_i64 (by omega), WalkArith.wf_i64 (by omega), WalkArith.wf_i64 (by omega)⟩

theorem treeC_wf {qs : List PN} {root : Int} (h : treeC (qs.map PN.nd) root = 0) : ∀ q ∈ qs, q.wf := by
  intro q hq
  have hm : q.nd ∈ qs.map PN.nd := List.mem_map.2 ⟨q, hq, rfl⟩
  obtain ⟨n1, n2⟩ := tree_nb h _ hm
  have hin : ∀ y ∈ cont q.nd, y.wf := fun y hy => by
    have := tree_in h y (List.mem_flatMap.2 ⟨_, hm, hy⟩)
    exact en_wf this.1 this.2
  have hl := (tree_each h).1
  refine ⟨fun y hy => hin y (List.mem_append_right _ hy), fun z hz => ?_, fun z hz => ?_, fun y hy => hin y (List.mem_append_left _ hy)⟩
  · have := n1 z hz
    exact WalkArith.wf_i64 (by omega)
  · have := n2 z hz
    exact WalkArith.wf_i64 (by omega)

end Go.Proofs.Ytlojfgdpmaigmac

/- A map of rollups of the call's own, held against a list of entries. -/
namespace Go.Proofs.Ytlojfgdpmaigmac
open Go.RowKit Plain Go.Maps

def ruVal (r : Ru) : Value := .agg #[.int .i64 r.c, .int .i64 r.s, .int .i64 r.lo, .int .i64 r.hi, .int .i64 r.t, .int .i64 r.l]
def ruD (r : Ru) : DataW Unit := .agg [.lit (.int .i64 r.c), .lit (.int .i64 r.s), .lit (.int .i64 r.lo), .lit (.int .i64 r.hi), .lit (.int .i64 r.t), .lit (.int .i64 r.l)]

def ruElem (v : Value) : Option (DataW Unit × List MemPlace) :=
  match v with
  | .agg a => match a.toList with
    | [.int .i64 c, .int .i64 s, .int .i64 lo, .int .i64 hi, .int .i64 t, .int .i64 l] => some (ruD ⟨c, s, lo, hi, t, l⟩, [])
    | _ => none
  | _ => none

theorem ruElem_mk (r : Ru) : ruElem (ruVal r) = some (ruD r, []) := rfl

theorem ruElem_inv {v : Value} {z : DataW Unit × List MemPlace} (h : ruElem v = some z) : ∃ r, v = ruVal r ∧ z = (ruD r, []) := by
  unfold ruElem at h
  split at h
  · rename_i a
    split at h
    · rename_i c s lo hi t l ha
      refine ⟨⟨c, s, lo, hi, t, l⟩, ?_, by cases h; rfl⟩
      have : a = #[.int .i64 c, .int .i64 s, .int .i64 lo, .int .i64 hi, .int .i64 t, .int .i64 l] := by rw [← Array.toArray_toList (xs := a), ha]
      rw [this]
      rfl
    · cases h
  · cases h

theorem ruD_inj {r r' : Ru} (h : ruD r = ruD r') : r = r' := by
  obtain ⟨c, s, lo, hi, t, l⟩ := r
  obtain ⟨c', s', lo', hi', t', l'⟩ := r'
  simp only [ruD, DataW.agg.injEq, List.cons.injEq, DataW.lit.injEq, Lit.int.injEq, true_and, and_true] at h
  obtain ⟨rfl, rfl, rfl, rfl, rfl, rfl⟩ := h
  rfl

/-- The map at mb holds what l knows, key by key. -/
def MapR (w : World) (mb n : Nat) (l : List En) : Prop :=
  ∃ D : DataW Unit, w.ownsMap Try.prog 3 ruElem mb n D ∧ (∀ key : Int, D.atKey (.int .i64 key) (ruD zro) = ruD (look l key)) ∧ (∀ key : Int, has D (.int .i64 key) = hasE l key) ∧ size D = l.length

theorem MapR.lt {w : World} {mb n : Nat} {l : List En} (h : MapR w mb n l) : mb < w.heap.size := by
  obtain ⟨D, h1, _⟩ := h
  exact h1.lt

theorem MapR.of_block {w w' : World} {mb n : Nat} {l : List En} (h : MapR w mb n l) (e : w'.heap[mb]? = w.heap[mb]?) : MapR w' mb n l := by
  obtain ⟨D, h1, h2⟩ := h
  refine ⟨D, ?_, h2⟩
  unfold World.ownsMap at *
  rw [e]
  exact h1

theorem MapR.below {w w' : World} {mb n B : Nat} {l : List En} (h : MapR w mb n l) (hb : Below B w w') (hB : mb < B) : MapR w' mb n l := h.of_block (hb.block mb hB)

theorem MapR.new (w : World) : MapR (w.alloc (.map #[] 0)) w.heap.size 0 [] :=
  ⟨.map [], World.ownsMap_made w _ _ _, fun _ => rfl, fun _ => rfl, rfl⟩

theorem key_lit (k : Int) : WideAt.IsKeyLit (.int .i64 k) := by simp [WideAt.IsKeyLit]

theorem law_int : Keyed Try.prog 3 := int_keyed Try.underlying3

theorem MapR.put {w w1 : World} {mb n : Nat} {l ys : List En} {x : En} {D : DataW Unit} (hown : w.ownsMap Try.prog 3 ruElem mb n D) (h2 : ∀ key : Int, D.atKey (.int .i64 key) (ruD zro) = ruD (look l key)) (h3 : ∀ key : Int, has D (.int .i64 key) = hasE l key) (h4 : size D = l.length)
    (hinc : l.Pairwise fun a b => a.key < b.key) (hgl : ∀ y ∈ l, Good y.ru) (hx : Good x.ru) (hi : ins l x = some ys) (h1 : w1.ownsMap Try.prog 3 ruElem mb (n + 1) (D.put (.int .i64 x.key) (ruD (mrg (look l x.key) x.ru).1))) : MapR w1 mb (n + 1) ys := by
  obtain ⟨a, b, c⟩ := look_ins hx hinc hgl hi
  have hT := hown.tidy law_int
  refine ⟨_, h1, fun key => ?_, fun key => ?_, ?_⟩
  · rw [a key]
    by_cases e : x.key = key
    · subst e
      rw [if_pos rfl, atKey_put_same hT.isMap (key_lit _)]
    · rw [if_neg e, atKey_put_other (fun q => e (by cases q; rfl)), h2]
  · rw [b key]
    by_cases e : x.key = key
    · subst e
      rw [has_put_same hT.isMap (key_lit _)]
      simp
    · rw [has_put_other (fun q => e (by cases q; rfl)), h3]
      simp [e]
  · rw [size_put hT, h3, h4, c]

theorem zeroR (w : World) : (zeroValue 31).run Try.prog w = .ok (ruVal zro) w := by kernel_rfl

theorem MapR.look {w : World} {mb n : Nat} {l : List En} (h : MapR w mb n l) {key : Int} (hw : (Lit.int .i64 key).wf = true) :
    (Instr.lookup 27 (.map (some mb)) (.int .i64 key) false).run Try.prog w = .ok (ruVal (look l key)) w := by
  obtain ⟨D, h1, h2, _⟩ := h
  obtain ⟨v, ps, hrun, hv⟩ := h1.lookup law_int Try.underlying27 (zeroR w) (ruElem_mk zro) (keyOf_int_mk Try.underlying3 hw)
  obtain ⟨r, rfl, hr⟩ := ruElem_inv hv
  rw [h2] at hr
  rw [hrun, ruD_inj (Prod.mk.inj hr).1]

theorem MapR.len {w : World} {mb n : Nat} {l : List En} (h : MapR w mb n l) (ty : TypeId) : (Builtin.len_ #[27] ty #[.map (some mb)]).run Try.prog w = .ok (.int .i64 (l.length : Nat)) w := by
  obtain ⟨D, h1, _, _, h4⟩ := h
  rw [h1.len Try.underlying27 ty, h4]

end Go.Proofs.Ytlojfgdpmaigmac

/- What Of of package roll, and the document's answer to it, do. -/
namespace Go.Proofs.Ytlojfgdpmaigmac
open Go.RowKit Plain

set_option maxHeartbeats 400000 in
theorem of_yes (t v : Int) (w : World) (h1 : inB t 0 1048575 = true) (h2 : inB v (-1000000) 1000000 = true) :
    Calls Try.prog 27 #[.int .i64 t, .int .i64 v] w fun e w' => e = .returned (.tuple #[.agg #[.int .i64 1, .int .i64 v, .int .i64 v, .int .i64 v, .int .i64 t, .int .i64 v], .int .i64 0]) ∧ Below w.heap.size w w' := by
  go_enter Try.func27, Try.ntmps27
  go_wp2_with (first | (go_at_call 41; refine (time_any _ _).mono ?_; rintro e w' ⟨rfl, rfl⟩) | (go_at_call 42; refine (value_any _ _).mono ?_; rintro e w' ⟨rfl, rfl⟩))
  exact bodyPost_ret (v := .tuple #[.agg #[.int .i64 1, .int .i64 v, .int .i64 v, .int .i64 v, .int .i64 t, .int .i64 v], .int .i64 0]) (by simp [results, Try.results27, go_sem]) rfl ⟨rfl, (Below.refl _ _).alloc (Nat.le_refl _) _⟩

set_option maxHeartbeats 400000 in
theorem of_no1 (t v : Int) (w : World) (h1 : inB t 0 1048575 = false) :
    Calls Try.prog 27 #[.int .i64 t, .int .i64 v] w fun e w' => e = .returned (.tuple #[.agg #[.int .i64 0, .int .i64 0, .int .i64 0, .int .i64 0, .int .i64 0, .int .i64 0], .int .i64 2]) ∧ Below w.heap.size w w' := by
  go_enter Try.func27, Try.ntmps27
  go_wp2_with (first | (go_at_call 41; refine (time_any _ _).mono ?_; rintro e w' ⟨rfl, rfl⟩) | (go_at_call 42; refine (value_any _ _).mono ?_; rintro e w' ⟨rfl, rfl⟩))
  exact bodyPost_ret (v := .tuple #[.agg #[.int .i64 0, .int .i64 0, .int .i64 0, .int .i64 0, .int .i64 0, .int .i64 0], .int .i64 2]) (by simp [results, Try.results27, go_sem]) rfl ⟨rfl, (Below.refl _ _).alloc (Nat.le_refl _) _⟩

set_option maxHeartbeats 400000 in
theorem of_no2 (t v : Int) (w : World) (h1 : inB t 0 1048575 = true) (h2 : inB v (-1000000) 1000000 = false) :
    Calls Try.prog 27 #[.int .i64 t, .int .i64 v] w fun e w' => e = .returned (.tuple #[.agg #[.int .i64 0, .int .i64 0, .int .i64 0, .int .i64 0, .int .i64 0, .int .i64 0], .int .i64 2]) ∧ Below w.heap.size w w' := by
  go_enter Try.func27, Try.ntmps27
  go_wp2_with (first | (go_at_call 41; refine (time_any _ _).mono ?_; rintro e w' ⟨rfl, rfl⟩) | (go_at_call 42; refine (value_any _ _).mono ?_; rintro e w' ⟨rfl, rfl⟩))
  exact bodyPost_ret (v := .tuple #[.agg #[.int .i64 0, .int .i64 0, .int .i64 0, .int .i64 0, .int .i64 0, .int .i64 0], .int .i64 2]) (by simp [results, Try.results27, go_sem]) rfl ⟨rfl, (Below.refl _ _).alloc (Nat.le_refl _) _⟩

end Go.Proofs.Ytlojfgdpmaigmac

/- What picked of package winnowerkeep does: a number from 0 to many - 1. -/
namespace Go.Proofs.Ytlojfgdpmaigmac
open Go.RowKit

/-- picked. -/
def pick (n many : Int) : Int := if n < 0 then (-(n + 1)) % many else n % many
theorem pick_bd (n : Int) {many : Int} (h : 0 < many) : 0 ≤ pick n many ∧ pick n many < many := by
  unfold pick
  split
  · exact ⟨Int.emod_nonneg _ (by omega), Int.emod_lt_of_pos _ h⟩
  · exact ⟨Int.emod_nonneg _ (by omega), Int.emod_lt_of_pos _ h⟩
theorem pick_neg {n : Int} (many : Int) (h : n < 0) : pick n many = (-(n + 1)) % many := by simp [pick, h]
theorem pick_pos {n : Int} (many : Int) (h : 0 ≤ n) : pick n many = n % many := by unfold pick; rw [if_neg (by omega)]

set_option maxHeartbeats 400000 in
theorem picked_any (n many : Int) (w : World) (h1 : -9223372036854775808 ≤ n) (h2 : n ≤ 9223372036854775807) (h3 : 0 < many) (h4 : many ≤ 1000000) :
    Calls Try.prog 5 #[.int .i64 n, .int .i64 many] w fun e w' => e = .returned (.int .i64 (pick n many)) ∧ w' = w := by
  by_cases hn : n < 0
  · have e : (-(n + 1)) % many = -((n + 1).tmod many) := by rw [← Int.neg_tmod, Int.tmod_eq_emod_of_nonneg (by omega)]
    rw [pick_neg many hn, e]
    clear e
    go_enter Try.func5, Try.ntmps5
    go_wp2
    go_ret
    exact ⟨rfl, rfl⟩
  · rw [pick_pos many (by omega)]
    go_enter Try.func5, Try.ntmps5
    go_wp2
    go_ret
    exact ⟨rfl, rfl⟩

end Go.Proofs.Ytlojfgdpmaigmac

/- Rollup of package winnowerkeep: some rollup. -/
namespace Go.Proofs.Ytlojfgdpmaigmac
open Go.RowKit Plain

theorem of_some (t v : Int) (w : World) : Calls Try.prog 27 #[.int .i64 t, .int .i64 v] w fun e w' => ∃ (r : Ru) (c : Int), e = .returned (.tuple #[.agg #[.int .i64 r.c, .int .i64 r.s, .int .i64 r.lo, .int .i64 r.hi, .int .i64 r.t, .int .i64 r.l], .int .i64 c]) ∧ Below w.heap.size w w' := by
  cases h1 : inB t 0 1048575 with
  | false => exact (of_no1 t v w h1).mono fun e w' ⟨he, hb⟩ => ⟨zro, 2, he, hb⟩
  | true =>
    cases h2 : inB v (-1000000) 1000000 with
    | false => exact (of_no2 t v w h1 h2).mono fun e w' ⟨he, hb⟩ => ⟨zro, 2, he, hb⟩
    | true => exact (of_yes t v w h1 h2).mono fun e w' ⟨he, hb⟩ => ⟨⟨1, v, v, v, t, v⟩, 0, he, hb⟩

/-- On the way: the boxes of the raw thing, of the answer, and of what is out so far. -/
structure RoA (w wr : World) (k a b c : Int) (ob : Nat) (r : Ru) : Prop where
  below : Below w.heap.size w wr
  bx : RowL wr w.heap.size 44 [.int .i64 k, .int .i64 a, .int .i64 b, .int .i64 c]
  res : RowL wr (w.heap.size + 1) 31 (ruV zro)
  out : RowL wr ob 31 (ruV r)
  ge : w.heap.size + 2 ≤ ob

theorem RoA.next {w wr w' : World} {k a b c : Int} {ob : Nat} {r : Ru} (h : RoA w wr k a b c ob r) (hb : Below wr.heap.size wr w') : RoA w w' k a b c ob r :=
  ⟨nextB h.below (Nat.le_refl _) hb, h.bx.below hb h.bx.lt, h.res.below hb h.res.lt, h.out.below hb h.out.lt, h.ge⟩

theorem setR_block (w : World) (g : Nat) (a b c d e f : Value) {k : Nat} (hk : k ≠ g) : ((((((w.setCell ⟨g, 0, none⟩ a).setCell ⟨g, 1, none⟩ b).setCell ⟨g, 2, none⟩ c).setCell ⟨g, 3, none⟩ d).setCell ⟨g, 4, none⟩ e).setCell ⟨g, 5, none⟩ f).heap[k]? = w.heap[k]? := by
  simp only [Below.heap_setCell _ _ _ _ (show k ≠ (⟨g, _, none⟩ : Addr).block from hk)]

def setR (w : World) (g : Nat) (r : Ru) : World := (((((w.setCell ⟨g, 0, none⟩ (.int .i64 r.c)).setCell ⟨g, 1, none⟩ (.int .i64 r.s)).setCell ⟨g, 2, none⟩ (.int .i64 r.lo)).setCell ⟨g, 3, none⟩ (.int .i64 r.hi)).setCell ⟨g, 4, none⟩ (.int .i64 r.t)).setCell ⟨g, 5, none⟩ (.int .i64 r.l)

theorem setR_row {w : World} {g : Nat} {r r' : Ru} (h : RowL w g 31 (ruV r)) : RowL (setR w g r') g 31 (ruV r') :=
  (((((h.set 0 _).set 1 _).set 2 _).set 3 _).set 4 _).set 5 _

theorem setR_below {B : Nat} {w wr : World} (h : Below B w wr) {g : Nat} (hg : B ≤ g) (r : Ru) : Below B w (setR wr g r) :=
  (((((h.setCell (p := ⟨g, 0, none⟩) hg _).setCell (p := ⟨g, 1, none⟩) hg _).setCell (p := ⟨g, 2, none⟩) hg _).setCell (p := ⟨g, 3, none⟩) hg _).setCell (p := ⟨g, 4, none⟩) hg _).setCell (p := ⟨g, 5, none⟩) hg _

theorem RoA.turn {w wr : World} {k a b c : Int} {ob : Nat} {r r' : Ru} (h : RoA w wr k a b c ob r) : RoA w (setR wr ob r') k a b c ob r' := by
  have hg := h.ge
  exact ⟨setR_below h.below (by omega) _, h.bx.of_block (setR_block _ _ _ _ _ _ _ _ (by omega)), h.res.of_block (setR_block _ _ _ _ _ _ _ _ (by omega)), setR_row h.out, hg⟩

/-- The two boxes that stand first. -/
structure RoB (w wr : World) (k a b c : Int) : Prop where
  below : Below w.heap.size w wr
  bx : RowL wr w.heap.size 44 [.int .i64 k, .int .i64 a, .int .i64 b, .int .i64 c]
  res : RowL wr (w.heap.size + 1) 31 (ruV zro)

theorem RoB.start (w : World) (k a b c : Int) : RoB w ((w.alloc (.cells #[.int .i64 k, .int .i64 a, .int .i64 b, .int .i64 c] 44)).alloc (.cells #[.int .i64 0, .int .i64 0, .int .i64 0, .int .i64 0, .int .i64 0, .int .i64 0] 31)) k a b c := by
  have s1 : (w.alloc (.cells #[.int .i64 k, .int .i64 a, .int .i64 b, .int .i64 c] 44)).heap.size = w.heap.size + 1 := by simp
  have r0 : RowL (w.alloc (.cells #[.int .i64 k, .int .i64 a, .int .i64 b, .int .i64 c] 44)) w.heap.size 44 [.int .i64 k, .int .i64 a, .int .i64 b, .int .i64 c] := rowL_alloc w _ _
  have r1 := rowL_alloc (w.alloc (.cells #[.int .i64 k, .int .i64 a, .int .i64 b, .int .i64 c] 44)) (ruV zro) 31
  rw [s1] at r1
  exact ⟨((Below.refl _ _).alloc (Nat.le_refl _) _).alloc (by omega) _, r0.of_block (Below.heap_alloc _ _ _ (by omega)), r1⟩

theorem RoB.next {w wr w' : World} {k a b c : Int} (h : RoB w wr k a b c) (hb : Below wr.heap.size wr w') : RoB w w' k a b c :=
  ⟨nextB h.below (Nat.le_refl _) hb, h.bx.below hb h.bx.lt, h.res.below hb h.res.lt⟩

/-- Made behind the call .. -/
theorem RoB.late {w wr : World} {k a b c : Int} (h : RoB w wr k a b c) (r : Ru) : RoA w (wr.alloc (.cells (ruV r).toArray 31)) k a b c wr.heap.size r := by
  have h1 := h.next ((Below.refl _ _).alloc (Nat.le_refl _) (.cells (ruV r).toArray 31))
  exact ⟨h1.below, h1.bx, h1.res, rowL_alloc wr _ _, by have := h.res.lt; omega⟩

/-- .. or ahead of it. -/
theorem RoB.early {w wr w1 : World} {k a b c : Int} {ob : Nat} (h : RoB w wr k a b c) (hb : Below (wr.alloc (.cells (ruV zro).toArray 31)).heap.size (wr.alloc (.cells (ruV zro).toArray 31)) w1) (r : Ru) (e : wr.heap.size = ob) : RoA w (setR w1 ob r) k a b c ob r := by
  subst e
  exact ((h.late zro).next hb).turn

theorem RoA.toB {w wr : World} {k a b c : Int} {ob : Nat} {r : Ru} (h : RoA w wr k a b c ob r) : RoB w wr k a b c := ⟨h.below, h.bx, h.res⟩

/-- In a round: what is out so far, and one more. -/
structure RoC (w wr : World) (k a b c : Int) (ob xb : Nat) (r x : Ru) : Prop where
  roa : RoA w wr k a b c ob r
  bx : RowL wr xb 31 (ruV x)
  gt : ob < xb

theorem RoA.late {w wr : World} {k a b c : Int} {ob : Nat} {r : Ru} (h : RoA w wr k a b c ob r) (x : Ru) : RoC w (wr.alloc (.cells (ruV x).toArray 31)) k a b c ob wr.heap.size r x :=
  ⟨h.next ((Below.refl _ _).alloc (Nat.le_refl _) _), rowL_alloc wr _ _, h.out.lt⟩

theorem RoA.early {w wr w1 : World} {k a b c : Int} {ob xb : Nat} {r : Ru} (h : RoA w wr k a b c ob r) (hb : Below (wr.alloc (.cells (ruV zro).toArray 31)).heap.size (wr.alloc (.cells (ruV zro).toArray 31)) w1) (x : Ru) (e : wr.heap.size = xb) : RoC w (setR w1 xb x) k a b c ob xb r x := by
  subst e
  have h1 := (h.late zro).roa.next hb
  have l1 := h.out.lt
  have hr : RowL w1 wr.heap.size 31 (ruV zro) := (rowL_alloc wr _ _).below hb (by simp)
  have hg := h.ge
  refine ⟨⟨setR_below h1.below (by omega) _, h1.bx.of_block (setR_block _ _ _ _ _ _ _ _ (by omega)), h1.res.of_block (setR_block _ _ _ _ _ _ _ _ (by omega)), h1.out.of_block (setR_block _ _ _ _ _ _ _ _ (by omega)), hg⟩, setR_row hr, l1⟩

end Go.Proofs.Ytlojfgdpmaigmac
