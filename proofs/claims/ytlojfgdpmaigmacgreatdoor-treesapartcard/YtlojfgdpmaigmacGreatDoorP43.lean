/- Tree of package winnowerkeep: what stands on the way. -/
import Derived.Test.YtlojfgdpmaigmacGreatDoorP40
import Derived.Test.YtlojfgdpmaigmacGreatDoorP08
import Derived.Test.YtlojfgdpmaigmacGreatDoorP25
import Derived.Test.YtlojfgdpmaigmacGreatDoorP21
import Derived.Test.YtlojfgdpmaigmacGreatDoorP24
namespace Go.Proofs.YtlojfgdpmaigmacGreatDoor
open Go.RowKit Plain Go.Shelf

/-- m[key] at the operation. -/
theorem wpList_lookup_ru (w : World) {ops : Array Oper} {rest : List Oper} {o : Oper} {a : Act} {Q : Exit → Act → World → Prop} (hg : o.guard = none) (m x : Operand) (hop : o.op = Op.lookup 27 m x false)
    (mb n : Nat) (l : List En) (hm : a.eval m = .map (some mb)) (h : MapR w mb n l) (key : Int) (hx : a.eval x = .int .i64 key) (hw : (Lit.int .i64 key).wf = true) (q : Ru) (hq : Hid (look l key = q))
    (hK : wpList Tryz.prog ops Q rest (a.put o.dst (.agg #[.int .i64 q.c, .int .i64 q.s, .int .i64 q.lo, .int .i64 q.hi, .int .i64 q.t, .int .i64 q.l])) w) : wpList Tryz.prog ops Q (o :: rest) a w := by
  refine wpList_plain hg fun K' hK' => ?_
  have hrun := h.look hw
  rw [hq.out] at hrun
  unfold Oper.wp
  simp [execOp, hop, hm, hx, hrun, Result.andThen]
  exact hK' _ _ hK

/-- The tree of this call, its map, and what each knows. -/
structure KtA (w wr : World) (tb mb g C : Nat) (qs : List PN) (root : Int) (ys : List En) (n : Nat) (l : List En) : Prop where
  below : Below w.heap.size w wr
  res : RowL wr w.heap.size 26 [.slice none 0 0, .int .i64 0]
  bt : RowL wr tb 26 [.slice (some ⟨g, 0, none⟩) qs.length C, .int .i64 root]
  nt : NT (w.heap.size + 1) wr g C qs
  kn : Knows (qs.map PN.nd) root ys
  mp : MapR wr mb n l
  t1 : w.heap.size + 1 ≤ tb
  m1 : w.heap.size + 1 ≤ mb
  tm : tb ≠ mb
  tf : tb ∉ feet g qs
  mf : mb ∉ feet g qs

section
variable {w wr w' : World} {tb mb g C n : Nat} {qs : List PN} {root : Int} {ys l : List En}

theorem KtA.next (h : KtA w wr tb mb g C qs root ys n l) (hb : Below wr.heap.size wr w') : KtA w w' tb mb g C qs root ys n l :=
  ⟨nextB h.below (Nat.le_refl _) hb, h.res.below hb h.res.lt, h.bt.below hb h.bt.lt, h.nt.below hb (Nat.le_refl _), h.kn, h.mp.below hb h.mp.lt, h.t1, h.m1, h.tm, h.tf, h.mf⟩

theorem set2_block (w : World) (t : Nat) (a b : Value) {k : Nat} (hk : k ≠ t) : ((w.setCell ⟨t, 0, none⟩ a).setCell ⟨t, 1, none⟩ b).heap[k]? = w.heap[k]? := by
  simp only [Below.heap_setCell _ _ _ _ (show k ≠ (⟨t, _, none⟩ : Addr).block from hk)]

theorem KtA.setT (h : KtA w wr tb mb g C qs root ys n l) {B g' C' : Nat} {qs' : List PN} {root' : Int} {zs : List En} (hn : NT B wr g' C' qs') (ht : tb < B) (hm : mb < B) (hk : Knows (qs'.map PN.nd) root' zs) :
    KtA w ((wr.setCell ⟨tb, 0, none⟩ (.slice (some ⟨g', 0, none⟩) qs'.length C')).setCell ⟨tb, 1, none⟩ (.int .i64 root')) tb mb g' C' qs' root' zs n l := by
  have hf := hn.lt
  have h1 := h.t1
  have hB : w.heap.size + 1 ≤ B := by omega
  refine ⟨(h.below.setCell (p := ⟨tb, 0, none⟩) (by show w.heap.size ≤ tb; omega) _).setCell (p := ⟨tb, 1, none⟩) (by show w.heap.size ≤ tb; omega) _, h.res.of_block (set2_block _ _ _ _ (by omega)), ?_, ?_, hk, h.mp.of_block (set2_block _ _ _ _ (fun e => h.tm e.symm)), h.t1, h.m1, h.tm, fun e => ?_, fun e => ?_⟩
  · exact (h.bt.set 0 _).set 1 _
  · exact (hn.low hB).of_blocks fun k hk => set2_block _ _ _ _ (by have := (hf k hk).1; omega)
  · have := (hf _ e).1; omega
  · have := (hf _ e).1; omega

theorem KtA.setM (h : KtA w wr tb mb g C qs root ys n l) (hg : wr.grownBy w' (some mb)) (hm : MapR w' mb (n + 1) ys) : KtA w w' tb mb g C qs root ys (n + 1) ys := by
  have hk : ∀ k, k < wr.heap.size → k ≠ mb → w'.heap[k]? = wr.heap[k]? := fun k h1 h2 => hg.block k h1 (fun e => h2 (by simpa using e))
  have h1 := h.m1
  have hs := h.below.size
  have hl := h.nt.lt
  refine ⟨⟨hg.os.trans h.below.os, hg.tape.trans h.below.tape, hg.output.trans h.below.output, Nat.le_trans hs hg.size, fun k hk' => (hk k (by omega) (by omega)).trans (h.below.block k hk')⟩, h.res.of_block (hk _ h.res.lt (by omega)), h.bt.of_block (hk _ h.bt.lt h.tm), h.nt.of_blocks fun k hk' => hk k (hl k hk').2 (fun e => h.mf (e ▸ hk')), h.kn, hm, h.t1, h.m1, h.tm, h.tf, h.mf⟩

theorem MapR.mono {m : Nat} (h : MapR wr mb n l) (hn : n ≤ m) : MapR wr mb m l := by
  obtain ⟨D, h1, h2⟩ := h
  exact ⟨D, h1.mono hn, h2⟩

theorem KtA.mono {m : Nat} (h : KtA w wr tb mb g C qs root ys n l) (hn : n ≤ m) : KtA w wr tb mb g C qs root ys m l :=
  ⟨h.below, h.res, h.bt, h.nt, h.kn, h.mp.mono hn, h.t1, h.m1, h.tm, h.tf, h.mf⟩

theorem KtA.putT (h : KtA w wr tb mb g C qs root ys n l) {B g' C' : Nat} {qs' : List PN} {root' : Int} {zs : List En} (hn : NT B wr g' C' qs') (ht : tb < B) (hm : mb < B) (hk : Knows (qs'.map PN.nd) root' zs) (o : Obj) :
    KtA w (((wr.setCell ⟨tb, 0, none⟩ (.slice (some ⟨g', 0, none⟩) qs'.length C')).setCell ⟨tb, 1, none⟩ (.int .i64 root')).alloc o) tb mb g' C' qs' root' zs n l :=
  (h.setT hn ht hm hk).next ((Below.refl _ _).alloc (Nat.le_refl _) _)

theorem KtA.fin (h : KtA w wr tb mb g C qs root ys n l) (a b : Value) : NodesAt ((wr.setCell ⟨w.heap.size, 0, none⟩ a).setCell ⟨w.heap.size, 1, none⟩ b).heap.size ((wr.setCell ⟨w.heap.size, 0, none⟩ a).setCell ⟨w.heap.size, 1, none⟩ b) (some ⟨g, 0, none⟩) qs ∧
    MapR ((wr.setCell ⟨w.heap.size, 0, none⟩ a).setCell ⟨w.heap.size, 1, none⟩ b) mb n l ∧ Below w.heap.size w ((wr.setCell ⟨w.heap.size, 0, none⟩ a).setCell ⟨w.heap.size, 1, none⟩ b) := by
  have hf := h.nt.lt
  have h1 := h.m1
  refine ⟨(h.nt.of_blocks fun k hk => set2_block _ _ _ _ (by have := (hf k hk).1; omega)).nodes, h.mp.of_block (set2_block _ _ _ _ (by omega)), ?_⟩
  exact (h.below.setCell (p := ⟨w.heap.size, 0, none⟩) (Nat.le_refl _) _).setCell (p := ⟨w.heap.size, 1, none⟩) (Nat.le_refl _) _
end


theorem KtA.start {w w2 : World} {g : Nat} (hg : w.heap.size + 1 ≤ g) (hr : RowL w2 g 84 [.bool true, .slice none 0 0, .slice none 0 0, .slice none 0 0, .slice none 0 0])
    (hb : Below (w.alloc (.cells #[.slice none 0 0, .int .i64 0] 26)).heap.size (w.alloc (.cells #[.slice none 0 0, .int .i64 0] 26)) w2) :
    KtA w ((w2.alloc (.cells #[.slice (some ⟨g, 0, none⟩) 1 1, .int .i64 0] 26)).alloc (.map #[] 0)) w2.heap.size (w2.heap.size + 1) g 1 [zleaf] 0 [] 0 [] := by
  have hs : w.heap.size + 1 ≤ w2.heap.size := Nat.le_trans (by simp) hb.size
  have hgl := hr.lt
  have hot : OwnTree (w.heap.size + 1) w2 g [zleaf] := ⟨hr, hg, fun q hq => by
      obtain rfl : q = zleaf := by simpa using hq
      exact ⟨World.ownsRow_nil _ _ _ _, World.ownsRow_nil _ _ _ _, World.ownsRow_nil _ _ _ _, World.ownsRow_nil _ _ _ _, by decide, by decide, by decide, by decide⟩, by simp [zleaf, PN.blocks], by decide⟩
  have b1 : Below w2.heap.size w2 ((w2.alloc (.cells #[.slice (some ⟨g, 0, none⟩) 1 1, .int .i64 0] 26)).alloc (.map #[] 0)) := ((Below.refl _ _).alloc (Nat.le_refl _) _).alloc (by simp) _
  have hres : RowL w2 w.heap.size 26 [.slice none 0 0, .int .i64 0] := (rowL_alloc w _ _).below hb (by simp)
  have s1 : (w2.alloc (.cells #[.slice (some ⟨g, 0, none⟩) 1 1, .int .i64 0] 26)).heap.size = w2.heap.size + 1 := by simp
  have hfeet : feet g [zleaf] = [g] := by simp [feet, zleaf, PN.blocks]
  refine ⟨nextB (nextB ((Below.refl _ _).alloc (Nat.le_refl _) _) (Nat.le_refl _) hb) (Nat.le_refl _) b1, hres.below b1 (by omega), ?_, (hot.nt (by decide)).below b1 (Nat.le_refl _), Knows.new, ?_, hs, by omega, by omega, by rw [hfeet]; simp; omega, by rw [hfeet]; simp; omega⟩
  · exact (rowL_alloc w2 _ _).of_block (Below.heap_alloc _ _ _ (by simp))
  · have := MapR.new (w2.alloc (.cells #[.slice (some ⟨g, 0, none⟩) 1 1, .int .i64 0] 26))
    rwa [s1] at this

/-- What Put does to a tree whose knowledge is known. -/
theorem put_kt (g C : Nat) (root key : Int) (r : Ru) (qs : List PN) (l : List En) (W : World) (hN : NodesAt W.heap.size W (some ⟨g, 0, none⟩) qs) (hk : Knows (qs.map PN.nd) root l) :
    Calls Tryz.prog 13 #[.agg #[.slice (some ⟨g, 0, none⟩) qs.length C, .int .i64 root], .int .i64 key, .agg #[.int .i64 r.c, .int .i64 r.s, .int .i64 r.lo, .int .i64 r.hi, .int .i64 r.t, .int .i64 r.l]] W
      fun e w' => Below W.heap.size W w' ∧ ((∃ c : Int, (c == 0) = false ∧ e = .returned (.tuple #[.agg #[.slice none 0 0, .int .i64 0], .int .i64 c])) ∨
        ∃ g' C' qs' root' ys, e = .returned (.tuple #[.agg #[.slice (some ⟨g', 0, none⟩) qs'.length C', .int .i64 root'], .int .i64 0]) ∧ NT W.heap.size w' g' C' qs' ∧ Knows (qs'.map PN.nd) root' ys ∧ ins l (mkE key r) = some ys ∧ Good r) := by
  refine (put_any (some ⟨g, 0, none⟩) C root key r qs W hN (treeC_wf hk.ok)).mono fun e w' h => ?_
  rcases h with ⟨h1, h2, hb⟩ | ⟨hF, hc, hto⟩
  · exact ⟨hb, .inl ⟨_, by simpa using h1, h2⟩⟩
  · obtain ⟨ns2, root2, hok, hb, hres⟩ := hto.res
    refine ⟨hb, ?_⟩
    rcases hres with ⟨_, he⟩ | ⟨hle, g', C', qs', he, hnt, hq⟩
    · exact .inl ⟨1, rfl, he⟩
    · obtain ⟨ys, hi, hk2, hg⟩ := hk.put hF hok hle
      exact .inr ⟨g', C', qs', root2, ys, he, hnt, by rw [hq]; exact hk2, hi, hg⟩

end Go.Proofs.YtlojfgdpmaigmacGreatDoor

/- The walk of Tree of package winnowerkeep, with what keys it knows of, and of how many points. -/
namespace Go.Proofs.YtlojfgdpmaigmacGreatDoor
open Go.RowKit Plain Go.Shelf

/-- What Tree answers. -/
def KtSum (w : World) (many : Int) (e : Ending) (w' : World) : Prop :=
  ∃ g C' qs root mb n l, e = .returned (.tuple #[.agg #[.slice (some ⟨g, 0, none⟩) qs.length C', .int .i64 root], .map (some mb)]) ∧ NodesAt w'.heap.size w' (some ⟨g, 0, none⟩) qs ∧ Knows (qs.map PN.nd) root l ∧ MapR w' mb n l ∧ Below w.heap.size w w' ∧ (∀ y ∈ l, 0 ≤ y.key ∧ y.key < many) ∧ sumC l ≤ 600

set_option maxRecDepth 20000 in
set_option maxHeartbeats 4000000 in
theorem ktree_sum (A : Option Addr) (C : Nat) (xs : List Rw) (many : Int) (w : World) (hA : RowAt w.heap.size w A (flatR xs)) (hwf : ∀ x ∈ xs, x.wf) (hm1 : 1 ≤ many) (hm2 : many ≤ 200) :
    Calls Tryz.prog 8 #[.slice A xs.length C, .int .i64 many] w
      (KtSum w many) := by
  have hmm := @run_makeMap Tryz.prog
  go_enter Tryz.func8, Tryz.ntmps8
  go_wp2_with (first | (go_at_call 20; refine (newT_any _).mono ?_; rintro e w2 ⟨g0, rfl, hg0, hr0, hb0⟩; have HS := hideC (KtA.start (w := w) (by simpa using hg0) hr0 hb0); clear hg0 hr0 hb0))
  go_loopw [8] (fun i wr => ∃ (k : Nat) (g C' : Nat) (qs : List PN) (root : Int) (l : List En), k ≤ xs.length ∧ k ≤ 150 ∧ i = .int .i64 (k : Nat) ∧ KtA w wr w2.heap.size (w2.heap.size + 1) g C' qs root l k l ∧ Hid ((∀ y ∈ l, 0 ≤ y.key ∧ y.key < many) ∧ sumC l ≤ 4 * (k : Int))) (fun i _ => xs.length - (intOf i).toNat)
  case atStart => exact ⟨0, g0, 1, [zleaf], 0, [], Nat.zero_le _, by omega, rfl, HS.out, (fun y hy => by simp at hy), by simp [sumC]⟩
  case round =>
    obtain ⟨k, g, C', qs, root, l, hk, hk2, rfl, hat, HKB⟩ := hrel
    have t0 : wr.cell? ⟨w2.heap.size, 0, none⟩ = some (.slice (some ⟨g, 0, none⟩) qs.length C') := hat.bt.cell 0
    have t1 : wr.cell? ⟨w2.heap.size, 1, none⟩ = some (.int .i64 root) := hat.bt.cell 1
    have lt := hat.bt.lt
    have lm := hat.mp.lt
    have hle := hat.below.size
    have hge := hat.t1
    clear hmm HS
    by_cases hlt : k < xs.length ∧ k < 150
    · obtain ⟨hlt, hl5⟩ := hlt
      obtain ⟨b, o, rfl, hbl, hrw⟩ := (hA.below hat.below (Nat.le_refl _)).rw4 hlt
      have hx := hwf _ (List.getElem_mem hlt)
      generalize xs[k] = x at *
      obtain ⟨xk, xa, xb, xc⟩ := x
      obtain ⟨c0, c1, c2, c3⟩ := hrw
      simp only at c0 c1 c2 c3
      obtain ⟨x0, x1, x2, x3⟩ := hx
      simp only at x0 x1 x2 x3
      have hbr : b < wr.heap.size := by omega
      have i0 : (0 : Int) ≤ (k : Int) := by omega
      have i1 : (k : Int) < (xs.length : Int) := by omega
      have i2 : (k : Int) < 150 := by omega
      obtain ⟨key, hkey⟩ : ∃ key, pick xk many = key := ⟨_, rfl⟩
      have hkb := pick_bd xk (show 0 < many by omega)
      rw [hkey] at hkb
      have hkw : (Lit.int .i64 key).wf = true := WalkArith.wf_i64 (by omega)
      have HA := hideC hat
      obtain ⟨q, hq⟩ : ∃ q, look l key = q := ⟨_, rfl⟩
      have HQ := hideC hq
      clear hq
      have con1 := hideC fun W => picked_any xk many W x0.1 x0.2 (by omega) (by omega)
      rw [hkey] at con1
      have p4 := pick_bd xc (show (0 : Int) < 4 by decide)
      have hrc := rollG_good xa xb (pick xc 4).toNat (by omega)
      have con2 := hideC fun W => rollup_is xk xa xb xc W x1 x2 x3
      obtain ⟨r, hr⟩ : ∃ r, rollG xa xb (pick xc 4).toNat = r := ⟨_, rfl⟩
      rw [hr] at con2 hrc
      have HRC : Hid (r.c ≤ 4) := by show r.c ≤ 4; omega
      clear hr hrc p4
      clear hat hkey x0 x1 x2 x3
      go_wp2_with (first
        | (go_at_call 9; refine (con1.out _).mono ?_; rintro e w1 ⟨rfl, hw1⟩; subst w1)
        | (go_at_call 14; refine (con2.out _).mono ?_; rintro e w3 ⟨rfl, hb3⟩; have H3 := hideC (HA.out.next hb3); have t30 : w3.cell? ⟨w2.heap.size, 0, none⟩ = some (.slice (some ⟨g, 0, none⟩) qs.length C') := H3.out.bt.cell 0; have t31 : w3.cell? ⟨w2.heap.size, 1, none⟩ = some (.int .i64 root) := H3.out.bt.cell 1; have lt3 := H3.out.bt.lt; have lm3 := H3.out.mp.lt; have con3 := hideC fun W hN => put_kt g C' root key r qs l W hN HA.out.kn; obtain ⟨m, hm⟩ : ∃ m, mrg q r = m := ⟨_, rfl⟩; have con4 := hideC fun W => merge_any q r W; rw [hm] at con4; have HM := hideC hm; clear hb3 t0 t1 c0 c1 c2 c3 hm)
        | (go_at_call 13; refine (con3.out _ (H3.out.nt.nodes.up ((Below.refl _ _).alloc (Nat.le_refl _) _))).mono ?_; rintro e w5 ⟨hb5, hres⟩; have H5 := hideC ((H3.out.next ((Below.refl _ _).alloc (Nat.le_refl _) (.cells #[.int .i64 r.c, .int .i64 r.s, .int .i64 r.lo, .int .i64 r.hi, .int .i64 r.t, .int .i64 r.l] 38))).next hb5); have R5 : Hid (RowL w5 w3.heap.size 38 (ruV r)) := (rowL_alloc w3 _ _).below hb5 (by simp); have L5 : Hid (w3.heap.size + 1 ≤ w5.heap.size) := Nat.le_trans (by simp) hb5.size; have t50 : w5.cell? ⟨w2.heap.size, 0, none⟩ = some (.slice (some ⟨g, 0, none⟩) qs.length C') := H5.out.bt.cell 0; have t51 : w5.cell? ⟨w2.heap.size, 1, none⟩ = some (.int .i64 root) := H5.out.bt.cell 1; have t5f := fun j => H5.out.bt.frozen j; have lt5 := H5.out.bt.lt; have r5 := fun j => R5.out.cell j; simp only [ruV] at r5; have lr5 := R5.out.lt; have ne5 : ¬ w2.heap.size = w3.heap.size := (by omega); have ne6 : ¬ w3.heap.size = w2.heap.size := (by omega); clear hb5 t30 t31; rcases hres with ⟨z, hz0, rfl⟩ | ⟨g2, C2, qs2, root2, ys, rfl, hn2, hk2, hi2, hg2⟩)
        | (at_lookup; have K6 := hideC (H5.out.putT hn2 (by simp; omega) (by simp; omega) hk2 (.cells #[.slice (some ⟨g2, 0, none⟩) qs2.length C2, .int .i64 root2] 26)); refine wpList_lookup_ru _ rfl _ _ rfl (w2.heap.size + 1) k l rfl K6.out.mp key rfl hkw q HQ ?_)
        | (go_at_call 16; refine (con4.out _).mono ?_; rintro e w7 ⟨rfl, hb7⟩; have K7 := hideC (K6.out.next hb7); obtain ⟨D, d1, d2, d3, d4⟩ := K7.out.mp; clear hb7)
        | (at_mapUpdate; refine wpList_mapUpdate_own _ rfl _ _ _ 27 rfl 3 38 law_int Tryz.underlying27 ruElem (w2.heap.size + 1) k D rfl d1 (by unfold maxLen; omega) _ _ (.int .i64 key) rfl rfl (Maps.keyOf_int_mk Tryz.underlying3 hkw) (ruD m.1) [] (ruElem_mk _) ?_; intro w8 hown8 hgrow8))
      · go_roundw
        case rel =>
          go_light
          exact ⟨k + 1, g, C', qs, root, l, by omega, by omega, by go_num, (H5.out.next ((Below.refl _ _).alloc (Nat.le_refl _) _)).mono (by omega), HKB.out.1, by have := HKB.out.2; omega⟩
        case measure => simp [intOf]; omega
      · have e1 : (mrg (look l key) r).1 = m.1 := by rw [HQ.out, HM.out]
        have hm8 : MapR w8 (w2.heap.size + 1) (k + 1) ys := MapR.put (x := mkE key r) d1 d2 d3 d4 HA.out.kn.inc HA.out.kn.good hg2 hi2 (by rw [mkE_key, mkE_ru, e1]; exact hown8)
        have K8 := hideC (K7.out.setM hgrow8 hm8)
        have HK8 : Hid ((∀ y ∈ ys, 0 ≤ y.key ∧ y.key < many) ∧ sumC ys ≤ 4 * ((k + 1 : Nat) : Int)) := ⟨fun y hy => by
          rcases (ins_inc HA.out.kn.inc hi2).2 y hy with e | ⟨z, hz, e⟩
          · rw [e]; exact hkb
          · rw [← e]; exact HKB.out.1 z hz, by
          have h1 := ins_sum hi2
          have h2 := HKB.out.2
          have h3 := HRC.out
          have h4 : (mkE key r).c = r.c := rfl
          omega⟩
        clear hown8 hgrow8 hm8 d1 d2 d3 d4
        go_wp2
        go_roundw
        case rel =>
          go_light
          exact ⟨k + 1, g2, C2, qs2, root2, ys, by omega, by omega, by go_num, K8.out, HK8⟩
        case measure => simp [intOf]; omega
    · by_cases hlt' : k < xs.length
      · have i1 : (k : Int) < (xs.length : Int) := by omega
        have i2 : ¬ ((k : Int) < 150) := by omega
        have r0 : wr.cell? ⟨w.heap.size, 0, none⟩ = some (.slice none 0 0) := hat.res.cell 0
        have r1 : wr.cell? ⟨w.heap.size, 1, none⟩ = some (.int .i64 0) := hat.res.cell 1
        have rf := fun j => hat.res.frozen j
        have HA := hideC hat
        clear hat
        go_wp2
        obtain ⟨n1, n2, n3⟩ := HA.out.fin (.slice (some ⟨g, 0, none⟩) qs.length C') (.int .i64 root)
        exact bodyPost_ret (v := .tuple #[.agg #[.slice (some ⟨g, 0, none⟩) qs.length C', .int .i64 root], .map (some (w2.heap.size + 1))]) (by simp [results, Tryz.results8, go_sem, r0, r1]) rfl ⟨g, C', qs, root, _, _, l, rfl, n1, HA.out.kn, n2, n3, HKB.out.1, by have := HKB.out.2; omega⟩
      · have i1 : ¬ ((k : Int) < (xs.length : Int)) := by omega
        have r0 : wr.cell? ⟨w.heap.size, 0, none⟩ = some (.slice none 0 0) := hat.res.cell 0
        have r1 : wr.cell? ⟨w.heap.size, 1, none⟩ = some (.int .i64 0) := hat.res.cell 1
        have rf := fun j => hat.res.frozen j
        have HA := hideC hat
        clear hat
        go_wp2
        obtain ⟨n1, n2, n3⟩ := HA.out.fin (.slice (some ⟨g, 0, none⟩) qs.length C') (.int .i64 root)
        exact bodyPost_ret (v := .tuple #[.agg #[.slice (some ⟨g, 0, none⟩) qs.length C', .int .i64 root], .map (some (w2.heap.size + 1))]) (by simp [results, Tryz.results8, go_sem, r0, r1]) rfl ⟨g, C', qs, root, _, _, l, rfl, n1, HA.out.kn, n2, n3, HKB.out.1, by have := HKB.out.2; omega⟩

end Go.Proofs.YtlojfgdpmaigmacGreatDoor
