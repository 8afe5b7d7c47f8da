/- base.Copy: the same base, in memory of its own. -/
import Derived.Shelf.Strconv.Clone
import Derived.BigQuiet
import Derived.Test.YtndojgeodmddoadLays
import Derived.Test.YtndojgeodmddoadCopyWalk
import Derived.Test.YtndojgeodmddoadOpenBase
namespace Go.Proofs.Ytndojgeodmddoad
open Go.RowKit Go.Shelf

theorem two_rows' {v w2 : World} {l1 l2 : List Value} {t1 t2 : TypeId} (hb : Below ((v.alloc (.cells l1.toArray t1)).alloc (.cells l2.toArray t2)).heap.size ((v.alloc (.cells l1.toArray t1)).alloc (.cells l2.toArray t2)) w2) {n : Nat} (hn : n = v.heap.size) :
    RowL w2 n t1 l1 ∧ RowL w2 (n + 1) t2 l2 ∧ n + 1 < w2.heap.size := by
  subst hn
  have s1 : (v.alloc (.cells l1.toArray t1)).heap.size = v.heap.size + 1 := by simp
  have s2 : ((v.alloc (.cells l1.toArray t1)).alloc (.cells l2.toArray t2)).heap.size = v.heap.size + 2 := by simp
  have r1 : RowL ((v.alloc (.cells l1.toArray t1)).alloc (.cells l2.toArray t2)) v.heap.size t1 l1 := (rowL_alloc v l1 t1).of_block (Below.heap_alloc _ _ _ (by omega))
  have r2 : RowL ((v.alloc (.cells l1.toArray t1)).alloc (.cells l2.toArray t2)) (v.heap.size + 1) t2 l2 := by
    have := rowL_alloc (v.alloc (.cells l1.toArray t1)) l2 t2
    rwa [s1] at this
  have hs := hb.size
  exact ⟨r1.below hb (by omega), r2.below hb (by omega), by omega⟩

theorem alloc_rule8 {W w3 : World} {c : Array Value} {t : TypeId} {n : Nat} (hb : Below (W.alloc (.cells c t)).heap.size (W.alloc (.cells c t)) w3) (hn : W.heap.size = n) :
    (∀ j, w3.cell? ⟨n, j, none⟩ = c[j]?) ∧ ∀ j, w3.frozen? ⟨n, j, none⟩ = false := by
  subst hn
  exact ⟨fun j => (hb.cell (p := ⟨W.heap.size, j, none⟩) (by simp)).trans (by simp), fun j => (hb.frozen (p := ⟨W.heap.size, j, none⟩) (by simp)).trans (by simp)⟩

theorem StrsAt.up {w cur : World} {A : Option Addr} {ss : List ByteArray} (h : StrsAt w.heap.size w A ss) (hb : Below w.heap.size w cur) : StrsAt cur.heap.size cur A ss := ⟨h.row.up hb, h.z, h.each⟩

theorem OwnTree.keep {base g : Nat} {w w' : World} {qs : List PN} (h : OwnTree base w g qs) (hk : ∀ k, base ≤ k → k < w.heap.size → w'.heap[k]? = w.heap[k]?) : OwnTree base w' g qs :=
  ⟨h.row.of_block (hk g h.hbase h.row.lt), h.hbase, fun q hq => (h.each q hq).of_blocks fun k hm => hk k ((h.each q hq).lt k hm).1 ((h.each q hq).lt k hm).2, h.apart, h.z⟩

/-- A copy of a tree, in blocks behind cb. -/
def TreeCpy (cb : Nat) (w : World) (g : Nat) (q ps : List PN) : Prop := (∃ base, cb < base ∧ OwnTree base w g q) ∧ q.map PN.nd = ps.map PN.nd

theorem TreeCpy.below {cb g : Nat} {w w' : World} {q ps : List PN} (h : TreeCpy cb w g q ps) (hb : Below w.heap.size w w') : TreeCpy cb w' g q ps := by
  obtain ⟨⟨base, h1, h2⟩, h3⟩ := h
  exact ⟨⟨base, h1, h2.keep fun k _ hk => hb.block k hk⟩, h3⟩

theorem TreeCpy.set {cb g : Nat} {w : World} {q ps : List PN} (h : TreeCpy cb w g q ps) (j : Nat) (v : Value) : TreeCpy cb (w.setCell ⟨cb, j, none⟩ v) g q ps := by
  obtain ⟨⟨base, h1, h2⟩, h3⟩ := h
  exact ⟨⟨base, h1, h2.keep fun k hk _ => Below.heap_setCell _ _ _ _ (show k ≠ cb by omega)⟩, h3⟩

def tw (b : Bool) (g l : Nat) : Value := if b = true then .slice (some ⟨g, 0, none⟩) l l else .slice none 0 0
def rw' (b : Bool) (r : Int) : Value := if b = true then .int .i64 r else .int .i64 0

theorem bc_step {wd w1 : World} {cb n : Nat} {t t' : TypeId} {l A Z : List Value} {v : Value} {ss : List ByteArray} (ra : RowL w1 n t A) (rz : RowL w1 (n + 1) t Z) (rb : RowL w1 cb t l) (hov : w1.ownsRow wd.heap.size t' 1 v ss.length (strs ss)) (hne : v.ownBlock ≠ some cb) (hcb : wd.heap.size ≤ cb) (hn : n + 1 < wd.heap.size) (hb : Below wd.heap.size wd w1) (i : Nat) (v1 v2 : Value) :
    RowL ((w1.setCell ⟨cb, i, none⟩ v1).setCell ⟨cb, i + 1, none⟩ v2) n t A ∧ RowL ((w1.setCell ⟨cb, i, none⟩ v1).setCell ⟨cb, i + 1, none⟩ v2) (n + 1) t Z ∧ RowL ((w1.setCell ⟨cb, i, none⟩ v1).setCell ⟨cb, i + 1, none⟩ v2) cb t ((l.set i v1).set (i + 1) v2) ∧ ((w1.setCell ⟨cb, i, none⟩ v1).setCell ⟨cb, i + 1, none⟩ v2).ownsRow wd.heap.size t' 1 v ss.length (strs ss) ∧ Below wd.heap.size wd ((w1.setCell ⟨cb, i, none⟩ v1).setCell ⟨cb, i + 1, none⟩ v2) ∧
    ∀ g q ps, TreeCpy cb w1 g q ps → TreeCpy cb ((w1.setCell ⟨cb, i, none⟩ v1).setCell ⟨cb, i + 1, none⟩ v2) g q ps := by
  have far : ∀ (k : Nat) (W : World) (j : Nat) (v : Value), k ≠ cb → (W.setCell ⟨cb, j, none⟩ v).heap[k]? = W.heap[k]? := fun k W j v hk => Below.heap_setCell _ _ _ _ hk
  refine ⟨(ra.of_block (far _ _ _ _ (by omega))).of_block (far _ _ _ _ (by omega)), (rz.of_block (far _ _ _ _ (by omega))).of_block (far _ _ _ _ (by omega)), (rb.set i v1).set (i + 1) v2, own_of_block (own_of_block hov (fun k hk => far k _ _ _ (fun e => hne (e ▸ hk)))) (fun k hk => far k _ _ _ (fun e => hne (e ▸ hk))), ⟨hb.os, hb.tape, hb.output, by simpa using hb.size, fun k hk => ?_⟩, fun g q ps h => (h.set i v1).set (i + 1) v2⟩
  exact (far k _ _ _ (by omega)).trans ((far k _ _ _ (by omega)).trans (hb.block k hk))

def set8 (w : World) (m : Nat) (a b c d e f g h : Value) : World := ((((((((w.setCell ⟨m, 0, none⟩ a).setCell ⟨m, 1, none⟩ b).setCell ⟨m, 2, none⟩ c).setCell ⟨m, 3, none⟩ d).setCell ⟨m, 4, none⟩ e).setCell ⟨m, 5, none⟩ f).setCell ⟨m, 6, none⟩ g).setCell ⟨m, 7, none⟩ h)

theorem set8_far (w : World) (m : Nat) (a b c d e f g h : Value) (k : Nat) (hk : k ≠ m) : (set8 w m a b c d e f g h).heap[k]? = w.heap[k]? := by
  have far : ∀ (W : World) (j : Nat) (v : Value), (W.setCell ⟨m, j, none⟩ v).heap[k]? = W.heap[k]? := fun W j v => Below.heap_setCell _ _ _ _ hk
  unfold set8
  rw [far, far, far, far, far, far, far, far]

theorem set1_below {B : Nat} {w0 w : World} (hb : Below B w0 w) {m : Nat} (hm : B ≤ m) (j : Nat) (v : Value) : Below B w0 (w.setCell ⟨m, j, none⟩ v) :=
  ⟨hb.os, hb.tape, hb.output, by simpa using hb.size, fun k hk => (Below.heap_setCell _ _ _ _ (show k ≠ m by omega)).trans (hb.block k hk)⟩

theorem set8_below {B : Nat} {w0 w : World} (hb : Below B w0 w) {m : Nat} (hm : B ≤ m) (a b c d e f g h : Value) : Below B w0 (set8 w m a b c d e f g h) := by
  unfold set8
  exact set1_below (set1_below (set1_below (set1_below (set1_below (set1_below (set1_below (set1_below hb hm _ _) hm _ _) hm _ _) hm _ _) hm _ _) hm _ _) hm _ _) hm _ _

theorem clone_any (s : ByteArray) (w : World) (hs : s.size ≤ 140737488351232) :
    Calls Try.prog 21 #[.string s] w fun e w' => e = .returned (.string s) ∧ Below w.heap.size w w' := by
  have hcon := Any.stringslite_Clone Try.cloneS s w (by omega)
  change Calls Try.prog 28 _ _ _ at hcon
  go_enter Try.func21, Try.ntmps21
  go_wp2_with (go_at_call 28; refine hcon.mono ?_; rintro e w1 ⟨rfl, hb1⟩)
  go_ret
  exact ⟨rfl, hb1⟩

theorem infoS : (Try.prog.info? 9).map (fun i => (i.zero, i.size, i.bytes)) = some (some (.string ByteArray.empty), 1, 16) := by kernel_rfl

theorem newsS (w : World) (s : ByteArray) : ∀ j u, [Value.string s][j]? = some u → (w.alloc (.cells #[.string s] 9)).cell? ((⟨w.heap.size, 0, none⟩ : Addr).add j) = some u := by
  intro j u hu
  cases j with
  | zero =>
    cases hu
    simp [Addr.add]
  | succ j => simp at hu

theorem strs_get (ss : List ByteArray) (k : Nat) (hk : k < ss.length) : (strs ss)[k]? = some (.string ss[k]) := by simp [strs, hk]

theorem RowAt.str {B : Nat} {w : World} {A : Option Addr} {ss : List ByteArray} (h : RowAt B w A (strs ss)) {k : Nat} (hk : k < ss.length) :
    ∃ b o, A = some ⟨b, o, none⟩ ∧ b < B ∧ w.cell? ⟨b, o + k, none⟩ = some (.string ss[k]) := by
  rcases h with h | ⟨b, o, hA, hlt, hc⟩
  · rw [strs, List.map_eq_nil_iff] at h
    subst h
    simp at hk
  · exact ⟨b, o, hA, hlt, hc k _ (strs_get ss k hk)⟩

set_option maxRecDepth 20000 in
set_option maxHeartbeats 1000000 in
theorem freshNames_any (A : Option Addr) (C : Nat) (ss : List ByteArray) (w : World) (h : StrsAt w.heap.size w A ss) :
    Calls Try.prog 13 #[.slice A ss.length C] w fun e w' => ∃ v, e = .returned v ∧ w'.ownsRow w.heap.size 9 1 v ss.length (strs ss) ∧ Below w.heap.size w w' := by
  obtain ⟨i0, hi0, hz0, hz1, hz2⟩ := info_parts infoS
  have hz := h.z
  go_enter Try.func13, Try.ntmps13
  go_wp2_with fail
  go_loopw [3, 8] (fun vo vi wr => ∃ i : Nat, i ≤ ss.length ∧ vi = .int .i64 i ∧ wr.ownsRow w.heap.size 9 1 vo i (strs (ss.take i)) ∧ Below w.heap.size w wr) (fun _ vi _ => ss.length - (intOf vi).toNat)
  case atStart => exact ⟨0, Nat.zero_le _, rfl, World.ownsRow_nil _ _ _ _, Below.refl _ _⟩
  case round =>
    obtain ⟨i, hi, rfl, hown, hb⟩ := hrel
    have hsz := hb.size
    by_cases hlt : i < ss.length
    · obtain ⟨b, o, rfl, hbl, hc⟩ := (h.row.below hb (Nat.le_refl _)).str hlt
      have hss : (ss[i]).size ≤ 140737488351232 := h.each _ (List.getElem_mem hlt)
      have hbr : b < wr.heap.size := by omega
      have HT : Hid (strs (ss.take (i + 1)) = strs (ss.take i) ++ [.string ss[i]]) := by
        show _ = _
        rw [List.take_succ_eq_append_getElem hlt]
        unfold strs
        rw [List.map_append]
        rfl
      obtain ⟨s, hs⟩ : ∃ s, ss[i] = s := ⟨_, rfl⟩
      rw [hs] at hc hss HT
      go_wp2_with (first
        | (go_at_call 21; refine (clone_any s _ hss).mono ?_; rintro e w1 ⟨rfl, hb1⟩; have hown1 : w1.ownsRow w.heap.size 9 1 u3 i (strs (ss.take i)) := own_of_block hown (fun k hk => hb1.block k (hown.lt k hk).2); have hw1 : Below w.heap.size w w1 := hb.trans (hb1.mono hsz); have z1 := hb1.size)
        | (at_builtin; refine wpList_append_own _ rfl _ _ 22 rfl w.heap.size 9 i0 _ 1 16 Try.underlying22 hi0 hz0 hz1 hz2 rfl (by decide) u3 i (strs (ss.take i)) rfl (hown1.alloc _) ⟨w1.heap.size, 0, none⟩ 1 1 [.string s] rfl rfl (newsS w1 s) (by intro u hu; simp at hu; subst hu; rfl) (by unfold maxLen; omega) (by omega) (by simp; omega) ?_; intro v2 w2 hown2 hgrow2 _))
      have hb2 : Below w.heap.size w w2 := (hw1.alloc (by omega) _).grown hgrow2 (by simp; omega) (fun k hk => (hown1.lt k hk).1)
      exact ⟨⟨i + 1, hlt, by go_num, by rw [HT.out]; exact hown2, hb2⟩, by simp only [intOf]; omega⟩
    · have hie : i = ss.length := by omega
      go_wp2_with fail
      go_ret
      subst hie
      rw [List.take_length] at hown
      exact ⟨_, rfl, hown, hb⟩

set_option maxRecDepth 20000 in
set_option maxHeartbeats 1000000 in
theorem bcopy_any (A : Option Addr) (C : Nat) (ss : List ByteArray) (t0 t1 t2 : TR) (f : Int) (w : World) (h : StrsAt w.heap.size w A ss) (h0 : NodesAt w.heap.size w t0.A t0.ps) (h1 : NodesAt w.heap.size w t1.A t1.ps) (h2 : NodesAt w.heap.size w t2.A t2.ps) :
    Calls Try.prog 7 #[.agg #[.slice A ss.length C, .slice t0.A t0.ps.length t0.C, .int .i64 t0.r, .slice t1.A t1.ps.length t1.C, .int .i64 t1.r, .slice t2.A t2.ps.length t2.C, .int .i64 t2.r, .int .i64 f]] w
      fun e w' => ∃ v g0 g1 g2 q0 q1 q2, e = .returned (.agg #[v, .slice (some ⟨g0, 0, none⟩) t0.ps.length t0.ps.length, .int .i64 t0.r, .slice (some ⟨g1, 0, none⟩) t1.ps.length t1.ps.length, .int .i64 t1.r, .slice (some ⟨g2, 0, none⟩) t2.ps.length t2.ps.length, .int .i64 t2.r, .int .i64 f]) ∧
        w'.ownsRow w.heap.size 9 1 v ss.length (strs ss) ∧ NodesAt w'.heap.size w' (some ⟨g0, 0, none⟩) q0 ∧ NodesAt w'.heap.size w' (some ⟨g1, 0, none⟩) q1 ∧ NodesAt w'.heap.size w' (some ⟨g2, 0, none⟩) q2 ∧ q0.map PN.nd = t0.ps.map PN.nd ∧ q1.map PN.nd = t1.ps.map PN.nd ∧ q2.map PN.nd = t2.ps.map PN.nd ∧ Below w.heap.size w w' := by
  have b0 : ∀ o : Obj, Below w.heap.size w (w.alloc o) := fun o => (Below.refl _ _).alloc (Nat.le_refl _) o
  obtain ⟨A0, C0, p0, r0⟩ := t0
  obtain ⟨A1, C1, p1, r1⟩ := t1
  obtain ⟨A2, C2, p2, r2⟩ := t2
  simp only at h0 h1 h2 ⊢
  go_enter Try.func7, Try.ntmps7
  go_wp2_with fail
  obtain ⟨wd, hwd⟩ : ∃ wd, wd = (w.alloc (.cells #[.slice A ss.length C, .slice A0 p0.length C0, .int .i64 r0, .slice A1 p1.length C1, .int .i64 r1, .slice A2 p2.length C2, .int .i64 r2, .int .i64 f] 28)).alloc (.cells #[.slice none 0 0, .slice none 0 0, .int .i64 0, .slice none 0 0, .int .i64 0, .slice none 0 0, .int .i64 0, .int .i64 0] 28) := ⟨_, rfl⟩
  obtain ⟨rn, rr, zz⟩ := two_rows' (v := w) (w2 := wd) (l1 := [.slice A ss.length C, .slice A0 p0.length C0, .int .i64 r0, .slice A1 p1.length C1, .int .i64 r1, .slice A2 p2.length C2, .int .i64 r2, .int .i64 f]) (l2 := [.slice none 0 0, .slice none 0 0, .int .i64 0, .slice none 0 0, .int .i64 0, .slice none 0 0, .int .i64 0, .int .i64 0]) (t1 := 28) (t2 := 28) (by rw [hwd]; exact Below.refl _ _) rfl
  have hbd : Below w.heap.size w wd := by
    rw [hwd]
    exact two _ _
  rw [← hwd]
  clear hwd
  have hSd : ∀ w', Below wd.heap.size wd w' → StrsAt w'.heap.size w' A ss := fun w' hb => h.up (nextB hbd (Nat.le_refl _) hb)
  have c0 := rn.cell 0
  have c7 := rn.cell 7
  simp only [List.getElem?_cons_zero, List.getElem?_cons_succ] at c0 c7
  obtain ⟨n, hn⟩ : ∃ n, n = w.heap.size := ⟨_, rfl⟩
  rw [← hn] at c0 c7 rn rr zz ⊢
  have HN : Hid (n = w.heap.size) := hn
  clear hn
  have hnd : n < wd.heap.size := by omega
  have hnd1 : n < wd.heap.size + 1 := by omega
  have n1 : ¬ n = wd.heap.size := by omega
  have KS : ∀ (W : World) (b' o' j : Nat) (v : Value), ¬ b' = wd.heap.size → (W.setCell ⟨wd.heap.size, j, none⟩ v).cell? ⟨b', o', none⟩ = W.cell? ⟨b', o', none⟩ := fun W b' o' j v hb => World.cell?_setCell_far _ _ _ _ (fun e => hb e.symm)
  go_cut [3] (fun v3 wc => ∃ cb v, v3 = .pointer (some ⟨cb, 0, none⟩) ∧ wd.heap.size ≤ cb ∧ wc.ownsRow wd.heap.size 9 1 v ss.length (strs ss) ∧ v.ownBlock ≠ some cb ∧ RowL wc cb 28 [v, .slice none 0 0, .int .i64 0, .slice none 0 0, .int .i64 0, .slice none 0 0, .int .i64 0, .int .i64 f] ∧ Below wd.heap.size wd wc)
  case first =>
    go_region_held3 (fun w' => w'.cell? ⟨n, 0, none⟩ = some (.slice A ss.length C) ∧ w'.cell? ⟨n, 7, none⟩ = some (.int .i64 f)) (go_keep) (first | (go_at_call 13; refine (freshNames_any A C ss _ ?_).mono ?_; (first | exact hSd _ ((Below.refl _ _).drew) | exact hSd _ (((Below.refl _ _).alloc (Nat.le_refl _) _).drew)); rintro e w3 ⟨v, rfl, hov, hb3⟩; obtain ⟨VA, VC, hvv, -⟩ := own_row hov; subst hvv; have T3 := (bcells (hb3.mono (show wd.heap.size ≤ _ by simp))).1; first | (have T4 := alloc_rule8 (W := wd.drew) (n := wd.heap.size) hb3 rfl; obtain ⟨T40, U4⟩ := T4) | skip))
    · go_wp2
      go_meet
      case rel =>
        have bw : Below wd.heap.size wd w3 := ((Below.refl wd.heap.size wd).drew).trans (hb3.mono (by simp))
        have hov' : w3.ownsRow wd.heap.size 9 1 (.slice VA ss.length VC) ss.length (strs ss) := hov
        exact ⟨w3.heap.size, .slice VA ss.length VC, rfl, bw.size, hov'.alloc _, fun hk => by have := (hov'.lt _ hk).2; omega, rowL_alloc w3 _ _, bw.alloc bw.size _⟩
    · go_wp2
      go_meet
      case rel =>
        have r0 : RowL w3 wd.heap.size 28 [.slice none 0 0, .slice none 0 0, .int .i64 0, .slice none 0 0, .int .i64 0, .slice none 0 0, .int .i64 0, .int .i64 0] := RowL.below (rowL_alloc wd.drew _ _) hb3 (by simp)
        have bw : Below wd.heap.size wd w3 := (((Below.refl wd.heap.size wd).alloc (Nat.le_refl _) _).drew).trans (hb3.mono (by simp))
        have hov' : w3.ownsRow (wd.heap.size + 1) 9 1 (.slice VA ss.length VC) ss.length (strs ss) := by simpa using hov
        have S8 : ∀ {B : Nat} {W : World} (j : Nat) (v : Value), B ≤ wd.heap.size → Below B wd W → Below B wd (W.setCell ⟨wd.heap.size, j, none⟩ v) := fun j v hB h => ⟨h.os, h.tape, h.output, by simpa using h.size, fun k hk => (Below.heap_setCell _ _ _ _ (show k ≠ wd.heap.size by omega)).trans (h.block k hk)⟩
        have F8 : ∀ {W : World} (j : Nat) (v : Value), W.ownsRow (wd.heap.size + 1) 9 1 (.slice VA ss.length VC) ss.length (strs ss) → (W.setCell ⟨wd.heap.size, j, none⟩ v).ownsRow (wd.heap.size + 1) 9 1 (.slice VA ss.length VC) ss.length (strs ss) := fun j v h => own_of_block h (fun k hk => Below.heap_setCell _ _ _ _ (show k ≠ wd.heap.size by have := (h.lt k hk).1; omega))
        refine ⟨wd.heap.size, .slice VA ss.length VC, rfl, Nat.le_refl _, own_mono (F8 _ _ (F8 _ _ (F8 _ _ (F8 _ _ (F8 _ _ (F8 _ _ (F8 _ _ (F8 _ _ hov')))))))) (by omega), fun hk => by have := (hov'.lt _ hk).1; omega, ((((((((r0.set 0 _).set 1 _).set 2 _).set 3 _).set 4 _).set 5 _).set 6 _).set 7 _), ?_⟩
        exact S8 _ _ (Nat.le_refl _) (S8 _ _ (Nat.le_refl _) (S8 _ _ (Nat.le_refl _) (S8 _ _ (Nat.le_refl _) (S8 _ _ (Nat.le_refl _) (S8 _ _ (Nat.le_refl _) (S8 _ _ (Nat.le_refl _) (S8 _ _ (Nat.le_refl _) bw)))))))
  case rest =>
    obtain ⟨cb, v, rfl, hcb, hov, hne, hrc, hbc⟩ := hcut
    obtain ⟨VA, VC, hvv, -⟩ := own_row hov
    subst hvv
    have rn1 := rn.below hbc hnd
    have rr1 := rr.below hbc zz
    have d := fun j => rn1.cell j
    have ln := rn1.lt
    go_wp2_with fail
    have i0 : ∀ (a b c d e f : Value) (w : World), (Instr.index 26 (.agg #[a, b, c, d, e, f]) (.int .i64 0)).run Try.prog w = .ok (.agg #[a, b]) w := fun _ _ _ _ _ _ _ => by kernel_rfl
    have i1 : ∀ (a b c d e f : Value) (w : World), (Instr.index 26 (.agg #[a, b, c, d, e, f]) (.int .i64 1)).run Try.prog w = .ok (.agg #[c, d]) w := fun _ _ _ _ _ _ _ => by kernel_rfl
    have i2 : ∀ (a b c d e f : Value) (w : World), (Instr.index 26 (.agg #[a, b, c, d, e, f]) (.int .i64 2)).run Try.prog w = .ok (.agg #[e, f]) w := fun _ _ _ _ _ _ _ => by kernel_rfl
    clear d ln c0 c7 KS
    go_loopw [14] (fun vi wr => ∃ (k g0 g1 g2 : Nat) (q0 q1 q2 : List PN), k ≤ 3 ∧ vi = .int .i64 k ∧ RowL wr n 28 [.slice A ss.length C, .slice A0 p0.length C0, .int .i64 r0, .slice A1 p1.length C1, .int .i64 r1, .slice A2 p2.length C2, .int .i64 r2, .int .i64 f] ∧ RowL wr (n + 1) 28 [.slice none 0 0, .slice none 0 0, .int .i64 0, .slice none 0 0, .int .i64 0, .slice none 0 0, .int .i64 0, .int .i64 0] ∧ RowL wr cb 28 [.slice VA ss.length VC, tw (decide (0 < k)) g0 p0.length, rw' (decide (0 < k)) r0, tw (decide (1 < k)) g1 p1.length, rw' (decide (1 < k)) r1, tw (decide (2 < k)) g2 p2.length, rw' (decide (2 < k)) r2, .int .i64 f] ∧ (0 < k → TreeCpy cb wr g0 q0 p0) ∧ (1 < k → TreeCpy cb wr g1 q1 p1) ∧ (2 < k → TreeCpy cb wr g2 q2 p2) ∧ wr.ownsRow wd.heap.size 9 1 (.slice VA ss.length VC) ss.length (strs ss) ∧ Below wd.heap.size wd wr) (fun vi _ => 3 - (intOf vi).toNat)
    case atStart => exact ⟨0, 0, 0, 0, [], [], [], by omega, rfl, rn1, rr1, hrc, fun h => by omega, fun h => by omega, fun h => by omega, hov, hbc⟩
    case round =>
      clear hov rn1 rr1 hrc hbc
      obtain ⟨k, g0, g1, g2, q0, q1, q2, hk, rfl, ra, rz, rb, c0, c1, c2, hov, hb⟩ := hrel
      have hla := ra.lt
      have hlz := rz.lt
      have hlb := rb.lt
      have hzd := hb.size
      have hwz := hbd.size
      rcases (show k = 0 ∨ k = 1 ∨ k = 2 ∨ k = 3 by omega) with rfl | rfl | rfl | rfl
      · simp only [tw, rw'] at rb
        simp at rb
        go_wp2_with (go_at_call 14; refine (copy_any A0 C0 r0 p0 _ (h0.up ((nextB hbd (Nat.le_refl _) hb).alloc (by omega) _))).mono ?_; rintro e w1 ⟨g, qs, rfl, hO, hm, hb1⟩; have hw1 : Below wr.heap.size wr w1 := nextB ((Below.refl _ _).alloc (Nat.le_refl _) _) (Nat.le_refl _) hb1; have rb1 := rb.below hw1 hlb; have d := fun j => rb1.cell j; have fz := fun j => rb1.frozen j; have l1 := rb1.lt)
        obtain ⟨s1, s2, s3, s4, s5, s6⟩ := bc_step (ra.below hw1 hla) (rz.below hw1 hlz) rb1 (own_of_block hov (fun k hk => hw1.block k (hov.lt k hk).2)) hne hcb zz (hb.trans (hw1.mono (by omega))) 1 (.slice (some ⟨g, 0, none⟩) p0.length p0.length) (.int .i64 r0)
        exact ⟨⟨1, g, 0, 0, qs, [], [], by omega, by go_num, s1, s2, by simpa [tw, rw'] using s3, fun _ => s6 _ _ _ ⟨⟨_, by simp; omega, hO⟩, hm⟩, fun h => by omega, fun h => by omega, s4, s5⟩, by simp only [intOf]; omega⟩
      · simp only [tw, rw'] at rb
        simp at rb
        go_wp2_with (go_at_call 14; refine (copy_any A1 C1 r1 p1 _ (h1.up ((nextB hbd (Nat.le_refl _) hb).alloc (by omega) _))).mono ?_; rintro e w1 ⟨g, qs, rfl, hO, hm, hb1⟩; have hw1 : Below wr.heap.size wr w1 := nextB ((Below.refl _ _).alloc (Nat.le_refl _) _) (Nat.le_refl _) hb1; have rb1 := rb.below hw1 hlb; have d := fun j => rb1.cell j; have fz := fun j => rb1.frozen j; have l1 := rb1.lt)
        obtain ⟨s1, s2, s3, s4, s5, s6⟩ := bc_step (ra.below hw1 hla) (rz.below hw1 hlz) rb1 (own_of_block hov (fun k hk => hw1.block k (hov.lt k hk).2)) hne hcb zz (hb.trans (hw1.mono (by omega))) 3 (.slice (some ⟨g, 0, none⟩) p1.length p1.length) (.int .i64 r1)
        exact ⟨⟨2, g0, g, 0, q0, qs, [], by omega, by go_num, s1, s2, by simpa [tw, rw'] using s3, fun _ => s6 _ _ _ ((c0 (by omega)).below hw1), fun _ => s6 _ _ _ ⟨⟨_, by simp; omega, hO⟩, hm⟩, fun h => by omega, s4, s5⟩, by simp only [intOf]; omega⟩
      · simp only [tw, rw'] at rb
        simp at rb
        go_wp2_with (go_at_call 14; refine (copy_any A2 C2 r2 p2 _ (h2.up ((nextB hbd (Nat.le_refl _) hb).alloc (by omega) _))).mono ?_; rintro e w1 ⟨g, qs, rfl, hO, hm, hb1⟩; have hw1 : Below wr.heap.size wr w1 := nextB ((Below.refl _ _).alloc (Nat.le_refl _) _) (Nat.le_refl _) hb1; have rb1 := rb.below hw1 hlb; have d := fun j => rb1.cell j; have fz := fun j => rb1.frozen j; have l1 := rb1.lt)
        obtain ⟨s1, s2, s3, s4, s5, s6⟩ := bc_step (ra.below hw1 hla) (rz.below hw1 hlz) rb1 (own_of_block hov (fun k hk => hw1.block k (hov.lt k hk).2)) hne hcb zz (hb.trans (hw1.mono (by omega))) 5 (.slice (some ⟨g, 0, none⟩) p2.length p2.length) (.int .i64 r2)
        exact ⟨⟨3, g0, g1, g, q0, q1, qs, by omega, by go_num, s1, s2, by simpa [tw, rw'] using s3, fun _ => s6 _ _ _ ((c0 (by omega)).below hw1), fun _ => s6 _ _ _ ((c1 (by omega)).below hw1), fun _ => s6 _ _ _ ⟨⟨_, by simp; omega, hO⟩, hm⟩, s4, s5⟩, by simp only [intOf]; omega⟩
      · simp only [tw, rw'] at rb
        simp at rb
        have d := fun j => rb.cell j
        have da := fun j => rz.cell j
        have fa := fun j => rz.frozen j
        have B8 : Hid (Below w.heap.size w (set8 wr (n + 1) (.slice VA ss.length VC) (.slice (some ⟨g0, 0, none⟩) p0.length p0.length) (.int .i64 r0) (.slice (some ⟨g1, 0, none⟩) p1.length p1.length) (.int .i64 r1) (.slice (some ⟨g2, 0, none⟩) p2.length p2.length) (.int .i64 r2) (.int .i64 f))) := set8_below (nextB hbd (Nat.le_refl _) hb) (by have := HN.out; omega) _ _ _ _ _ _ _ _
        have O8 : Hid ((set8 wr (n + 1) (.slice VA ss.length VC) (.slice (some ⟨g0, 0, none⟩) p0.length p0.length) (.int .i64 r0) (.slice (some ⟨g1, 0, none⟩) p1.length p1.length) (.int .i64 r1) (.slice (some ⟨g2, 0, none⟩) p2.length p2.length) (.int .i64 r2) (.int .i64 f)).ownsRow w.heap.size 9 1 (.slice VA ss.length VC) ss.length (strs ss)) := own_mono (own_of_block hov (fun k hk => set8_far _ _ _ _ _ _ _ _ _ _ k (by have := (hov.lt k hk).1; omega))) hwz
        have N8 : ∀ g q ps, TreeCpy cb wr g q ps → NodesAt (set8 wr (n + 1) (.slice VA ss.length VC) (.slice (some ⟨g0, 0, none⟩) p0.length p0.length) (.int .i64 r0) (.slice (some ⟨g1, 0, none⟩) p1.length p1.length) (.int .i64 r1) (.slice (some ⟨g2, 0, none⟩) p2.length p2.length) (.int .i64 r2) (.int .i64 f)).heap.size (set8 wr (n + 1) (.slice VA ss.length VC) (.slice (some ⟨g0, 0, none⟩) p0.length p0.length) (.int .i64 r0) (.slice (some ⟨g1, 0, none⟩) p1.length p1.length) (.int .i64 r1) (.slice (some ⟨g2, 0, none⟩) p2.length p2.length) (.int .i64 r2) (.int .i64 f)) (some ⟨g, 0, none⟩) q ∧ q.map PN.nd = ps.map PN.nd := fun g q ps hc => by
          obtain ⟨⟨base, h1, h2⟩, h3⟩ := hc
          exact ⟨(h2.keep fun k hk _ => set8_far wr (n + 1) _ _ _ _ _ _ _ _ k (by omega)).nodes, h3⟩
        have M0 : Hid (_ ∧ _) := N8 g0 q0 p0 (c0 (by omega))
        have M1 : Hid (_ ∧ _) := N8 g1 q1 p1 (c1 (by omega))
        have M2 : Hid (_ ∧ _) := N8 g2 q2 p2 (c2 (by omega))
        clear N8 c0 c1 c2 hov hb
        go_wp2_with fail
        refine bodyPost_ret (v := .agg #[.slice VA ss.length VC, .slice (some ⟨g0, 0, none⟩) p0.length p0.length, .int .i64 r0, .slice (some ⟨g1, 0, none⟩) p1.length p1.length, .int .i64 r1, .slice (some ⟨g2, 0, none⟩) p2.length p2.length, .int .i64 r2, .int .i64 f]) ?_ rfl ?_
        · simp [results, Try.results7, go_sem, da]
        · exact ⟨.slice VA ss.length VC, g0, g1, g2, q0, q1, q2, rfl, O8.out, M0.out.1, M1.out.1, M2.out.1, M0.out.2, M1.out.2, M2.out.2, B8.out⟩

end Go.Proofs.Ytndojgeodmddoad
