/- base.Copy: the same base, in memory of its own. -/
import Derived.Shelf.Strconv.Clone
import Derived.BigQuiet
import Derived.Test.YtlojfgdpmaigmadGreatDoorP29
import Derived.Test.YtlojfgdpmaigmadGreatDoorCopyWalk
import Derived.Test.YtlojfgdpmaigmadGreatDoorP14
import Derived.Test.YtlojfgdpmaigmadGreatDoorP27
import Derived.Laws.AppendOwnNone
import Derived.Deep.RegionHeld3
import Derived.Deep.DeepCutAuto
namespace Go.Proofs.YtlojfgdpmaigmadGreatDoor
open Go.RowKit Go.Shelf

theorem two_rows' {v w2 : World} {l1 l2 : List Value} {t1 t2 : TypeId} (hb : Below ((v.alloc (.cells l1.toArray t1)).alloc (.cells l2.toArray t2)).heap.size ((v.alloc (.cells l1.toArray t1)).alloc (.cells l2.toArray t2)) w2) {n : Nat} (hn : n = v.heap.size) :
    RowL w2 n t1 l1 ∧ RowL w2 (n + 1) t2 l2 ∧ n + 1 < w2.heap.size := by
  subst hn
  have s1 : (v.alloc (.cells l1.toArray t1)).heap.size = v.heap.size + 1 := by simp
  have s2 : ((v.alloc (.cells l1.toArray t1)).alloc (.cells l2.toArray t2)).heap.size = v.heap.size + 2 := by simp
  have r1 : RowL ((v.alloc (.cells l1.toArray t1)).alloc (.cells l2.toArray t2)) v.heap.size t1 l1 := (rowL_alloc v l1 t1).of_block (Below.heap_alloc _ _ _ (by omega))
  have r2 : RowL ((v.alloc (.cells l1.toArray t1)).alloc (.cells l2.toArray t2)) (v.heap.size + 1) t2 l2 := by
    have := rowL_alloc (v.alloc (.cells l1.toArray t1)) l2 t2
    rwa [s1] at this
  have hs := hb.size
  exact ⟨r1.below hb (by omega), r2.below hb (by omega), by omega⟩

theorem alloc_rule8 {W w3 : World} {c : Array Value} {t : TypeId} {n : Nat} (hb : Below (W.alloc (.cells c t)).heap.size (W.alloc (.cells c t)) w3) (hn : W.heap.size = n) :
    (∀ j, w3.cell? ⟨n, j, none⟩ = c[j]?) ∧ ∀ j, w3.frozen? ⟨n, j, none⟩ = false := by
  subst hn
  exact ⟨fun j => (hb.cell (p := ⟨W.heap.size, j, none⟩) (by simp)).trans (by simp), fun j => (hb.frozen (p := ⟨W.heap.size, j, none⟩) (by simp)).trans (by simp)⟩

theorem OwnTree.keep {base g : Nat} {w w' : World} {qs : List PN} (h : OwnTree base w g qs) (hk : ∀ k, base ≤ k → k < w.heap.size → w'.heap[k]? = w.heap[k]?) : OwnTree base w' g qs :=
  ⟨h.row.of_block (hk g h.hbase h.row.lt), h.hbase, fun q hq => (h.each q hq).of_blocks fun k hm => hk k ((h.each q hq).lt k hm).1 ((h.each q hq).lt k hm).2, h.apart, h.z⟩

/-- A copy of a tree, in blocks behind cb. -/
def TreeCpy (cb : Nat) (w : World) (g : Nat) (q ps : List PN) : Prop := (∃ base, cb < base ∧ OwnTree base w g q) ∧ q.map PN.nd = ps.map PN.nd

theorem TreeCpy.below {cb g : Nat} {w w' : World} {q ps : List PN} (h : TreeCpy cb w g q ps) (hb : Below w.heap.size w w') : TreeCpy cb w' g q ps := by
  obtain ⟨⟨base, h1, h2⟩, h3⟩ := h
  exact ⟨⟨base, h1, h2.keep fun k _ hk => hb.block k hk⟩, h3⟩

theorem TreeCpy.set {cb g : Nat} {w : World} {q ps : List PN} (h : TreeCpy cb w g q ps) (j : Nat) (v : Value) : TreeCpy cb (w.setCell ⟨cb, j, none⟩ v) g q ps := by
  obtain ⟨⟨base, h1, h2⟩, h3⟩ := h
  exact ⟨⟨base, h1, h2.keep fun k hk _ => Below.heap_setCell _ _ _ _ (show k ≠ cb by omega)⟩, h3⟩

def tw (b : Bool) (g l : Nat) : Value := if b = true then .slice (some ⟨g, 0, none⟩) l l else .slice none 0 0
def rw' (b : Bool) (r : Int) : Value := if b = true then .int .i64 r else .int .i64 0

theorem bc_step {wd w1 : World} {cb n : Nat} {t t' : TypeId} {l A Z : List Value} {v : Value} {ss : List ByteArray} (ra : RowL w1 n t A) (rz : RowL w1 (n + 1) t Z) (rb : RowL w1 cb t l) (hov : w1.ownsRow wd.heap.size t' 1 v ss.length (strs ss)) (hne : v.ownBlock ≠ some cb) (hcb : wd.heap.size ≤ cb) (hn : n + 1 < wd.heap.size) (hb : Below wd.heap.size wd w1) (i : Nat) (v1 v2 : Value) :
    RowL ((w1.setCell ⟨cb, i, none⟩ v1).setCell ⟨cb, i + 1, none⟩ v2) n t A ∧ RowL ((w1.setCell ⟨cb, i, none⟩ v1).setCell ⟨cb, i + 1, none⟩ v2) (n + 1) t Z ∧ RowL ((w1.setCell ⟨cb, i, none⟩ v1).setCell ⟨cb, i + 1, none⟩ v2) cb t ((l.set i v1).set (i + 1) v2) ∧ ((w1.setCell ⟨cb, i, none⟩ v1).setCell ⟨cb, i + 1, none⟩ v2).ownsRow wd.heap.size t' 1 v ss.length (strs ss) ∧ Below wd.heap.size wd ((w1.setCell ⟨cb, i, none⟩ v1).setCell ⟨cb, i + 1, none⟩ v2) ∧
    ∀ g q ps, TreeCpy cb w1 g q ps → TreeCpy cb ((w1.setCell ⟨cb, i, none⟩ v1).setCell ⟨cb, i + 1, none⟩ v2) g q ps := by
  have far : ∀ (k : Nat) (W : World) (j : Nat) (v : Value), k ≠ cb → (W.setCell ⟨cb, j, none⟩ v).heap[k]? = W.heap[k]? := fun k W j v hk => Below.heap_setCell _ _ _ _ hk
  refine ⟨(ra.of_block (far _ _ _ _ (by omega))).of_block (far _ _ _ _ (by omega)), (rz.of_block (far _ _ _ _ (by omega))).of_block (far _ _ _ _ (by omega)), (rb.set i v1).set (i + 1) v2, own_of_block (own_of_block hov (fun k hk => far k _ _ _ (fun e => hne (e ▸ hk)))) (fun k hk => far k _ _ _ (fun e => hne (e ▸ hk))), ⟨hb.os, hb.tape, hb.output, by simpa using hb.size, fun k hk => ?_⟩, fun g q ps h => (h.set i v1).set (i + 1) v2⟩
  exact (far k _ _ _ (by omega)).trans ((far k _ _ _ (by omega)).trans (hb.block k hk))

def set8 (w : World) (m : Nat) (a b c d e f g h : Value) : World := ((((((((w.setCell ⟨m, 0, none⟩ a).setCell ⟨m, 1, none⟩ b).setCell ⟨m, 2, none⟩ c).setCell ⟨m, 3, none⟩ d).setCell ⟨m, 4, none⟩ e).setCell ⟨m, 5, none⟩ f).setCell ⟨m, 6, none⟩ g).setCell ⟨m, 7, none⟩ h)

theorem set8_far (w : World) (m : Nat) (a b c d e f g h : Value) (k : Nat) (hk : k ≠ m) : (set8 w m a b c d e f g h).heap[k]? = w.heap[k]? := by
  have far : ∀ (W : World) (j : Nat) (v : Value), (W.setCell ⟨m, j, none⟩ v).heap[k]? = W.heap[k]? := fun W j v => Below.heap_setCell _ _ _ _ hk
  unfold set8
  rw [far, far, far, far, far, far, far, far]

theorem set1_below {B : Nat} {w0 w : World} (hb : Below B w0 w) {m : Nat} (hm : B ≤ m) (j : Nat) (v : Value) : Below B w0 (w.setCell ⟨m, j, none⟩ v) :=
  ⟨hb.os, hb.tape, hb.output, by simpa using hb.size, fun k hk => (Below.heap_setCell _ _ _ _ (show k ≠ m by omega)).trans (hb.block k hk)⟩

theorem set8_below {B : Nat} {w0 w : World} (hb : Below B w0 w) {m : Nat} (hm : B ≤ m) (a b c d e f g h : Value) : Below B w0 (set8 w m a b c d e f g h) := by
  unfold set8
  exact set1_below (set1_below (set1_below (set1_below (set1_below (set1_below (set1_below (set1_below hb hm _ _) hm _ _) hm _ _) hm _ _) hm _ _) hm _ _) hm _ _) hm _ _

theorem clone_any (s : ByteArray) (w : World) (hs : s.size ≤ 140737488351232) :
    Calls Tryz.prog 39 #[.string s] w fun e w' => e = .returned (.string s) ∧ Below w.heap.size w w' := by
  have hcon := Any.stringslite_Clone Tryz.cloneS s w (by omega)
  change Calls Tryz.prog 59 _ _ _ at hcon
  go_enter Tryz.func39, Tryz.ntmps39
  go_wp2_with (go_at_call 59; refine hcon.mono ?_; rintro e w1 ⟨rfl, hb1⟩)
  go_ret
  exact ⟨rfl, hb1⟩

theorem infoStr : (Tryz.prog.info? 9).map (fun i => (i.zero, i.size, i.bytes)) = some (some (.string ByteArray.empty), 1, 16) := by kernel_rfl

theorem newsStr (w : World) (s : ByteArray) : ∀ j u, [Value.string s][j]? = some u → (w.alloc (.cells #[.string s] 9)).cell? ((⟨w.heap.size, 0, none⟩ : Addr).add j) = some u := by
  intro j u hu
  cases j with
  | zero =>
    cases hu
    simp [Addr.add]
  | succ j => simp at hu

set_option maxRecDepth 20000 in
set_option maxHeartbeats 1000000 in
theorem freshNames_any (A : Option Addr) (C : Nat) (ss : List ByteArray) (w : World) (h : StrsAt w.heap.size w A ss) :
    Calls Tryz.prog 37 #[.slice A ss.length C] w fun e w' => ∃ v, e = .returned v ∧ w'.ownsRow w.heap.size 9 1 v ss.length (strs ss) ∧ Below w.heap.size w w' := by
  obtain ⟨i0, hi0, hz0, hz1, hz2⟩ := info_parts infoStr
  have hz := h.z
  go_enter Tryz.func37, Tryz.ntmps37
  go_wp2_with fail
  go_loopw [3, 8] (fun vo vi wr => ∃ i : Nat, i ≤ ss.length ∧ vi = .int .i64 i ∧ wr.ownsRow w.heap.size 9 1 vo i (strs (ss.take i)) ∧ Below w.heap.size w wr) (fun _ vi _ => ss.length - (intOf vi).toNat)
  case atStart => exact ⟨0, Nat.zero_le _, rfl, World.ownsRow_nil _ _ _ _, Below.refl _ _⟩
  case round =>
    obtain ⟨i, hi, rfl, hown, hb⟩ := hrel
    have hsz := hb.size
    by_cases hlt : i < ss.length
    · obtain ⟨b, o, rfl, hbl, hc, -⟩ := (h.row.below hb (Nat.le_refl _)).str hlt
      have hss : (ss[i]).size ≤ 140737488351232 := h.each _ (List.getElem_mem hlt)
      have hbr : b < wr.heap.size := by omega
      have HT : Hid (strs (ss.take (i + 1)) = strs (ss.take i) ++ [.string ss[i]]) := by
        show _ = _
        rw [List.take_succ_eq_append_getElem hlt]
        unfold strs
        rw [List.map_append]
        rfl
      obtain ⟨s, hs⟩ : ∃ s, ss[i] = s := ⟨_, rfl⟩
      rw [hs] at hc hss HT
      go_wp2_with (first
        | (go_at_call 39; refine (clone_any s _ hss).mono ?_; rintro e w1 ⟨rfl, hb1⟩; have hown1 : w1.ownsRow w.heap.size 9 1 u3 i (strs (ss.take i)) := own_of_block hown (fun k hk => hb1.block k (hown.lt k hk).2); have hw1 : Below w.heap.size w w1 := hb.trans (hb1.mono hsz); have z1 := hb1.size)
        | (at_builtin; refine wpList_append_own _ rfl _ _ 22 rfl w.heap.size 9 i0 _ 1 16 Tryz.underlying22 hi0 hz0 hz1 hz2 rfl (by decide) u3 i (strs (ss.take i)) rfl (hown1.alloc _) ⟨w1.heap.size, 0, none⟩ 1 1 [.string s] rfl rfl (newsStr w1 s) (by intro u hu; simp at hu; subst hu; rfl) (by unfold maxLen; omega) (by omega) (by simp; omega) ?_; intro v2 w2 hown2 hgrow2 _))
      have hb2 : Below w.heap.size w w2 := (hw1.alloc (by omega) _).grown hgrow2 (by simp; omega) (fun k hk => (hown1.lt k hk).1)
      exact ⟨⟨i + 1, hlt, by go_num, by rw [HT.out]; exact hown2, hb2⟩, by simp only [intOf]; omega⟩
    · have hie : i = ss.length := by omega
      go_wp2_with fail
      go_ret
      subst hie
      rw [List.take_length] at hown
      exact ⟨_, rfl, hown, hb⟩

end Go.Proofs.YtlojfgdpmaigmadGreatDoor

/- append([]string(nil), ss...): whatever the list. -/
namespace Go.Proofs.YtlojfgdpmaigmadGreatDoor
open Go.RowKit Plain

theorem strs_one (ss : List ByteArray) : ∀ u ∈ strs ss, u.oneCell' = true := by
  intro u hu
  obtain ⟨s, _, rfl⟩ := List.mem_map.1 hu
  rfl

theorem strs_len (ss : List ByteArray) : (strs ss).length = ss.length * 1 := by simp [strs]

theorem strs_nil_of {B : Nat} {w : World} {ss : List ByteArray} (h : RowAt B w none (strs ss)) : ss = [] := by
  rcases h with h | ⟨b, o, hA, _⟩
  · rw [strs, List.map_eq_nil_iff] at h
    exact h
  · cases hA

theorem step_app_nilS {ops : Array Oper} {o : Oper} {a : Act} {w : World} {K : Act → World → Prop} {Q : Exit → Act → World → Prop} {E : Prop} (hgd : o.guard = none) (s x : Operand)
    (ho : o.op = .call { callee := .builtin .append, args := #[s, x], argTypes := #[22, 22] }) (A : Option Addr) (C : Nat) (ss : List ByteArray) (hs : a.eval s = .slice none 0 0) (hx : a.eval x = .slice A ss.length C)
    (hr : StrsAt w.heap.size w A ss) (hn : A = none → C = 0)
    (h : ∀ A' C' w', w'.ownsRow w.heap.size 9 1 (.slice A' ss.length C') ss.length (strs ss) → Below w.heap.size w w' → K (a.put o.dst (.slice A' ss.length C')) w') :
    if Region.wanted o (yielded ops a.tmps) = true then Oper.wp Tryz.prog o a w K Q else E := by
  have hw : Region.wanted o (yielded ops a.tmps) = true := by simp [Region.wanted, hgd]
  rw [if_pos hw]
  have hz := hr.z
  obtain ⟨i0, hi, hz0, hz1, hz2⟩ := info_parts infoStr
  cases A with
  | none =>
    obtain rfl := strs_nil_of hr.row
    obtain rfl := hn rfl
    have hrun := run_append_owned_none (P := Tryz.prog) (w := w) w.heap.size 22 o.type 9 i0 1 Tryz.underlying22 hi (.slice none 0 0) 0 [] (World.ownsRow_nil _ _ _ _)
    have hx' : a.eval x = .slice none 0 0 := hx
    have h' := h none 0 w (World.ownsRow_nil _ _ _ _) (Below.refl _ _)
    unfold Oper.wp
    simp [execOp, ho, resolve, invoke, builtin, hs, hx', hrun, Result.andThen]
    exact h'
  | some ad =>
    refine wp_append_own (P := Tryz.prog) w s x 22 ho w.heap.size 9 i0 _ 1 16 Tryz.underlying22 hi hz0 hz1 hz2 rfl (by decide) (.slice none 0 0) 0 [] hs (World.ownsRow_nil _ _ _ _) ad ss.length C (strs ss) hx (strs_len ss) (news_of hr.row) (strs_one ss) (by unfold maxLen; omega) (by omega) (Nat.le_refl _) ?_
    intro v' w' hown hg _
    rw [Nat.zero_add, List.nil_append] at hown
    obtain ⟨A', C', rfl, -⟩ := own_row hown
    exact h A' C' w' hown ((Below.refl _ _).grown hg (Nat.le_refl _) (by intro k hk; cases hk))

theorem wpList_app_nilS {w : World} {ops : Array Oper} {rest : List Oper} {o : Oper} {a : Act} {Q : Exit → Act → World → Prop} (hgd : o.guard = none) (s x : Operand)
    (ho : o.op = .call { callee := .builtin .append, args := #[s, x], argTypes := #[22, 22] }) (A : Option Addr) (C : Nat) (ss : List ByteArray) (hs : a.eval s = .slice none 0 0) (hx : a.eval x = .slice A ss.length C)
    (hr : StrsAt w.heap.size w A ss) (hn : A = none → C = 0)
    (h : ∀ A' C' w', w'.ownsRow w.heap.size 9 1 (.slice A' ss.length C') ss.length (strs ss) → Below w.heap.size w w' → wpList Tryz.prog ops Q rest (a.put o.dst (.slice A' ss.length C')) w') :
    wpList Tryz.prog ops Q (o :: rest) a w := by
  have hz := hr.z
  obtain ⟨i0, hi, hz0, hz1, hz2⟩ := info_parts infoStr
  cases A with
  | none =>
    obtain rfl := strs_nil_of hr.row
    obtain rfl := hn rfl
    exact wpList_append_own_none hgd s x 22 ho w.heap.size 9 i0 1 Tryz.underlying22 hi (.slice none 0 0) 0 [] hs (World.ownsRow_nil _ _ _ _) hx (h none 0 w (World.ownsRow_nil _ _ _ _) (Below.refl _ _))
  | some ad =>
    refine wpList_append_own w hgd s x 22 ho w.heap.size 9 i0 _ 1 16 Tryz.underlying22 hi hz0 hz1 hz2 rfl (by decide) (.slice none 0 0) 0 [] hs (World.ownsRow_nil _ _ _ _) ad ss.length C (strs ss) hx (strs_len ss) (news_of hr.row) (strs_one ss) (by unfold maxLen; omega) (by omega) (Nat.le_refl _) ?_
    intro v' w' hown hg _
    rw [Nat.zero_add, List.nil_append] at hown
    obtain ⟨A', C', rfl, -⟩ := own_row hown
    exact h A' C' w' hown ((Below.refl _ _).grown hg (Nat.le_refl _) (by intro k hk; cases hk))

end Go.Proofs.YtlojfgdpmaigmadGreatDoor

/- The document's BaseCopy: the same base, in memory of its own. -/
namespace Go.Proofs.YtlojfgdpmaigmadGreatDoor
open Go.RowKit Go.Shelf Plain

/-- A copy of a tree, in blocks behind cb. -/
def TreeCpN (cb : Nat) (w : World) (A : Option Addr) (C : Nat) (q ps : List PN) : Prop := (∃ base, cb < base ∧ OwnN base w A C q) ∧ q.map PN.nd = ps.map PN.nd

theorem TreeCpN.below {cb C : Nat} {A : Option Addr} {w w' : World} {q ps : List PN} (h : TreeCpN cb w A C q ps) (hb : Below w.heap.size w w') : TreeCpN cb w' A C q ps := by
  obtain ⟨⟨base, h1, h2⟩, h3⟩ := h
  exact ⟨⟨base, h1, h2.keep fun k _ hk => hb.block k hk⟩, h3⟩

theorem TreeCpN.set {cb C : Nat} {A : Option Addr} {w : World} {q ps : List PN} (h : TreeCpN cb w A C q ps) (j : Nat) (v : Value) : TreeCpN cb (w.setCell ⟨cb, j, none⟩ v) A C q ps := by
  obtain ⟨⟨base, h1, h2⟩, h3⟩ := h
  exact ⟨⟨base, h1, h2.keep fun k hk _ => Below.heap_setCell _ _ _ _ (show k ≠ cb by omega)⟩, h3⟩

def twN (b : Bool) (A : Option Addr) (l C : Nat) : Value := if b = true then .slice A l C else .slice none 0 0

theorem bcN_step {wd w1 : World} {cb n : Nat} {t t' : TypeId} {l A Z : List Value} {v : Value} {ss : List ByteArray} (ra : RowL w1 n t A) (rz : RowL w1 (n + 1) t Z) (rb : RowL w1 cb t l) (hov : w1.ownsRow wd.heap.size t' 1 v ss.length (strs ss)) (hne : v.ownBlock ≠ some cb) (hcb : wd.heap.size ≤ cb) (hn : n + 1 < wd.heap.size) (hb : Below wd.heap.size wd w1) (i : Nat) (v1 v2 : Value) :
    RowL ((w1.setCell ⟨cb, i, none⟩ v1).setCell ⟨cb, i + 1, none⟩ v2) n t A ∧ RowL ((w1.setCell ⟨cb, i, none⟩ v1).setCell ⟨cb, i + 1, none⟩ v2) (n + 1) t Z ∧ RowL ((w1.setCell ⟨cb, i, none⟩ v1).setCell ⟨cb, i + 1, none⟩ v2) cb t ((l.set i v1).set (i + 1) v2) ∧ ((w1.setCell ⟨cb, i, none⟩ v1).setCell ⟨cb, i + 1, none⟩ v2).ownsRow wd.heap.size t' 1 v ss.length (strs ss) ∧ Below wd.heap.size wd ((w1.setCell ⟨cb, i, none⟩ v1).setCell ⟨cb, i + 1, none⟩ v2) ∧
    ∀ (B : Option Addr) (C : Nat) q ps, TreeCpN cb w1 B C q ps → TreeCpN cb ((w1.setCell ⟨cb, i, none⟩ v1).setCell ⟨cb, i + 1, none⟩ v2) B C q ps := by
  obtain ⟨h1, h2, h3, h4, h5, _⟩ := bc_step ra rz rb hov hne hcb hn hb i v1 v2
  exact ⟨h1, h2, h3, h4, h5, fun B C q ps h => (h.set i v1).set (i + 1) v2⟩

theorem own_len8 {w : World} {base n C : Nat} {e : TypeId} {A : Option Addr} {vs : List Value} (h : w.ownsRow base e 1 (.slice A n C) n vs) : n ≤ C := by
  obtain ⟨A', C', e1, _, e2, _⟩ := own_row h
  cases e1
  exact e2

set_option maxRecDepth 20000 in
set_option maxHeartbeats 1000000 in
theorem rbcopy_any (A : Option Addr) (C : Nat) (ss : List ByteArray) (t0 t1 t2 : TR) (f : Int) (w : World) (h : StrsAt w.heap.size w A ss) (hA : A = none → C = 0) (h0 : NodesAt w.heap.size w t0.A t0.ps) (h1 : NodesAt w.heap.size w t1.A t1.ps) (h2 : NodesAt w.heap.size w t2.A t2.ps) :
    Calls Tryz.prog 4 #[.agg #[.slice A ss.length C, .slice t0.A t0.ps.length t0.C, .int .i64 t0.r, .slice t1.A t1.ps.length t1.C, .int .i64 t1.r, .slice t2.A t2.ps.length t2.C, .int .i64 t2.r, .int .i64 f]] w
      fun e w' => ∃ VA VC G0 G1 G2 D0 D1 D2 q0 q1 q2, e = .returned (.agg #[.slice VA ss.length VC, .slice G0 q0.length D0, .int .i64 t0.r, .slice G1 q1.length D1, .int .i64 t1.r, .slice G2 q2.length D2, .int .i64 t2.r, .int .i64 f]) ∧
        ss.length ≤ VC ∧ StrsAt w'.heap.size w' VA ss ∧ NodesAt w'.heap.size w' G0 q0 ∧ NodesAt w'.heap.size w' G1 q1 ∧ NodesAt w'.heap.size w' G2 q2 ∧ q0.map PN.nd = t0.ps.map PN.nd ∧ q1.map PN.nd = t1.ps.map PN.nd ∧ q2.map PN.nd = t2.ps.map PN.nd ∧ Below w.heap.size w w' := by
  have b0 : ∀ o : Obj, Below w.heap.size w (w.alloc o) := fun o => (Below.refl _ _).alloc (Nat.le_refl _) o
  obtain ⟨A0, C0, p0, r0⟩ := t0
  obtain ⟨A1, C1, p1, r1⟩ := t1
  obtain ⟨A2, C2, p2, r2⟩ := t2
  simp only at h0 h1 h2 ⊢
  go_enter Tryz.func4, Tryz.ntmps4
  go_wp2_with fail
  obtain ⟨wd, hwd⟩ : ∃ wd, wd = (w.alloc (.cells #[.slice A ss.length C, .slice A0 p0.length C0, .int .i64 r0, .slice A1 p1.length C1, .int .i64 r1, .slice A2 p2.length C2, .int .i64 r2, .int .i64 f] 28)).alloc (.cells #[.slice none 0 0, .slice none 0 0, .int .i64 0, .slice none 0 0, .int .i64 0, .slice none 0 0, .int .i64 0, .int .i64 0] 28) := ⟨_, rfl⟩
  obtain ⟨rn, rr, zz⟩ := two_rows' (v := w) (w2 := wd) (l1 := [.slice A ss.length C, .slice A0 p0.length C0, .int .i64 r0, .slice A1 p1.length C1, .int .i64 r1, .slice A2 p2.length C2, .int .i64 r2, .int .i64 f]) (l2 := [.slice none 0 0, .slice none 0 0, .int .i64 0, .slice none 0 0, .int .i64 0, .slice none 0 0, .int .i64 0, .int .i64 0]) (t1 := 28) (t2 := 28) (by rw [hwd]; exact Below.refl _ _) rfl
  have hbd : Below w.heap.size w wd := by
    rw [hwd]
    exact two _ _
  rw [← hwd]
  clear hwd
  have hSd : ∀ w', Below wd.heap.size wd w' → StrsAt w'.heap.size w' A ss := fun w' hb => h.up (nextB hbd (Nat.le_refl _) hb)
  have c0 := rn.cell 0
  have c7 := rn.cell 7
  simp only [List.getElem?_cons_zero, List.getElem?_cons_succ] at c0 c7
  obtain ⟨n, hn⟩ : ∃ n, n = w.heap.size := ⟨_, rfl⟩
  rw [← hn] at c0 c7 rn rr zz ⊢
  have HN : Hid (n = w.heap.size) := hn
  clear hn
  have hnd : n < wd.heap.size := by omega
  have hnd1 : n < wd.heap.size + 1 := by omega
  have n1 : ¬ n = wd.heap.size := by omega
  have KS : ∀ (W : World) (b' o' j : Nat) (v : Value), ¬ b' = wd.heap.size → (W.setCell ⟨wd.heap.size, j, none⟩ v).cell? ⟨b', o', none⟩ = W.cell? ⟨b', o', none⟩ := fun W b' o' j v hb => World.cell?_setCell_far _ _ _ _ (fun e => hb e.symm)
  go_cut [3] (fun v3 wc => ∃ cb v, v3 = .pointer (some ⟨cb, 0, none⟩) ∧ wd.heap.size ≤ cb ∧ wc.ownsRow wd.heap.size 9 1 v ss.length (strs ss) ∧ v.ownBlock ≠ some cb ∧ RowL wc cb 28 [v, .slice none 0 0, .int .i64 0, .slice none 0 0, .int .i64 0, .slice none 0 0, .int .i64 0, .int .i64 f] ∧ Below wd.heap.size wd wc)
  case first =>
    go_region_held3 (fun w' => w'.cell? ⟨n, 0, none⟩ = some (.slice A ss.length C) ∧ w'.cell? ⟨n, 7, none⟩ = some (.int .i64 f)) (go_keep) (first | (refine step_app_nilS rfl (.const (.slice none 0 0)) (.tmp 6) rfl A C ss (by simp [Act.eval]) (by simp [Act.eval]) ?_ hA ?_; (first | exact hSd _ ((Below.refl _ _).drew) | exact hSd _ (((Below.refl _ _).alloc (Nat.le_refl _) _).drew)); intro VA VC w3 hov hb3; have T3 := (bcells (hb3.mono (show wd.heap.size ≤ _ by simp))).1; first | (have T4 := alloc_rule8 (W := wd.drew) (n := wd.heap.size) hb3 rfl; obtain ⟨T40, U4⟩ := T4) | skip))
    · go_wp2
      go_meet
      case rel =>
        have bw : Below wd.heap.size wd w3 := ((Below.refl wd.heap.size wd).drew).trans (hb3.mono (by simp))
        have hov' : w3.ownsRow wd.heap.size 9 1 (.slice VA ss.length VC) ss.length (strs ss) := hov
        exact ⟨w3.heap.size, .slice VA ss.length VC, rfl, bw.size, hov'.alloc _, fun hk => by have := (hov'.lt _ hk).2; omega, rowL_alloc w3 _ _, bw.alloc bw.size _⟩
    · go_wp2
      go_meet
      case rel =>
        have r0 : RowL w3 wd.heap.size 28 [.slice none 0 0, .slice none 0 0, .int .i64 0, .slice none 0 0, .int .i64 0, .slice none 0 0, .int .i64 0, .int .i64 0] := RowL.below (rowL_alloc wd.drew _ _) hb3 (by simp)
        have bw : Below wd.heap.size wd w3 := (((Below.refl wd.heap.size wd).alloc (Nat.le_refl _) _).drew).trans (hb3.mono (by simp))
        have hov' : w3.ownsRow (wd.heap.size + 1) 9 1 (.slice VA ss.length VC) ss.length (strs ss) := by simpa using hov
        have S8 : ∀ {B : Nat} {W : World} (j : Nat) (v : Value), B ≤ wd.heap.size → Below B wd W → Below B wd (W.setCell ⟨wd.heap.size, j, none⟩ v) := fun j v hB h => ⟨h.os, h.tape, h.output, by simpa using h.size, fun k hk => (Below.heap_setCell _ _ _ _ (show k ≠ wd.heap.size by omega)).trans (h.block k hk)⟩
        have F8 : ∀ {W : World} (j : Nat) (v : Value), W.ownsRow (wd.heap.size + 1) 9 1 (.slice VA ss.length VC) ss.length (strs ss) → (W.setCell ⟨wd.heap.size, j, none⟩ v).ownsRow (wd.heap.size + 1) 9 1 (.slice VA ss.length VC) ss.length (strs ss) := fun j v h => own_of_block h (fun k hk => Below.heap_setCell _ _ _ _ (show k ≠ wd.heap.size by have := (h.lt k hk).1; omega))
        refine ⟨wd.heap.size, .slice VA ss.length VC, rfl, Nat.le_refl _, own_mono (F8 _ _ (F8 _ _ (F8 _ _ (F8 _ _ (F8 _ _ (F8 _ _ (F8 _ _ (F8 _ _ hov')))))))) (by omega), fun hk => by have := (hov'.lt _ hk).1; omega, ((((((((r0.set 0 _).set 1 _).set 2 _).set 3 _).set 4 _).set 5 _).set 6 _).set 7 _), ?_⟩
        exact S8 _ _ (Nat.le_refl _) (S8 _ _ (Nat.le_refl _) (S8 _ _ (Nat.le_refl _) (S8 _ _ (Nat.le_refl _) (S8 _ _ (Nat.le_refl _) (S8 _ _ (Nat.le_refl _) (S8 _ _ (Nat.le_refl _) (S8 _ _ (Nat.le_refl _) bw)))))))
  case rest =>
    obtain ⟨cb, v, rfl, hcb, hov, hne, hrc, hbc⟩ := hcut
    obtain ⟨VA, VC, hvv, -⟩ := own_row hov
    subst hvv
    have rn1 := rn.below hbc hnd
    have rr1 := rr.below hbc zz
    have d := fun j => rn1.cell j
    have ln := rn1.lt
    go_wp2_with fail
    have i0 : ∀ (a b c d e f : Value) (w : World), (Instr.index 26 (.agg #[a, b, c, d, e, f]) (.int .i64 0)).run Tryz.prog w = .ok (.agg #[a, b]) w := fun _ _ _ _ _ _ _ => by kernel_rfl
    have i1 : ∀ (a b c d e f : Value) (w : World), (Instr.index 26 (.agg #[a, b, c, d, e, f]) (.int .i64 1)).run Tryz.prog w = .ok (.agg #[c, d]) w := fun _ _ _ _ _ _ _ => by kernel_rfl
    have i2 : ∀ (a b c d e f : Value) (w : World), (Instr.index 26 (.agg #[a, b, c, d, e, f]) (.int .i64 2)).run Tryz.prog w = .ok (.agg #[e, f]) w := fun _ _ _ _ _ _ _ => by kernel_rfl
    clear d ln c0 c7 KS
    go_loopw [4] (fun vi wr => ∃ (k D0 D1 D2 : Nat) (G0 G1 G2 : Option Addr) (q0 q1 q2 : List PN), k ≤ 3 ∧ vi = .int .i64 k ∧ RowL wr n 28 [.slice A ss.length C, .slice A0 p0.length C0, .int .i64 r0, .slice A1 p1.length C1, .int .i64 r1, .slice A2 p2.length C2, .int .i64 r2, .int .i64 f] ∧ RowL wr (n + 1) 28 [.slice none 0 0, .slice none 0 0, .int .i64 0, .slice none 0 0, .int .i64 0, .slice none 0 0, .int .i64 0, .int .i64 0] ∧ RowL wr cb 28 [.slice VA ss.length VC, twN (decide (0 < k)) G0 q0.length D0, rw' (decide (0 < k)) r0, twN (decide (1 < k)) G1 q1.length D1, rw' (decide (1 < k)) r1, twN (decide (2 < k)) G2 q2.length D2, rw' (decide (2 < k)) r2, .int .i64 f] ∧ (0 < k → TreeCpN cb wr G0 D0 q0 p0) ∧ (1 < k → TreeCpN cb wr G1 D1 q1 p1) ∧ (2 < k → TreeCpN cb wr G2 D2 q2 p2) ∧ wr.ownsRow wd.heap.size 9 1 (.slice VA ss.length VC) ss.length (strs ss) ∧ Below wd.heap.size wd wr) (fun vi _ => 3 - (intOf vi).toNat)
    case atStart => exact ⟨0, 0, 0, 0, none, none, none, [], [], [], by omega, rfl, rn1, rr1, hrc, fun h => by omega, fun h => by omega, fun h => by omega, hov, hbc⟩
    case round =>
      clear hov rn1 rr1 hrc hbc
      obtain ⟨k, D0, D1, D2, G0, G1, G2, q0, q1, q2, hk, rfl, ra, rz, rb, c0, c1, c2, hov, hb⟩ := hrel
      have hla := ra.lt
      have dn := fun j => ra.cell j
      have hlz := rz.lt
      have hlb := rb.lt
      have hzd := hb.size
      have hwz := hbd.size
      rcases (show k = 0 ∨ k = 1 ∨ k = 2 ∨ k = 3 by omega) with rfl | rfl | rfl | rfl
      · simp only [twN, rw'] at rb
        simp at rb
        go_wp2_with (go_at_call 11; refine (treeCopy_own A0 C0 r0 p0 _ (h0.up (nextB hbd (Nat.le_refl _) hb))).mono ?_; rintro e w1 ⟨G, D, qs, rfl, hO, hm, hb1⟩; have hw1 : Below wr.heap.size wr w1 := hb1; have rb1 := rb.below hw1 hlb; have d := fun j => rb1.cell j; have fz := fun j => rb1.frozen j; have l1 := rb1.lt)
        obtain ⟨s1, s2, s3, s4, s5, s6⟩ := bcN_step (ra.below hw1 hla) (rz.below hw1 hlz) rb1 (own_of_block hov (fun k hk => hw1.block k (hov.lt k hk).2)) hne hcb zz (hb.trans (hw1.mono (by omega))) 1 (.slice G qs.length D) (.int .i64 r0)
        exact ⟨⟨1, D, 0, 0, G, none, none, qs, [], [], by omega, by go_num, s1, s2, by simpa [twN, rw'] using s3, fun _ => s6 _ _ _ _ ⟨⟨_, by omega, hO⟩, hm⟩, fun h => by omega, fun h => by omega, s4, s5⟩, by simp only [intOf]; omega⟩
      · simp only [twN, rw'] at rb
        simp at rb
        go_wp2_with (go_at_call 11; refine (treeCopy_own A1 C1 r1 p1 _ (h1.up (nextB hbd (Nat.le_refl _) hb))).mono ?_; rintro e w1 ⟨G, D, qs, rfl, hO, hm, hb1⟩; have hw1 : Below wr.heap.size wr w1 := hb1; have rb1 := rb.below hw1 hlb; have d := fun j => rb1.cell j; have fz := fun j => rb1.frozen j; have l1 := rb1.lt)
        obtain ⟨s1, s2, s3, s4, s5, s6⟩ := bcN_step (ra.below hw1 hla) (rz.below hw1 hlz) rb1 (own_of_block hov (fun k hk => hw1.block k (hov.lt k hk).2)) hne hcb zz (hb.trans (hw1.mono (by omega))) 3 (.slice G qs.length D) (.int .i64 r1)
        exact ⟨⟨2, D0, D, 0, G0, G, none, q0, qs, [], by omega, by go_num, s1, s2, by simpa [twN, rw'] using s3, fun _ => s6 _ _ _ _ ((c0 (by omega)).below hw1), fun _ => s6 _ _ _ _ ⟨⟨_, by omega, hO⟩, hm⟩, fun h => by omega, s4, s5⟩, by simp only [intOf]; omega⟩
      · simp only [twN, rw'] at rb
        simp at rb
        go_wp2_with (go_at_call 11; refine (treeCopy_own A2 C2 r2 p2 _ (h2.up (nextB hbd (Nat.le_refl _) hb))).mono ?_; rintro e w1 ⟨G, D, qs, rfl, hO, hm, hb1⟩; have hw1 : Below wr.heap.size wr w1 := hb1; have rb1 := rb.below hw1 hlb; have d := fun j => rb1.cell j; have fz := fun j => rb1.frozen j; have l1 := rb1.lt)
        obtain ⟨s1, s2, s3, s4, s5, s6⟩ := bcN_step (ra.below hw1 hla) (rz.below hw1 hlz) rb1 (own_of_block hov (fun k hk => hw1.block k (hov.lt k hk).2)) hne hcb zz (hb.trans (hw1.mono (by omega))) 5 (.slice G qs.length D) (.int .i64 r2)
        exact ⟨⟨3, D0, D1, D, G0, G1, G, q0, q1, qs, by omega, by go_num, s1, s2, by simpa [twN, rw'] using s3, fun _ => s6 _ _ _ _ ((c0 (by omega)).below hw1), fun _ => s6 _ _ _ _ ((c1 (by omega)).below hw1), fun _ => s6 _ _ _ _ ⟨⟨_, by omega, hO⟩, hm⟩, s4, s5⟩, by simp only [intOf]; omega⟩
      · simp only [twN, rw'] at rb
        simp at rb
        have d := fun j => rb.cell j
        have da := fun j => rz.cell j
        have fa := fun j => rz.frozen j
        have B8 : Hid (Below w.heap.size w (set8 wr (n + 1) (.slice VA ss.length VC) (.slice G0 q0.length D0) (.int .i64 r0) (.slice G1 q1.length D1) (.int .i64 r1) (.slice G2 q2.length D2) (.int .i64 r2) (.int .i64 f))) := set8_below (nextB hbd (Nat.le_refl _) hb) (by have := HN.out; omega) _ _ _ _ _ _ _ _
        have O8 : Hid ((set8 wr (n + 1) (.slice VA ss.length VC) (.slice G0 q0.length D0) (.int .i64 r0) (.slice G1 q1.length D1) (.int .i64 r1) (.slice G2 q2.length D2) (.int .i64 r2) (.int .i64 f)).ownsRow w.heap.size 9 1 (.slice VA ss.length VC) ss.length (strs ss)) := own_mono (own_of_block hov (fun k hk => set8_far _ _ _ _ _ _ _ _ _ _ k (by have := (hov.lt k hk).1; omega))) hwz
        have N8 : ∀ G D q ps, TreeCpN cb wr G D q ps → NodesAt (set8 wr (n + 1) (.slice VA ss.length VC) (.slice G0 q0.length D0) (.int .i64 r0) (.slice G1 q1.length D1) (.int .i64 r1) (.slice G2 q2.length D2) (.int .i64 r2) (.int .i64 f)).heap.size (set8 wr (n + 1) (.slice VA ss.length VC) (.slice G0 q0.length D0) (.int .i64 r0) (.slice G1 q1.length D1) (.int .i64 r1) (.slice G2 q2.length D2) (.int .i64 r2) (.int .i64 f)) G q ∧ q.map PN.nd = ps.map PN.nd := fun G D q ps hc => by
          obtain ⟨⟨base, h1, h2⟩, h3⟩ := hc
          exact ⟨(h2.keep fun k hk _ => set8_far wr (n + 1) _ _ _ _ _ _ _ _ k (by omega)).nodes, h3⟩
        have M0 : Hid (_ ∧ _) := N8 G0 D0 q0 p0 (c0 (by omega))
        have M1 : Hid (_ ∧ _) := N8 G1 D1 q1 p1 (c1 (by omega))
        have M2 : Hid (_ ∧ _) := N8 G2 D2 q2 p2 (c2 (by omega))
        clear N8 c0 c1 c2 hov hb
        go_wp2_with fail
        refine bodyPost_ret (v := .agg #[.slice VA ss.length VC, .slice G0 q0.length D0, .int .i64 r0, .slice G1 q1.length D1, .int .i64 r1, .slice G2 q2.length D2, .int .i64 r2, .int .i64 f]) ?_ rfl ?_
        · simp [results, Tryz.results4, go_sem, da]
        · exact ⟨VA, VC, G0, G1, G2, D0, D1, D2, q0, q1, q2, rfl, (own_len8 O8.out), ⟨(own_ok O8.out).1, h.z, h.each⟩, M0.out.1, M1.out.1, M2.out.1, M0.out.2, M1.out.2, M2.out.2, B8.out⟩

end Go.Proofs.YtlojfgdpmaigmadGreatDoor

/- Two bases that are the same. -/
namespace Go.Proofs.YtlojfgdpmaigmadGreatDoor
open Go.RowKit Go.Shelf

set_option maxRecDepth 20000 in
set_option maxHeartbeats 1000000 in
theorem sameBase_eq (A A' : Option Addr) (C C' : Nat) (ss : List ByteArray) (a0 a1 a2 b0 b1 b2 : TR) (f : Int) (w : World) (h : RowAt w.heap.size w A (strs ss)) (h' : StrsAt w.heap.size w A' ss) (ha0 : NodesAt w.heap.size w a0.A a0.ps) (ha1 : NodesAt w.heap.size w a1.A a1.ps) (ha2 : NodesAt w.heap.size w a2.A a2.ps) (hb0 : NodesAt w.heap.size w b0.A b0.ps) (hb1' : NodesAt w.heap.size w b1.A b1.ps) (hb2 : NodesAt w.heap.size w b2.A b2.ps)
    (e0 : a0.ps.map PN.nd = b0.ps.map PN.nd) (e1 : a1.ps.map PN.nd = b1.ps.map PN.nd) (e2 : a2.ps.map PN.nd = b2.ps.map PN.nd) (f0 : a0.r = b0.r) (f1 : a1.r = b1.r) (f2 : a2.r = b2.r) :
    Calls Tryz.prog 7 #[.agg #[.slice A ss.length C, .slice a0.A a0.ps.length a0.C, .int .i64 a0.r, .slice a1.A a1.ps.length a1.C, .int .i64 a1.r, .slice a2.A a2.ps.length a2.C, .int .i64 a2.r, .int .i64 f], .agg #[.slice A' ss.length C', .slice b0.A b0.ps.length b0.C, .int .i64 b0.r, .slice b1.A b1.ps.length b1.C, .int .i64 b1.r, .slice b2.A b2.ps.length b2.C, .int .i64 b2.r, .int .i64 f]] w fun e w' => e = .returned (.bool true) ∧ Below w.heap.size w w' := by
  have hz := h'.z
  obtain ⟨A0, C0, p0, r0⟩ := a0
  obtain ⟨A1, C1, p1, r1⟩ := a1
  obtain ⟨A2, C2, p2, r2⟩ := a2
  obtain ⟨B0, D0, q0, s0⟩ := b0
  obtain ⟨B1, D1, q1, s1⟩ := b1
  obtain ⟨B2, D2, q2, s2⟩ := b2
  simp only at ha0 ha1 ha2 hb0 hb1' hb2 e0 e1 e2 f0 f1 f2 ⊢
  subst f0 f1 f2
  go_enter Tryz.func7, Tryz.ntmps7
  go_wp2_with fail
  obtain ⟨wd, hwd⟩ : ∃ wd, wd = (w.alloc (.cells #[.slice A ss.length C, .slice A0 p0.length C0, .int .i64 r0, .slice A1 p1.length C1, .int .i64 r1, .slice A2 p2.length C2, .int .i64 r2, .int .i64 f] 28)).alloc (.cells #[.slice A' ss.length C', .slice B0 q0.length D0, .int .i64 r0, .slice B1 q1.length D1, .int .i64 r1, .slice B2 q2.length D2, .int .i64 r2, .int .i64 f] 28) := ⟨_, rfl⟩
  obtain ⟨rn, rr, zz⟩ := two_rows' (v := w) (w2 := wd) (l1 := [.slice A ss.length C, .slice A0 p0.length C0, .int .i64 r0, .slice A1 p1.length C1, .int .i64 r1, .slice A2 p2.length C2, .int .i64 r2, .int .i64 f]) (l2 := [.slice A' ss.length C', .slice B0 q0.length D0, .int .i64 r0, .slice B1 q1.length D1, .int .i64 r1, .slice B2 q2.length D2, .int .i64 r2, .int .i64 f]) (t1 := 28) (t2 := 28) (by rw [hwd]; exact Below.refl _ _) rfl
  have hbd : Below w.heap.size w wd := by
    rw [hwd]
    exact two _ _
  rw [← hwd]
  clear hwd
  obtain ⟨n, hn⟩ : ∃ n, n = w.heap.size := ⟨_, rfl⟩
  rw [← hn] at rn rr zz ⊢
  have HN : Hid (n = w.heap.size) := hn
  clear hn
  go_loopw [5] (fun vi wr => ∃ i : Nat, i ≤ ss.length ∧ vi = .int .i64 i ∧ Below wd.heap.size wd wr) (fun vi _ => ss.length - (intOf vi).toNat)
  case atStart => exact ⟨0, Nat.zero_le _, rfl, Below.refl _ _⟩
  case round =>
    obtain ⟨i, hi, rfl, hb⟩ := hrel
    have hwr : Below w.heap.size w wr := nextB hbd (Nat.le_refl _) hb
    have rn1 := rn.below hb (by omega)
    have rr1 := rr.below hb zz
    have ln := rn1.lt
    have lr := rr1.lt
    have d := fun j => rn1.cell j
    have d' := fun j => rr1.cell j
    by_cases hlt : i < ss.length
    · obtain ⟨b, o, rfl, hbl, hc, -⟩ := (h.below hwr (Nat.le_refl _)).str hlt
      obtain ⟨b', o', rfl, hbl', hc', -⟩ := (h'.row.below hwr (Nat.le_refl _)).str hlt
      have hwz := hwr.size
      have l1 : b < wr.heap.size := by omega
      have l2 : b' < wr.heap.size := by omega
      obtain ⟨s, hs⟩ : ∃ s, ss[i] = s := ⟨_, rfl⟩
      rw [hs] at hc hc'
      go_wp2_with fail
      go_quiet (fail)
      go_wp2_with fail
      go_roundw
      case rel =>
        go_light
        exact ⟨i + 1, hlt, by go_num, below_drewN hb _⟩
      case measure => simp [intOf]; omega
    · go_wp2_with (first
        | (have k3 := hw2; clear k3; go_at_call 28; refine (sameTree_eq A2 B2 C2 D2 r2 p2 q2 _ (ha2.up hw2) (hb2.up hw2) e2).mono ?_; rintro e w3 ⟨rfl, hb3⟩)
        | (have k2 := hw1; clear k2; go_at_call 28; refine (sameTree_eq A1 B1 C1 D1 r1 p1 q1 _ (ha1.up hw1) (hb1'.up hw1) e1).mono ?_; rintro e w2 ⟨rfl, hb2'⟩; have hw2 : Below w.heap.size w w2 := nextB hw1 (Nat.le_refl _) hb2'; have rn3 := rn2.below hb2' ln2; have rr3 := rr2.below hb2' lr2; have ln3 := rn3.lt; have lr3 := rr3.lt; have ddd := fun j => rn3.cell j; have ddd' := fun j => rr3.cell j)
        | (go_at_call 28; refine (sameTree_eq A0 B0 C0 D0 r0 p0 q0 _ (ha0.up hwr) (hb0.up hwr) e0).mono ?_; rintro e w1 ⟨rfl, hb1⟩; have hw1 : Below w.heap.size w w1 := nextB hwr (Nat.le_refl _) hb1; have rn2 := rn1.below hb1 ln; have rr2 := rr1.below hb1 lr; have ln2 := rn2.lt; have lr2 := rr2.lt; have dd := fun j => rn2.cell j; have dd' := fun j => rr2.cell j))
      go_ret
      exact ⟨rfl, nextB hw2 (Nat.le_refl _) hb3⟩

end Go.Proofs.YtlojfgdpmaigmadGreatDoor
