/- How a tree that came in is opened. -/
import Derived.Test.YtlojfgdpmaigmaeGreatDoorP14
import Derived.Test.YtlojfgdpmaigmaeGreatDoorP13
import Derived.Deep.Slices
import Derived.SizedLaws
import Derived.ChangeMaps5
import Derived.Shelf.Strconv.Clone
import Derived.BigQuiet
import Derived.Test.YtlojfgdpmaigmaeGreatDoorLays
namespace Go.Proofs.YtlojfgdpmaigmaeGreatDoor
open Go.ChangeShapes Go.WideShapes Go.ChangeAt Go.RowKit Go.Deep

theorem spot_none {w : World} {a : Addr} {v : Value} (h : w.cell? a = some v) : a.spot = none := by
  unfold World.cell? at h
  split at h
  · cases hs : a.spot with
    | none => rfl
    | some x => simp [hs] at h
  · simp at h

/-- Rows of elements of several cells, from their elements. -/
theorem row_of {w : World} {a : Addr} {size len : Nat} (hs : 0 < size) (F : Nat → List Value) (all : List Value) (hlen : all.length = len * size) (hget : ∀ k j, k < len → j < size → all[k * size + j]? = (F k)[j]?)
    (hc : ∀ i, i < len → w.cells? 0 (a.add (i * size)) size = some (F i)) : RowAt w.heap.size w (some a) all := by
  by_cases h0 : len = 0
  · left
    exact List.eq_nil_of_length_eq_zero (by rw [hlen, h0, Nat.zero_mul])
  · right
    have hcell : ∀ q u, all[q]? = some u → w.cell? (a.add q) = some u := by
      intro q u hu
      have hq : q < len * size := by rw [← hlen]; exact (List.getElem?_eq_some_iff.1 hu).1
      have hk : q / size < len := Nat.div_lt_of_lt_mul (by rw [Nat.mul_comm]; exact hq)
      have hj : q % size < size := Nat.mod_lt _ hs
      have hqe : q / size * size + q % size = q := Nat.div_add_mod' q size
      have h1 := (World.cells?_some (hc _ hk)).2.2 _ hj
      rw [add_add, hqe, ← hget _ _ hk hj, hqe, hu] at h1
      exact h1
    have hpos : 0 < all.length := by rw [hlen]; exact Nat.mul_pos (by omega) hs
    have ha := hcell 0 _ (List.getElem?_eq_getElem hpos)
    have hsp := spot_none ha
    have ha0 : a.add 0 = a := by simp [Addr.add]
    rw [ha0] at hsp ha
    obtain ⟨b, o, s⟩ := a
    simp only at hsp
    subst hsp
    refine ⟨b, o, rfl, World.block_lt_of_cell? _ _ ha, fun j u hu => ?_⟩
    have := hcell j u hu
    rwa [add_plain] at this

section
variable {H : Type} {enc : TypeId × Value → H} {W : World} {held : Bool} {spare : Nat → Bool} {fuel : Nat}

def En.wf (x : En) : Prop := (Lit.int .i64 x.key).wf = true ∧ (Lit.int .i64 x.c).wf = true ∧ (Lit.int .i64 x.s).wf = true ∧ (Lit.int .i64 x.lo).wf = true ∧ (Lit.int .i64 x.hi).wf = true ∧ (Lit.int .i64 x.t).wf = true ∧ (Lit.int .i64 x.l).wf = true

def Sized (t : TypeId) (d : DataW H) : Prop := ∀ n ∈ d.weights Tryz.prog t, n ≤ 140737488351232

def PN.wf (p : PN) : Prop := (∀ y ∈ p.ents, y.wf) ∧ (∀ z ∈ p.keys, (Lit.int .i64 z).wf = true) ∧ (∀ z ∈ p.kids, (Lit.int .i64 z).wf = true) ∧ ∀ y ∈ p.buf, y.wf

end
end Go.Proofs.YtlojfgdpmaigmaeGreatDoor

/- How a base that came in is opened. -/
namespace Go.Proofs.YtlojfgdpmaigmaeGreatDoor
open Go.ChangeShapes Go.WideShapes Go.ChangeAt Go.RowKit Go.Deep

def strs (ss : List ByteArray) : List Value := ss.map .string

section
variable {H : Type} {enc : TypeId × Value → H} {W : World} {held : Bool} {fuel : Nat}

/-- A list of texts: what is known of it. -/
structure StrsAt (B : Nat) (w : World) (A : Option Addr) (ss : List ByteArray) : Prop where
  row : RowAt B w A (strs ss)
  z : ss.length * 16 ≤ 140737488351232
  each : ∀ s ∈ ss, s.size ≤ 140737488351232

/-- A tree that came in: its nodes, their places, its root. -/
structure TR where
  A : Option Addr
  C : Nat
  ps : List PN
  r : Int

def TR.ok (w : World) (t : TR) : Prop := NodesAt w.heap.size w t.A t.ps ∧ (∀ p ∈ t.ps, p.wf) ∧ (Lit.int .i64 t.r).wf = true

end

theorem strs_get (ss : List ByteArray) (k : Nat) (hk : k < ss.length) : (strs ss)[k]? = some (.string ss[k]) := by simp [strs, hk]

theorem RowAt.str {B : Nat} {w : World} {A : Option Addr} {ss : List ByteArray} (h : RowAt B w A (strs ss)) {k : Nat} (hk : k < ss.length) :
    ∃ b o, A = some ⟨b, o, none⟩ ∧ b < B ∧ w.cell? ⟨b, o + k, none⟩ = some (.string ss[k]) ∧ ∀ j, j < ss.length → w.cell? ⟨b, o + j, none⟩ = some (.string (ss.getD j ByteArray.empty)) := by
  rcases h with h | ⟨b, o, hA, hlt, hc⟩
  · rw [strs, List.map_eq_nil_iff] at h
    subst h
    simp at hk
  · refine ⟨b, o, hA, hlt, hc k _ (strs_get ss k hk), fun j hj => ?_⟩
    have := hc j _ (strs_get ss j hj)
    rw [this, List.getD_eq_getElem?_getD, List.getElem?_eq_getElem hj]
    rfl

theorem StrsAt.up {w cur : World} {A : Option Addr} {ss : List ByteArray} (h : StrsAt w.heap.size w A ss) (hb : Below w.heap.size w cur) : StrsAt cur.heap.size cur A ss := ⟨h.row.up hb, h.z, h.each⟩

end Go.Proofs.YtlojfgdpmaigmaeGreatDoor

/- base.Copy: the same base, in memory of its own. -/
namespace Go.Proofs.YtlojfgdpmaigmaeGreatDoor
open Go.RowKit Go.Shelf

theorem two_rows' {v w2 : World} {l1 l2 : List Value} {t1 t2 : TypeId} (hb : Below ((v.alloc (.cells l1.toArray t1)).alloc (.cells l2.toArray t2)).heap.size ((v.alloc (.cells l1.toArray t1)).alloc (.cells l2.toArray t2)) w2) {n : Nat} (hn : n = v.heap.size) :
    RowL w2 n t1 l1 ∧ RowL w2 (n + 1) t2 l2 ∧ n + 1 < w2.heap.size := by
  subst hn
  have s1 : (v.alloc (.cells l1.toArray t1)).heap.size = v.heap.size + 1 := by simp
  have s2 : ((v.alloc (.cells l1.toArray t1)).alloc (.cells l2.toArray t2)).heap.size = v.heap.size + 2 := by simp
  have r1 : RowL ((v.alloc (.cells l1.toArray t1)).alloc (.cells l2.toArray t2)) v.heap.size t1 l1 := (rowL_alloc v l1 t1).of_block (Below.heap_alloc _ _ _ (by omega))
  have r2 : RowL ((v.alloc (.cells l1.toArray t1)).alloc (.cells l2.toArray t2)) (v.heap.size + 1) t2 l2 := by
    have := rowL_alloc (v.alloc (.cells l1.toArray t1)) l2 t2
    rwa [s1] at this
  have hs := hb.size
  exact ⟨r1.below hb (by omega), r2.below hb (by omega), by omega⟩

theorem alloc_rule8 {W w3 : World} {c : Array Value} {t : TypeId} {n : Nat} (hb : Below (W.alloc (.cells c t)).heap.size (W.alloc (.cells c t)) w3) (hn : W.heap.size = n) :
    (∀ j, w3.cell? ⟨n, j, none⟩ = c[j]?) ∧ ∀ j, w3.frozen? ⟨n, j, none⟩ = false := by
  subst hn
  exact ⟨fun j => (hb.cell (p := ⟨W.heap.size, j, none⟩) (by simp)).trans (by simp), fun j => (hb.frozen (p := ⟨W.heap.size, j, none⟩) (by simp)).trans (by simp)⟩

def tw (b : Bool) (g l : Nat) : Value := if b = true then .slice (some ⟨g, 0, none⟩) l l else .slice none 0 0
def rw' (b : Bool) (r : Int) : Value := if b = true then .int .i64 r else .int .i64 0

def set8 (w : World) (m : Nat) (a b c d e f g h : Value) : World := ((((((((w.setCell ⟨m, 0, none⟩ a).setCell ⟨m, 1, none⟩ b).setCell ⟨m, 2, none⟩ c).setCell ⟨m, 3, none⟩ d).setCell ⟨m, 4, none⟩ e).setCell ⟨m, 5, none⟩ f).setCell ⟨m, 6, none⟩ g).setCell ⟨m, 7, none⟩ h)

theorem set8_far (w : World) (m : Nat) (a b c d e f g h : Value) (k : Nat) (hk : k ≠ m) : (set8 w m a b c d e f g h).heap[k]? = w.heap[k]? := by
  have far : ∀ (W : World) (j : Nat) (v : Value), (W.setCell ⟨m, j, none⟩ v).heap[k]? = W.heap[k]? := fun W j v => Below.heap_setCell _ _ _ _ hk
  unfold set8
  rw [far, far, far, far, far, far, far, far]

theorem set1_below {B : Nat} {w0 w : World} (hb : Below B w0 w) {m : Nat} (hm : B ≤ m) (j : Nat) (v : Value) : Below B w0 (w.setCell ⟨m, j, none⟩ v) :=
  ⟨hb.os, hb.tape, hb.output, by simpa using hb.size, fun k hk => (Below.heap_setCell _ _ _ _ (show k ≠ m by omega)).trans (hb.block k hk)⟩

theorem set8_below {B : Nat} {w0 w : World} (hb : Below B w0 w) {m : Nat} (hm : B ≤ m) (a b c d e f g h : Value) : Below B w0 (set8 w m a b c d e f g h) := by
  unfold set8
  exact set1_below (set1_below (set1_below (set1_below (set1_below (set1_below (set1_below (set1_below hb hm _ _) hm _ _) hm _ _) hm _ _) hm _ _) hm _ _) hm _ _) hm _ _

theorem clone_any (s : ByteArray) (w : World) (hs : s.size ≤ 140737488351232) :
    Calls Tryz.prog 54 #[.string s] w fun e w' => e = .returned (.string s) ∧ Below w.heap.size w w' := by
  have hcon := Any.stringslite_Clone Tryz.cloneS s w (by omega)
  change Calls Tryz.prog 80 _ _ _ at hcon
  go_enter Tryz.func54, Tryz.ntmps54
  go_wp2_with (go_at_call 80; refine hcon.mono ?_; rintro e w1 ⟨rfl, hb1⟩)
  go_ret
  exact ⟨rfl, hb1⟩

theorem infoStr : (Tryz.prog.info? 9).map (fun i => (i.zero, i.size, i.bytes)) = some (some (.string ByteArray.empty), 1, 16) := by kernel_rfl

theorem newsStr (w : World) (s : ByteArray) : ∀ j u, [Value.string s][j]? = some u → (w.alloc (.cells #[.string s] 9)).cell? ((⟨w.heap.size, 0, none⟩ : Addr).add j) = some u := by
  intro j u hu
  cases j with
  | zero =>
    cases hu
    simp [Addr.add]
  | succ j => simp at hu

set_option maxRecDepth 20000 in
set_option maxHeartbeats 1000000 in
theorem freshNames_any (A : Option Addr) (C : Nat) (ss : List ByteArray) (w : World) (h : StrsAt w.heap.size w A ss) :
    Calls Tryz.prog 25 #[.slice A ss.length C] w fun e w' => ∃ v, e = .returned v ∧ w'.ownsRow w.heap.size 9 1 v ss.length (strs ss) ∧ Below w.heap.size w w' := by
  obtain ⟨i0, hi0, hz0, hz1, hz2⟩ := info_parts infoStr
  have hz := h.z
  go_enter Tryz.func25, Tryz.ntmps25
  go_wp2_with fail
  go_loopw [3, 8] (fun vo vi wr => ∃ i : Nat, i ≤ ss.length ∧ vi = .int .i64 i ∧ wr.ownsRow w.heap.size 9 1 vo i (strs (ss.take i)) ∧ Below w.heap.size w wr) (fun _ vi _ => ss.length - (intOf vi).toNat)
  case atStart => exact ⟨0, Nat.zero_le _, rfl, World.ownsRow_nil _ _ _ _, Below.refl _ _⟩
  case round =>
    obtain ⟨i, hi, rfl, hown, hb⟩ := hrel
    have hsz := hb.size
    by_cases hlt : i < ss.length
    · obtain ⟨b, o, rfl, hbl, hc, -⟩ := (h.row.below hb (Nat.le_refl _)).str hlt
      have hss : (ss[i]).size ≤ 140737488351232 := h.each _ (List.getElem_mem hlt)
      have hbr : b < wr.heap.size := by omega
      have HT : Hid (strs (ss.take (i + 1)) = strs (ss.take i) ++ [.string ss[i]]) := by
        show _ = _
        rw [List.take_succ_eq_append_getElem hlt]
        unfold strs
        rw [List.map_append]
        rfl
      obtain ⟨s, hs⟩ : ∃ s, ss[i] = s := ⟨_, rfl⟩
      rw [hs] at hc hss HT
      go_wp2_with (first
        | (go_at_call 54; refine (clone_any s _ hss).mono ?_; rintro e w1 ⟨rfl, hb1⟩; have hown1 : w1.ownsRow w.heap.size 9 1 u3 i (strs (ss.take i)) := own_of_block hown (fun k hk => hb1.block k (hown.lt k hk).2); have hw1 : Below w.heap.size w w1 := hb.trans (hb1.mono hsz); have z1 := hb1.size)
        | (at_builtin; refine wpList_append_own _ rfl _ _ 22 rfl w.heap.size 9 i0 _ 1 16 Tryz.underlying22 hi0 hz0 hz1 hz2 rfl (by decide) u3 i (strs (ss.take i)) rfl (hown1.alloc _) ⟨w1.heap.size, 0, none⟩ 1 1 [.string s] rfl rfl (newsStr w1 s) (by intro u hu; simp at hu; subst hu; rfl) (by unfold maxLen; omega) (by omega) (by simp; omega) ?_; intro v2 w2 hown2 hgrow2 _))
      have hb2 : Below w.heap.size w w2 := (hw1.alloc (by omega) _).grown hgrow2 (by simp; omega) (fun k hk => (hown1.lt k hk).1)
      exact ⟨⟨i + 1, hlt, by go_num, by rw [HT.out]; exact hown2, hb2⟩, by simp only [intOf]; omega⟩
    · have hie : i = ss.length := by omega
      go_wp2_with fail
      go_ret
      subst hie
      rw [List.take_length] at hown
      exact ⟨_, rfl, hown, hb⟩

end Go.Proofs.YtlojfgdpmaigmaeGreatDoor

/- An empty leaf. -/
namespace Go.Proofs.YtlojfgdpmaigmaeGreatDoor
open Go.RowKit

def zleaf : PN := ⟨true, none, 0, [], none, 0, [], none, 0, [], none, 0, []⟩

end Go.Proofs.YtlojfgdpmaigmaeGreatDoor
