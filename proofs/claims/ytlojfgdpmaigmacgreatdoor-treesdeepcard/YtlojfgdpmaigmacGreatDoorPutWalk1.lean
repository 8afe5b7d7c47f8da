/- Put: an entry goes down from the root, then the tree grows. -/
import Derived.Test.YtlojfgdpmaigmacGreatDoorP40
import Derived.Test.YtlojfgdpmaigmacGreatDoorSinkAny
import Derived.Test.YtlojfgdpmaigmacGreatDoorP44
namespace Go.Proofs.YtlojfgdpmaigmacGreatDoor
open Go.RowKit Plain Go.Shelf

/-- An entry has come into a tree; its leaves may hold too much. -/
structure SunkOk (ns ns1 : List Nd) (root : Int) (x : En) : Prop where
  sub : ∃ T h P, T ≤ 99999 ∧ h < 12 ∧ Sub T 4 ns1 h root 0 1099511627776 P ∧ P.Perm (placesF 0 ns1.length)
  eqv : Eqv (x :: ns.flatMap cont) (ns1.flatMap cont)
  few : (ns1.flatMap cont).length ≤ (ns.flatMap cont).length + 1
  len : ns1.length = ns.length

theorem cont_few {ns : List Nd} {root : Int} (h : treeC ns root = 0) : (ns.flatMap cont).length ≤ 14 * ns.length ∧ ns.length ≤ 2000 ∧ Pos (ns.flatMap cont) := by
  obtain ⟨h1, h2⟩ := tree_each h
  refine ⟨?_, h1, fun y hy => ?_⟩
  · have : ∀ l : List Nd, (∀ x ∈ l, NodeOk x) → (l.flatMap cont).length ≤ 14 * l.length := by
      intro l
      induction l with
      | nil => simp
      | cons x r ih =>
        intro hl
        have a := ih fun y hy => hl y (List.mem_cons_of_mem _ hy)
        obtain ⟨b1, b2, _⟩ := hl x List.mem_cons_self
        rw [List.flatMap_cons]
        simp only [List.length_append, List.length_cons, cont]
        omega
    refine this ns fun x hx => ?_
    obtain ⟨i, hi, rfl⟩ := List.getElem_of_mem hx
    exact h2 i hi
  · obtain ⟨x, hx, hy⟩ := List.mem_flatMap.1 hy
    obtain ⟨i, hi, rfl⟩ := List.getElem_of_mem hx
    obtain ⟨_, _, g1, g2⟩ := h2 i hi
    rcases List.mem_append.1 hy with hy | hy
    · exact (good_iff.1 (g2 y hy)).1.1
    · exact (good_iff.1 (g1 y hy)).1.1

theorem height_lt {T h : Nat} {ns : List Nd} {root lo hi : Int} {P : List Int} (hs : Sub T 4 ns h root lo hi P) (hp : P.Perm (placesF 0 ns.length)) (hz : ns.length ≤ 2000) : h < 12 := by
  have h1 := Sub_size h _ _ _ _ hs
  rw [placesF_len hp] at h1
  apply Classical.byContradiction
  intro e
  have : 2 ^ 13 ≤ 2 ^ (h + 1) := Nat.pow_le_pow_right (by decide) (by omega)
  omega

theorem sinkRoot_any (base g C : Nat) (qs : List PN) (r root : Int) (x : En) (w : World) (hT : NT base w g C qs) (hB : base ≤ w.heap.size) (hc : treeC (qs.map PN.nd) root = 0) (hx : entB x 0 1099511627776 = true) (hcnt : cntK x.key ((qs.map PN.nd).flatMap cont) + x.c ≤ 1073741824) :
    Calls Tryz.prog 32 #[.agg #[.slice (some ⟨g, 0, none⟩) qs.length C, .int .i64 r], .int .i64 root, .agg #[.int .i64 x.key, .int .i64 x.c, .int .i64 x.s, .int .i64 x.lo, .int .i64 x.hi, .int .i64 x.t, .int .i64 x.l]] w
      fun e w' => e = .returned (.tuple #[]) ∧ ∃ qs', SinkMem base w g C qs w' qs' ∧ SunkOk (qs.map PN.nd) (qs'.map PN.nd) root x := by
  obtain ⟨f1, f2, f3⟩ := cont_few hc
  rcases treeC_sub hc with ⟨h, P, hs, hp⟩ | ⟨he, rfl⟩
  · have hh := height_lt hs hp f2
    have hall := cP_all hp
    have hs' := Sub_up (show 6 ≤ 99999 by omega) h _ _ _ _ hs
    have hnd : P.Nodup := hp.nodup_iff.2 (placesF_nodup _ _)
    have hlen := hall.length_eq
    refine (sink_all (T := 99999) (base := base) (g := g) (C := C) (n := qs.length) (r := r) (by omega) h hh qs w root 0 1099511627776 P x hT rfl hB hs' hnd (by decide) (by decide) hx (by rw [cntK_perm hall]; exact hcnt) (by omega)).mono ?_
    rintro e w' ⟨rfl, qs', hm, hok, _⟩
    have hl' := hok.len
    have hp' : P.Perm (placesF 0 (qs'.map PN.nd).length) := by rw [hl']; exact hp
    have hall' := cP_all hp'
    refine ⟨rfl, qs', hm, ⟨99999, h, P, Nat.le_refl _, hh, hok.sub, hp'⟩, ?_, ?_, hl'⟩
    · refine (Eqv.of_perm (hall.symm.cons x) ?_).trans (hok.eqv.trans (Eqv.of_perm hall' hok.eqv.posm))
      intro y hy
      rcases List.mem_cons.1 hy with rfl | hy
      · exact hok.eqv.posl _ List.mem_cons_self
      · exact f3 y hy
    · have := hok.few
      have := hall'.length_eq
      omega
  · obtain ⟨q, rfl⟩ : ∃ q, qs = [q] := List.length_eq_one_iff.1 (by have := congrArg List.length he; simpa using this)
    have hq : q.nd = leafOf [] := by simpa using he
    have hq1 : q.leaf = true := congrArg Nd.leaf hq
    have hq2 : q.ents = [] := congrArg Nd.ents hq
    obtain ⟨⟨hx1, hx2⟩, hxg⟩ := entB_iff.1 hx
    have hwe : withE q.ents x = [x] := by rw [hq2]; simp [withE, hasK, lowN]
    refine (sink_leaf base g C [q] r 0 q x w hT (by simp) rfl hq1 (by rw [hq2]; exact List.Pairwise.nil) (by rw [hq2]; decide) hB).mono ?_
    rintro e w' ⟨A', C', rfl, hm⟩
    rw [hwe] at hm
    have hnd : [{ q with ents := [x], eA := A', eC := C' }].map PN.nd = [leafOf [x]] := by
      have : ({ q with ents := [x], eA := A', eC := C' } : PN).nd = { q.nd with ents := [x] } := rfl
      simp [this, hq, leafOf]
    refine ⟨rfl, [{ q with ents := [x], eA := A', eC := C' }], hm, ?_⟩
    rw [hnd, he]
    refine ⟨⟨1, 0, [0], by decide, by decide, ⟨⟨by decide, by simp, by decide⟩, rfl, ⟨rfl, rfl, rfl, rfl, by simp [nth, leafOf], by simp [nth, leafOf], ?_⟩⟩, List.Perm.refl _⟩, ?_, by simp [cont, leafOf], rfl⟩
    · show entsB [x] 0 1099511627776 = true
      simp only [entsB, Bool.and_true]
      exact hx
    · have hpx : Pos [x] := fun y hy => by
        obtain rfl : y = x := by simpa using hy
        exact (good_iff.1 hxg).1.1
      have : (x :: ([leafOf []] : List Nd).flatMap cont) = [x] := by simp [cont, leafOf]
      rw [this]
      have : (([leafOf [x]] : List Nd).flatMap cont) = [x] := by simp [cont, leafOf]
      rw [this]
      exact Eqv.refl hpx

/-- What Put answers, from a tree that an entry has come into. -/
structure PutOk (ns ns2 : List Nd) (root2 : Int) (x : En) : Prop where
  fine : ns2.length ≤ 2000 → treeC ns2 root2 = 0
  eqv : Eqv (x :: ns.flatMap cont) (ns2.flatMap cont)
  few : 3 * (ns2.length + 1) ≤ 20 * ns.length + 1
  sub : ∃ h Q, Sub 6 4 ns2 h root2 0 1099511627776 Q ∧ Q.Perm (placesF 0 ns2.length)

theorem growRoot_any (base g C : Nat) (qs : List PN) (ns : List Nd) (root : Int) (x : En) (w : World) (hT : NT base w g C qs) (hB : base ≤ w.heap.size) (hf : (ns.flatMap cont).length ≤ 14 * ns.length) (hz : ns.length ≤ 2000) (hs : SunkOk ns (qs.map PN.nd) root x) :
    Calls Tryz.prog 33 #[.agg #[.slice (some ⟨g, 0, none⟩) qs.length C, .int .i64 root]] w
      fun e w' => ∃ ns2 root2, PutOk ns ns2 root2 x ∧ Kept (feet g qs) w w' ∧ ((2000 < ns2.length ∧ e = .returned (.tuple #[.agg #[.slice none 0 0, .int .i64 0], .int .i64 1])) ∨
        (ns2.length ≤ 2000 ∧ ∃ g' C' qs', e = .returned (.tuple #[.agg #[.slice (some ⟨g', 0, none⟩) qs'.length C', .int .i64 root2], .int .i64 0]) ∧ NT base w' g' C' qs' ∧ qs'.map PN.nd = ns2 ∧ ∀ b ∈ feet g' qs', b ∈ feet g qs ∨ w.heap.size ≤ b)) := by
  obtain ⟨T, h, P, hT9, hh, hsub, hp⟩ := hs.sub
  have hr := Sub_nodup_ne hsub
  obtain ⟨k, rfl⟩ : ∃ k : Nat, root = k := ⟨root.toNat, by omega⟩
  have hk : k < qs.length := by have := hr.2; simp at this; omega
  have hnd : P.Nodup := hp.nodup_iff.2 (placesF_nodup _ _)
  have hg := grown_ok hsub hp
  have hwc := wts_cont (qs.map PN.nd)
  have h1 := hg.few
  have h2 := hg.part
  have h3 := hs.few
  have h4 := hs.len
  have hcon : Hid (∀ (W : World) (tb : Nat), TB base W tb g C qs (k : Int) → base ≤ W.heap.size → Calls Tryz.prog 70 #[.pointer (some ⟨tb, 0, none⟩), .int .i64 (k : Int)] W fun e w' => ∃ vm g' C' qs', e = .returned vm ∧ GrowTo base W tb g qs (k : Int) (splitAllN h (qs.map PN.nd) (k : Int)).1 (splitAllN h (qs.map PN.nd) (k : Int)).2 w' vm g' C' qs') :=
    fun W tb hTB hBW => splitAll_any (mL := T) (by omega) base tb (k : Int) h g C qs k 0 1099511627776 P W hTB hk hsub hnd hBW (by omega)
  refine (grow_any base g C qs k _ _ h (growAll h (qs.map PN.nd) (k : Int)) w hT hB hcon (.inr hg.row) (by omega) rfl).mono ?_
  rintro e w' ⟨hk', hres⟩
  refine ⟨(growAll h (qs.map PN.nd) (k : Int)).1, (growAll h (qs.map PN.nd) (k : Int)).2, ⟨hg.fine, hs.eqv.trans (Eqv.of_perm hg.cont.symm hs.eqv.posm), by omega, hg.sub⟩, hk', hres⟩

end Go.Proofs.YtlojfgdpmaigmacGreatDoor
