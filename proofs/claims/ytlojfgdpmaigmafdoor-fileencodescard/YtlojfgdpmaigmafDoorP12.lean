/- What a call leaves as it was, some blocks apart; which nodes have been seen. -/
import Derived.Test.YtlojfgdpmaigmafDoorP09
import Derived.Test.YtlojfgdpmaigmafDoorEntsRef
import Derived.Test.YtlojfgdpmaigmafDoorP06
import Derived.Maps.OwnSet
import Derived.Maps.Views
import Derived.Maps.OwnOps
namespace Go.Proofs.YtlojfgdpmaigmafDoor
open Go.RowKit Plain

/-- w' is w with new blocks, and with writes to the blocks of ex alone. -/
structure Kept (ex : List Nat) (w w' : World) : Prop where
  os : w'.os = w.os
  tape : w'.tape = w.tape
  output : w'.output = w.output
  size : w.heap.size ≤ w'.heap.size
  block : ∀ k, k < w.heap.size → k ∉ ex → w'.heap[k]? = w.heap[k]?

section
variable {ex : List Nat} {w w' w'' : World}

theorem Kept.refl (ex : List Nat) (w : World) : Kept ex w w := ⟨rfl, rfl, rfl, Nat.le_refl _, fun _ _ _ => rfl⟩
theorem Kept.trans (h : Kept ex w w') (k : Kept ex w' w'') : Kept ex w w'' :=
  ⟨k.os.trans h.os, k.tape.trans h.tape, k.output.trans h.output, Nat.le_trans h.size k.size, fun i hi hx => (k.block i (Nat.lt_of_lt_of_le hi h.size) hx).trans (h.block i hi hx)⟩
theorem Kept.alloc (h : Kept ex w w') (o : Obj) : Kept ex w (w'.alloc o) :=
  h.trans ⟨rfl, rfl, rfl, by simp, fun k hk _ => Below.heap_alloc _ _ _ hk⟩
theorem Kept.set (h : Kept ex w w') {b j : Nat} (hb : b ∈ ex ∨ w.heap.size ≤ b) (v : Value) : Kept ex w (w'.setCell ⟨b, j, none⟩ v) :=
  ⟨h.os, h.tape, h.output, by simpa using h.size, fun k hk hx => (Below.heap_setCell _ _ _ _ (by rintro rfl; rcases hb with hb | hb; exact hx hb; omega)).trans (h.block k hk hx)⟩
theorem Kept.drew (h : Kept ex w w') : Kept ex w w'.drew := ⟨h.os, h.tape, h.output, h.size, h.block⟩
theorem Kept.drewN (h : Kept ex w w') (n : Nat) : Kept ex w (w'.drewN n) := ⟨h.os, h.tape, h.output, h.size, h.block⟩
theorem Kept.of_below (h : Below w.heap.size w w') : Kept ex w w' := ⟨h.os, h.tape, h.output, h.size, fun k hk _ => h.block k hk⟩
theorem Kept.below (h : Kept ex w w') {B : Nat} (hB : B ≤ w.heap.size) (hx : ∀ x ∈ ex, B ≤ x) : Below B w w' :=
  ⟨h.os, h.tape, h.output, h.size, fun k hk => h.block k (by omega) (fun hm => by have := hx k hm; omega)⟩
theorem Kept.cell (h : Kept ex w w') {b : Nat} (o : Nat) (hb : b < w.heap.size) (hx : b ∉ ex) : w'.cell? ⟨b, o, none⟩ = w.cell? ⟨b, o, none⟩ :=
  World.cell?_of_block (w := w) (a := ⟨b, o, none⟩) (h.block b hb hx)
theorem Kept.row (h : Kept ex w w') {b : Nat} {t : TypeId} {vs : List Value} (hr : RowL w b t vs) (hx : b ∉ ex) : RowL w' b t vs := hr.of_block (h.block b hr.lt hx)
end

theorem two_rows {v w2 : World} {l1 l2 : List Value} {t1 t2 : TypeId} (hb : Below ((v.alloc (.cells l1.toArray t1)).alloc (.cells l2.toArray t2)).heap.size ((v.alloc (.cells l1.toArray t1)).alloc (.cells l2.toArray t2)) w2) {n : Nat} (hn : n = v.heap.size) :
    RowL w2 n t1 l1 ∧ RowL w2 (n + 1) t2 l2 ∧ n + 1 < w2.heap.size := by
  subst hn
  have s1 : (v.alloc (.cells l1.toArray t1)).heap.size = v.heap.size + 1 := by simp
  have s2 : ((v.alloc (.cells l1.toArray t1)).alloc (.cells l2.toArray t2)).heap.size = v.heap.size + 2 := by simp
  have r1 : RowL ((v.alloc (.cells l1.toArray t1)).alloc (.cells l2.toArray t2)) v.heap.size t1 l1 := (rowL_alloc v l1 t1).of_block (Below.heap_alloc _ _ _ (by omega))
  have r2 : RowL ((v.alloc (.cells l1.toArray t1)).alloc (.cells l2.toArray t2)) (v.heap.size + 1) t2 l2 := by
    have := rowL_alloc (v.alloc (.cells l1.toArray t1)) l2 t2
    rwa [s1] at this
  have hs := hb.size
  exact ⟨r1.below hb (by omega), r2.below hb (by omega), by omega⟩

def SeenIs (w : World) (sb N : Nat) (S : St) : Prop := w.rowIs sb 3 N (fun i => .int .i64 (if seenB S (i : Int) = true then 1 else 0))

theorem SeenIs.set {w : World} {sb N m : Nat} {S : St} (h : SeenIs w sb N S) (d : Int) : SeenIs (w.setCell ⟨sb, m, none⟩ (.int .i64 1)) sb N (((m : Int), d) :: S) := by
  refine (World.rowIs.set h m (.int .i64 1)).congr fun i _ => ?_
  by_cases e : i = m
  · subst e; simp [seenB]
  · have hn : seenB (((m : Int), d) :: S) (i : Int) = seenB S (i : Int) := by
      unfold seenB
      rw [List.any_cons, show ((((m : Int), d) : Int × Int).1 == (i : Int)) = false by simp; omega, Bool.false_or]
    simp only [e, if_false, hn]

theorem SeenIs.kept {w w' : World} {sb N : Nat} {S : St} (h : SeenIs w sb N S) (hk : w'.heap[sb]? = w.heap[sb]?) : SeenIs w' sb N S := World.rowIs.of_block h hk

theorem W_succ (ns : List Nd) (f : Nat) (n low high : Int) (S : St) : W ns (f + 1) n low high S =
    if n < 0 ∨ (ns.length : Int) ≤ n ∨ high ≤ low ∨ seenB S n = true then none
    else if (ns.getD n.toNat default).leaf = true then
      (if leafB (ns.getD n.toNat default) low high f = true then some ((n, 12 - (f : Int)) :: S, [12 - (f : Int)]) else none)
    else if innerB (ns.getD n.toNat default) low high = true then Wk (W ns f) (ns.getD n.toNat default).kids (ns.getD n.toNat default).keys low high ((n, 12 - (f : Int)) :: S)
    else none := rfl

theorem W_out {ns : List Nd} {f : Nat} {n low high : Int} {S : St} (h : n < 0 ∨ (ns.length : Int) ≤ n ∨ high ≤ low ∨ seenB S n = true) : W ns f n low high S = none := by
  cases f with
  | zero => rfl
  | succ f => rw [W_succ, if_pos h]

theorem W_leaf {ns : List Nd} {f m : Nat} {low high : Int} {S : St} {x : Nd} (hm : m < ns.length) (hx : ns[m] = x) (hlh : low < high) (hs : seenB S m = false) (hl : x.leaf = true) :
    W ns (f + 1) m low high S = if leafB x low high f = true then some (((m : Int), 12 - (f : Int)) :: S, [12 - (f : Int)]) else none := by
  have hg : ns.getD m default = x := by simp [hm, hx]
  rw [W_succ, if_neg (by simp [hs]; omega)]
  simp only [Int.toNat_natCast, hg, hl, if_true]

theorem W_inner {ns : List Nd} {f m : Nat} {low high : Int} {S : St} {x : Nd} (hm : m < ns.length) (hx : ns[m] = x) (hlh : low < high) (hs : seenB S m = false) (hl : x.leaf = false) :
    W ns (f + 1) m low high S = if innerB x low high = true then Wk (W ns f) x.kids x.keys low high (((m : Int), 12 - (f : Int)) :: S) else none := by
  have hg : ns.getD m default = x := by simp [hm, hx]
  rw [W_succ, if_neg (by simp [hs]; omega)]
  simp only [Int.toNat_natCast, hg, hl, Bool.false_eq_true, if_false]

end Go.Proofs.YtlojfgdpmaigmafDoor

/- The document's 'height' of a tree: leaves. -/
namespace Go.Proofs.YtlojfgdpmaigmafDoor
open Go.RowKit Plain

theorem entriesMay_zero (A : Option Addr) (C : Nat) (low high : Int) (w : World) (hl : -9223372036854775807 ≤ high) (hh : high ≤ 9223372036854775807) :
    Calls Tryd.prog 79 #[.slice A 0 C, .int .i64 low, .int .i64 high] w fun e w' => e = .returned (.bool true) ∧ Below w.heap.size w w' :=
  entriesMay_any A C [] low high w (.inl rfl) (by simp) hl hh

set_option maxRecDepth 20000 in
set_option maxHeartbeats 4000000 in
theorem height_leaf (b o C : Nat) (r : Int) (ps : List PN) (sb f m B : Nat) (low high d : Int) (S : St) (w : World) (leaf : Bool) (eA : Option Addr) (eC : Nat) (ents : List En) (kA : Option Addr) (kC : Nat) (keys : List Int) (dA : Option Addr) (dC : Nat) (kids : List Int) (bA : Option Addr) (bC : Nat) (buf : List En)
    (hm : m < ps.length) (hz : ps.length * 104 ≤ 140737488351232) (hat : PnAt w b (o + m * 5) ⟨leaf, eA, eC, ents, kA, kC, keys, dA, dC, kids, bA, bC, buf⟩) (ok : PN.ok B w ⟨leaf, eA, eC, ents, kA, kC, keys, dA, dC, kids, bA, bC, buf⟩)
    (hB : B ≤ sb) (hbl : b < B) (hS : SeenIs w sb ps.length S) (hlow : 0 ≤ low) (hhigh : high ≤ 1099511627776) (hlh : low < high) (hd1 : 1 ≤ d) (hd2 : d ≤ 12) (hseen : seenB S (m : Int) = false) (hl : leaf = true)
    (hin : inB (m : Int) 0 ((ps.length : Int) - 1) = true) (hroot : f = 11 ↔ (m : Int) = r) (res : Int) (hres : Hid (res = if leafB ⟨leaf, ents, keys, kids, buf⟩ low high f = true then d else 0)) :
    Calls Tryd.prog 62 #[.agg #[.slice (some ⟨b, o, none⟩) ps.length C, .int .i64 r], .int .i64 (m : Int), .int .i64 low, .int .i64 high, .int .i64 d, .slice (some ⟨sb, 0, none⟩) ps.length ps.length] w
      fun e w' => e = .returned (.int .i64 res) ∧ Kept [sb] w w' ∧ SeenIs w' sb ps.length (((m : Int), 12 - (f : Int)) :: S) := by
  subst hl
  have hsb := hS.lt
  obtain ⟨c0, c1, c2, c3, c4⟩ := hat
  simp only at c0 c1 c2 c3 c4
  obtain ⟨e1, k1, t1, f1, -, -, -, -, ez, kz, dz, fz⟩ := ok
  simp only at e1 k1 t1 f1 ez kz dz fz
  have hc := hS.cell hm
  simp only [hseen, Bool.false_eq_true, if_false] at hc
  have hfz := hS.frozen m
  have hbs : ¬ b = sb := by omega
  have hbw : b < w.heap.size := by omega
  have KS : ∀ (W : World) (b' o' j : Nat) (v : Value), ¬ b' = sb → (W.setCell ⟨sb, j, none⟩ v).cell? ⟨b', o', none⟩ = W.cell? ⟨b', o', none⟩ := fun W b' o' j v hb => World.cell?_setCell_far _ _ _ _ (fun e => hb e.symm)
  have hk : ∀ o1 o2 : Obj, Kept [sb] w (((w.setCell ⟨sb, m, none⟩ (.int .i64 1)).alloc o1).alloc o2) := fun o1 o2 => (((Kept.refl _ _).set (.inl (by simp)) _).alloc _).alloc _
  have hs1 : ∀ o1 o2 : Obj, SeenIs (((w.setCell ⟨sb, m, none⟩ (.int .i64 1)).alloc o1).alloc o2) sb ps.length (((m : Int), 12 - (f : Int)) :: S) := fun o1 o2 => ((hS.set _).alloc _).alloc _
  have HK := hk
  have HS1 := hs1
  have hBw : B ≤ w.heap.size := by omega
  have hbl0 : ∀ o1 o2 : Obj, Below B w (((w.setCell ⟨sb, m, none⟩ (.int .i64 1)).alloc o1).alloc o2) := fun o1 o2 => (hk o1 o2).below hBw (by simp; omega)
  have hzz : (((w.setCell ⟨sb, m, none⟩ (.int .i64 1)).heap.size)) = w.heap.size := by simp
  by_cases h1 : 0 < keys.length + kids.length + buf.length
  · have E0 : Hid (0 = res) := by
      show _ = _
      rw [hres.out, if_neg]
      rw [leafB_iff]
      rintro ⟨a, b, c, _⟩; simp only at a b c; subst a b c; simp at h1
    have h1' : (0 : Int) < (keys.length : Int) + (kids.length : Int) + (buf.length : Int) := by omega
    clear hroot hres
    go_enter Tryd.func62, Tryd.ntmps62
    go_wp2_with (first | (go_at_call 26; refine (in_any _ _ _ _).mono ?_; rintro e w1 ⟨rfl, rfl⟩) | (go_at_call 79; refine (entriesMay_any _ _ _ _ _ _ (e1.go (hbl0 _ _) (Nat.le_refl _) hBw) ez (by omega) (by omega)).mono ?_; rintro e w2 ⟨rfl, hb2⟩))
    go_ret
    exact ⟨ret_int E0.out, hk _ _, hs1 _ _⟩
  · have hk0 : keys.length = 0 := by omega
    have hd0 : kids.length = 0 := by omega
    have hf0 : buf.length = 0 := by omega
    by_cases h2 : 6 < ents.length
    · have E0 : Hid (0 = res) := by
        show _ = _
        rw [hres.out, if_neg]
        rw [leafB_iff]
        rintro ⟨_, _, _, a, _⟩; simp only at a; omega
      have h2' : (6 : Int) < (ents.length : Int) := by omega
      clear hroot hres
      go_enter Tryd.func62, Tryd.ntmps62
      go_wp2_with (first | (go_at_call 26; refine (in_any _ _ _ _).mono ?_; rintro e w1 ⟨rfl, rfl⟩) | (go_at_call 79; refine (entriesMay_any _ _ _ _ _ _ (e1.go (hbl0 _ _) (Nat.le_refl _) hBw) ez (by omega) (by omega)).mono ?_; rintro e w2 ⟨rfl, hb2⟩))
      go_ret
      exact ⟨ret_int E0.out, hk _ _, hs1 _ _⟩
    · have h2' : ¬ (6 : Int) < (ents.length : Int) := by omega
      by_cases h3 : ents.length = 0
      · by_cases h4 : (m : Int) = r
        · obtain rfl : ents = [] := List.eq_nil_of_length_eq_zero h3
          have E0 : Hid (d = res) := by
            show _ = _
            rw [hres.out, if_pos]
            rw [leafB_iff]
            exact ⟨List.eq_nil_of_length_eq_zero hk0, List.eq_nil_of_length_eq_zero hd0, List.eq_nil_of_length_eq_zero hf0, by simp, .inl (hroot.2 h4), rfl⟩
          clear hroot hres h3
          subst h4
          go_enter Tryd.func62, Tryd.ntmps62
          go_wp2_with (first | (go_at_call 26; refine (in_any _ _ _ _).mono ?_; rintro e w1 ⟨rfl, rfl⟩) | (go_at_call 79; refine (entriesMay_zero _ _ _ _ _ (by omega) (by omega)).mono ?_; rintro e w2 ⟨rfl, hb2⟩))
          go_ret
          exact ⟨ret_int E0.out, (hk _ _).trans (Kept.of_below hb2), (hs1 _ _).kept (hb2.block sb (by simp; omega))⟩
        · have E0 : Hid (0 = res) := by
            show _ = _
            rw [hres.out, if_neg]
            rw [leafB_iff]
            rintro ⟨_, _, _, _, a, _⟩; simp only at a; rcases a with a | a; exact h4 (hroot.1 a); exact a (List.eq_nil_of_length_eq_zero h3)
          have h4b : ((m : Int) == r) = false := by simpa using h4
          clear hroot hres
          go_enter Tryd.func62, Tryd.ntmps62
          go_wp2_with (first | (go_at_call 26; refine (in_any _ _ _ _).mono ?_; rintro e w1 ⟨rfl, rfl⟩) | (go_at_call 79; refine (entriesMay_any _ _ _ _ _ _ (e1.go (hbl0 _ _) (Nat.le_refl _) hBw) ez (by omega) (by omega)).mono ?_; rintro e w2 ⟨rfl, hb2⟩))
          go_ret
          exact ⟨ret_int E0.out, hk _ _, hs1 _ _⟩
      · have h3' : ¬ (ents.length : Int) = 0 := by omega
        by_cases h5 : entsB ents low high = true
        · have E0 : Hid (d = res) := by
            show _ = _
            rw [hres.out, if_pos]
            rw [leafB_iff]
            exact ⟨List.eq_nil_of_length_eq_zero hk0, List.eq_nil_of_length_eq_zero hd0, List.eq_nil_of_length_eq_zero hf0, by show ents.length ≤ 6; omega, .inr (fun e => h3 (by simp only at e; rw [e]; rfl)), h5⟩
          clear hroot hres
          go_enter Tryd.func62, Tryd.ntmps62
          go_wp2_with (first | (go_at_call 26; refine (in_any _ _ _ _).mono ?_; rintro e w1 ⟨rfl, rfl⟩) | (go_at_call 79; refine (entriesMay_any _ _ _ _ _ _ (e1.go (hbl0 _ _) (Nat.le_refl _) hBw) ez (by omega) (by omega)).mono ?_; rintro e w2 ⟨rfl, hb2⟩))
          go_ret
          exact ⟨ret_int E0.out, (hk _ _).trans (Kept.of_below hb2), (hs1 _ _).kept (hb2.block sb (by simp; omega))⟩
        · have h5' : entsB ents low high = false := by simpa using h5
          have E0 : Hid (0 = res) := by
            show _ = _
            rw [hres.out, if_neg]
            rw [leafB_iff]
            rintro ⟨_, _, _, _, _, a⟩; exact h5 a
          clear h5
          clear hroot hres
          go_enter Tryd.func62, Tryd.ntmps62
          go_wp2_with (first | (go_at_call 26; refine (in_any _ _ _ _).mono ?_; rintro e w1 ⟨rfl, rfl⟩) | (go_at_call 79; refine (entriesMay_any _ _ _ _ _ _ (e1.go (hbl0 _ _) (Nat.le_refl _) hBw) ez (by omega) (by omega)).mono ?_; rintro e w2 ⟨rfl, hb2⟩))
          go_ret
          exact ⟨ret_int E0.out, (hk _ _).trans (Kept.of_below hb2), (hs1 _ _).kept (hb2.block sb (by simp; omega))⟩

end Go.Proofs.YtlojfgdpmaigmafDoor

/- The document's 'height' of a tree: the loop over a node's kids. -/
namespace Go.Proofs.YtlojfgdpmaigmafDoor
open Go.RowKit Plain

set_option maxRecDepth 20000 in
set_option maxHeartbeats 4000000 in
theorem height_kids (b o C : Nat) (r : Int) (ps : List PN) (sb f m B : Nat) (low high d : Int) (S : St) (w : World) (leaf : Bool) (eA : Option Addr) (eC : Nat) (ents : List En) (kA : Option Addr) (kC : Nat) (keys : List Int) (dA : Option Addr) (dC : Nat) (kids : List Int) (bA : Option Addr) (bC : Nat) (buf : List En)
    (hm : m < ps.length) (hN : NodesAt B w (some ⟨b, o, none⟩) ps) (hat : PnAt w b (o + m * 5) ⟨leaf, eA, eC, ents, kA, kC, keys, dA, dC, kids, bA, bC, buf⟩) (ok : PN.ok B w ⟨leaf, eA, eC, ents, kA, kC, keys, dA, dC, kids, bA, bC, buf⟩)
    (hB : B ≤ sb) (hbl : b < B) (hS : SeenIs w sb ps.length S) (hlow : 0 ≤ low) (hhigh : high ≤ 1099511627776) (hlh : low < high) (hd1 : 1 ≤ d) (hd2 : d ≤ 12) (hseen : seenB S (m : Int) = false) (hl : leaf = false)
    (hin : inB (m : Int) 0 ((ps.length : Int) - 1) = true) (hf : f + 1 ≤ 12)
    (ih : Hid (∀ (n lo hi : Int) (S' : St) (w' : World), NodesAt B w' (some ⟨b, o, none⟩) ps → SeenIs w' sb ps.length S' → 0 ≤ lo → hi ≤ 1099511627776 → StOk ps.length S' → (∀ p ∈ ((m : Int), 12 - (f : Int)) :: S, p ∈ S') →
      Calls Tryd.prog 62 #[.agg #[.slice (some ⟨b, o, none⟩) ps.length C, .int .i64 r], .int .i64 n, .int .i64 lo, .int .i64 hi, .int .i64 (d + 1), .slice (some ⟨sb, 0, none⟩) ps.length ps.length] w'
        fun e w'' => e = .returned (.int .i64 (resH (W (ps.map PN.nd) f n lo hi S'))) ∧ Kept [sb] w' w'' ∧ ∀ S'' l, W (ps.map PN.nd) f n lo hi S' = some (S'', l) → resH (W (ps.map PN.nd) f n lo hi S') ≠ 0 → SeenIs w'' sb ps.length S''))
    (h1 : ents.length = 0) (h2 : inB (kids.length : Int) 2 4 = true) (h2x : 2 ≤ kids.length ∧ kids.length ≤ 4) (h3 : keys.length + 1 = kids.length) (h4 : buf.length ≤ 8) (h5 : entsB buf low high = true) (R : Option (St × List Int)) (hR : Hid (R = Wk (W (ps.map PN.nd) f) kids keys low high (((m : Int), 12 - (f : Int)) :: S))) (hst : StOk ps.length (((m : Int), 12 - (f : Int)) :: S)) :
    Calls Tryd.prog 62 #[.agg #[.slice (some ⟨b, o, none⟩) ps.length C, .int .i64 r], .int .i64 (m : Int), .int .i64 low, .int .i64 high, .int .i64 d, .slice (some ⟨sb, 0, none⟩) ps.length ps.length] w
      fun e w' => e = .returned (.int .i64 (resH R)) ∧ Kept [sb] w w' ∧ ∀ S' l, R = some (S', l) → resH R ≠ 0 → SeenIs w' sb ps.length S' := by
  subst hl
  have hz := hN.z
  have hsb := hS.lt
  obtain ⟨c0, c1, c2, c3, c4⟩ := hat
  simp only at c0 c1 c2 c3 c4
  obtain ⟨e1, k1, t1, f1, -, -, -, -, ez, kz, dz, fz⟩ := ok
  simp only at e1 k1 t1 f1 ez kz dz fz
  have hc := hS.cell hm
  simp only [hseen, Bool.false_eq_true, if_false] at hc
  have hfz := hS.frozen m
  have hbs : ¬ b = sb := by omega
  have hbw : b < w.heap.size := by omega
  have KS : ∀ (W : World) (b' o' j : Nat) (v : Value), ¬ b' = sb → (W.setCell ⟨sb, j, none⟩ v).cell? ⟨b', o', none⟩ = W.cell? ⟨b', o', none⟩ := fun W b' o' j v hb => World.cell?_setCell_far _ _ _ _ (fun e => hb e.symm)
  have hk : ∀ o1 o2 : Obj, Kept [sb] w (((w.setCell ⟨sb, m, none⟩ (.int .i64 1)).alloc o1).alloc o2) := fun o1 o2 => (((Kept.refl _ _).set (.inl (by simp)) _).alloc _).alloc _
  have hs1 : ∀ o1 o2 : Obj, SeenIs (((w.setCell ⟨sb, m, none⟩ (.int .i64 1)).alloc o1).alloc o2) sb ps.length (((m : Int), 12 - (f : Int)) :: S) := fun o1 o2 => ((hS.set _).alloc _).alloc _
  have hBw : B ≤ w.heap.size := by omega
  have hbl0 : ∀ o1 o2 : Obj, Below B w (((w.setCell ⟨sb, m, none⟩ (.int .i64 1)).alloc o1).alloc o2) := fun o1 o2 => (hk o1 o2).below hBw (by simp; omega)
  have h3' : (keys.length : Int) + 1 = (kids.length : Int) := by omega
  have h4' : ¬ (8 : Int) < (buf.length : Int) := by omega
  have HR : Hid (StOk ps.length (((m : Int), 12 - (f : Int)) :: S) ∧ f + 1 ≤ 12 ∧ keys.length + 1 = kids.length) := ⟨hst, hf, h3⟩
  clear hst hf
  obtain rfl : ents = [] := List.eq_nil_of_length_eq_zero h1
  clear h1
  go_enter Tryd.func62, Tryd.ntmps62
  go_wp2_with (first | (go_at_call 26; refine (in_any _ _ _ _).mono ?_; rintro e w1 ⟨rfl, rfl⟩) | (go_at_call 79; refine (entriesMay_any _ _ _ _ _ _ (f1.go (hbl0 _ _) (Nat.le_refl _) hBw) fz (by omega) (by omega)).mono ?_; rintro e w2 ⟨rfl, hb2⟩))
  have hK2 : Kept [sb] w w2 := (hk _ _).trans (Kept.of_below hb2)
  have hS2 : SeenIs w2 sb ps.length (((m : Int), 12 - (f : Int)) :: S) := (hs1 _ _).kept (hb2.block sb (by simp; omega))
  obtain ⟨rb, rx, zz⟩ := two_rows hb2 (n := w.heap.size) (by simp)
  clear hb2 hs1 hk hbl0 KS
  go_loopw [14, 15, 16] (fun va vf vi wr => ∃ (i : Nat) (S' : St) (acc : List Int) (a lo : Int), i ≤ kids.length ∧ va = .int .i64 a ∧ vf = .int .i64 lo ∧ vi = .int .i64 i ∧ KidsAt (W (ps.map PN.nd) f) kids keys low high (((m : Int), 12 - (f : Int)) :: S) i lo S' acc a ∧ Kept [sb] w2 wr ∧ SeenIs wr sb ps.length S' ∧ StOk ps.length S' ∧ (∀ p ∈ ((m : Int), 12 - (f : Int)) :: S, p ∈ S')) (fun _ _ vi _ => kids.length - (intOf vi).toNat)
  case atStart => exact ⟨0, _, [], 0, low, Nat.zero_le _, rfl, rfl, rfl, kidsAt_start _ _ _ _ _ _, Kept.refl _ _, hS2, HR.out.1, fun _ h => h⟩
  case round =>
    obtain ⟨i, S', acc, a, lo, hi, rfl, rfl, rfl, hka, hkw, hsn, hok, hsub⟩ := hrel
    have nb : ¬ w.heap.size = sb := by omega
    have nx : ¬ w.heap.size + 1 = sb := by omega
    have rb' := hkw.row rb (by simpa using nb)
    have rx' := hkw.row rx (by simpa using nx)
    have y0 := rb'.cell 0
    have y1 := rb'.cell 1
    have y2 := rx'.cell 2
    have y3 := rx'.cell 3
    simp only [List.getElem?_cons_zero, List.getElem?_cons_succ] at y0 y1 y2 y3
    have hxl := rx'.lt
    have hKw : Kept [sb] w wr := hK2.trans hkw
    have hBb : Below B w wr := hKw.below hBw (by simpa using hB)
    have hNr := hN.below hBb (Nat.le_refl _)
    by_cases hlt : i < kids.length
    · obtain ⟨kb, ko, rfl, hkb, hkc⟩ := (t1.below hBb (Nat.le_refl _)).int hlt
      have hf12 : f + 1 ≤ 12 := HR.out.2.1
      have nk : ¬ kb = sb := by omega
      have hkr : kb < wr.heap.size := by have := hKw.size; omega
      have hwr : w.heap.size < wr.heap.size := by omega
      have i0 : (0 : Int) ≤ (i : Int) := by omega
      have i1 : (i : Int) < (kids.length : Int) := by omega
      have wd : IntKind.i64.wrap (d + 1) = d + 1 := by rw [IntKind.wrap_i64]; omega
      obtain ⟨kd, hkd⟩ : ∃ kd, kids[i] = kd := ⟨_, rfl⟩
      rw [hkd] at hkc
      have HKD : Hid (kids[i] = kd) := hkd
      clear hkd
      by_cases hik : i < keys.length
      · obtain ⟨qb, qo, rfl, hqb, hqc⟩ := (k1.below hBb (Nat.le_refl _)).int hik
        have hqr : qb < wr.heap.size := by have := hKw.size; omega
        have HT : Hid (toAt keys high i = keys[i]) := by show _ = _; simp [toAt, hik]
        generalize keys[i] = tk at *
        by_cases hto : inB tk low high = true
        · have hto' : low ≤ tk ∧ tk ≤ high := by simpa [inB] using hto
          obtain ⟨hh, Hh'⟩ : ∃ hh, hh = resH (W (ps.map PN.nd) f kd lo tk S') := ⟨_, rfl⟩
          have con : ∀ w', NodesAt B w' (some ⟨b, o, none⟩) ps → SeenIs w' sb ps.length S' → Calls Tryd.prog 62 #[.agg #[.slice (some ⟨b, o, none⟩) ps.length C, .int .i64 r], .int .i64 kd, .int .i64 lo, .int .i64 tk, .int .i64 (d + 1), .slice (some ⟨sb, 0, none⟩) ps.length ps.length] w'
              fun e w'' => e = .returned (.int .i64 hh) ∧ Kept [sb] w' w'' ∧ ∀ S'' l, W (ps.map PN.nd) f kd lo tk S' = some (S'', l) → hh ≠ 0 → SeenIs w'' sb ps.length S'' := by
            intro w' a1 a2
            rw [Hh']
            exact ih.out kd lo tk S' w' a1 a2 (by have := hka.low; omega) (by omega) hok hsub
          have HB : Hid ((hh = 0 → resH R = 0) ∧ (hh ≠ 0 → 0 < a → hh ≠ a → resH R = 0) ∧ (hh ≠ 0 → ¬ (0 < a ∧ hh ≠ a) → ∃ S1 l1, W (ps.map PN.nd) f kd lo tk S' = some (S1, l1) ∧ KidsAt (W (ps.map PN.nd) f) kids keys low high (((m : Int), 12 - (f : Int)) :: S) (i + 1) tk S1 (acc ++ l1) hh ∧ StOk ps.length S1 ∧ ∀ p ∈ S', p ∈ S1)) := by
            have e1 : resH (W (ps.map PN.nd) f kids[i] lo (toAt keys high i) S') = hh := by rw [HT.out, HKD.out]; exact Hh'.symm
            rw [hR.out]
            refine ⟨fun h0 => kidsAt_zero (W_ds f (by omega)) hka hlt (by rw [e1]; exact h0), fun h0 hA hE => kidsAt_part hka hlt e1 h0 hA hE, fun h0 hA => ?_⟩
            obtain ⟨S1, l1, hg1, hka1⟩ := kidsAt_next (W_ds f (by omega)) (W_low f) hka hlt e1 h0 hA
            rw [HT.out, HKD.out] at hg1
            rw [HT.out] at hka1
            have hst1 := W_st f _ _ _ _ _ _ hg1 (by simpa using hok)
            simp only [List.length_map] at hst1
            exact ⟨S1, l1, hg1, hka1, hst1⟩
          clear Hh' hka HT ih hR
          go_wp2_with (first | (go_at_call 26; refine (in_any _ _ _ _).mono ?_; rintro e w1 ⟨rfl, hw1⟩; subst w1))
          go_region_held3 (fun w' => w'.cell? ⟨w.heap.size, 0, none⟩ = some (.slice (some ⟨b, o, none⟩) ps.length C) ∧ w'.cell? ⟨w.heap.size, 1, none⟩ = some (.int .i64 r) ∧ w'.cell? ⟨w.heap.size + 1, 3, none⟩ = some (.slice (some ⟨kb, ko, none⟩) kids.length dC) ∧ w'.cell? ⟨kb, ko + i, none⟩ = some (.int .i64 kd)) (go_keep)
            (first | (go_at_call 62; refine (con _ ?_ ?_).mono ?_; exact hNr.below ((Below.refl _ _).drew) (Nat.le_refl _); exact hsn; rintro e w3 ⟨rfl, hk3, hs3⟩; have T3 : ∀ b' o', b' < wr.heap.size → ¬ b' = sb → w3.cell? ⟨b', o', none⟩ = wr.cell? ⟨b', o', none⟩ := fun b' o' h1 h2 => hk3.cell o' h1 (by simpa using h2)))
          go_wp2
          · have q : hh = 0 := by assumption
            go_ret
            exact ⟨ret_int (HB.out.1 q).symm, hKw.trans ((Kept.refl _ _).drew.trans hk3), fun S'' l _ h => absurd (HB.out.1 q) h⟩
          · have q : ¬ hh = 0 := by assumption
            have qa : 0 < a := by assumption
            have qe : (hh == 0) = true ∨ (hh != a) = true := by assumption
            have qz : resH R = 0 := HB.out.2.1 q qa (by
              rcases qe with qe | qe
              · exact absurd (by simpa using qe) q
              · simpa using qe)
            go_ret
            exact ⟨ret_int qz.symm, hKw.trans ((Kept.refl _ _).drew.trans hk3), fun S'' l _ h => absurd qz h⟩
          · have q : ¬ hh = 0 := by assumption
            have qe : (hh == 0) = false ∧ (hh != a) = false := by assumption
            have HX : Hid (∃ S1 l1, W (ps.map PN.nd) f kd lo tk S' = some (S1, l1) ∧ KidsAt (W (ps.map PN.nd) f) kids keys low high (((m : Int), 12 - (f : Int)) :: S) (i + 1) tk S1 (acc ++ l1) hh ∧ StOk ps.length S1 ∧ ∀ p ∈ S', p ∈ S1) := HB.out.2.2 q (fun h => h.2 (by simpa using qe.2))
            go_roundw
            case rel =>
              go_light
              obtain ⟨S1, l1, g1, g2, g3, g4⟩ := HX.out
              exact ⟨i + 1, S1, acc ++ l1, hh, tk, by omega, rfl, rfl, by go_num, g2, hkw.trans ((Kept.refl _ _).drew.trans hk3), hs3 S1 l1 g1 q, g3, fun p hp => g4 p (hsub p hp)⟩
            case measure => simp [intOf]; omega
          · have q : ¬ hh = 0 := by assumption
            have qa : ¬ 0 < a := by assumption
            have HX : Hid (∃ S1 l1, W (ps.map PN.nd) f kd lo tk S' = some (S1, l1) ∧ KidsAt (W (ps.map PN.nd) f) kids keys low high (((m : Int), 12 - (f : Int)) :: S) (i + 1) tk S1 (acc ++ l1) hh ∧ StOk ps.length S1 ∧ ∀ p ∈ S', p ∈ S1) := HB.out.2.2 q (fun h => qa h.1)
            go_roundw
            case rel =>
              go_light
              obtain ⟨S1, l1, g1, g2, g3, g4⟩ := HX.out
              exact ⟨i + 1, S1, acc ++ l1, hh, tk, by omega, rfl, rfl, by go_num, g2, hkw.trans ((Kept.refl _ _).drew.trans hk3), hs3 S1 l1 g1 q, g3, fun p hp => g4 p (hsub p hp)⟩
            case measure => simp [intOf]; omega
        · have hto' : inB tk low high = false := by simpa using hto
          have E0 : Hid (resH R = 0) := by
            show _ = _
            rw [hR.out]
            refine kidsAt_out (W_low f) hka hlt HR.out.2.2 ?_
            rw [HT.out]
            intro h
            exact hto (by simpa [inB] using h)
          clear hka HT hto ih
          go_wp2_with (first | (go_at_call 26; refine (in_any _ _ _ _).mono ?_; rintro e w1 ⟨rfl, hw1⟩; subst w1))
          go_ret
          exact ⟨ret_int E0.out.symm, hKw, fun S'' l _ h => absurd E0.out h⟩
      · have HT : Hid (toAt keys high i = high) := by show _ = _; simp [toAt, hik]
        by_cases hto : inB high low high = true
        · have hto' : low ≤ high ∧ high ≤ high := by simpa [inB] using hto
          obtain ⟨hh, Hh'⟩ : ∃ hh, hh = resH (W (ps.map PN.nd) f kd lo high S') := ⟨_, rfl⟩
          have con : ∀ w', NodesAt B w' (some ⟨b, o, none⟩) ps → SeenIs w' sb ps.length S' → Calls Tryd.prog 62 #[.agg #[.slice (some ⟨b, o, none⟩) ps.length C, .int .i64 r], .int .i64 kd, .int .i64 lo, .int .i64 high, .int .i64 (d + 1), .slice (some ⟨sb, 0, none⟩) ps.length ps.length] w'
              fun e w'' => e = .returned (.int .i64 hh) ∧ Kept [sb] w' w'' ∧ ∀ S'' l, W (ps.map PN.nd) f kd lo high S' = some (S'', l) → hh ≠ 0 → SeenIs w'' sb ps.length S'' := by
            intro w' a1 a2
            rw [Hh']
            exact ih.out kd lo high S' w' a1 a2 (by have := hka.low; omega) (by omega) hok hsub
          have HB : Hid ((hh = 0 → resH R = 0) ∧ (hh ≠ 0 → 0 < a → hh ≠ a → resH R = 0) ∧ (hh ≠ 0 → ¬ (0 < a ∧ hh ≠ a) → ∃ S1 l1, W (ps.map PN.nd) f kd lo high S' = some (S1, l1) ∧ KidsAt (W (ps.map PN.nd) f) kids keys low high (((m : Int), 12 - (f : Int)) :: S) (i + 1) high S1 (acc ++ l1) hh ∧ StOk ps.length S1 ∧ ∀ p ∈ S', p ∈ S1)) := by
            have e1 : resH (W (ps.map PN.nd) f kids[i] lo (toAt keys high i) S') = hh := by rw [HT.out, HKD.out]; exact Hh'.symm
            rw [hR.out]
            refine ⟨fun h0 => kidsAt_zero (W_ds f (by omega)) hka hlt (by rw [e1]; exact h0), fun h0 hA hE => kidsAt_part hka hlt e1 h0 hA hE, fun h0 hA => ?_⟩
            obtain ⟨S1, l1, hg1, hka1⟩ := kidsAt_next (W_ds f (by omega)) (W_low f) hka hlt e1 h0 hA
            rw [HT.out, HKD.out] at hg1
            rw [HT.out] at hka1
            have hst1 := W_st f _ _ _ _ _ _ hg1 (by simpa using hok)
            simp only [List.length_map] at hst1
            exact ⟨S1, l1, hg1, hka1, hst1⟩
          clear Hh' hka HT ih hR
          go_wp2_with (first | (go_at_call 26; refine (in_any _ _ _ _).mono ?_; rintro e w1 ⟨rfl, hw1⟩; subst w1))
          go_region_held3 (fun w' => w'.cell? ⟨w.heap.size, 0, none⟩ = some (.slice (some ⟨b, o, none⟩) ps.length C) ∧ w'.cell? ⟨w.heap.size, 1, none⟩ = some (.int .i64 r) ∧ w'.cell? ⟨w.heap.size + 1, 3, none⟩ = some (.slice (some ⟨kb, ko, none⟩) kids.length dC) ∧ w'.cell? ⟨kb, ko + i, none⟩ = some (.int .i64 kd)) (go_keep)
            (first | (go_at_call 62; refine (con _ ?_ ?_).mono ?_; exact hNr.below ((Below.refl _ _).drew) (Nat.le_refl _); exact hsn; rintro e w3 ⟨rfl, hk3, hs3⟩; have T3 : ∀ b' o', b' < wr.heap.size → ¬ b' = sb → w3.cell? ⟨b', o', none⟩ = wr.cell? ⟨b', o', none⟩ := fun b' o' h1 h2 => hk3.cell o' h1 (by simpa using h2)))
          go_wp2
          · have q : hh = 0 := by assumption
            go_ret
            exact ⟨ret_int (HB.out.1 q).symm, hKw.trans ((Kept.refl _ _).drew.trans hk3), fun S'' l _ h => absurd (HB.out.1 q) h⟩
          · have q : ¬ hh = 0 := by assumption
            have qa : 0 < a := by assumption
            have qe : (hh == 0) = true ∨ (hh != a) = true := by assumption
            have qz : resH R = 0 := HB.out.2.1 q qa (by
              rcases qe with qe | qe
              · exact absurd (by simpa using qe) q
              · simpa using qe)
            go_ret
            exact ⟨ret_int qz.symm, hKw.trans ((Kept.refl _ _).drew.trans hk3), fun S'' l _ h => absurd qz h⟩
          · have q : ¬ hh = 0 := by assumption
            have qe : (hh == 0) = false ∧ (hh != a) = false := by assumption
            have HX : Hid (∃ S1 l1, W (ps.map PN.nd) f kd lo high S' = some (S1, l1) ∧ KidsAt (W (ps.map PN.nd) f) kids keys low high (((m : Int), 12 - (f : Int)) :: S) (i + 1) high S1 (acc ++ l1) hh ∧ StOk ps.length S1 ∧ ∀ p ∈ S', p ∈ S1) := HB.out.2.2 q (fun h => h.2 (by simpa using qe.2))
            go_roundw
            case rel =>
              go_light
              obtain ⟨S1, l1, g1, g2, g3, g4⟩ := HX.out
              exact ⟨i + 1, S1, acc ++ l1, hh, high, by omega, rfl, rfl, by go_num, g2, hkw.trans ((Kept.refl _ _).drew.trans hk3), hs3 S1 l1 g1 q, g3, fun p hp => g4 p (hsub p hp)⟩
            case measure => simp [intOf]; omega
          · have q : ¬ hh = 0 := by assumption
            have qa : ¬ 0 < a := by assumption
            have HX : Hid (∃ S1 l1, W (ps.map PN.nd) f kd lo high S' = some (S1, l1) ∧ KidsAt (W (ps.map PN.nd) f) kids keys low high (((m : Int), 12 - (f : Int)) :: S) (i + 1) high S1 (acc ++ l1) hh ∧ StOk ps.length S1 ∧ ∀ p ∈ S', p ∈ S1) := HB.out.2.2 q (fun h => qa h.1)
            go_roundw
            case rel =>
              go_light
              obtain ⟨S1, l1, g1, g2, g3, g4⟩ := HX.out
              exact ⟨i + 1, S1, acc ++ l1, hh, high, by omega, rfl, rfl, by go_num, g2, hkw.trans ((Kept.refl _ _).drew.trans hk3), hs3 S1 l1 g1 q, g3, fun p hp => g4 p (hsub p hp)⟩
            case measure => simp [intOf]; omega
        · have hto' : inB high low high = false := by simpa using hto
          have E0 : Hid (resH R = 0) := by
            show _ = _
            rw [hR.out]
            refine kidsAt_out (W_low f) hka hlt HR.out.2.2 ?_
            rw [HT.out]
            intro h
            exact hto (by simpa [inB] using h)
          clear hka HT hto ih
          go_wp2_with (first | (go_at_call 26; refine (in_any _ _ _ _).mono ?_; rintro e w1 ⟨rfl, hw1⟩; subst w1))
          go_ret
          exact ⟨ret_int E0.out.symm, hKw, fun S'' l _ h => absurd E0.out h⟩
    · obtain rfl : i = kids.length := by omega
      have HE : Hid (Wk (W (ps.map PN.nd) f) kids keys low high (((m : Int), 12 - (f : Int)) :: S) = some (S', acc) ∧ resH (Wk (W (ps.map PN.nd) f) kids keys low high (((m : Int), 12 - (f : Int)) :: S)) = a) := kidsAt_end hka rfl (by omega)
      clear hka
      go_wp2
      go_ret
      obtain ⟨q1, q2⟩ := HE.out
      rw [hR.out, q2, q1]
      exact ⟨rfl, hKw, fun S'' l h _ => by cases h; exact hsn⟩

end Go.Proofs.YtlojfgdpmaigmafDoor

/- The document's 'height' of a tree: nodes that are no leaves. -/
namespace Go.Proofs.YtlojfgdpmaigmafDoor
open Go.RowKit Plain

set_option maxRecDepth 20000 in
set_option maxHeartbeats 4000000 in
theorem height_inner (b o C : Nat) (r : Int) (ps : List PN) (sb f m B : Nat) (low high d : Int) (S : St) (w : World) (leaf : Bool) (eA : Option Addr) (eC : Nat) (ents : List En) (kA : Option Addr) (kC : Nat) (keys : List Int) (dA : Option Addr) (dC : Nat) (kids : List Int) (bA : Option Addr) (bC : Nat) (buf : List En)
    (hm : m < ps.length) (hN : NodesAt B w (some ⟨b, o, none⟩) ps) (hat : PnAt w b (o + m * 5) ⟨leaf, eA, eC, ents, kA, kC, keys, dA, dC, kids, bA, bC, buf⟩) (ok : PN.ok B w ⟨leaf, eA, eC, ents, kA, kC, keys, dA, dC, kids, bA, bC, buf⟩)
    (hB : B ≤ sb) (hbl : b < B) (hS : SeenIs w sb ps.length S) (hlow : 0 ≤ low) (hhigh : high ≤ 1099511627776) (hlh : low < high) (hd1 : 1 ≤ d) (hd2 : d ≤ 12) (hseen : seenB S (m : Int) = false) (hl : leaf = false)
    (hin : inB (m : Int) 0 ((ps.length : Int) - 1) = true) (hf : f + 1 ≤ 12)
    (ih : Hid (∀ (n lo hi : Int) (S' : St) (w' : World), NodesAt B w' (some ⟨b, o, none⟩) ps → SeenIs w' sb ps.length S' → 0 ≤ lo → hi ≤ 1099511627776 → StOk ps.length S' → (∀ p ∈ ((m : Int), 12 - (f : Int)) :: S, p ∈ S') →
      Calls Tryd.prog 62 #[.agg #[.slice (some ⟨b, o, none⟩) ps.length C, .int .i64 r], .int .i64 n, .int .i64 lo, .int .i64 hi, .int .i64 (d + 1), .slice (some ⟨sb, 0, none⟩) ps.length ps.length] w'
        fun e w'' => e = .returned (.int .i64 (resH (W (ps.map PN.nd) f n lo hi S'))) ∧ Kept [sb] w' w'' ∧ ∀ S'' l, W (ps.map PN.nd) f n lo hi S' = some (S'', l) → resH (W (ps.map PN.nd) f n lo hi S') ≠ 0 → SeenIs w'' sb ps.length S''))
    (hst : StOk ps.length (((m : Int), 12 - (f : Int)) :: S)) (R : Option (St × List Int)) (hR : Hid (R = if innerB ⟨leaf, ents, keys, kids, buf⟩ low high = true then Wk (W (ps.map PN.nd) f) kids keys low high (((m : Int), 12 - (f : Int)) :: S) else none)) :
    Calls Tryd.prog 62 #[.agg #[.slice (some ⟨b, o, none⟩) ps.length C, .int .i64 r], .int .i64 (m : Int), .int .i64 low, .int .i64 high, .int .i64 d, .slice (some ⟨sb, 0, none⟩) ps.length ps.length] w
      fun e w' => e = .returned (.int .i64 (resH R)) ∧ Kept [sb] w w' ∧ ∀ S' l, R = some (S', l) → resH R ≠ 0 → SeenIs w' sb ps.length S' := by
  subst hl
  have hat0 := hat
  have ok0 := ok
  have hz := hN.z
  have hsb := hS.lt
  obtain ⟨c0, c1, c2, c3, c4⟩ := hat
  simp only at c0 c1 c2 c3 c4
  obtain ⟨e1, k1, t1, f1, -, -, -, -, ez, kz, dz, fz⟩ := ok
  simp only at e1 k1 t1 f1 ez kz dz fz
  have hc := hS.cell hm
  simp only [hseen, Bool.false_eq_true, if_false] at hc
  have hfz := hS.frozen m
  have hbs : ¬ b = sb := by omega
  have hbw : b < w.heap.size := by omega
  have KS : ∀ (W : World) (b' o' j : Nat) (v : Value), ¬ b' = sb → (W.setCell ⟨sb, j, none⟩ v).cell? ⟨b', o', none⟩ = W.cell? ⟨b', o', none⟩ := fun W b' o' j v hb => World.cell?_setCell_far _ _ _ _ (fun e => hb e.symm)
  have hk : ∀ o1 o2 : Obj, Kept [sb] w (((w.setCell ⟨sb, m, none⟩ (.int .i64 1)).alloc o1).alloc o2) := fun o1 o2 => (((Kept.refl _ _).set (.inl (by simp)) _).alloc _).alloc _
  have hs1 : ∀ o1 o2 : Obj, SeenIs (((w.setCell ⟨sb, m, none⟩ (.int .i64 1)).alloc o1).alloc o2) sb ps.length (((m : Int), 12 - (f : Int)) :: S) := fun o1 o2 => ((hS.set _).alloc _).alloc _
  have hBw : B ≤ w.heap.size := by omega
  have hbl0 : ∀ o1 o2 : Obj, Below B w (((w.setCell ⟨sb, m, none⟩ (.int .i64 1)).alloc o1).alloc o2) := fun o1 o2 => (hk o1 o2).below hBw (by simp; omega)
  by_cases h1 : 0 < ents.length
  · have E0 : Hid (R = none) := by
      show _ = _
      rw [hR.out, if_neg]
      intro hi
      have hi' := innerB_kids hi
      simp only at hi'
      have := hi'.1; rw [this] at h1; simp at h1
    have h1' : (0 : Int) < (ents.length : Int) := by omega
    rw [E0.out]
    clear hR ih hst
    go_enter Tryd.func62, Tryd.ntmps62
    go_wp2_with (first | (go_at_call 26; refine (in_any _ _ _ _).mono ?_; rintro e w1 ⟨rfl, rfl⟩) | (go_at_call 79; refine (entriesMay_any _ _ _ _ _ _ (f1.go (hbl0 _ _) (Nat.le_refl _) hBw) fz (by omega) (by omega)).mono ?_; rintro e w2 ⟨rfl, hb2⟩))
    go_ret
    exact ⟨rfl, hk _ _, fun _ _ h => by cases h⟩
  · have h1' : ¬ (0 : Int) < (ents.length : Int) := by omega
    by_cases h2 : inB (kids.length : Int) 2 4 = true
    · have h2x : 2 ≤ kids.length ∧ kids.length ≤ 4 := by simp [inB] at h2; omega
      by_cases h3 : keys.length + 1 = kids.length
      · have h3' : (keys.length : Int) + 1 = (kids.length : Int) := by omega
        by_cases h4 : 8 < buf.length
        · have E0 : Hid (R = none) := by
            show _ = _
            rw [hR.out, if_neg]
            intro hi
            have hi' := innerB_kids hi
            simp only at hi'
            omega
          have h4' : (8 : Int) < (buf.length : Int) := by omega
          rw [E0.out]
          clear hR ih hst
          go_enter Tryd.func62, Tryd.ntmps62
          go_wp2_with (first | (go_at_call 26; refine (in_any _ _ _ _).mono ?_; rintro e w1 ⟨rfl, rfl⟩) | (go_at_call 79; refine (entriesMay_any _ _ _ _ _ _ (f1.go (hbl0 _ _) (Nat.le_refl _) hBw) fz (by omega) (by omega)).mono ?_; rintro e w2 ⟨rfl, hb2⟩))
          go_ret
          exact ⟨rfl, hk _ _, fun _ _ h => by cases h⟩
        · have h4' : ¬ (8 : Int) < (buf.length : Int) := by omega
          by_cases h5 : entsB buf low high = true
          · have hI : innerB ⟨false, ents, keys, kids, buf⟩ low high = true := by
              simp only [innerB, Bool.and_eq_true, decide_eq_true_eq, beq_iff_eq, List.isEmpty_iff]
              exact ⟨⟨⟨⟨⟨List.eq_nil_of_length_eq_zero (by omega), h2x.1⟩, h2x.2⟩, h3⟩, by omega⟩, h5⟩
            refine height_kids b o C r ps sb f m B low high d S w false eA eC ents kA kC keys dA dC kids bA bC buf hm hN hat0 ok0 hB hbl hS hlow hhigh hlh hd1 hd2 hseen rfl hin hf ih (by omega) h2 h2x h3 (by omega) h5 R ?_ hst
            show _ = _
            rw [hR.out, if_pos hI]
          · have h5' : entsB buf low high = false := by simpa using h5
            have E0 : Hid (R = none) := by
              show _ = _
              rw [hR.out, if_neg]
              intro hi
              have hi' := innerB_kids hi
              simp only at hi'
              exact h5 hi'.2.2.2.2.2
            clear h5
            rw [E0.out]
            clear hR ih hst
            go_enter Tryd.func62, Tryd.ntmps62
            go_wp2_with (first | (go_at_call 26; refine (in_any _ _ _ _).mono ?_; rintro e w1 ⟨rfl, rfl⟩) | (go_at_call 79; refine (entriesMay_any _ _ _ _ _ _ (f1.go (hbl0 _ _) (Nat.le_refl _) hBw) fz (by omega) (by omega)).mono ?_; rintro e w2 ⟨rfl, hb2⟩))
            go_ret
            exact ⟨rfl, (hk _ _).trans (Kept.of_below hb2), fun _ _ h => by cases h⟩
      · have h3' : ¬ (keys.length : Int) + 1 = (kids.length : Int) := by omega
        have E0 : Hid (R = none) := by
          show _ = _
          rw [hR.out, if_neg]
          intro hi
          have hi' := innerB_kids hi
          simp only at hi'
          omega
        rw [E0.out]
        clear hR ih hst
        go_enter Tryd.func62, Tryd.ntmps62
        go_wp2_with (first | (go_at_call 26; refine (in_any _ _ _ _).mono ?_; rintro e w1 ⟨rfl, rfl⟩) | (go_at_call 79; refine (entriesMay_any _ _ _ _ _ _ (f1.go (hbl0 _ _) (Nat.le_refl _) hBw) fz (by omega) (by omega)).mono ?_; rintro e w2 ⟨rfl, hb2⟩))
        go_ret
        exact ⟨rfl, hk _ _, fun _ _ h => by cases h⟩
    · have h2' : inB (kids.length : Int) 2 4 = false := by simpa using h2
      have E0 : Hid (R = none) := by
        show _ = _
        rw [hR.out, if_neg]
        intro hi
        have hi' := innerB_kids hi
        simp only at hi'
        apply h2; simp [inB]; omega
      clear h2
      rw [E0.out]
      clear hR ih hst
      go_enter Tryd.func62, Tryd.ntmps62
      go_wp2_with (first | (go_at_call 26; refine (in_any _ _ _ _).mono ?_; rintro e w1 ⟨rfl, rfl⟩) | (go_at_call 79; refine (entriesMay_any _ _ _ _ _ _ (f1.go (hbl0 _ _) (Nat.le_refl _) hBw) fz (by omega) (by omega)).mono ?_; rintro e w2 ⟨rfl, hb2⟩))
      go_ret
      exact ⟨rfl, hk _ _, fun _ _ h => by cases h⟩

end Go.Proofs.YtlojfgdpmaigmafDoor

/- The document's 'height' of a tree, walked. -/
namespace Go.Proofs.YtlojfgdpmaigmafDoor
open Go.RowKit Plain

set_option maxRecDepth 20000 in
set_option maxHeartbeats 4000000 in
theorem height_any (A : Option Addr) (C : Nat) (r : Int) (ps : List PN) (sb : Nat) : ∀ (f : Nat), f ≤ 12 → ∀ (n low high d : Int) (S : St) (B : Nat) (w : World), d + (f : Int) = 13 → NodesAt B w A ps → B ≤ sb → SeenIs w sb ps.length S → 0 ≤ low → high ≤ 1099511627776 → (f = 12 → n = r) → (f < 12 → seenB S r = true) → StOk ps.length S →
    Calls Tryd.prog 62 #[.agg #[.slice A ps.length C, .int .i64 r], .int .i64 n, .int .i64 low, .int .i64 high, .int .i64 d, .slice (some ⟨sb, 0, none⟩) ps.length ps.length] w
      fun e w' => e = .returned (.int .i64 (resH (W (ps.map PN.nd) f n low high S))) ∧ Kept [sb] w w' ∧ ∀ S' l, W (ps.map PN.nd) f n low high S = some (S', l) → resH (W (ps.map PN.nd) f n low high S) ≠ 0 → SeenIs w' sb ps.length S' := by
  intro f
  induction f with
  | zero =>
    intro _ n low high d S B w hd0 hN hB hS hlow hhigh _ _ _
    obtain rfl : d = 13 := by omega
    clear hd0
    have hz := hN.z
    have E0 : Hid (resH (W (ps.map PN.nd) 0 n low high S) = 0) := rfl
    go_enter Tryd.func62, Tryd.ntmps62
    go_wp2_with (first | (go_at_call 26; refine (in_any _ _ _ _).mono ?_; rintro e w1 ⟨rfl, rfl⟩))
    all_goals go_ret
    all_goals exact ⟨ret_int E0.out.symm, (Kept.refl _ _).alloc _, fun _ _ h => by cases h⟩
  | succ f ih =>
    intro hf n low high d S B w hd0 hN hB hS hlow hhigh hr1 hr2 hst
    have hd1 : 1 ≤ d := by omega
    have hd2 : d ≤ 12 := by omega
    have HD : Hid (d = 12 - (f : Int)) := by show _ = _; omega
    clear hd0
    have hz := hN.z
    have hsb := hS.lt
    by_cases hin : inB n 0 ((ps.length : Int) - 1) = true
    · have hin' : 0 ≤ n ∧ n ≤ (ps.length : Int) - 1 := by simpa [inB] using hin
      obtain ⟨m, rfl⟩ : ∃ m : Nat, n = m := ⟨n.toNat, by omega⟩
      have hm : m < ps.length := by omega
      obtain ⟨b, o, rfl, hbl, c0, c1, c2, c3, c4⟩ := hN.row.pn hm
      have ok := hN.each m hm
      have hx : (ps.map PN.nd)[m]'(by simpa using hm) = (ps[m]).nd := by simp
      have hml : m < (ps.map PN.nd).length := by simpa using hm
      have hc := hS.cell hm
      have hfz := hS.frozen m
      have hbs : ¬ b = sb := by omega
      have hbw : b < w.heap.size := by omega
      have KS : ∀ (W : World) (b' o' j : Nat) (v : Value), ¬ b' = sb → (W.setCell ⟨sb, j, none⟩ v).cell? ⟨b', o', none⟩ = W.cell? ⟨b', o', none⟩ := fun W b' o' j v hb => World.cell?_setCell_far _ _ _ _ (fun e => hb e.symm)
      by_cases hseen : seenB S (m : Int) = true
      · have E0 : Hid (resH (W (ps.map PN.nd) (f + 1) m low high S) = 0) := by
          show _ = _
          rw [W_out (.inr (.inr (.inr hseen)))]; rfl
        have E1 : Hid (∀ S' l, W (ps.map PN.nd) (f + 1) m low high S = some (S', l) → False) := fun S' l h => by
          rw [W_out (.inr (.inr (.inr hseen)))] at h; cases h
        rw [if_pos hseen] at hc
        clear hseen ih
        go_enter Tryd.func62, Tryd.ntmps62
        go_wp2_with (first | (go_at_call 26; refine (in_any _ _ _ _).mono ?_; rintro e w1 ⟨rfl, rfl⟩))
        go_ret
        exact ⟨ret_int E0.out.symm, (((Kept.refl _ _).set (.inl (by simp)) _).alloc _).alloc _, fun S' l h => (E1.out S' l h).elim⟩
      · have hseen' : seenB S (m : Int) = false := by simpa using hseen
        by_cases hlh : low < high
        · have hroot : f = 11 ↔ (m : Int) = r := by
            constructor
            · intro e; exact hr1 (by omega)
            · intro e
              apply Classical.byContradiction
              intro hne
              have := hr2 (by omega)
              rw [← e] at this
              exact hseen this
          have hst1 : StOk ps.length (((m : Int), 12 - (f : Int)) :: S) := by
            refine ⟨?_, fun p hp => ?_⟩
            · rw [List.map_cons, List.nodup_cons]
              exact ⟨fun e => hseen (seenB_iff.2 e), hst.1⟩
            · rcases List.mem_cons.1 hp with rfl | hp
              · constructor
                · show (0 : Int) ≤ (m : Int); omega
                · show (m : Int) < (ps.length : Int); omega
              · exact hst.2 p hp
          have hat : PnAt w b (o + m * 5) ps[m] := ⟨c0, c1, c2, c3, c4⟩
          have hWl := W_leaf (f := f) (low := low) (high := high) (S := S) hml hx hlh hseen'
          have hWi := W_inner (f := f) (low := low) (high := high) (S := S) hml hx hlh hseen'
          clear c0 c1 c2 c3 c4 hx KS
          generalize ps[m] = p at *
          obtain ⟨leaf, eA, eC, ents, kA, kC, keys, dA, dC, kids, bA, bC, buf⟩ := p
          cases hleaf : leaf with
          | true =>
            subst hleaf
            by_cases hL : leafB ⟨true, ents, keys, kids, buf⟩ low high f = true
            · have hW1 : W (ps.map PN.nd) (f + 1) m low high S = some (((m : Int), 12 - (f : Int)) :: S, [12 - (f : Int)]) := (hWl rfl).trans (if_pos hL)
              rw [hW1]
              refine (height_leaf b o C r ps sb f m B low high d S w true eA eC ents kA kC keys dA dC kids bA bC buf hm hz hat ok hB hbl hS hlow hhigh hlh hd1 hd2 hseen' rfl hin hroot d (by show d = _; rw [if_pos hL])).mono ?_
              rintro e w' ⟨rfl, k1, k2⟩
              refine ⟨ret_int ?_, k1, fun S' l h _ => by cases h; exact k2⟩
              have := HD.out
              simpa [resH] using this
            · have hW1 : W (ps.map PN.nd) (f + 1) m low high S = none := (hWl rfl).trans (if_neg hL)
              rw [hW1]
              refine (height_leaf b o C r ps sb f m B low high d S w true eA eC ents kA kC keys dA dC kids bA bC buf hm hz hat ok hB hbl hS hlow hhigh hlh hd1 hd2 hseen' rfl hin hroot 0 (by show 0 = _; rw [if_neg hL])).mono ?_
              rintro e w' ⟨rfl, k1, k2⟩
              exact ⟨rfl, k1, fun _ _ h => by cases h⟩
          | false =>
            subst hleaf
            rw [hWi rfl]
            refine height_inner b o C r ps sb f m B low high d S w false eA eC ents kA kC keys dA dC kids bA bC buf hm hN hat ok hB hbl hS hlow hhigh hlh hd1 hd2 hseen' rfl hin hf (fun n lo hi S' w' a1 a2 a3 a4 a5 a6 => ?_) hst1 _ rfl
            have hd := HD.out
            refine ih (by omega) n lo hi (d + 1) S' B w' (by omega) a1 hB a2 a3 a4 (fun e => by omega) (fun _ => ?_) a5
            rw [seenB_iff]
            have hmem : r ∈ (((m : Int), 12 - (f : Int)) :: S).map (·.1) := by
              by_cases e : f = 11
              · rw [hroot.1 e] ; simp
              · exact List.mem_cons_of_mem _ (seenB_iff.1 (hr2 (by omega)))
            obtain ⟨p, hp, hpe⟩ := List.mem_map.1 hmem
            exact List.mem_map.2 ⟨p, a6 p hp, hpe⟩
        · have E0 : W (ps.map PN.nd) (f + 1) m low high S = none := W_out (.inr (.inr (.inl (by omega))))
          rw [E0]
          simp only [hseen', Bool.false_eq_true, if_false] at hc
          clear ih E0 hr1 hr2
          go_enter Tryd.func62, Tryd.ntmps62
          go_wp2_with (first | (go_at_call 26; refine (in_any _ _ _ _).mono ?_; rintro e w1 ⟨rfl, rfl⟩))
          go_ret
          exact ⟨rfl, (((Kept.refl _ _).set (.inl (by simp)) _).alloc _).alloc _, fun _ _ h => by cases h⟩
    · have hin' : inB n 0 ((ps.length : Int) - 1) = false := by simpa using hin
      have E0 : W (ps.map PN.nd) (f + 1) n low high S = none := W_out (by
        simp only [inB, Bool.and_eq_false_iff, decide_eq_false_iff_not] at hin'
        simp only [List.length_map]
        omega)
      rw [E0]
      clear hin ih E0
      go_enter Tryd.func62, Tryd.ntmps62
      go_wp2_with (first | (go_at_call 26; refine (in_any _ _ _ _).mono ?_; rintro e w1 ⟨rfl, rfl⟩))
      go_ret
      exact ⟨rfl, (Kept.refl _ _).alloc _, fun _ _ h => by cases h⟩

end Go.Proofs.YtlojfgdpmaigmafDoor

/- A loop over kids as the code's survey goes: with one depth for all leaves. -/
namespace Go.Proofs.YtlojfgdpmaigmafDoor
open Go.RowKit Plain Go.Maps

def nextL (L : Int) (l : List Int) : Int := if L = 0 then l.headD 0 else L

structure KidsN (g : Int → Int → Int → St → Option (St × List Int)) (kids keys : List Int) (low high : Int) (S0 : St) (L0 : Int) (i : Nat) (lo : Int) (S : St) (acc : List Int) (L : Int) : Prop where
  eq : Wk g kids keys low high S0 = join acc (Wk g (kids.drop i) (keys.drop i) lo high S)
  same : ∀ x ∈ acc, x = L
  none : acc = [] → L = L0
  pos : acc ≠ [] → L ≠ 0
  first : L0 ≠ 0 → L = L0
  low : low ≤ lo

section
variable {g : Int → Int → Int → St → Option (St × List Int)} {kids keys : List Int} {low high lo L0 L : Int} {S0 S : St} {i : Nat} {acc : List Int}

theorem kidsN_start (g : Int → Int → Int → St → Option (St × List Int)) (kids keys : List Int) (low high : Int) (S0 : St) (L0 : Int) : KidsN g kids keys low high S0 L0 0 low S0 [] L0 :=
  ⟨by rw [join_nil]; rfl, by simp, fun _ => rfl, by simp, fun _ => rfl, Int.le_refl _⟩

theorem okL_iff {L : Int} {l : List Int} : okL L l = true ↔ ∀ x ∈ l, x = nextL L l := by
  simp [okL, nextL]

theorem kidsN_no (h : KidsN g kids keys low high S0 L0 i lo S acc L) (hi : i < kids.length) (hr : resN L (g kids[i] lo (toAt keys high i) S) = false) : resN L0 (Wk g kids keys low high S0) = false := by
  rw [h.eq, Wk_drop hi]
  cases hg : g kids[i] lo (toAt keys high i) S with
  | none => rfl
  | some p =>
    obtain ⟨S1, l1⟩ := p
    rw [hg] at hr
    simp only [join_join]
    cases Wk g (kids.drop (i + 1)) (keys.drop (i + 1)) (toAt keys high i) high S1 with
    | none => rfl
    | some q =>
      obtain ⟨S2, l2⟩ := q
      simp only [join, resN] at hr ⊢
      rw [Bool.eq_false_iff] at hr ⊢
      intro hok
      apply hr
      rw [okL_iff] at hok ⊢
      intro x hx
      have hx' := hok x (List.mem_append_left _ (List.mem_append_right _ hx))
      rw [hx']
      by_cases hacc : acc = []
      · have hL := h.none hacc
        subst hacc hL
        cases l1 with
        | nil => simp at hx
        | cons d r => simp [nextL]
      · have hL := h.pos hacc
        obtain ⟨y, hy⟩ := List.exists_mem_of_ne_nil _ hacc
        have hy' := hok y (List.mem_append_left _ (List.mem_append_left _ hy))
        rw [← hy', h.same y hy]
        simp [nextL, hL]

theorem kidsN_next (hd : ∀ d low high S S' l, g d low high S = some (S', l) → l ≠ [] ∧ ∀ x ∈ l, 1 ≤ x) (hw : ∀ d low high S r, g d low high S = some r → low < high) (h : KidsN g kids keys low high S0 L0 i lo S acc L) (hi : i < kids.length) (hr : resN L (g kids[i] lo (toAt keys high i) S) = true) :
    ∃ S1 l1, g kids[i] lo (toAt keys high i) S = some (S1, l1) ∧ okL L l1 = true ∧ KidsN g kids keys low high S0 L0 (i + 1) (toAt keys high i) S1 (acc ++ l1) (nextL L l1) := by
  cases hg : g kids[i] lo (toAt keys high i) S with
  | none => rw [hg] at hr; simp [resN] at hr
  | some p =>
    obtain ⟨S1, l1⟩ := p
    rw [hg] at hr
    simp only [resN] at hr
    have hall := okL_iff.1 hr
    obtain ⟨hl, hpos⟩ := hd _ _ _ _ _ _ hg
    have hlt := hw _ _ _ _ _ hg
    have hlow := h.low
    obtain ⟨x, hx⟩ := List.exists_mem_of_ne_nil _ hl
    have hn0 : nextL L l1 ≠ 0 := by
      have := hpos x hx
      rw [hall x hx] at this
      omega
    refine ⟨S1, l1, rfl, hr, ⟨?_, ?_, fun e => absurd (List.append_eq_nil_iff.1 e).2 hl, fun _ => hn0, fun h0 => ?_, by omega⟩⟩
    · rw [h.eq, Wk_drop hi, hg]
      simp only [join_join]
    · intro z hz
      rcases List.mem_append.1 hz with hz | hz
      · have hacc : acc ≠ [] := List.ne_nil_of_mem hz
        have hL := h.pos hacc
        rw [h.same z hz]
        simp [nextL, hL]
      · exact hall z hz
    · have := h.first h0
      subst this
      simp [nextL, h0]

theorem kidsN_end (h : KidsN g kids keys low high S0 L0 i lo S acc L) (hi : i = kids.length) : Wk g kids keys low high S0 = some (S, acc) ∧ resN L0 (Wk g kids keys low high S0) = true ∧ nextL L0 acc = L := by
  have e : Wk g kids keys low high S0 = some (S, acc) := by
    rw [h.eq, hi, List.drop_length]
    simp [Wk, join]
  have hn : nextL L0 acc = L := by
    unfold nextL
    split
    · rename_i h0
      cases acc with
      | nil => simp; rw [h.none rfl]; exact h0.symm
      | cons d r => simpa using h.same d List.mem_cons_self
    · rename_i h0
      exact (h.first h0).symm
  refine ⟨e, ?_, hn⟩
  rw [e]
  simp only [resN]
  rw [okL_iff, hn]
  exact h.same

end

theorem law : Keyed Tryd.prog 3 := int_keyed Tryd.underlying3
theorem zeroI (w : World) : (zeroValue 3).run Tryd.prog w = .ok (.int .i64 0) w := by kernel_rfl

/-- Block mb is the map of which nodes have been come to, and how deep. -/
def MapIs (w : World) (mb : Nat) (S : St) : Prop :=
  ∃ D : DataW Unit, w.ownsMap Tryd.prog 3 (plainElem Tryd.prog 3) mb S.length D ∧ (∀ n : Int, Maps.has D (.int .i64 n) = seenB S n) ∧ (∀ p ∈ S, D.atKey (.int .i64 p.1) (.lit (.int .i64 0)) = .lit (.int .i64 p.2)) ∧ Maps.size D = S.length

theorem map_of_block {w w' : World} {mb n : Nat} {D : DataW Unit} (h : w.ownsMap Tryd.prog 3 (plainElem Tryd.prog 3) mb n D) (e : w'.heap[mb]? = w.heap[mb]?) : w'.ownsMap Tryd.prog 3 (plainElem Tryd.prog 3) mb n D := by
  unfold World.ownsMap at *
  rw [e]
  exact h

theorem MapIs.of_block {w w' : World} {mb : Nat} {S : St} (h : MapIs w mb S) (e : w'.heap[mb]? = w.heap[mb]?) : MapIs w' mb S := by
  obtain ⟨D, a, b⟩ := h
  exact ⟨D, map_of_block a e, b⟩

theorem MapIs.lt {w : World} {mb : Nat} {S : St} (h : MapIs w mb S) : mb < w.heap.size := by
  obtain ⟨D, a, _⟩ := h
  exact a.lt

theorem MapIs.look {w : World} {mb : Nat} {S : St} (h : MapIs w mb S) {n d : Int} (hp : (n, d) ∈ S) (hw : (Lit.int .i64 n).wf = true) :
    ∀ w' : World, w'.heap[mb]? = w.heap[mb]? → (Instr.lookup 68 (.map (some mb)) (.int .i64 n) false).run Tryd.prog w' = .ok (.int .i64 d) w' := by
  intro w' e
  obtain ⟨D, a, _, b, _⟩ := h
  obtain ⟨c, hrun, hat, _⟩ := (map_of_block a e).lookup_int law Tryd.underlying68 Tryd.underlying3 (zeroI _) (keyOf_int_mk Tryd.underlying3 hw)
  have := (b _ hp).symm.trans hat
  simp at this
  subst this
  exact hrun

end Go.Proofs.YtlojfgdpmaigmafDoor
