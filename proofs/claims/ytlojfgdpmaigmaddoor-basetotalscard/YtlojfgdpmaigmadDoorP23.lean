/- The document's 'height' of a tree: leaves. -/
import Derived.Test.YtlojfgdpmaigmadDoorP22
import Derived.Maps.OwnSet
import Derived.Maps.Views
import Derived.Maps.OwnOps
namespace Go.Proofs.YtlojfgdpmaigmadDoor
open Go.RowKit Plain

theorem entriesMay_zero (A : Option Addr) (C : Nat) (low high : Int) (w : World) (hl : -9223372036854775807 ≤ high) (hh : high ≤ 9223372036854775807) :
    Calls Tryd.prog 63 #[.slice A 0 C, .int .i64 low, .int .i64 high] w fun e w' => e = .returned (.bool true) ∧ Below w.heap.size w w' :=
  entriesMay_any A C [] low high w (.inl rfl) (by simp) hl hh

set_option maxRecDepth 20000 in
set_option maxHeartbeats 4000000 in
theorem height_leaf (b o C : Nat) (r : Int) (ps : List PN) (sb f m B : Nat) (low high d : Int) (S : St) (w : World) (leaf : Bool) (eA : Option Addr) (eC : Nat) (ents : List En) (kA : Option Addr) (kC : Nat) (keys : List Int) (dA : Option Addr) (dC : Nat) (kids : List Int) (bA : Option Addr) (bC : Nat) (buf : List En)
    (hm : m < ps.length) (hz : ps.length * 104 ≤ 140737488351232) (hat : PnAt w b (o + m * 5) ⟨leaf, eA, eC, ents, kA, kC, keys, dA, dC, kids, bA, bC, buf⟩) (ok : PN.ok B w ⟨leaf, eA, eC, ents, kA, kC, keys, dA, dC, kids, bA, bC, buf⟩)
    (hB : B ≤ sb) (hbl : b < B) (hS : SeenIs w sb ps.length S) (hlow : 0 ≤ low) (hhigh : high ≤ 1099511627776) (hlh : low < high) (hd1 : 1 ≤ d) (hd2 : d ≤ 12) (hseen : seenB S (m : Int) = false) (hl : leaf = true)
    (hin : inB (m : Int) 0 ((ps.length : Int) - 1) = true) (hroot : f = 11 ↔ (m : Int) = r) (res : Int) (hres : Hid (res = if leafB ⟨leaf, ents, keys, kids, buf⟩ low high f = true then d else 0)) :
    Calls Tryd.prog 53 #[.agg #[.slice (some ⟨b, o, none⟩) ps.length C, .int .i64 r], .int .i64 (m : Int), .int .i64 low, .int .i64 high, .int .i64 d, .slice (some ⟨sb, 0, none⟩) ps.length ps.length] w
      fun e w' => e = .returned (.int .i64 res) ∧ Kept [sb] w w' ∧ SeenIs w' sb ps.length (((m : Int), 12 - (f : Int)) :: S) := by
  subst hl
  have hsb := hS.lt
  obtain ⟨c0, c1, c2, c3, c4⟩ := hat
  simp only at c0 c1 c2 c3 c4
  obtain ⟨e1, k1, t1, f1, -, -, -, -, ez, kz, dz, fz⟩ := ok
  simp only at e1 k1 t1 f1 ez kz dz fz
  have hc := hS.cell hm
  simp only [hseen, Bool.false_eq_true, if_false] at hc
  have hfz := hS.frozen m
  have hbs : ¬ b = sb := by omega
  have hbw : b < w.heap.size := by omega
  have KS : ∀ (W : World) (b' o' j : Nat) (v : Value), ¬ b' = sb → (W.setCell ⟨sb, j, none⟩ v).cell? ⟨b', o', none⟩ = W.cell? ⟨b', o', none⟩ := fun W b' o' j v hb => World.cell?_setCell_far _ _ _ _ (fun e => hb e.symm)
  have hk : ∀ o1 o2 : Obj, Kept [sb] w (((w.setCell ⟨sb, m, none⟩ (.int .i64 1)).alloc o1).alloc o2) := fun o1 o2 => (((Kept.refl _ _).set (.inl (by simp)) _).alloc _).alloc _
  have hs1 : ∀ o1 o2 : Obj, SeenIs (((w.setCell ⟨sb, m, none⟩ (.int .i64 1)).alloc o1).alloc o2) sb ps.length (((m : Int), 12 - (f : Int)) :: S) := fun o1 o2 => ((hS.set _).alloc _).alloc _
  have HK := hk
  have HS1 := hs1
  have hBw : B ≤ w.heap.size := by omega
  have hbl0 : ∀ o1 o2 : Obj, Below B w (((w.setCell ⟨sb, m, none⟩ (.int .i64 1)).alloc o1).alloc o2) := fun o1 o2 => (hk o1 o2).below hBw (by simp; omega)
  have hzz : (((w.setCell ⟨sb, m, none⟩ (.int .i64 1)).heap.size)) = w.heap.size := by simp
  by_cases h1 : 0 < keys.length + kids.length + buf.length
  · have E0 : Hid (0 = res) := by
      show _ = _
      rw [hres.out, if_neg]
      rw [leafB_iff]
      rintro ⟨a, b, c, _⟩; simp only at a b c; subst a b c; simp at h1
    have h1' : (0 : Int) < (keys.length : Int) + (kids.length : Int) + (buf.length : Int) := by omega
    clear hroot hres
    go_enter Tryd.func53, Tryd.ntmps53
    go_wp2_with (first | (go_at_call 17; refine (in_any _ _ _ _).mono ?_; rintro e w1 ⟨rfl, rfl⟩) | (go_at_call 63; refine (entriesMay_any _ _ _ _ _ _ (e1.go (hbl0 _ _) (Nat.le_refl _) hBw) ez (by omega) (by omega)).mono ?_; rintro e w2 ⟨rfl, hb2⟩))
    go_ret
    exact ⟨ret_int E0.out, hk _ _, hs1 _ _⟩
  · have hk0 : keys.length = 0 := by omega
    have hd0 : kids.length = 0 := by omega
    have hf0 : buf.length = 0 := by omega
    by_cases h2 : 6 < ents.length
    · have E0 : Hid (0 = res) := by
        show _ = _
        rw [hres.out, if_neg]
        rw [leafB_iff]
        rintro ⟨_, _, _, a, _⟩; simp only at a; omega
      have h2' : (6 : Int) < (ents.length : Int) := by omega
      clear hroot hres
      go_enter Tryd.func53, Tryd.ntmps53
      go_wp2_with (first | (go_at_call 17; refine (in_any _ _ _ _).mono ?_; rintro e w1 ⟨rfl, rfl⟩) | (go_at_call 63; refine (entriesMay_any _ _ _ _ _ _ (e1.go (hbl0 _ _) (Nat.le_refl _) hBw) ez (by omega) (by omega)).mono ?_; rintro e w2 ⟨rfl, hb2⟩))
      go_ret
      exact ⟨ret_int E0.out, hk _ _, hs1 _ _⟩
    · have h2' : ¬ (6 : Int) < (ents.length : Int) := by omega
      by_cases h3 : ents.length = 0
      · by_cases h4 : (m : Int) = r
        · obtain rfl : ents = [] := List.eq_nil_of_length_eq_zero h3
          have E0 : Hid (d = res) := by
            show _ = _
            rw [hres.out, if_pos]
            rw [leafB_iff]
            exact ⟨List.eq_nil_of_length_eq_zero hk0, List.eq_nil_of_length_eq_zero hd0, List.eq_nil_of_length_eq_zero hf0, by simp, .inl (hroot.2 h4), rfl⟩
          clear hroot hres h3
          subst h4
          go_enter Tryd.func53, Tryd.ntmps53
          go_wp2_with (first | (go_at_call 17; refine (in_any _ _ _ _).mono ?_; rintro e w1 ⟨rfl, rfl⟩) | (go_at_call 63; refine (entriesMay_zero _ _ _ _ _ (by omega) (by omega)).mono ?_; rintro e w2 ⟨rfl, hb2⟩))
          go_ret
          exact ⟨ret_int E0.out, (hk _ _).trans (Kept.of_below hb2), (hs1 _ _).kept (hb2.block sb (by simp; omega))⟩
        · have E0 : Hid (0 = res) := by
            show _ = _
            rw [hres.out, if_neg]
            rw [leafB_iff]
            rintro ⟨_, _, _, _, a, _⟩; simp only at a; rcases a with a | a; exact h4 (hroot.1 a); exact a (List.eq_nil_of_length_eq_zero h3)
          have h4b : ((m : Int) == r) = false := by simpa using h4
          clear hroot hres
          go_enter Tryd.func53, Tryd.ntmps53
          go_wp2_with (first | (go_at_call 17; refine (in_any _ _ _ _).mono ?_; rintro e w1 ⟨rfl, rfl⟩) | (go_at_call 63; refine (entriesMay_any _ _ _ _ _ _ (e1.go (hbl0 _ _) (Nat.le_refl _) hBw) ez (by omega) (by omega)).mono ?_; rintro e w2 ⟨rfl, hb2⟩))
          go_ret
          exact ⟨ret_int E0.out, hk _ _, hs1 _ _⟩
      · have h3' : ¬ (ents.length : Int) = 0 := by omega
        by_cases h5 : entsB ents low high = true
        · have E0 : Hid (d = res) := by
            show _ = _
            rw [hres.out, if_pos]
            rw [leafB_iff]
            exact ⟨List.eq_nil_of_length_eq_zero hk0, List.eq_nil_of_length_eq_zero hd0, List.eq_nil_of_length_eq_zero hf0, by show ents.length ≤ 6; omega, .inr (fun e => h3 (by simp only at e; rw [e]; rfl)), h5⟩
          clear hroot hres
          go_enter Tryd.func53, Tryd.ntmps53
          go_wp2_with (first | (go_at_call 17; refine (in_any _ _ _ _).mono ?_; rintro e w1 ⟨rfl, rfl⟩) | (go_at_call 63; refine (entriesMay_any _ _ _ _ _ _ (e1.go (hbl0 _ _) (Nat.le_refl _) hBw) ez (by omega) (by omega)).mono ?_; rintro e w2 ⟨rfl, hb2⟩))
          go_ret
          exact ⟨ret_int E0.out, (hk _ _).trans (Kept.of_below hb2), (hs1 _ _).kept (hb2.block sb (by simp; omega))⟩
        · have h5' : entsB ents low high = false := by simpa using h5
          have E0 : Hid (0 = res) := by
            show _ = _
            rw [hres.out, if_neg]
            rw [leafB_iff]
            rintro ⟨_, _, _, _, _, a⟩; exact h5 a
          clear h5
          clear hroot hres
          go_enter Tryd.func53, Tryd.ntmps53
          go_wp2_with (first | (go_at_call 17; refine (in_any _ _ _ _).mono ?_; rintro e w1 ⟨rfl, rfl⟩) | (go_at_call 63; refine (entriesMay_any _ _ _ _ _ _ (e1.go (hbl0 _ _) (Nat.le_refl _) hBw) ez (by omega) (by omega)).mono ?_; rintro e w2 ⟨rfl, hb2⟩))
          go_ret
          exact ⟨ret_int E0.out, (hk _ _).trans (Kept.of_below hb2), (hs1 _ _).kept (hb2.block sb (by simp; omega))⟩

end Go.Proofs.YtlojfgdpmaigmadDoor

/- A loop over kids as the code's survey goes: with one depth for all leaves. -/
namespace Go.Proofs.YtlojfgdpmaigmadDoor
open Go.RowKit Plain Go.Maps

def nextL (L : Int) (l : List Int) : Int := if L = 0 then l.headD 0 else L

structure KidsN (g : Int → Int → Int → St → Option (St × List Int)) (kids keys : List Int) (low high : Int) (S0 : St) (L0 : Int) (i : Nat) (lo : Int) (S : St) (acc : List Int) (L : Int) : Prop where
  eq : Wk g kids keys low high S0 = join acc (Wk g (kids.drop i) (keys.drop i) lo high S)
  same : ∀ x ∈ acc, x = L
  none : acc = [] → L = L0
  pos : acc ≠ [] → L ≠ 0
  first : L0 ≠ 0 → L = L0
  low : low ≤ lo

section
variable {g : Int → Int → Int → St → Option (St × List Int)} {kids keys : List Int} {low high lo L0 L : Int} {S0 S : St} {i : Nat} {acc : List Int}

theorem kidsN_start (g : Int → Int → Int → St → Option (St × List Int)) (kids keys : List Int) (low high : Int) (S0 : St) (L0 : Int) : KidsN g kids keys low high S0 L0 0 low S0 [] L0 :=
  ⟨by rw [join_nil]; rfl, by simp, fun _ => rfl, by simp, fun _ => rfl, Int.le_refl _⟩

theorem okL_iff {L : Int} {l : List Int} : okL L l = true ↔ ∀ x ∈ l, x = nextL L l := by
  simp [okL, nextL]

theorem kidsN_no (h : KidsN g kids keys low high S0 L0 i lo S acc L) (hi : i < kids.length) (hr : resN L (g kids[i] lo (toAt keys high i) S) = false) : resN L0 (Wk g kids keys low high S0) = false := by
  rw [h.eq, Wk_drop hi]
  cases hg : g kids[i] lo (toAt keys high i) S with
  | none => rfl
  | some p =>
    obtain ⟨S1, l1⟩ := p
    rw [hg] at hr
    simp only [join_join]
    cases Wk g (kids.drop (i + 1)) (keys.drop (i + 1)) (toAt keys high i) high S1 with
    | none => rfl
    | some q =>
      obtain ⟨S2, l2⟩ := q
      simp only [join, resN] at hr ⊢
      rw [Bool.eq_false_iff] at hr ⊢
      intro hok
      apply hr
      rw [okL_iff] at hok ⊢
      intro x hx
      have hx' := hok x (List.mem_append_left _ (List.mem_append_right _ hx))
      rw [hx']
      by_cases hacc : acc = []
      · have hL := h.none hacc
        subst hacc hL
        cases l1 with
        | nil => simp at hx
        | cons d r => simp [nextL]
      · have hL := h.pos hacc
        obtain ⟨y, hy⟩ := List.exists_mem_of_ne_nil _ hacc
        have hy' := hok y (List.mem_append_left _ (List.mem_append_left _ hy))
        rw [← hy', h.same y hy]
        simp [nextL, hL]

theorem kidsN_next (hd : ∀ d low high S S' l, g d low high S = some (S', l) → l ≠ [] ∧ ∀ x ∈ l, 1 ≤ x) (hw : ∀ d low high S r, g d low high S = some r → low < high) (h : KidsN g kids keys low high S0 L0 i lo S acc L) (hi : i < kids.length) (hr : resN L (g kids[i] lo (toAt keys high i) S) = true) :
    ∃ S1 l1, g kids[i] lo (toAt keys high i) S = some (S1, l1) ∧ okL L l1 = true ∧ KidsN g kids keys low high S0 L0 (i + 1) (toAt keys high i) S1 (acc ++ l1) (nextL L l1) := by
  cases hg : g kids[i] lo (toAt keys high i) S with
  | none => rw [hg] at hr; simp [resN] at hr
  | some p =>
    obtain ⟨S1, l1⟩ := p
    rw [hg] at hr
    simp only [resN] at hr
    have hall := okL_iff.1 hr
    obtain ⟨hl, hpos⟩ := hd _ _ _ _ _ _ hg
    have hlt := hw _ _ _ _ _ hg
    have hlow := h.low
    obtain ⟨x, hx⟩ := List.exists_mem_of_ne_nil _ hl
    have hn0 : nextL L l1 ≠ 0 := by
      have := hpos x hx
      rw [hall x hx] at this
      omega
    refine ⟨S1, l1, rfl, hr, ⟨?_, ?_, fun e => absurd (List.append_eq_nil_iff.1 e).2 hl, fun _ => hn0, fun h0 => ?_, by omega⟩⟩
    · rw [h.eq, Wk_drop hi, hg]
      simp only [join_join]
    · intro z hz
      rcases List.mem_append.1 hz with hz | hz
      · have hacc : acc ≠ [] := List.ne_nil_of_mem hz
        have hL := h.pos hacc
        rw [h.same z hz]
        simp [nextL, hL]
      · exact hall z hz
    · have := h.first h0
      subst this
      simp [nextL, h0]

theorem kidsN_end (h : KidsN g kids keys low high S0 L0 i lo S acc L) (hi : i = kids.length) : Wk g kids keys low high S0 = some (S, acc) ∧ resN L0 (Wk g kids keys low high S0) = true ∧ nextL L0 acc = L := by
  have e : Wk g kids keys low high S0 = some (S, acc) := by
    rw [h.eq, hi, List.drop_length]
    simp [Wk, join]
  have hn : nextL L0 acc = L := by
    unfold nextL
    split
    · rename_i h0
      cases acc with
      | nil => simp; rw [h.none rfl]; exact h0.symm
      | cons d r => simpa using h.same d List.mem_cons_self
    · rename_i h0
      exact (h.first h0).symm
  refine ⟨e, ?_, hn⟩
  rw [e]
  simp only [resN]
  rw [okL_iff, hn]
  exact h.same

end

theorem law : Keyed Tryd.prog 3 := int_keyed Tryd.underlying3
theorem zeroI (w : World) : (zeroValue 3).run Tryd.prog w = .ok (.int .i64 0) w := by kernel_rfl

/-- Block mb is the map of which nodes have been come to, and how deep. -/
def MapIs (w : World) (mb : Nat) (S : St) : Prop :=
  ∃ D : DataW Unit, w.ownsMap Tryd.prog 3 (plainElem Tryd.prog 3) mb S.length D ∧ (∀ n : Int, Maps.has D (.int .i64 n) = seenB S n) ∧ (∀ p ∈ S, D.atKey (.int .i64 p.1) (.lit (.int .i64 0)) = .lit (.int .i64 p.2)) ∧ Maps.size D = S.length

theorem map_of_block {w w' : World} {mb n : Nat} {D : DataW Unit} (h : w.ownsMap Tryd.prog 3 (plainElem Tryd.prog 3) mb n D) (e : w'.heap[mb]? = w.heap[mb]?) : w'.ownsMap Tryd.prog 3 (plainElem Tryd.prog 3) mb n D := by
  unfold World.ownsMap at *
  rw [e]
  exact h

theorem MapIs.of_block {w w' : World} {mb : Nat} {S : St} (h : MapIs w mb S) (e : w'.heap[mb]? = w.heap[mb]?) : MapIs w' mb S := by
  obtain ⟨D, a, b⟩ := h
  exact ⟨D, map_of_block a e, b⟩

theorem MapIs.lt {w : World} {mb : Nat} {S : St} (h : MapIs w mb S) : mb < w.heap.size := by
  obtain ⟨D, a, _⟩ := h
  exact a.lt

theorem MapIs.look {w : World} {mb : Nat} {S : St} (h : MapIs w mb S) {n d : Int} (hp : (n, d) ∈ S) (hw : (Lit.int .i64 n).wf = true) :
    ∀ w' : World, w'.heap[mb]? = w.heap[mb]? → (Instr.lookup 90 (.map (some mb)) (.int .i64 n) false).run Tryd.prog w' = .ok (.int .i64 d) w' := by
  intro w' e
  obtain ⟨D, a, _, b, _⟩ := h
  obtain ⟨c, hrun, hat, _⟩ := (map_of_block a e).lookup_int law Tryd.underlying90 Tryd.underlying3 (zeroI _) (keyOf_int_mk Tryd.underlying3 hw)
  have := (b _ hp).symm.trans hat
  simp at this
  subst this
  exact hrun

end Go.Proofs.YtlojfgdpmaigmadDoor
