/- The document's 'height' of a tree: leaves. -/
import Derived.Test.YtlojfgdpmaigmabP02
namespace Go.Proofs.Ytlojfgdpmaigmab
open Go.RowKit Plain

theorem entriesMay_zero (A : Option Addr) (C : Nat) (low high : Int) (w : World) (hl : -9223372036854775807 ≤ high) (hh : high ≤ 9223372036854775807) :
    Calls Try.prog 47 #[.slice A 0 C, .int .i64 low, .int .i64 high] w fun e w' => e = .returned (.bool true) ∧ Below w.heap.size w w' :=
  entriesMay_any A C [] low high w (.inl rfl) (by simp) hl hh

set_option maxRecDepth 20000 in
set_option maxHeartbeats 4000000 in
theorem height_leaf (b o C : Nat) (r : Int) (ps : List PN) (sb f m B : Nat) (low high d : Int) (S : St) (w : World) (leaf : Bool) (eA : Option Addr) (eC : Nat) (ents : List En) (kA : Option Addr) (kC : Nat) (keys : List Int) (dA : Option Addr) (dC : Nat) (kids : List Int) (bA : Option Addr) (bC : Nat) (buf : List En)
    (hm : m < ps.length) (hz : ps.length * 104 ≤ 140737488351232) (hat : PnAt w b (o + m * 5) ⟨leaf, eA, eC, ents, kA, kC, keys, dA, dC, kids, bA, bC, buf⟩) (ok : PN.ok B w ⟨leaf, eA, eC, ents, kA, kC, keys, dA, dC, kids, bA, bC, buf⟩)
    (hB : B ≤ sb) (hbl : b < B) (hS : SeenIs w sb ps.length S) (hlow : 0 ≤ low) (hhigh : high ≤ 1099511627776) (hlh : low < high) (hd1 : 1 ≤ d) (hd2 : d ≤ 12) (hseen : seenB S (m : Int) = false) (hl : leaf = true)
    (hin : inB (m : Int) 0 ((ps.length : Int) - 1) = true) (hroot : f = 11 ↔ (m : Int) = r) (res : Int) (hres : Hid (res = if leafB ⟨leaf, ents, keys, kids, buf⟩ low high f = true then d else 0)) :
    Calls Try.prog 27 #[.agg #[.slice (some ⟨b, o, none⟩) ps.length C, .int .i64 r], .int .i64 (m : Int), .int .i64 low, .int .i64 high, .int .i64 d, .slice (some ⟨sb, 0, none⟩) ps.length ps.length] w
      fun e w' => e = .returned (.int .i64 res) ∧ Kept [sb] w w' ∧ SeenIs w' sb ps.length (((m : Int), 12 - (f : Int)) :: S) := by
  subst hl
  have hsb := hS.lt
  obtain ⟨c0, c1, c2, c3, c4⟩ := hat
  simp only at c0 c1 c2 c3 c4
  obtain ⟨e1, k1, t1, f1, -, -, -, -, ez, kz, dz, fz⟩ := ok
  simp only at e1 k1 t1 f1 ez kz dz fz
  have hc := hS.cell hm
  simp only [hseen, Bool.false_eq_true, if_false] at hc
  have hfz := hS.frozen m
  have hbs : ¬ b = sb := by omega
  have hbw : b < w.heap.size := by omega
  have KS : ∀ (W : World) (b' o' j : Nat) (v : Value), ¬ b' = sb → (W.setCell ⟨sb, j, none⟩ v).cell? ⟨b', o', none⟩ = W.cell? ⟨b', o', none⟩ := fun W b' o' j v hb => World.cell?_setCell_far _ _ _ _ (fun e => hb e.symm)
  have hk : ∀ o1 o2 : Obj, Kept [sb] w (((w.setCell ⟨sb, m, none⟩ (.int .i64 1)).alloc o1).alloc o2) := fun o1 o2 => (((Kept.refl _ _).set (.inl (by simp)) _).alloc _).alloc _
  have hs1 : ∀ o1 o2 : Obj, SeenIs (((w.setCell ⟨sb, m, none⟩ (.int .i64 1)).alloc o1).alloc o2) sb ps.length (((m : Int), 12 - (f : Int)) :: S) := fun o1 o2 => ((hS.set _).alloc _).alloc _
  have HK := hk
  have HS1 := hs1
  have hBw : B ≤ w.heap.size := by omega
  have hbl0 : ∀ o1 o2 : Obj, Below B w (((w.setCell ⟨sb, m, none⟩ (.int .i64 1)).alloc o1).alloc o2) := fun o1 o2 => (hk o1 o2).below hBw (by simp; omega)
  have hzz : (((w.setCell ⟨sb, m, none⟩ (.int .i64 1)).heap.size)) = w.heap.size := by simp
  by_cases h1 : 0 < keys.length + kids.length + buf.length
  · have E0 : Hid (0 = res) := by
      show _ = _
      rw [hres.out, if_neg]
      rw [leafB_iff]
      rintro ⟨a, b, c, _⟩; simp only at a b c; subst a b c; simp at h1
    have h1' : (0 : Int) < (keys.length : Int) + (kids.length : Int) + (buf.length : Int) := by omega
    clear hroot hres
    go_enter Try.func27, Try.ntmps27
    go_wp2_with (first | (go_at_call 36; refine (in_any _ _ _ _).mono ?_; rintro e w1 ⟨rfl, rfl⟩) | (go_at_call 47; refine (entriesMay_any _ _ _ _ _ _ (e1.go (hbl0 _ _) (Nat.le_refl _) hBw) ez (by omega) (by omega)).mono ?_; rintro e w2 ⟨rfl, hb2⟩))
    go_ret
    exact ⟨ret_int E0.out, hk _ _, hs1 _ _⟩
  · have hk0 : keys.length = 0 := by omega
    have hd0 : kids.length = 0 := by omega
    have hf0 : buf.length = 0 := by omega
    by_cases h2 : 6 < ents.length
    · have E0 : Hid (0 = res) := by
        show _ = _
        rw [hres.out, if_neg]
        rw [leafB_iff]
        rintro ⟨_, _, _, a, _⟩; simp only at a; omega
      have h2' : (6 : Int) < (ents.length : Int) := by omega
      clear hroot hres
      go_enter Try.func27, Try.ntmps27
      go_wp2_with (first | (go_at_call 36; refine (in_any _ _ _ _).mono ?_; rintro e w1 ⟨rfl, rfl⟩) | (go_at_call 47; refine (entriesMay_any _ _ _ _ _ _ (e1.go (hbl0 _ _) (Nat.le_refl _) hBw) ez (by omega) (by omega)).mono ?_; rintro e w2 ⟨rfl, hb2⟩))
      go_ret
      exact ⟨ret_int E0.out, hk _ _, hs1 _ _⟩
    · have h2' : ¬ (6 : Int) < (ents.length : Int) := by omega
      by_cases h3 : ents.length = 0
      · by_cases h4 : (m : Int) = r
        · obtain rfl : ents = [] := List.eq_nil_of_length_eq_zero h3
          have E0 : Hid (d = res) := by
            show _ = _
            rw [hres.out, if_pos]
            rw [leafB_iff]
            exact ⟨List.eq_nil_of_length_eq_zero hk0, List.eq_nil_of_length_eq_zero hd0, List.eq_nil_of_length_eq_zero hf0, by simp, .inl (hroot.2 h4), rfl⟩
          clear hroot hres h3
          subst h4
          go_enter Try.func27, Try.ntmps27
          go_wp2_with (first | (go_at_call 36; refine (in_any _ _ _ _).mono ?_; rintro e w1 ⟨rfl, rfl⟩) | (go_at_call 47; refine (entriesMay_zero _ _ _ _ _ (by omega) (by omega)).mono ?_; rintro e w2 ⟨rfl, hb2⟩))
          go_ret
          exact ⟨ret_int E0.out, (hk _ _).trans (Kept.of_below hb2), (hs1 _ _).kept (hb2.block sb (by simp; omega))⟩
        · have E0 : Hid (0 = res) := by
            show _ = _
            rw [hres.out, if_neg]
            rw [leafB_iff]
            rintro ⟨_, _, _, _, a, _⟩; simp only at a; rcases a with a | a; exact h4 (hroot.1 a); exact a (List.eq_nil_of_length_eq_zero h3)
          have h4b : ((m : Int) == r) = false := by simpa using h4
          clear hroot hres
          go_enter Try.func27, Try.ntmps27
          go_wp2_with (first | (go_at_call 36; refine (in_any _ _ _ _).mono ?_; rintro e w1 ⟨rfl, rfl⟩) | (go_at_call 47; refine (entriesMay_any _ _ _ _ _ _ (e1.go (hbl0 _ _) (Nat.le_refl _) hBw) ez (by omega) (by omega)).mono ?_; rintro e w2 ⟨rfl, hb2⟩))
          go_ret
          exact ⟨ret_int E0.out, hk _ _, hs1 _ _⟩
      · have h3' : ¬ (ents.length : Int) = 0 := by omega
        by_cases h5 : entsB ents low high = true
        · have E0 : Hid (d = res) := by
            show _ = _
            rw [hres.out, if_pos]
            rw [leafB_iff]
            exact ⟨List.eq_nil_of_length_eq_zero hk0, List.eq_nil_of_length_eq_zero hd0, List.eq_nil_of_length_eq_zero hf0, by show ents.length ≤ 6; omega, .inr (fun e => h3 (by simp only at e; rw [e]; rfl)), h5⟩
          clear hroot hres
          go_enter Try.func27, Try.ntmps27
          go_wp2_with (first | (go_at_call 36; refine (in_any _ _ _ _).mono ?_; rintro e w1 ⟨rfl, rfl⟩) | (go_at_call 47; refine (entriesMay_any _ _ _ _ _ _ (e1.go (hbl0 _ _) (Nat.le_refl _) hBw) ez (by omega) (by omega)).mono ?_; rintro e w2 ⟨rfl, hb2⟩))
          go_ret
          exact ⟨ret_int E0.out, (hk _ _).trans (Kept.of_below hb2), (hs1 _ _).kept (hb2.block sb (by simp; omega))⟩
        · have h5' : entsB ents low high = false := by simpa using h5
          have E0 : Hid (0 = res) := by
            show _ = _
            rw [hres.out, if_neg]
            rw [leafB_iff]
            rintro ⟨_, _, _, _, _, a⟩; exact h5 a
          clear h5
          clear hroot hres
          go_enter Try.func27, Try.ntmps27
          go_wp2_with (first | (go_at_call 36; refine (in_any _ _ _ _).mono ?_; rintro e w1 ⟨rfl, rfl⟩) | (go_at_call 47; refine (entriesMay_any _ _ _ _ _ _ (e1.go (hbl0 _ _) (Nat.le_refl _) hBw) ez (by omega) (by omega)).mono ?_; rintro e w2 ⟨rfl, hb2⟩))
          go_ret
          exact ⟨ret_int E0.out, (hk _ _).trans (Kept.of_below hb2), (hs1 _ _).kept (hb2.block sb (by simp; omega))⟩

end Go.Proofs.Ytlojfgdpmaigmab
