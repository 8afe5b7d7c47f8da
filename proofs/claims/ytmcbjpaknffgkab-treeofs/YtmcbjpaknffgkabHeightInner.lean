/- The document's 'height' of a tree: nodes that are no leaves. -/
import Derived.Test.YtmcbjpaknffgkabHeightKids
namespace Go.Proofs.Ytmcbjpaknffgkab
open Go.RowKit Plain

set_option maxRecDepth 20000 in
set_option maxHeartbeats 4000000 in
theorem height_inner (b o C : Nat) (r : Int) (ps : List PN) (sb f m B : Nat) (low high d : Int) (S : St) (w : World) (leaf : Bool) (eA : Option Addr) (eC : Nat) (ents : List En) (kA : Option Addr) (kC : Nat) (keys : List Int) (dA : Option Addr) (dC : Nat) (kids : List Int) (bA : Option Addr) (bC : Nat) (buf : List En)
    (hm : m < ps.length) (hN : NodesAt B w (some ⟨b, o, none⟩) ps) (hat : PnAt w b (o + m * 5) ⟨leaf, eA, eC, ents, kA, kC, keys, dA, dC, kids, bA, bC, buf⟩) (ok : PN.ok B w ⟨leaf, eA, eC, ents, kA, kC, keys, dA, dC, kids, bA, bC, buf⟩)
    (hB : B ≤ sb) (hbl : b < B) (hS : SeenIs w sb ps.length S) (hlow : 0 ≤ low) (hhigh : high ≤ 1099511627776) (hlh : low < high) (hd1 : 1 ≤ d) (hd2 : d ≤ 12) (hseen : seenB S (m : Int) = false) (hl : leaf = false)
    (hin : inB (m : Int) 0 ((ps.length : Int) - 1) = true) (hf : f + 1 ≤ 12)
    (ih : Hid (∀ (n lo hi : Int) (S' : St) (w' : World), NodesAt B w' (some ⟨b, o, none⟩) ps → SeenIs w' sb ps.length S' → 0 ≤ lo → hi ≤ 1099511627776 → StOk ps.length S' → (∀ p ∈ ((m : Int), 12 - (f : Int)) :: S, p ∈ S') →
      Calls Try.prog 27 #[.agg #[.slice (some ⟨b, o, none⟩) ps.length C, .int .i64 r], .int .i64 n, .int .i64 lo, .int .i64 hi, .int .i64 (d + 1), .slice (some ⟨sb, 0, none⟩) ps.length ps.length] w'
        fun e w'' => e = .returned (.int .i64 (resH (W (ps.map PN.nd) f n lo hi S'))) ∧ Kept [sb] w' w'' ∧ ∀ S'' l, W (ps.map PN.nd) f n lo hi S' = some (S'', l) → resH (W (ps.map PN.nd) f n lo hi S') ≠ 0 → SeenIs w'' sb ps.length S''))
    (hst : StOk ps.length (((m : Int), 12 - (f : Int)) :: S)) (R : Option (St × List Int)) (hR : Hid (R = if innerB ⟨leaf, ents, keys, kids, buf⟩ low high = true then Wk (W (ps.map PN.nd) f) kids keys low high (((m : Int), 12 - (f : Int)) :: S) else none)) :
    Calls Try.prog 27 #[.agg #[.slice (some ⟨b, o, none⟩) ps.length C, .int .i64 r], .int .i64 (m : Int), .int .i64 low, .int .i64 high, .int .i64 d, .slice (some ⟨sb, 0, none⟩) ps.length ps.length] w
      fun e w' => e = .returned (.int .i64 (resH R)) ∧ Kept [sb] w w' ∧ ∀ S' l, R = some (S', l) → resH R ≠ 0 → SeenIs w' sb ps.length S' := by
  subst hl
  have hat0 := hat
  have ok0 := ok
  have hz := hN.z
  have hsb := hS.lt
  obtain ⟨c0, c1, c2, c3, c4⟩ := hat
  simp only at c0 c1 c2 c3 c4
  obtain ⟨e1, k1, t1, f1, -, -, -, -, ez, kz, dz, fz⟩ := ok
  simp only at e1 k1 t1 f1 ez kz dz fz
  have hc := hS.cell hm
  simp only [hseen, Bool.false_eq_true, if_false] at hc
  have hfz := hS.frozen m
  have hbs : ¬ b = sb := by omega
  have hbw : b < w.heap.size := by omega
  have KS : ∀ (W : World) (b' o' j : Nat) (v : Value), ¬ b' = sb → (W.setCell ⟨sb, j, none⟩ v).cell? ⟨b', o', none⟩ = W.cell? ⟨b', o', none⟩ := fun W b' o' j v hb => World.cell?_setCell_far _ _ _ _ (fun e => hb e.symm)
  have hk : ∀ o1 o2 : Obj, Kept [sb] w (((w.setCell ⟨sb, m, none⟩ (.int .i64 1)).alloc o1).alloc o2) := fun o1 o2 => (((Kept.refl _ _).set (.inl (by simp)) _).alloc _).alloc _
  have hs1 : ∀ o1 o2 : Obj, SeenIs (((w.setCell ⟨sb, m, none⟩ (.int .i64 1)).alloc o1).alloc o2) sb ps.length (((m : Int), 12 - (f : Int)) :: S) := fun o1 o2 => ((hS.set _).alloc _).alloc _
  have hBw : B ≤ w.heap.size := by omega
  have hbl0 : ∀ o1 o2 : Obj, Below B w (((w.setCell ⟨sb, m, none⟩ (.int .i64 1)).alloc o1).alloc o2) := fun o1 o2 => (hk o1 o2).below hBw (by simp; omega)
  by_cases h1 : 0 < ents.length
  · have E0 : Hid (R = none) := by
      show _ = _
      rw [hR.out, if_neg]
      intro hi
      have hi' := innerB_kids hi
      simp only at hi'
      have := hi'.1; rw [this] at h1; simp at h1
    have h1' : (0 : Int) < (ents.length : Int) := by omega
    rw [E0.out]
    clear hR ih hst
    go_enter Try.func27, Try.ntmps27
    go_wp2_with (first | (go_at_call 36; refine (in_any _ _ _ _).mono ?_; rintro e w1 ⟨rfl, rfl⟩) | (go_at_call 47; refine (entriesMay_any _ _ _ _ _ _ (f1.go (hbl0 _ _) (Nat.le_refl _) hBw) fz (by omega) (by omega)).mono ?_; rintro e w2 ⟨rfl, hb2⟩))
    go_ret
    exact ⟨rfl, hk _ _, fun _ _ h => by cases h⟩
  · have h1' : ¬ (0 : Int) < (ents.length : Int) := by omega
    by_cases h2 : inB (kids.length : Int) 2 4 = true
    · have h2x : 2 ≤ kids.length ∧ kids.length ≤ 4 := by simp [inB] at h2; omega
      by_cases h3 : keys.length + 1 = kids.length
      · have h3' : (keys.length : Int) + 1 = (kids.length : Int) := by omega
        by_cases h4 : 8 < buf.length
        · have E0 : Hid (R = none) := by
            show _ = _
            rw [hR.out, if_neg]
            intro hi
            have hi' := innerB_kids hi
            simp only at hi'
            omega
          have h4' : (8 : Int) < (buf.length : Int) := by omega
          rw [E0.out]
          clear hR ih hst
          go_enter Try.func27, Try.ntmps27
          go_wp2_with (first | (go_at_call 36; refine (in_any _ _ _ _).mono ?_; rintro e w1 ⟨rfl, rfl⟩) | (go_at_call 47; refine (entriesMay_any _ _ _ _ _ _ (f1.go (hbl0 _ _) (Nat.le_refl _) hBw) fz (by omega) (by omega)).mono ?_; rintro e w2 ⟨rfl, hb2⟩))
          go_ret
          exact ⟨rfl, hk _ _, fun _ _ h => by cases h⟩
        · have h4' : ¬ (8 : Int) < (buf.length : Int) := by omega
          by_cases h5 : entsB buf low high = true
          · have hI : innerB ⟨false, ents, keys, kids, buf⟩ low high = true := by
              simp only [innerB, Bool.and_eq_true, decide_eq_true_eq, beq_iff_eq, List.isEmpty_iff]
              exact ⟨⟨⟨⟨⟨List.eq_nil_of_length_eq_zero (by omega), h2x.1⟩, h2x.2⟩, h3⟩, by omega⟩, h5⟩
            refine height_kids b o C r ps sb f m B low high d S w false eA eC ents kA kC keys dA dC kids bA bC buf hm hN hat0 ok0 hB hbl hS hlow hhigh hlh hd1 hd2 hseen rfl hin hf ih (by omega) h2 h2x h3 (by omega) h5 R ?_ hst
            show _ = _
            rw [hR.out, if_pos hI]
          · have h5' : entsB buf low high = false := by simpa using h5
            have E0 : Hid (R = none) := by
              show _ = _
              rw [hR.out, if_neg]
              intro hi
              have hi' := innerB_kids hi
              simp only at hi'
              exact h5 hi'.2.2.2.2.2
            clear h5
            rw [E0.out]
            clear hR ih hst
            go_enter Try.func27, Try.ntmps27
            go_wp2_with (first | (go_at_call 36; refine (in_any _ _ _ _).mono ?_; rintro e w1 ⟨rfl, rfl⟩) | (go_at_call 47; refine (entriesMay_any _ _ _ _ _ _ (f1.go (hbl0 _ _) (Nat.le_refl _) hBw) fz (by omega) (by omega)).mono ?_; rintro e w2 ⟨rfl, hb2⟩))
            go_ret
            exact ⟨rfl, (hk _ _).trans (Kept.of_below hb2), fun _ _ h => by cases h⟩
      · have h3' : ¬ (keys.length : Int) + 1 = (kids.length : Int) := by omega
        have E0 : Hid (R = none) := by
          show _ = _
          rw [hR.out, if_neg]
          intro hi
          have hi' := innerB_kids hi
          simp only at hi'
          omega
        rw [E0.out]
        clear hR ih hst
        go_enter Try.func27, Try.ntmps27
        go_wp2_with (first | (go_at_call 36; refine (in_any _ _ _ _).mono ?_; rintro e w1 ⟨rfl, rfl⟩) | (go_at_call 47; refine (entriesMay_any _ _ _ _ _ _ (f1.go (hbl0 _ _) (Nat.le_refl _) hBw) fz (by omega) (by omega)).mono ?_; rintro e w2 ⟨rfl, hb2⟩))
        go_ret
        exact ⟨rfl, hk _ _, fun _ _ h => by cases h⟩
    · have h2' : inB (kids.length : Int) 2 4 = false := by simpa using h2
      have E0 : Hid (R = none) := by
        show _ = _
        rw [hR.out, if_neg]
        intro hi
        have hi' := innerB_kids hi
        simp only at hi'
        apply h2; simp [inB]; omega
      clear h2
      rw [E0.out]
      clear hR ih hst
      go_enter Try.func27, Try.ntmps27
      go_wp2_with (first | (go_at_call 36; refine (in_any _ _ _ _).mono ?_; rintro e w1 ⟨rfl, rfl⟩) | (go_at_call 47; refine (entriesMay_any _ _ _ _ _ _ (f1.go (hbl0 _ _) (Nat.le_refl _) hBw) fz (by omega) (by omega)).mono ?_; rintro e w2 ⟨rfl, hb2⟩))
      go_ret
      exact ⟨rfl, hk _ _, fun _ _ h => by cases h⟩

end Go.Proofs.Ytmcbjpaknffgkab
