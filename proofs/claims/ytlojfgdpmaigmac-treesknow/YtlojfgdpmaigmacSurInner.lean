/- The survey's nodes that are no leaves. -/
import Derived.Test.YtlojfgdpmaigmacP17
namespace Go.Proofs.Ytlojfgdpmaigmac
open Go.RowKit Plain Go.Maps

set_option maxRecDepth 20000 in
set_option maxHeartbeats 4000000 in
theorem surInner_any (b o C : Nat) (ps : List PN) (q mb B f m : Nat) (low high d L : Int) (S : St) (w : World) (leaf : Bool) (eA : Option Addr) (eC : Nat) (ents : List En) (kA : Option Addr) (kC : Nat) (keys : List Int) (dA : Option Addr) (dC : Nat) (kids : List Int) (bA : Option Addr) (bC : Nat) (buf : List En)
    (hm : m < ps.length) (hN : NodesAt B w (some ⟨b, o, none⟩) ps) (hat : PnAt w b (o + m * 5) ⟨leaf, eA, eC, ents, kA, kC, keys, dA, dC, kids, bA, bC, buf⟩) (ok : PN.ok B w ⟨leaf, eA, eC, ents, kA, kC, keys, dA, dC, kids, bA, bC, buf⟩) (hkw : ∀ z ∈ keys, z ≤ 9223372036854775807)
    (hbl : b < B) (hBq : B ≤ q) (hBm : B ≤ mb) (hS : Sur w q mb (some ⟨b, o, none⟩) ps.length C S L) (hp : ((m : Int), d) ∈ S) (hst : StOk ps.length S) (hlow : 0 ≤ low) (hhigh : high ≤ 9223372036854775807) (hd1 : 1 ≤ d) (hd2 : d ≤ 12) (hf : f + 1 ≤ 12)
    (ih : Hid (∀ (n lo hi L' : Int) (S' : St) (w' : World), NodesAt B w' (some ⟨b, o, none⟩) ps → Sur w' q mb (some ⟨b, o, none⟩) ps.length C S' L' → StOk ps.length S' → 0 ≤ lo → hi ≤ 9223372036854775807 →
      Calls Try.prog 22 #[.pointer (some ⟨q, 0, none⟩), .int .i64 n, .int .i64 (d + 1), .int .i64 lo, .int .i64 hi] w'
        fun e w'' => e = .returned (.bool (resN L' (W (ps.map PN.nd) f n lo hi S'))) ∧ Kept [q, mb] w' w'' ∧ ∀ S'' l, W (ps.map PN.nd) f n lo hi S' = some (S'', l) → okL L' l = true → Sur w'' q mb (some ⟨b, o, none⟩) ps.length C S'' (nextL L' l)))
    (R : Option (St × List Int)) (hR : Hid (R = if innerB ⟨leaf, ents, keys, kids, buf⟩ low high = true then Wk (W (ps.map PN.nd) f) kids keys low high S else none)) :
    Calls Try.prog 40 #[.pointer (some ⟨q, 0, none⟩), .int .i64 (m : Int), .int .i64 low, .int .i64 high] w
      fun e w' => e = .returned (.bool (resN L R)) ∧ Kept [q, mb] w w' ∧ ∀ S' l, R = some (S', l) → okL L l = true → Sur w' q mb (some ⟨b, o, none⟩) ps.length C S' (nextL L l) := by
  have hat0 := hat
  have ok0 := ok
  have hqs := hS.row.lt
  have hms := hS.map.lt
  have hz := hN.z
  obtain ⟨c0, c1, c2, c3, c4⟩ := hat
  simp only at c0 c1 c2 c3 c4
  obtain ⟨-, k1, t1, f1, -, -, -, -, ez, kz, dz, fz⟩ := ok
  simp only at k1 t1 f1 ez kz dz fz
  have q0 := hS.row.cell 0
  have q1 := hS.row.cell 1
  simp only [List.getElem?_cons_zero, List.getElem?_cons_succ] at q0 q1
  have hbw : b < w.heap.size := by omega
  have hbel : ∀ o1 : Obj, Below B w (w.alloc o1) := fun o1 => (Below.refl _ _).alloc (by omega) _
  have hk0 : ∀ o1 : Obj, Kept [q, mb] w (w.alloc o1) := fun o1 => (Kept.refl _ _).alloc _
  by_cases h1 : ents = []
  · subst h1
    by_cases h2 : kids.length < 2
    · have h2' : (kids.length : Int) < 2 := by omega
      have E0 : Hid (R = none) := by
        show _ = _
        rw [hR.out, if_neg]
        intro hi
        have hi' := innerB_kids hi
        simp only at hi'
        omega
      rw [E0.out]
      clear hR ih hst
      go_enter Try.func40, Try.ntmps40
      go_wp2_with (first | (go_at_call 58; refine (entriesMayBe_any _ _ _ _ _ _ _ (f1.go (hbel _) (Nat.le_refl _) (by omega)) fz (by omega) hhigh).mono ?_; rintro e w2 ⟨rfl, hb2⟩))
      go_ret
      first | exact ⟨rfl, hk0 _, fun _ _ h => by cases h⟩ | exact ⟨rfl, hk0 _⟩
    · have h2' : ¬ (kids.length : Int) < 2 := by omega
      by_cases h3 : 4 < kids.length
      · have h3' : (4 : Int) < (kids.length : Int) := by omega
        have E0 : Hid (R = none) := by
          show _ = _
          rw [hR.out, if_neg]
          intro hi
          have hi' := innerB_kids hi
          simp only at hi'
          omega
        rw [E0.out]
        clear hR ih hst
        go_enter Try.func40, Try.ntmps40
        go_wp2_with (first | (go_at_call 58; refine (entriesMayBe_any _ _ _ _ _ _ _ (f1.go (hbel _) (Nat.le_refl _) (by omega)) fz (by omega) hhigh).mono ?_; rintro e w2 ⟨rfl, hb2⟩))
        go_ret
        first | exact ⟨rfl, hk0 _, fun _ _ h => by cases h⟩ | exact ⟨rfl, hk0 _⟩
      · have h3' : ¬ (4 : Int) < (kids.length : Int) := by omega
        by_cases h4 : keys.length + 1 = kids.length
        · have h4' : (keys.length : Int) = (kids.length : Int) - 1 := by omega
          have h4b : ((keys.length : Int) != (kids.length : Int) - 1) = false := by simp; omega
          have H4 : Hid (keys.length + 1 = kids.length) := h4
          clear h4
          by_cases h5 : (decide ((buf.length : Int) ≤ 8) && entsB buf low high) = true
          · have h5x : buf.length ≤ 8 ∧ entsB buf low high = true := by simp at h5; exact ⟨by omega, h5.2⟩
            have hI : innerB ⟨leaf, [], keys, kids, buf⟩ low high = true := by
              simp only [innerB, Bool.and_eq_true, decide_eq_true_eq, beq_iff_eq, List.isEmpty_iff]
              exact ⟨⟨⟨⟨⟨trivial, by omega⟩, by omega⟩, H4.out⟩, h5x.1⟩, h5x.2⟩
            refine surKids_any b o C ps q mb B f m low high d L S w leaf eA eC [] kA kC keys dA dC kids bA bC buf hm hN hat0 ok0 hkw hbl hBq hBm hS hp hst hlow hhigh hd1 hd2 hf ih rfl (by omega) (by omega) H4.out h5 R ?_
            show _ = _
            rw [hR.out, if_pos hI]
          · have h5' : (decide ((buf.length : Int) ≤ 8) && entsB buf low high) = false := by simpa using h5
            have E0 : Hid (R = none) := by
              show _ = _
              rw [hR.out, if_neg]
              intro hi
              have hi' := innerB_kids hi
              simp only at hi'
              apply h5; simp; exact ⟨by omega, hi'.2.2.2.2.2⟩
            clear h5
            rw [E0.out]
            clear hR ih hst
            go_enter Try.func40, Try.ntmps40
            go_wp2_with (first | (go_at_call 58; refine (entriesMayBe_any _ _ _ _ _ _ _ (f1.go (hbel _) (Nat.le_refl _) (by omega)) fz (by omega) hhigh).mono ?_; rintro e w2 ⟨rfl, hb2⟩))
            go_ret
            first | exact ⟨rfl, (hk0 _).trans (Kept.of_below hb2), fun _ _ h => by cases h⟩ | exact ⟨rfl, (hk0 _).trans (Kept.of_below hb2)⟩
        · have h4' : ¬ (keys.length : Int) = (kids.length : Int) - 1 := by omega
          have E0 : Hid (R = none) := by
            show _ = _
            rw [hR.out, if_neg]
            intro hi
            have hi' := innerB_kids hi
            simp only at hi'
            omega
          rw [E0.out]
          clear hR ih hst
          go_enter Try.func40, Try.ntmps40
          go_wp2_with (first | (go_at_call 58; refine (entriesMayBe_any _ _ _ _ _ _ _ (f1.go (hbel _) (Nat.le_refl _) (by omega)) fz (by omega) hhigh).mono ?_; rintro e w2 ⟨rfl, hb2⟩))
          go_ret
          first | exact ⟨rfl, hk0 _, fun _ _ h => by cases h⟩ | exact ⟨rfl, hk0 _⟩
  · have h1' : (0 : Int) < (ents.length : Int) := by have := List.length_pos_iff.2 h1; omega
    have E0 : Hid (R = none) := by
      show _ = _
      rw [hR.out, if_neg]
      intro hi
      have hi' := innerB_kids hi
      simp only at hi'
      exact h1 hi'.1
    rw [E0.out]
    clear hR ih hst
    go_enter Try.func40, Try.ntmps40
    go_wp2_with (first | (go_at_call 58; refine (entriesMayBe_any _ _ _ _ _ _ _ (f1.go (hbel _) (Nat.le_refl _) (by omega)) fz (by omega) hhigh).mono ?_; rintro e w2 ⟨rfl, hb2⟩))
    go_ret
    first | exact ⟨rfl, hk0 _, fun _ _ h => by cases h⟩ | exact ⟨rfl, hk0 _⟩

end Go.Proofs.Ytlojfgdpmaigmac
