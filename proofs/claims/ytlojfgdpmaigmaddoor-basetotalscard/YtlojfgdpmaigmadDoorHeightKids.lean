/- The document's 'height' of a tree: the loop over a node's kids. -/
import Derived.Test.YtlojfgdpmaigmadDoorP23
namespace Go.Proofs.YtlojfgdpmaigmadDoor
open Go.RowKit Plain

set_option maxRecDepth 20000 in
set_option maxHeartbeats 4000000 in
theorem height_kids (b o C : Nat) (r : Int) (ps : List PN) (sb f m B : Nat) (low high d : Int) (S : St) (w : World) (leaf : Bool) (eA : Option Addr) (eC : Nat) (ents : List En) (kA : Option Addr) (kC : Nat) (keys : List Int) (dA : Option Addr) (dC : Nat) (kids : List Int) (bA : Option Addr) (bC : Nat) (buf : List En)
    (hm : m < ps.length) (hN : NodesAt B w (some ⟨b, o, none⟩) ps) (hat : PnAt w b (o + m * 5) ⟨leaf, eA, eC, ents, kA, kC, keys, dA, dC, kids, bA, bC, buf⟩) (ok : PN.ok B w ⟨leaf, eA, eC, ents, kA, kC, keys, dA, dC, kids, bA, bC, buf⟩)
    (hB : B ≤ sb) (hbl : b < B) (hS : SeenIs w sb ps.length S) (hlow : 0 ≤ low) (hhigh : high ≤ 1099511627776) (hlh : low < high) (hd1 : 1 ≤ d) (hd2 : d ≤ 12) (hseen : seenB S (m : Int) = false) (hl : leaf = false)
    (hin : inB (m : Int) 0 ((ps.length : Int) - 1) = true) (hf : f + 1 ≤ 12)
    (ih : Hid (∀ (n lo hi : Int) (S' : St) (w' : World), NodesAt B w' (some ⟨b, o, none⟩) ps → SeenIs w' sb ps.length S' → 0 ≤ lo → hi ≤ 1099511627776 → StOk ps.length S' → (∀ p ∈ ((m : Int), 12 - (f : Int)) :: S, p ∈ S') →
      Calls Tryd.prog 53 #[.agg #[.slice (some ⟨b, o, none⟩) ps.length C, .int .i64 r], .int .i64 n, .int .i64 lo, .int .i64 hi, .int .i64 (d + 1), .slice (some ⟨sb, 0, none⟩) ps.length ps.length] w'
        fun e w'' => e = .returned (.int .i64 (resH (W (ps.map PN.nd) f n lo hi S'))) ∧ Kept [sb] w' w'' ∧ ∀ S'' l, W (ps.map PN.nd) f n lo hi S' = some (S'', l) → resH (W (ps.map PN.nd) f n lo hi S') ≠ 0 → SeenIs w'' sb ps.length S''))
    (h1 : ents.length = 0) (h2 : inB (kids.length : Int) 2 4 = true) (h2x : 2 ≤ kids.length ∧ kids.length ≤ 4) (h3 : keys.length + 1 = kids.length) (h4 : buf.length ≤ 8) (h5 : entsB buf low high = true) (R : Option (St × List Int)) (hR : Hid (R = Wk (W (ps.map PN.nd) f) kids keys low high (((m : Int), 12 - (f : Int)) :: S))) (hst : StOk ps.length (((m : Int), 12 - (f : Int)) :: S)) :
    Calls Tryd.prog 53 #[.agg #[.slice (some ⟨b, o, none⟩) ps.length C, .int .i64 r], .int .i64 (m : Int), .int .i64 low, .int .i64 high, .int .i64 d, .slice (some ⟨sb, 0, none⟩) ps.length ps.length] w
      fun e w' => e = .returned (.int .i64 (resH R)) ∧ Kept [sb] w w' ∧ ∀ S' l, R = some (S', l) → resH R ≠ 0 → SeenIs w' sb ps.length S' := by
  subst hl
  have hz := hN.z
  have hsb := hS.lt
  obtain ⟨c0, c1, c2, c3, c4⟩ := hat
  simp only at c0 c1 c2 c3 c4
  obtain ⟨e1, k1, t1, f1, -, -, -, -, ez, kz, dz, fz⟩ := ok
  simp only at e1 k1 t1 f1 ez kz dz fz
  have hc := hS.cell hm
  simp only [hseen, Bool.false_eq_true, if_false] at hc
  have hfz := hS.frozen m
  have hbs : ¬ b = sb := by omega
  have hbw : b < w.heap.size := by omega
  have KS : ∀ (W : World) (b' o' j : Nat) (v : Value), ¬ b' = sb → (W.setCell ⟨sb, j, none⟩ v).cell? ⟨b', o', none⟩ = W.cell? ⟨b', o', none⟩ := fun W b' o' j v hb => World.cell?_setCell_far _ _ _ _ (fun e => hb e.symm)
  have hk : ∀ o1 o2 : Obj, Kept [sb] w (((w.setCell ⟨sb, m, none⟩ (.int .i64 1)).alloc o1).alloc o2) := fun o1 o2 => (((Kept.refl _ _).set (.inl (by simp)) _).alloc _).alloc _
  have hs1 : ∀ o1 o2 : Obj, SeenIs (((w.setCell ⟨sb, m, none⟩ (.int .i64 1)).alloc o1).alloc o2) sb ps.length (((m : Int), 12 - (f : Int)) :: S) := fun o1 o2 => ((hS.set _).alloc _).alloc _
  have hBw : B ≤ w.heap.size := by omega
  have hbl0 : ∀ o1 o2 : Obj, Below B w (((w.setCell ⟨sb, m, none⟩ (.int .i64 1)).alloc o1).alloc o2) := fun o1 o2 => (hk o1 o2).below hBw (by simp; omega)
  have h3' : (keys.length : Int) + 1 = (kids.length : Int) := by omega
  have h4' : ¬ (8 : Int) < (buf.length : Int) := by omega
  have HR : Hid (StOk ps.length (((m : Int), 12 - (f : Int)) :: S) ∧ f + 1 ≤ 12 ∧ keys.length + 1 = kids.length) := ⟨hst, hf, h3⟩
  clear hst hf
  obtain rfl : ents = [] := List.eq_nil_of_length_eq_zero h1
  clear h1
  go_enter Tryd.func53, Tryd.ntmps53
  go_wp2_with (first | (go_at_call 17; refine (in_any _ _ _ _).mono ?_; rintro e w1 ⟨rfl, rfl⟩) | (go_at_call 63; refine (entriesMay_any _ _ _ _ _ _ (f1.go (hbl0 _ _) (Nat.le_refl _) hBw) fz (by omega) (by omega)).mono ?_; rintro e w2 ⟨rfl, hb2⟩))
  have hK2 : Kept [sb] w w2 := (hk _ _).trans (Kept.of_below hb2)
  have hS2 : SeenIs w2 sb ps.length (((m : Int), 12 - (f : Int)) :: S) := (hs1 _ _).kept (hb2.block sb (by simp; omega))
  obtain ⟨rb, rx, zz⟩ := two_rows hb2 (n := w.heap.size) (by simp)
  clear hb2 hs1 hk hbl0 KS
  go_loopw [14, 15, 16] (fun va vf vi wr => ∃ (i : Nat) (S' : St) (acc : List Int) (a lo : Int), i ≤ kids.length ∧ va = .int .i64 a ∧ vf = .int .i64 lo ∧ vi = .int .i64 i ∧ KidsAt (W (ps.map PN.nd) f) kids keys low high (((m : Int), 12 - (f : Int)) :: S) i lo S' acc a ∧ Kept [sb] w2 wr ∧ SeenIs wr sb ps.length S' ∧ StOk ps.length S' ∧ (∀ p ∈ ((m : Int), 12 - (f : Int)) :: S, p ∈ S')) (fun _ _ vi _ => kids.length - (intOf vi).toNat)
  case atStart => exact ⟨0, _, [], 0, low, Nat.zero_le _, rfl, rfl, rfl, kidsAt_start _ _ _ _ _ _, Kept.refl _ _, hS2, HR.out.1, fun _ h => h⟩
  case round =>
    obtain ⟨i, S', acc, a, lo, hi, rfl, rfl, rfl, hka, hkw, hsn, hok, hsub⟩ := hrel
    have nb : ¬ w.heap.size = sb := by omega
    have nx : ¬ w.heap.size + 1 = sb := by omega
    have rb' := hkw.row rb (by simpa using nb)
    have rx' := hkw.row rx (by simpa using nx)
    have y0 := rb'.cell 0
    have y1 := rb'.cell 1
    have y2 := rx'.cell 2
    have y3 := rx'.cell 3
    simp only [List.getElem?_cons_zero, List.getElem?_cons_succ] at y0 y1 y2 y3
    have hxl := rx'.lt
    have hKw : Kept [sb] w wr := hK2.trans hkw
    have hBb : Below B w wr := hKw.below hBw (by simpa using hB)
    have hNr := hN.below hBb (Nat.le_refl _)
    by_cases hlt : i < kids.length
    · obtain ⟨kb, ko, rfl, hkb, hkc⟩ := (t1.below hBb (Nat.le_refl _)).int hlt
      have hf12 : f + 1 ≤ 12 := HR.out.2.1
      have nk : ¬ kb = sb := by omega
      have hkr : kb < wr.heap.size := by have := hKw.size; omega
      have hwr : w.heap.size < wr.heap.size := by omega
      have i0 : (0 : Int) ≤ (i : Int) := by omega
      have i1 : (i : Int) < (kids.length : Int) := by omega
      have wd : IntKind.i64.wrap (d + 1) = d + 1 := by rw [IntKind.wrap_i64]; omega
      obtain ⟨kd, hkd⟩ : ∃ kd, kids[i] = kd := ⟨_, rfl⟩
      rw [hkd] at hkc
      have HKD : Hid (kids[i] = kd) := hkd
      clear hkd
      by_cases hik : i < keys.length
      · obtain ⟨qb, qo, rfl, hqb, hqc⟩ := (k1.below hBb (Nat.le_refl _)).int hik
        have hqr : qb < wr.heap.size := by have := hKw.size; omega
        have HT : Hid (toAt keys high i = keys[i]) := by show _ = _; simp [toAt, hik]
        generalize keys[i] = tk at *
        by_cases hto : inB tk low high = true
        · have hto' : low ≤ tk ∧ tk ≤ high := by simpa [inB] using hto
          obtain ⟨hh, Hh'⟩ : ∃ hh, hh = resH (W (ps.map PN.nd) f kd lo tk S') := ⟨_, rfl⟩
          have con : ∀ w', NodesAt B w' (some ⟨b, o, none⟩) ps → SeenIs w' sb ps.length S' → Calls Tryd.prog 53 #[.agg #[.slice (some ⟨b, o, none⟩) ps.length C, .int .i64 r], .int .i64 kd, .int .i64 lo, .int .i64 tk, .int .i64 (d + 1), .slice (some ⟨sb, 0, none⟩) ps.length ps.length] w'
              fun e w'' => e = .returned (.int .i64 hh) ∧ Kept [sb] w' w'' ∧ ∀ S'' l, W (ps.map PN.nd) f kd lo tk S' = some (S'', l) → hh ≠ 0 → SeenIs w'' sb ps.length S'' := by
            intro w' a1 a2
            rw [Hh']
            exact ih.out kd lo tk S' w' a1 a2 (by have := hka.low; omega) (by omega) hok hsub
          have HB : Hid ((hh = 0 → resH R = 0) ∧ (hh ≠ 0 → 0 < a → hh ≠ a → resH R = 0) ∧ (hh ≠ 0 → ¬ (0 < a ∧ hh ≠ a) → ∃ S1 l1, W (ps.map PN.nd) f kd lo tk S' = some (S1, l1) ∧ KidsAt (W (ps.map PN.nd) f) kids keys low high (((m : Int), 12 - (f : Int)) :: S) (i + 1) tk S1 (acc ++ l1) hh ∧ StOk ps.length S1 ∧ ∀ p ∈ S', p ∈ S1)) := by
            have e1 : resH (W (ps.map PN.nd) f kids[i] lo (toAt keys high i) S') = hh := by rw [HT.out, HKD.out]; exact Hh'.symm
            rw [hR.out]
            refine ⟨fun h0 => kidsAt_zero (W_ds f (by omega)) hka hlt (by rw [e1]; exact h0), fun h0 hA hE => kidsAt_part hka hlt e1 h0 hA hE, fun h0 hA => ?_⟩
            obtain ⟨S1, l1, hg1, hka1⟩ := kidsAt_next (W_ds f (by omega)) (W_low f) hka hlt e1 h0 hA
            rw [HT.out, HKD.out] at hg1
            rw [HT.out] at hka1
            have hst1 := W_st f _ _ _ _ _ _ hg1 (by simpa using hok)
            simp only [List.length_map] at hst1
            exact ⟨S1, l1, hg1, hka1, hst1⟩
          clear Hh' hka HT ih hR
          go_wp2_with (first | (go_at_call 17; refine (in_any _ _ _ _).mono ?_; rintro e w1 ⟨rfl, hw1⟩; subst w1))
          go_region_held3 (fun w' => w'.cell? ⟨w.heap.size, 0, none⟩ = some (.slice (some ⟨b, o, none⟩) ps.length C) ∧ w'.cell? ⟨w.heap.size, 1, none⟩ = some (.int .i64 r) ∧ w'.cell? ⟨w.heap.size + 1, 3, none⟩ = some (.slice (some ⟨kb, ko, none⟩) kids.length dC) ∧ w'.cell? ⟨kb, ko + i, none⟩ = some (.int .i64 kd)) (go_keep)
            (first | (go_at_call 53; refine (con _ ?_ ?_).mono ?_; exact hNr.below ((Below.refl _ _).drew) (Nat.le_refl _); exact hsn; rintro e w3 ⟨rfl, hk3, hs3⟩; have T3 : ∀ b' o', b' < wr.heap.size → ¬ b' = sb → w3.cell? ⟨b', o', none⟩ = wr.cell? ⟨b', o', none⟩ := fun b' o' h1 h2 => hk3.cell o' h1 (by simpa using h2)))
          go_wp2
          · have q : hh = 0 := by assumption
            go_ret
            exact ⟨ret_int (HB.out.1 q).symm, hKw.trans ((Kept.refl _ _).drew.trans hk3), fun S'' l _ h => absurd (HB.out.1 q) h⟩
          · have q : ¬ hh = 0 := by assumption
            have qa : 0 < a := by assumption
            have qe : (hh == 0) = true ∨ (hh != a) = true := by assumption
            have qz : resH R = 0 := HB.out.2.1 q qa (by
              rcases qe with qe | qe
              · exact absurd (by simpa using qe) q
              · simpa using qe)
            go_ret
            exact ⟨ret_int qz.symm, hKw.trans ((Kept.refl _ _).drew.trans hk3), fun S'' l _ h => absurd qz h⟩
          · have q : ¬ hh = 0 := by assumption
            have qe : (hh == 0) = false ∧ (hh != a) = false := by assumption
            have HX : Hid (∃ S1 l1, W (ps.map PN.nd) f kd lo tk S' = some (S1, l1) ∧ KidsAt (W (ps.map PN.nd) f) kids keys low high (((m : Int), 12 - (f : Int)) :: S) (i + 1) tk S1 (acc ++ l1) hh ∧ StOk ps.length S1 ∧ ∀ p ∈ S', p ∈ S1) := HB.out.2.2 q (fun h => h.2 (by simpa using qe.2))
            go_roundw
            case rel =>
              go_light
              obtain ⟨S1, l1, g1, g2, g3, g4⟩ := HX.out
              exact ⟨i + 1, S1, acc ++ l1, hh, tk, by omega, rfl, rfl, by go_num, g2, hkw.trans ((Kept.refl _ _).drew.trans hk3), hs3 S1 l1 g1 q, g3, fun p hp => g4 p (hsub p hp)⟩
            case measure => simp [intOf]; omega
          · have q : ¬ hh = 0 := by assumption
            have qa : ¬ 0 < a := by assumption
            have HX : Hid (∃ S1 l1, W (ps.map PN.nd) f kd lo tk S' = some (S1, l1) ∧ KidsAt (W (ps.map PN.nd) f) kids keys low high (((m : Int), 12 - (f : Int)) :: S) (i + 1) tk S1 (acc ++ l1) hh ∧ StOk ps.length S1 ∧ ∀ p ∈ S', p ∈ S1) := HB.out.2.2 q (fun h => qa h.1)
            go_roundw
            case rel =>
              go_light
              obtain ⟨S1, l1, g1, g2, g3, g4⟩ := HX.out
              exact ⟨i + 1, S1, acc ++ l1, hh, tk, by omega, rfl, rfl, by go_num, g2, hkw.trans ((Kept.refl _ _).drew.trans hk3), hs3 S1 l1 g1 q, g3, fun p hp => g4 p (hsub p hp)⟩
            case measure => simp [intOf]; omega
        · have hto' : inB tk low high = false := by simpa using hto
          have E0 : Hid (resH R = 0) := by
            show _ = _
            rw [hR.out]
            refine kidsAt_out (W_low f) hka hlt HR.out.2.2 ?_
            rw [HT.out]
            intro h
            exact hto (by simpa [inB] using h)
          clear hka HT hto ih
          go_wp2_with (first | (go_at_call 17; refine (in_any _ _ _ _).mono ?_; rintro e w1 ⟨rfl, hw1⟩; subst w1))
          go_ret
          exact ⟨ret_int E0.out.symm, hKw, fun S'' l _ h => absurd E0.out h⟩
      · have HT : Hid (toAt keys high i = high) := by show _ = _; simp [toAt, hik]
        by_cases hto : inB high low high = true
        · have hto' : low ≤ high ∧ high ≤ high := by simpa [inB] using hto
          obtain ⟨hh, Hh'⟩ : ∃ hh, hh = resH (W (ps.map PN.nd) f kd lo high S') := ⟨_, rfl⟩
          have con : ∀ w', NodesAt B w' (some ⟨b, o, none⟩) ps → SeenIs w' sb ps.length S' → Calls Tryd.prog 53 #[.agg #[.slice (some ⟨b, o, none⟩) ps.length C, .int .i64 r], .int .i64 kd, .int .i64 lo, .int .i64 high, .int .i64 (d + 1), .slice (some ⟨sb, 0, none⟩) ps.length ps.length] w'
              fun e w'' => e = .returned (.int .i64 hh) ∧ Kept [sb] w' w'' ∧ ∀ S'' l, W (ps.map PN.nd) f kd lo high S' = some (S'', l) → hh ≠ 0 → SeenIs w'' sb ps.length S'' := by
            intro w' a1 a2
            rw [Hh']
            exact ih.out kd lo high S' w' a1 a2 (by have := hka.low; omega) (by omega) hok hsub
          have HB : Hid ((hh = 0 → resH R = 0) ∧ (hh ≠ 0 → 0 < a → hh ≠ a → resH R = 0) ∧ (hh ≠ 0 → ¬ (0 < a ∧ hh ≠ a) → ∃ S1 l1, W (ps.map PN.nd) f kd lo high S' = some (S1, l1) ∧ KidsAt (W (ps.map PN.nd) f) kids keys low high (((m : Int), 12 - (f : Int)) :: S) (i + 1) high S1 (acc ++ l1) hh ∧ StOk ps.length S1 ∧ ∀ p ∈ S', p ∈ S1)) := by
            have e1 : resH (W (ps.map PN.nd) f kids[i] lo (toAt keys high i) S') = hh := by rw [HT.out, HKD.out]; exact Hh'.symm
            rw [hR.out]
            refine ⟨fun h0 => kidsAt_zero (W_ds f (by omega)) hka hlt (by rw [e1]; exact h0), fun h0 hA hE => kidsAt_part hka hlt e1 h0 hA hE, fun h0 hA => ?_⟩
            obtain ⟨S1, l1, hg1, hka1⟩ := kidsAt_next (W_ds f (by omega)) (W_low f) hka hlt e1 h0 hA
            rw [HT.out, HKD.out] at hg1
            rw [HT.out] at hka1
            have hst1 := W_st f _ _ _ _ _ _ hg1 (by simpa using hok)
            simp only [List.length_map] at hst1
            exact ⟨S1, l1, hg1, hka1, hst1⟩
          clear Hh' hka HT ih hR
          go_wp2_with (first | (go_at_call 17; refine (in_any _ _ _ _).mono ?_; rintro e w1 ⟨rfl, hw1⟩; subst w1))
          go_region_held3 (fun w' => w'.cell? ⟨w.heap.size, 0, none⟩ = some (.slice (some ⟨b, o, none⟩) ps.length C) ∧ w'.cell? ⟨w.heap.size, 1, none⟩ = some (.int .i64 r) ∧ w'.cell? ⟨w.heap.size + 1, 3, none⟩ = some (.slice (some ⟨kb, ko, none⟩) kids.length dC) ∧ w'.cell? ⟨kb, ko + i, none⟩ = some (.int .i64 kd)) (go_keep)
            (first | (go_at_call 53; refine (con _ ?_ ?_).mono ?_; exact hNr.below ((Below.refl _ _).drew) (Nat.le_refl _); exact hsn; rintro e w3 ⟨rfl, hk3, hs3⟩; have T3 : ∀ b' o', b' < wr.heap.size → ¬ b' = sb → w3.cell? ⟨b', o', none⟩ = wr.cell? ⟨b', o', none⟩ := fun b' o' h1 h2 => hk3.cell o' h1 (by simpa using h2)))
          go_wp2
          · have q : hh = 0 := by assumption
            go_ret
            exact ⟨ret_int (HB.out.1 q).symm, hKw.trans ((Kept.refl _ _).drew.trans hk3), fun S'' l _ h => absurd (HB.out.1 q) h⟩
          · have q : ¬ hh = 0 := by assumption
            have qa : 0 < a := by assumption
            have qe : (hh == 0) = true ∨ (hh != a) = true := by assumption
            have qz : resH R = 0 := HB.out.2.1 q qa (by
              rcases qe with qe | qe
              · exact absurd (by simpa using qe) q
              · simpa using qe)
            go_ret
            exact ⟨ret_int qz.symm, hKw.trans ((Kept.refl _ _).drew.trans hk3), fun S'' l _ h => absurd qz h⟩
          · have q : ¬ hh = 0 := by assumption
            have qe : (hh == 0) = false ∧ (hh != a) = false := by assumption
            have HX : Hid (∃ S1 l1, W (ps.map PN.nd) f kd lo high S' = some (S1, l1) ∧ KidsAt (W (ps.map PN.nd) f) kids keys low high (((m : Int), 12 - (f : Int)) :: S) (i + 1) high S1 (acc ++ l1) hh ∧ StOk ps.length S1 ∧ ∀ p ∈ S', p ∈ S1) := HB.out.2.2 q (fun h => h.2 (by simpa using qe.2))
            go_roundw
            case rel =>
              go_light
              obtain ⟨S1, l1, g1, g2, g3, g4⟩ := HX.out
              exact ⟨i + 1, S1, acc ++ l1, hh, high, by omega, rfl, rfl, by go_num, g2, hkw.trans ((Kept.refl _ _).drew.trans hk3), hs3 S1 l1 g1 q, g3, fun p hp => g4 p (hsub p hp)⟩
            case measure => simp [intOf]; omega
          · have q : ¬ hh = 0 := by assumption
            have qa : ¬ 0 < a := by assumption
            have HX : Hid (∃ S1 l1, W (ps.map PN.nd) f kd lo high S' = some (S1, l1) ∧ KidsAt (W (ps.map PN.nd) f) kids keys low high (((m : Int), 12 - (f : Int)) :: S) (i + 1) high S1 (acc ++ l1) hh ∧ StOk ps.length S1 ∧ ∀ p ∈ S', p ∈ S1) := HB.out.2.2 q (fun h => qa h.1)
            go_roundw
            case rel =>
              go_light
              obtain ⟨S1, l1, g1, g2, g3, g4⟩ := HX.out
              exact ⟨i + 1, S1, acc ++ l1, hh, high, by omega, rfl, rfl, by go_num, g2, hkw.trans ((Kept.refl _ _).drew.trans hk3), hs3 S1 l1 g1 q, g3, fun p hp => g4 p (hsub p hp)⟩
            case measure => simp [intOf]; omega
        · have hto' : inB high low high = false := by simpa using hto
          have E0 : Hid (resH R = 0) := by
            show _ = _
            rw [hR.out]
            refine kidsAt_out (W_low f) hka hlt HR.out.2.2 ?_
            rw [HT.out]
            intro h
            exact hto (by simpa [inB] using h)
          clear hka HT hto ih
          go_wp2_with (first | (go_at_call 17; refine (in_any _ _ _ _).mono ?_; rintro e w1 ⟨rfl, hw1⟩; subst w1))
          go_ret
          exact ⟨ret_int E0.out.symm, hKw, fun S'' l _ h => absurd E0.out h⟩
    · obtain rfl : i = kids.length := by omega
      have HE : Hid (Wk (W (ps.map PN.nd) f) kids keys low high (((m : Int), 12 - (f : Int)) :: S) = some (S', acc) ∧ resH (Wk (W (ps.map PN.nd) f) kids keys low high (((m : Int), 12 - (f : Int)) :: S)) = a) := kidsAt_end hka rfl (by omega)
      clear hka
      go_wp2
      go_ret
      obtain ⟨q1, q2⟩ := HE.out
      rw [hR.out, q2, q1]
      exact ⟨rfl, hKw, fun S'' l h _ => by cases h; exact hsn⟩

end Go.Proofs.YtlojfgdpmaigmadDoor
