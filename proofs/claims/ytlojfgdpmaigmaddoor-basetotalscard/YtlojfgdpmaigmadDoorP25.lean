/- The document's 'height' of a tree: nodes that are no leaves. -/
import Derived.Test.YtlojfgdpmaigmadDoorHeightKids
namespace Go.Proofs.YtlojfgdpmaigmadDoor
open Go.RowKit Plain

set_option maxRecDepth 20000 in
set_option maxHeartbeats 4000000 in
theorem height_inner (b o C : Nat) (r : Int) (ps : List PN) (sb f m B : Nat) (low high d : Int) (S : St) (w : World) (leaf : Bool) (eA : Option Addr) (eC : Nat) (ents : List En) (kA : Option Addr) (kC : Nat) (keys : List Int) (dA : Option Addr) (dC : Nat) (kids : List Int) (bA : Option Addr) (bC : Nat) (buf : List En)
    (hm : m < ps.length) (hN : NodesAt B w (some ⟨b, o, none⟩) ps) (hat : PnAt w b (o + m * 5) ⟨leaf, eA, eC, ents, kA, kC, keys, dA, dC, kids, bA, bC, buf⟩) (ok : PN.ok B w ⟨leaf, eA, eC, ents, kA, kC, keys, dA, dC, kids, bA, bC, buf⟩)
    (hB : B ≤ sb) (hbl : b < B) (hS : SeenIs w sb ps.length S) (hlow : 0 ≤ low) (hhigh : high ≤ 1099511627776) (hlh : low < high) (hd1 : 1 ≤ d) (hd2 : d ≤ 12) (hseen : seenB S (m : Int) = false) (hl : leaf = false)
    (hin : inB (m : Int) 0 ((ps.length : Int) - 1) = true) (hf : f + 1 ≤ 12)
    (ih : Hid (∀ (n lo hi : Int) (S' : St) (w' : World), NodesAt B w' (some ⟨b, o, none⟩) ps → SeenIs w' sb ps.length S' → 0 ≤ lo → hi ≤ 1099511627776 → StOk ps.length S' → (∀ p ∈ ((m : Int), 12 - (f : Int)) :: S, p ∈ S') →
      Calls Tryd.prog 53 #[.agg #[.slice (some ⟨b, o, none⟩) ps.length C, .int .i64 r], .int .i64 n, .int .i64 lo, .int .i64 hi, .int .i64 (d + 1), .slice (some ⟨sb, 0, none⟩) ps.length ps.length] w'
        fun e w'' => e = .returned (.int .i64 (resH (W (ps.map PN.nd) f n lo hi S'))) ∧ Kept [sb] w' w'' ∧ ∀ S'' l, W (ps.map PN.nd) f n lo hi S' = some (S'', l) → resH (W (ps.map PN.nd) f n lo hi S') ≠ 0 → SeenIs w'' sb ps.length S''))
    (hst : StOk ps.length (((m : Int), 12 - (f : Int)) :: S)) (R : Option (St × List Int)) (hR : Hid (R = if innerB ⟨leaf, ents, keys, kids, buf⟩ low high = true then Wk (W (ps.map PN.nd) f) kids keys low high (((m : Int), 12 - (f : Int)) :: S) else none)) :
    Calls Tryd.prog 53 #[.agg #[.slice (some ⟨b, o, none⟩) ps.length C, .int .i64 r], .int .i64 (m : Int), .int .i64 low, .int .i64 high, .int .i64 d, .slice (some ⟨sb, 0, none⟩) ps.length ps.length] w
      fun e w' => e = .returned (.int .i64 (resH R)) ∧ Kept [sb] w w' ∧ ∀ S' l, R = some (S', l) → resH R ≠ 0 → SeenIs w' sb ps.length S' := by
  subst hl
  have hat0 := hat
  have ok0 := ok
  have hz := hN.z
  have hsb := hS.lt
  obtain ⟨c0, c1, c2, c3, c4⟩ := hat
  simp only at c0 c1 c2 c3 c4
  obtain ⟨e1, k1, t1, f1, -, -, -, -, ez, kz, dz, fz⟩ := ok
  simp only at e1 k1 t1 f1 ez kz dz fz
  have hc := hS.cell hm
  simp only [hseen, Bool.false_eq_true, if_false] at hc
  have hfz := hS.frozen m
  have hbs : ¬ b = sb := by omega
  have hbw : b < w.heap.size := by omega
  have KS : ∀ (W : World) (b' o' j : Nat) (v : Value), ¬ b' = sb → (W.setCell ⟨sb, j, none⟩ v).cell? ⟨b', o', none⟩ = W.cell? ⟨b', o', none⟩ := fun W b' o' j v hb => World.cell?_setCell_far _ _ _ _ (fun e => hb e.symm)
  have hk : ∀ o1 o2 : Obj, Kept [sb] w (((w.setCell ⟨sb, m, none⟩ (.int .i64 1)).alloc o1).alloc o2) := fun o1 o2 => (((Kept.refl _ _).set (.inl (by simp)) _).alloc _).alloc _
  have hs1 : ∀ o1 o2 : Obj, SeenIs (((w.setCell ⟨sb, m, none⟩ (.int .i64 1)).alloc o1).alloc o2) sb ps.length (((m : Int), 12 - (f : Int)) :: S) := fun o1 o2 => ((hS.set _).alloc _).alloc _
  have hBw : B ≤ w.heap.size := by omega
  have hbl0 : ∀ o1 o2 : Obj, Below B w (((w.setCell ⟨sb, m, none⟩ (.int .i64 1)).alloc o1).alloc o2) := fun o1 o2 => (hk o1 o2).below hBw (by simp; omega)
  by_cases h1 : 0 < ents.length
  · have E0 : Hid (R = none) := by
      show _ = _
      rw [hR.out, if_neg]
      intro hi
      have hi' := innerB_kids hi
      simp only at hi'
      have := hi'.1; rw [this] at h1; simp at h1
    have h1' : (0 : Int) < (ents.length : Int) := by omega
    rw [E0.out]
    clear hR ih hst
    go_enter Tryd.func53, Tryd.ntmps53
    go_wp2_with (first | (go_at_call 17; refine (in_any _ _ _ _).mono ?_; rintro e w1 ⟨rfl, rfl⟩) | (go_at_call 63; refine (entriesMay_any _ _ _ _ _ _ (f1.go (hbl0 _ _) (Nat.le_refl _) hBw) fz (by omega) (by omega)).mono ?_; rintro e w2 ⟨rfl, hb2⟩))
    go_ret
    exact ⟨rfl, hk _ _, fun _ _ h => by cases h⟩
  · have h1' : ¬ (0 : Int) < (ents.length : Int) := by omega
    by_cases h2 : inB (kids.length : Int) 2 4 = true
    · have h2x : 2 ≤ kids.length ∧ kids.length ≤ 4 := by simp [inB] at h2; omega
      by_cases h3 : keys.length + 1 = kids.length
      · have h3' : (keys.length : Int) + 1 = (kids.length : Int) := by omega
        by_cases h4 : 8 < buf.length
        · have E0 : Hid (R = none) := by
            show _ = _
            rw [hR.out, if_neg]
            intro hi
            have hi' := innerB_kids hi
            simp only at hi'
            omega
          have h4' : (8 : Int) < (buf.length : Int) := by omega
          rw [E0.out]
          clear hR ih hst
          go_enter Tryd.func53, Tryd.ntmps53
          go_wp2_with (first | (go_at_call 17; refine (in_any _ _ _ _).mono ?_; rintro e w1 ⟨rfl, rfl⟩) | (go_at_call 63; refine (entriesMay_any _ _ _ _ _ _ (f1.go (hbl0 _ _) (Nat.le_refl _) hBw) fz (by omega) (by omega)).mono ?_; rintro e w2 ⟨rfl, hb2⟩))
          go_ret
          exact ⟨rfl, hk _ _, fun _ _ h => by cases h⟩
        · have h4' : ¬ (8 : Int) < (buf.length : Int) := by omega
          by_cases h5 : entsB buf low high = true
          · have hI : innerB ⟨false, ents, keys, kids, buf⟩ low high = true := by
              simp only [innerB, Bool.and_eq_true, decide_eq_true_eq, beq_iff_eq, List.isEmpty_iff]
              exact ⟨⟨⟨⟨⟨List.eq_nil_of_length_eq_zero (by omega), h2x.1⟩, h2x.2⟩, h3⟩, by omega⟩, h5⟩
            refine height_kids b o C r ps sb f m B low high d S w false eA eC ents kA kC keys dA dC kids bA bC buf hm hN hat0 ok0 hB hbl hS hlow hhigh hlh hd1 hd2 hseen rfl hin hf ih (by omega) h2 h2x h3 (by omega) h5 R ?_ hst
            show _ = _
            rw [hR.out, if_pos hI]
          · have h5' : entsB buf low high = false := by simpa using h5
            have E0 : Hid (R = none) := by
              show _ = _
              rw [hR.out, if_neg]
              intro hi
              have hi' := innerB_kids hi
              simp only at hi'
              exact h5 hi'.2.2.2.2.2
            clear h5
            rw [E0.out]
            clear hR ih hst
            go_enter Tryd.func53, Tryd.ntmps53
            go_wp2_with (first | (go_at_call 17; refine (in_any _ _ _ _).mono ?_; rintro e w1 ⟨rfl, rfl⟩) | (go_at_call 63; refine (entriesMay_any _ _ _ _ _ _ (f1.go (hbl0 _ _) (Nat.le_refl _) hBw) fz (by omega) (by omega)).mono ?_; rintro e w2 ⟨rfl, hb2⟩))
            go_ret
            exact ⟨rfl, (hk _ _).trans (Kept.of_below hb2), fun _ _ h => by cases h⟩
      · have h3' : ¬ (keys.length : Int) + 1 = (kids.length : Int) := by omega
        have E0 : Hid (R = none) := by
          show _ = _
          rw [hR.out, if_neg]
          intro hi
          have hi' := innerB_kids hi
          simp only at hi'
          omega
        rw [E0.out]
        clear hR ih hst
        go_enter Tryd.func53, Tryd.ntmps53
        go_wp2_with (first | (go_at_call 17; refine (in_any _ _ _ _).mono ?_; rintro e w1 ⟨rfl, rfl⟩) | (go_at_call 63; refine (entriesMay_any _ _ _ _ _ _ (f1.go (hbl0 _ _) (Nat.le_refl _) hBw) fz (by omega) (by omega)).mono ?_; rintro e w2 ⟨rfl, hb2⟩))
        go_ret
        exact ⟨rfl, hk _ _, fun _ _ h => by cases h⟩
    · have h2' : inB (kids.length : Int) 2 4 = false := by simpa using h2
      have E0 : Hid (R = none) := by
        show _ = _
        rw [hR.out, if_neg]
        intro hi
        have hi' := innerB_kids hi
        simp only at hi'
        apply h2; simp [inB]; omega
      clear h2
      rw [E0.out]
      clear hR ih hst
      go_enter Tryd.func53, Tryd.ntmps53
      go_wp2_with (first | (go_at_call 17; refine (in_any _ _ _ _).mono ?_; rintro e w1 ⟨rfl, rfl⟩) | (go_at_call 63; refine (entriesMay_any _ _ _ _ _ _ (f1.go (hbl0 _ _) (Nat.le_refl _) hBw) fz (by omega) (by omega)).mono ?_; rintro e w2 ⟨rfl, hb2⟩))
      go_ret
      exact ⟨rfl, hk _ _, fun _ _ h => by cases h⟩

end Go.Proofs.YtlojfgdpmaigmadDoor

/- The document's 'height' of a tree, walked. -/
namespace Go.Proofs.YtlojfgdpmaigmadDoor
open Go.RowKit Plain

set_option maxRecDepth 20000 in
set_option maxHeartbeats 4000000 in
theorem height_any (A : Option Addr) (C : Nat) (r : Int) (ps : List PN) (sb : Nat) : ∀ (f : Nat), f ≤ 12 → ∀ (n low high d : Int) (S : St) (B : Nat) (w : World), d + (f : Int) = 13 → NodesAt B w A ps → B ≤ sb → SeenIs w sb ps.length S → 0 ≤ low → high ≤ 1099511627776 → (f = 12 → n = r) → (f < 12 → seenB S r = true) → StOk ps.length S →
    Calls Tryd.prog 53 #[.agg #[.slice A ps.length C, .int .i64 r], .int .i64 n, .int .i64 low, .int .i64 high, .int .i64 d, .slice (some ⟨sb, 0, none⟩) ps.length ps.length] w
      fun e w' => e = .returned (.int .i64 (resH (W (ps.map PN.nd) f n low high S))) ∧ Kept [sb] w w' ∧ ∀ S' l, W (ps.map PN.nd) f n low high S = some (S', l) → resH (W (ps.map PN.nd) f n low high S) ≠ 0 → SeenIs w' sb ps.length S' := by
  intro f
  induction f with
  | zero =>
    intro _ n low high d S B w hd0 hN hB hS hlow hhigh _ _ _
    obtain rfl : d = 13 := by omega
    clear hd0
    have hz := hN.z
    have E0 : Hid (resH (W (ps.map PN.nd) 0 n low high S) = 0) := rfl
    go_enter Tryd.func53, Tryd.ntmps53
    go_wp2_with (first | (go_at_call 17; refine (in_any _ _ _ _).mono ?_; rintro e w1 ⟨rfl, rfl⟩))
    all_goals go_ret
    all_goals exact ⟨ret_int E0.out.symm, (Kept.refl _ _).alloc _, fun _ _ h => by cases h⟩
  | succ f ih =>
    intro hf n low high d S B w hd0 hN hB hS hlow hhigh hr1 hr2 hst
    have hd1 : 1 ≤ d := by omega
    have hd2 : d ≤ 12 := by omega
    have HD : Hid (d = 12 - (f : Int)) := by show _ = _; omega
    clear hd0
    have hz := hN.z
    have hsb := hS.lt
    by_cases hin : inB n 0 ((ps.length : Int) - 1) = true
    · have hin' : 0 ≤ n ∧ n ≤ (ps.length : Int) - 1 := by simpa [inB] using hin
      obtain ⟨m, rfl⟩ : ∃ m : Nat, n = m := ⟨n.toNat, by omega⟩
      have hm : m < ps.length := by omega
      obtain ⟨b, o, rfl, hbl, c0, c1, c2, c3, c4⟩ := hN.row.pn hm
      have ok := hN.each m hm
      have hx : (ps.map PN.nd)[m]'(by simpa using hm) = (ps[m]).nd := by simp
      have hml : m < (ps.map PN.nd).length := by simpa using hm
      have hc := hS.cell hm
      have hfz := hS.frozen m
      have hbs : ¬ b = sb := by omega
      have hbw : b < w.heap.size := by omega
      have KS : ∀ (W : World) (b' o' j : Nat) (v : Value), ¬ b' = sb → (W.setCell ⟨sb, j, none⟩ v).cell? ⟨b', o', none⟩ = W.cell? ⟨b', o', none⟩ := fun W b' o' j v hb => World.cell?_setCell_far _ _ _ _ (fun e => hb e.symm)
      by_cases hseen : seenB S (m : Int) = true
      · have E0 : Hid (resH (W (ps.map PN.nd) (f + 1) m low high S) = 0) := by
          show _ = _
          rw [W_out (.inr (.inr (.inr hseen)))]; rfl
        have E1 : Hid (∀ S' l, W (ps.map PN.nd) (f + 1) m low high S = some (S', l) → False) := fun S' l h => by
          rw [W_out (.inr (.inr (.inr hseen)))] at h; cases h
        rw [if_pos hseen] at hc
        clear hseen ih
        go_enter Tryd.func53, Tryd.ntmps53
        go_wp2_with (first | (go_at_call 17; refine (in_any _ _ _ _).mono ?_; rintro e w1 ⟨rfl, rfl⟩))
        go_ret
        exact ⟨ret_int E0.out.symm, (((Kept.refl _ _).set (.inl (by simp)) _).alloc _).alloc _, fun S' l h => (E1.out S' l h).elim⟩
      · have hseen' : seenB S (m : Int) = false := by simpa using hseen
        by_cases hlh : low < high
        · have hroot : f = 11 ↔ (m : Int) = r := by
            constructor
            · intro e; exact hr1 (by omega)
            · intro e
              apply Classical.byContradiction
              intro hne
              have := hr2 (by omega)
              rw [← e] at this
              exact hseen this
          have hst1 : StOk ps.length (((m : Int), 12 - (f : Int)) :: S) := by
            refine ⟨?_, fun p hp => ?_⟩
            · rw [List.map_cons, List.nodup_cons]
              exact ⟨fun e => hseen (seenB_iff.2 e), hst.1⟩
            · rcases List.mem_cons.1 hp with rfl | hp
              · constructor
                · show (0 : Int) ≤ (m : Int); omega
                · show (m : Int) < (ps.length : Int); omega
              · exact hst.2 p hp
          have hat : PnAt w b (o + m * 5) ps[m] := ⟨c0, c1, c2, c3, c4⟩
          have hWl := W_leaf (f := f) (low := low) (high := high) (S := S) hml hx hlh hseen'
          have hWi := W_inner (f := f) (low := low) (high := high) (S := S) hml hx hlh hseen'
          clear c0 c1 c2 c3 c4 hx KS
          generalize ps[m] = p at *
          obtain ⟨leaf, eA, eC, ents, kA, kC, keys, dA, dC, kids, bA, bC, buf⟩ := p
          cases hleaf : leaf with
          | true =>
            subst hleaf
            by_cases hL : leafB ⟨true, ents, keys, kids, buf⟩ low high f = true
            · have hW1 : W (ps.map PN.nd) (f + 1) m low high S = some (((m : Int), 12 - (f : Int)) :: S, [12 - (f : Int)]) := (hWl rfl).trans (if_pos hL)
              rw [hW1]
              refine (height_leaf b o C r ps sb f m B low high d S w true eA eC ents kA kC keys dA dC kids bA bC buf hm hz hat ok hB hbl hS hlow hhigh hlh hd1 hd2 hseen' rfl hin hroot d (by show d = _; rw [if_pos hL])).mono ?_
              rintro e w' ⟨rfl, k1, k2⟩
              refine ⟨ret_int ?_, k1, fun S' l h _ => by cases h; exact k2⟩
              have := HD.out
              simpa [resH] using this
            · have hW1 : W (ps.map PN.nd) (f + 1) m low high S = none := (hWl rfl).trans (if_neg hL)
              rw [hW1]
              refine (height_leaf b o C r ps sb f m B low high d S w true eA eC ents kA kC keys dA dC kids bA bC buf hm hz hat ok hB hbl hS hlow hhigh hlh hd1 hd2 hseen' rfl hin hroot 0 (by show 0 = _; rw [if_neg hL])).mono ?_
              rintro e w' ⟨rfl, k1, k2⟩
              exact ⟨rfl, k1, fun _ _ h => by cases h⟩
          | false =>
            subst hleaf
            rw [hWi rfl]
            refine height_inner b o C r ps sb f m B low high d S w false eA eC ents kA kC keys dA dC kids bA bC buf hm hN hat ok hB hbl hS hlow hhigh hlh hd1 hd2 hseen' rfl hin hf (fun n lo hi S' w' a1 a2 a3 a4 a5 a6 => ?_) hst1 _ rfl
            have hd := HD.out
            refine ih (by omega) n lo hi (d + 1) S' B w' (by omega) a1 hB a2 a3 a4 (fun e => by omega) (fun _ => ?_) a5
            rw [seenB_iff]
            have hmem : r ∈ (((m : Int), 12 - (f : Int)) :: S).map (·.1) := by
              by_cases e : f = 11
              · rw [hroot.1 e] ; simp
              · exact List.mem_cons_of_mem _ (seenB_iff.1 (hr2 (by omega)))
            obtain ⟨p, hp, hpe⟩ := List.mem_map.1 hmem
            exact List.mem_map.2 ⟨p, a6 p hp, hpe⟩
        · have E0 : W (ps.map PN.nd) (f + 1) m low high S = none := W_out (.inr (.inr (.inl (by omega))))
          rw [E0]
          simp only [hseen', Bool.false_eq_true, if_false] at hc
          clear ih E0 hr1 hr2
          go_enter Tryd.func53, Tryd.ntmps53
          go_wp2_with (first | (go_at_call 17; refine (in_any _ _ _ _).mono ?_; rintro e w1 ⟨rfl, rfl⟩))
          go_ret
          exact ⟨rfl, (((Kept.refl _ _).set (.inl (by simp)) _).alloc _).alloc _, fun _ _ h => by cases h⟩
    · have hin' : inB n 0 ((ps.length : Int) - 1) = false := by simpa using hin
      have E0 : W (ps.map PN.nd) (f + 1) n low high S = none := W_out (by
        simp only [inB, Bool.and_eq_false_iff, decide_eq_false_iff_not] at hin'
        simp only [List.length_map]
        omega)
      rw [E0]
      clear hin ih E0
      go_enter Tryd.func53, Tryd.ntmps53
      go_wp2_with (first | (go_at_call 17; refine (in_any _ _ _ _).mono ?_; rintro e w1 ⟨rfl, rfl⟩))
      go_ret
      exact ⟨rfl, (Kept.refl _ _).alloc _, fun _ _ h => by cases h⟩

end Go.Proofs.YtlojfgdpmaigmadDoor

/- The document's answer to Check of package tree. -/
namespace Go.Proofs.YtlojfgdpmaigmadDoor
open Go.RowKit Plain

theorem infoI : (Tryd.prog.info? 3).map (fun i => (i.zero, i.size, i.bytes)) = some (some (.int .i64 0), 1, 8) := by kernel_rfl

theorem seen_start (w : World) (N : Nat) : SeenIs (w.alloc (.cells (madeCells #[.int .i64 0] N) 3)) w.heap.size N [] :=
  (World.rowIs_made w (.int .i64 0) N 3).congr fun i _ => by simp [seenB]

theorem seen_start2 (w : World) (o : Obj) (N : Nat) : SeenIs ((w.alloc o).alloc (.cells (madeCells #[.int .i64 0] N) 3)) (w.heap.size + 1) N [] := by
  have := seen_start (w.alloc o) N
  rwa [show (w.alloc o).heap.size = w.heap.size + 1 by simp] at this

/-- What the loop behind 'height' tells: were all nodes come to? -/
theorem treeC_some {ns : List Nd} {root : Int} {S : St} {l : List Int} (hn : ¬ 2000 < ns.length) (hW : W ns 12 root 0 1099511627776 [] = some (S, l)) (h0 : resH (some (S, l)) ≠ 0) : treeC ns root = if S.length = ns.length then 0 else 7 := by
  unfold treeC
  rw [if_neg hn, hW]
  have hok : okL 0 l = true := by
    obtain ⟨hl, he⟩ := resH_some rfl h0
    unfold okL
    rw [List.all_eq_true]
    intro x hx
    cases l with
    | nil => exact absurd rfl hl
    | cons d r =>
      have e1 := he x hx
      have e2 := he d List.mem_cons_self
      simp
      omega
  simp [hok]

theorem treeC_none {ns : List Nd} {root : Int} (hn : ¬ 2000 < ns.length) (h0 : resH (W ns 12 root 0 1099511627776 []) = 0) : treeC ns root = 7 := by
  unfold treeC
  rw [if_neg hn]
  cases hW : W ns 12 root 0 1099511627776 [] with
  | none => rfl
  | some p =>
    obtain ⟨S, l⟩ := p
    rw [hW] at h0
    have hd := W_ds 12 (Nat.le_refl _) _ _ _ _ _ _ hW
    obtain ⟨x, hx, y, hy, hxy⟩ := resH_zero h0 hd.1 hd.2
    have hno : ¬ okL 0 l = true := by
      intro hok
      unfold okL at hok
      rw [List.all_eq_true] at hok
      have a := hok x hx
      have b := hok y hy
      simp at a b
      omega
    simp [hno]

set_option maxRecDepth 20000 in
set_option maxHeartbeats 4000000 in
theorem treeFault_any (A : Option Addr) (C : Nat) (r : Int) (ps : List PN) (w : World) (hN : NodesAt w.heap.size w A ps) :
    Calls Tryd.prog 43 #[.agg #[.slice A ps.length C, .int .i64 r]] w fun e w' => e = .returned (.int .i64 (treeC (ps.map PN.nd) r)) ∧ Below w.heap.size w w' := by
  have hz := hN.z
  by_cases hbig : 2000 < ps.length
  · have E0 : Hid (treeC (ps.map PN.nd) r = 1) := by show _ = _; simp [treeC, hbig]
    have hbig' : (2000 : Int) < (ps.length : Int) := by omega
    go_enter Tryd.func43, Tryd.ntmps43
    go_wp2_with fail
    go_ret
    exact ⟨ret_int E0.out.symm, (Below.refl _ _).alloc (Nat.le_refl _) _⟩
  · have hn : ¬ 2000 < (ps.map PN.nd).length := by simpa using hbig
    have hmk := run_make_row' (P := Tryd.prog) 77 3 (.int .i64 0) 8 Tryd.underlying77 infoI rfl .i64 .i64 ps.length (by omega) (by omega)
    obtain ⟨hh, Hh'⟩ : ∃ hh, hh = resH (W (ps.map PN.nd) 12 r 0 1099511627776 []) := ⟨_, rfl⟩
    have HB : Hid ((hh = 0 → treeC (ps.map PN.nd) r = 7) ∧ (hh ≠ 0 → ∃ S l, W (ps.map PN.nd) 12 r 0 1099511627776 [] = some (S, l) ∧ treeC (ps.map PN.nd) r = (if S.length = ps.length then 0 else 7) ∧ (S.length = ps.length ↔ ∀ i : Nat, i < ps.length → seenB S i = true))) := by
      refine ⟨fun h0 => treeC_none hn (by rw [← Hh']; exact h0), fun h0 => ?_⟩
      cases hW : W (ps.map PN.nd) 12 r 0 1099511627776 [] with
      | none => rw [hW] at Hh'; exact absurd Hh' h0
      | some p =>
        obtain ⟨S, l⟩ := p
        rw [hW] at Hh'
        have e := treeC_some hn hW (by rw [← Hh']; exact h0)
        have hst := W_st 12 _ _ _ _ _ _ hW ⟨by simp, by simp⟩
        simp only [List.length_map] at e hst
        exact ⟨S, l, rfl, e, all_seen hst.1⟩
    have con : ∀ w' , NodesAt w.heap.size w' A ps → SeenIs w' (w.heap.size + 1) ps.length [] → Calls Tryd.prog 53 #[.agg #[.slice A ps.length C, .int .i64 r], .int .i64 r, .int .i64 0, .int .i64 1099511627776, .int .i64 1, .slice (some ⟨w.heap.size + 1, 0, none⟩) ps.length ps.length] w'
        fun e w'' => e = .returned (.int .i64 hh) ∧ Kept [w.heap.size + 1] w' w'' ∧ ∀ S' l, W (ps.map PN.nd) 12 r 0 1099511627776 [] = some (S', l) → hh ≠ 0 → SeenIs w'' (w.heap.size + 1) ps.length S' := by
      intro w' a1 a2
      rw [Hh']
      exact height_any A C r ps (w.heap.size + 1) 12 (Nat.le_refl _) r 0 1099511627776 1 [] w.heap.size w' (by decide) a1 (by omega) a2 (by decide) (by decide) (fun _ => rfl) (fun h => absurd h (by decide)) ⟨by simp, by simp⟩
    clear Hh'
    go_enter Tryd.func43, Tryd.ntmps43
    go_wp2_with (go_at_call 53; refine (con _ ?_ ?_).mono ?_; exact hN.below (((Below.refl _ _).alloc (Nat.le_refl _) _).alloc (by simp) _) (Nat.le_refl _); exact seen_start2 _ _ _; rintro e w1 ⟨rfl, hk1, hs1⟩)
    · have q : (hh == 0) = true := by assumption
      go_ret
      exact ⟨ret_int (HB.out.1 (by simpa using q)).symm, (((Below.refl _ _).alloc (Nat.le_refl _) _).alloc (by simp) _).trans (hk1.below (by simp; omega) (by simp))⟩
    · have q : (hh == 0) = false := by assumption
      have q' : hh ≠ 0 := by simpa using q
      have hbel : Below w.heap.size w w1 := (((Below.refl _ _).alloc (Nat.le_refl _) _).alloc (by simp) _).trans (hk1.below (by simp; omega) (by simp))
      obtain ⟨S, l, hW, hT, hA⟩ := HB.out.2 q'
      have hSn := hs1 S l hW q'
      have HT : Hid ((treeC (ps.map PN.nd) r = if S.length = ps.length then 0 else 7) ∧ (S.length = ps.length ↔ ∀ i : Nat, i < ps.length → seenB S i = true)) := ⟨hT, hA⟩
      clear hW hT hA hs1 hk1 HB con
      go_loopw [4] (fun vi wr => ∃ k : Nat, k ≤ ps.length ∧ vi = .int .i64 k ∧ wr = w1 ∧ ∀ j : Nat, j < k → seenB S j = true) (fun vi _ => ps.length - (intOf vi).toNat)
      case atStart => exact ⟨0, Nat.zero_le _, rfl, rfl, fun j hj => absurd hj (Nat.not_lt_zero _)⟩
      case round =>
        obtain ⟨k, hk, rfl, hwr, hall⟩ := hrel
        subst wr
        by_cases hlt : k < ps.length
        · have hc := hSn.cell hlt
          by_cases hs : seenB S (k : Int) = true
          · simp only [hs, if_true] at hc
            have HA : Hid (∀ j : Nat, j < k + 1 → seenB S j = true) := fun j hj => by
              by_cases e : j = k
              · subst e; exact hs
              · exact hall j (by omega)
            clear hall
            go_wp2
            go_roundw
            case rel => exact ⟨k + 1, by omega, by go_num, (by first | rfl | trivial), HA.out⟩
            case measure => simp [intOf]; omega
          · simp only [hs, Bool.false_eq_true, if_false] at hc
            clear hall
            go_wp2
            go_ret
            refine ⟨ret_int ?_, hbel⟩
            rw [HT.out.1, if_neg]
            intro e
            exact hs (HT.out.2.1 e k hlt)
        · obtain rfl : k = ps.length := by omega
          have HA : Hid (∀ j : Nat, j < ps.length → seenB S j = true) := hall
          clear hall
          go_wp2
          go_ret
          refine ⟨ret_int ?_, hbel⟩
          rw [HT.out.1, if_pos (HT.out.2.2 HA.out)]

end Go.Proofs.YtlojfgdpmaigmadDoor
