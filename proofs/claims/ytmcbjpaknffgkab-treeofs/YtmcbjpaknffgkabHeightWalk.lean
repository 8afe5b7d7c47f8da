/- The document's 'height' of a tree, walked. -/
import Derived.Test.YtmcbjpaknffgkabHeightInner
namespace Go.Proofs.Ytmcbjpaknffgkab
open Go.RowKit Plain

set_option maxRecDepth 20000 in
set_option maxHeartbeats 4000000 in
theorem height_any (A : Option Addr) (C : Nat) (r : Int) (ps : List PN) (sb : Nat) : ∀ (f : Nat), f ≤ 12 → ∀ (n low high d : Int) (S : St) (B : Nat) (w : World), d + (f : Int) = 13 → NodesAt B w A ps → B ≤ sb → SeenIs w sb ps.length S → 0 ≤ low → high ≤ 1099511627776 → (f = 12 → n = r) → (f < 12 → seenB S r = true) → StOk ps.length S →
    Calls Try.prog 27 #[.agg #[.slice A ps.length C, .int .i64 r], .int .i64 n, .int .i64 low, .int .i64 high, .int .i64 d, .slice (some ⟨sb, 0, none⟩) ps.length ps.length] w
      fun e w' => e = .returned (.int .i64 (resH (W (ps.map PN.nd) f n low high S))) ∧ Kept [sb] w w' ∧ ∀ S' l, W (ps.map PN.nd) f n low high S = some (S', l) → resH (W (ps.map PN.nd) f n low high S) ≠ 0 → SeenIs w' sb ps.length S' := by
  intro f
  induction f with
  | zero =>
    intro _ n low high d S B w hd0 hN hB hS hlow hhigh _ _ _
    obtain rfl : d = 13 := by omega
    clear hd0
    have hz := hN.z
    have E0 : Hid (resH (W (ps.map PN.nd) 0 n low high S) = 0) := rfl
    go_enter Try.func27, Try.ntmps27
    go_wp2_with (first | (go_at_call 36; refine (in_any _ _ _ _).mono ?_; rintro e w1 ⟨rfl, rfl⟩))
    all_goals go_ret
    all_goals exact ⟨ret_int E0.out.symm, (Kept.refl _ _).alloc _, fun _ _ h => by cases h⟩
  | succ f ih =>
    intro hf n low high d S B w hd0 hN hB hS hlow hhigh hr1 hr2 hst
    have hd1 : 1 ≤ d := by omega
    have hd2 : d ≤ 12 := by omega
    have HD : Hid (d = 12 - (f : Int)) := by show _ = _; omega
    clear hd0
    have hz := hN.z
    have hsb := hS.lt
    by_cases hin : inB n 0 ((ps.length : Int) - 1) = true
    · have hin' : 0 ≤ n ∧ n ≤ (ps.length : Int) - 1 := by simpa [inB] using hin
      obtain ⟨m, rfl⟩ : ∃ m : Nat, n = m := ⟨n.toNat, by omega⟩
      have hm : m < ps.length := by omega
      obtain ⟨b, o, rfl, hbl, c0, c1, c2, c3, c4⟩ := hN.row.pn hm
      have ok := hN.each m hm
      have hx : (ps.map PN.nd)[m]'(by simpa using hm) = (ps[m]).nd := by simp
      have hml : m < (ps.map PN.nd).length := by simpa using hm
      have hc := hS.cell hm
      have hfz := hS.frozen m
      have hbs : ¬ b = sb := by omega
      have hbw : b < w.heap.size := by omega
      have KS : ∀ (W : World) (b' o' j : Nat) (v : Value), ¬ b' = sb → (W.setCell ⟨sb, j, none⟩ v).cell? ⟨b', o', none⟩ = W.cell? ⟨b', o', none⟩ := fun W b' o' j v hb => World.cell?_setCell_far _ _ _ _ (fun e => hb e.symm)
      by_cases hseen : seenB S (m : Int) = true
      · have E0 : Hid (resH (W (ps.map PN.nd) (f + 1) m low high S) = 0) := by
          show _ = _
          rw [W_out (.inr (.inr (.inr hseen)))]; rfl
        have E1 : Hid (∀ S' l, W (ps.map PN.nd) (f + 1) m low high S = some (S', l) → False) := fun S' l h => by
          rw [W_out (.inr (.inr (.inr hseen)))] at h; cases h
        rw [if_pos hseen] at hc
        clear hseen ih
        go_enter Try.func27, Try.ntmps27
        go_wp2_with (first | (go_at_call 36; refine (in_any _ _ _ _).mono ?_; rintro e w1 ⟨rfl, rfl⟩))
        go_ret
        exact ⟨ret_int E0.out.symm, (((Kept.refl _ _).set (.inl (by simp)) _).alloc _).alloc _, fun S' l h => (E1.out S' l h).elim⟩
      · have hseen' : seenB S (m : Int) = false := by simpa using hseen
        by_cases hlh : low < high
        · have hroot : f = 11 ↔ (m : Int) = r := by
            constructor
            · intro e; exact hr1 (by omega)
            · intro e
              apply Classical.byContradiction
              intro hne
              have := hr2 (by omega)
              rw [← e] at this
              exact hseen this
          have hst1 : StOk ps.length (((m : Int), 12 - (f : Int)) :: S) := by
            refine ⟨?_, fun p hp => ?_⟩
            · rw [List.map_cons, List.nodup_cons]
              exact ⟨fun e => hseen (seenB_iff.2 e), hst.1⟩
            · rcases List.mem_cons.1 hp with rfl | hp
              · constructor
                · show (0 : Int) ≤ (m : Int); omega
                · show (m : Int) < (ps.length : Int); omega
              · exact hst.2 p hp
          have hat : PnAt w b (o + m * 5) ps[m] := ⟨c0, c1, c2, c3, c4⟩
          have hWl := W_leaf (f := f) (low := low) (high := high) (S := S) hml hx hlh hseen'
          have hWi := W_inner (f := f) (low := low) (high := high) (S := S) hml hx hlh hseen'
          clear c0 c1 c2 c3 c4 hx KS
          generalize ps[m] = p at *
          obtain ⟨leaf, eA, eC, ents, kA, kC, keys, dA, dC, kids, bA, bC, buf⟩ := p
          cases hleaf : leaf with
          | true =>
            subst hleaf
            by_cases hL : leafB ⟨true, ents, keys, kids, buf⟩ low high f = true
            · have hW1 : W (ps.map PN.nd) (f + 1) m low high S = some (((m : Int), 12 - (f : Int)) :: S, [12 - (f : Int)]) := (hWl rfl).trans (if_pos hL)
              rw [hW1]
              refine (height_leaf b o C r ps sb f m B low high d S w true eA eC ents kA kC keys dA dC kids bA bC buf hm hz hat ok hB hbl hS hlow hhigh hlh hd1 hd2 hseen' rfl hin hroot d (by show d = _; rw [if_pos hL])).mono ?_
              rintro e w' ⟨rfl, k1, k2⟩
              refine ⟨ret_int ?_, k1, fun S' l h _ => by cases h; exact k2⟩
              have := HD.out
              simpa [resH] using this
            · have hW1 : W (ps.map PN.nd) (f + 1) m low high S = none := (hWl rfl).trans (if_neg hL)
              rw [hW1]
              refine (height_leaf b o C r ps sb f m B low high d S w true eA eC ents kA kC keys dA dC kids bA bC buf hm hz hat ok hB hbl hS hlow hhigh hlh hd1 hd2 hseen' rfl hin hroot 0 (by show 0 = _; rw [if_neg hL])).mono ?_
              rintro e w' ⟨rfl, k1, k2⟩
              exact ⟨rfl, k1, fun _ _ h => by cases h⟩
          | false =>
            subst hleaf
            rw [hWi rfl]
            refine height_inner b o C r ps sb f m B low high d S w false eA eC ents kA kC keys dA dC kids bA bC buf hm hN hat ok hB hbl hS hlow hhigh hlh hd1 hd2 hseen' rfl hin hf (fun n lo hi S' w' a1 a2 a3 a4 a5 a6 => ?_) hst1 _ rfl
            have hd := HD.out
            refine ih (by omega) n lo hi (d + 1) S' B w' (by omega) a1 hB a2 a3 a4 (fun e => by omega) (fun _ => ?_) a5
            rw [seenB_iff]
            have hmem : r ∈ (((m : Int), 12 - (f : Int)) :: S).map (·.1) := by
              by_cases e : f = 11
              · rw [hroot.1 e] ; simp
              · exact List.mem_cons_of_mem _ (seenB_iff.1 (hr2 (by omega)))
            obtain ⟨p, hp, hpe⟩ := List.mem_map.1 hmem
            exact List.mem_map.2 ⟨p, a6 p hp, hpe⟩
        · have E0 : W (ps.map PN.nd) (f + 1) m low high S = none := W_out (.inr (.inr (.inl (by omega))))
          rw [E0]
          simp only [hseen', Bool.false_eq_true, if_false] at hc
          clear ih E0 hr1 hr2
          go_enter Try.func27, Try.ntmps27
          go_wp2_with (first | (go_at_call 36; refine (in_any _ _ _ _).mono ?_; rintro e w1 ⟨rfl, rfl⟩))
          go_ret
          exact ⟨rfl, (((Kept.refl _ _).set (.inl (by simp)) _).alloc _).alloc _, fun _ _ h => by cases h⟩
    · have hin' : inB n 0 ((ps.length : Int) - 1) = false := by simpa using hin
      have E0 : W (ps.map PN.nd) (f + 1) n low high S = none := W_out (by
        simp only [inB, Bool.and_eq_false_iff, decide_eq_false_iff_not] at hin'
        simp only [List.length_map]
        omega)
      rw [E0]
      clear hin ih E0
      go_enter Try.func27, Try.ntmps27
      go_wp2_with (first | (go_at_call 36; refine (in_any _ _ _ _).mono ?_; rintro e w1 ⟨rfl, rfl⟩))
      go_ret
      exact ⟨rfl, (Kept.refl _ _).alloc _, fun _ _ h => by cases h⟩

end Go.Proofs.Ytmcbjpaknffgkab
