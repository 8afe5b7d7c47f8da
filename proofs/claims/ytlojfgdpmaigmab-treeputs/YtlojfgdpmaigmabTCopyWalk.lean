/- The document's TreeCopy: the same nodes, in new memory. -/
import Derived.Test.YtlojfgdpmaigmabP15
namespace Go.Proofs.Ytlojfgdpmaigmab
open Go.RowKit Plain

/-- The load of what the copy holds so far: by a name, so that the walk comes to it in each of its places (the region stores there in the end, so no one condition tells what it reads). -/
def ldOut : Op := .load 22 (.tmp 21)
theorem ldOut_fold : Op.load 22 (.tmp 21) = ldOut := rfl
theorem ldOut_open : ldOut = Op.load 22 (.tmp 21) := rfl
attribute [local go_sem] ldOut_open

theorem region_fold {P : Program} {id : Nat} {ops ops' : Array Oper} {Q : Exit → Act → World → Prop} {a : Act} {w : World} (h : ops = ops') (k : (Code.region id ops' true).wp P Q a w) : (Code.region id ops true).wp P Q a w := h ▸ k

set_option maxRecDepth 20000 in
set_option maxHeartbeats 8000000 in
theorem treeCopy_any (A : Option Addr) (C : Nat) (r : Int) (ps : List PN) (w : World) (h : NodesAt w.heap.size w A ps) :
    Calls Try.prog 18 #[.agg #[.slice A ps.length C, .int .i64 r]] w
      fun e w' => ∃ A' C' qs, e = .returned (.agg #[.slice A' qs.length C', .int .i64 r]) ∧ NodesAt w'.heap.size w' A' qs ∧ qs.map PN.nd = ps.map PN.nd ∧ Below w.heap.size w w' := by
  have hz := h.z
  obtain ⟨j0, hi0, hz0, hz1, hz2⟩ := info_parts infoN
  have HS := hideC (CopT.start w A C r ps.length)
  go_enter Try.func18, Try.ntmps18
  go_wp2_with fail
  go_loopw [4] (fun i wr => ∃ k qs Av Cv, k ≤ ps.length ∧ i = .int .i64 (k : Nat) ∧ qs.length = k ∧ CopT w wr A C r ps.length Av Cv qs ∧ qs.map PN.nd = (ps.take k).map PN.nd) (fun i _ => ps.length - (intOf i).toNat)
  case atStart => exact ⟨0, [], none, 0, Nat.zero_le _, rfl, rfl, HS.out, by simp⟩
  case round =>
    obtain ⟨k, qs, Av, Cv, hk, rfl, hql, hat, hmap⟩ := hrel
    have s0 : wr.cell? ⟨w.heap.size, 0, none⟩ = some (.slice A ps.length C) := hat.src.cell 0
    have sl := hat.out.lt
    have hle : w.heap.size ≤ wr.heap.size := hat.bel.size
    by_cases hlt : k < ps.length
    · have hN := h.below hat.bel (Nat.le_refl _)
      obtain ⟨b, o, rfl, hbl, c0, c1, c2, c3, c4⟩ := hN.row.pn hlt
      have ok := hN.each k hlt
      have hnk : (ps.take (k + 1)).map PN.nd = (ps.take k).map PN.nd ++ [(ps[k]).nd] := by rw [List.take_succ_eq_append_getElem hlt, List.map_append]; rfl
      have HM : Hid (qs.map PN.nd = (ps.take k).map PN.nd ∧ (ps.take (k + 1)).map PN.nd = (ps.take k).map PN.nd ++ [(ps[k]).nd]) := ⟨hmap, hnk⟩
      clear hN hmap hnk HS
      generalize ps[k] = p at *
      obtain ⟨leaf, eA, eC, ents, kA, kC, keys, dA, dC, kids, bA, bC, buf⟩ := p
      simp only at c0 c1 c2 c3 c4
      obtain ⟨e1, k1, t1, f1, en, kn, dn, fn, ez, kz, dz, fz⟩ := ok
      simp only at e1 k1 t1 f1 en kn dn fn ez kz dz fz
      have hbr : b < wr.heap.size := by omega
      have HQ : Hid (qs.length = k) := hql
      have oc : wr.cell? ⟨w.heap.size + 1 + 1, 0, none⟩ = some (.slice Av k Cv) := by rw [← hql]; exact hat.out.cell 0
      have hown : Hid (wr.ownsRow (w.heap.size + 3) 58 5 (.slice Av k Cv) k (flatN qs)) := by rw [← hql]; exact hat.own
      have hov : Hid (∀ x, (Value.slice Av k Cv).ownBlock = some x → w.heap.size + 3 ≤ x ∧ x < wr.heap.size) := own_block_lt hown.out
      have of : ∀ j, wr.frozen? ⟨w.heap.size + 1 + 1, j, none⟩ = false := fun j => hat.out.frozen j
      have HAT := hideC hat
      clear hql hat
      have i0 : (0 : Int) ≤ (k : Int) := by omega
      have i1 : (k : Int) < (ps.length : Int) := by omega
      have n1 : ¬ wr.heap.size = w.heap.size + 1 + 1 := by omega
      have n2 : ¬ w.heap.size + 1 + 1 = wr.heap.size := by omega
      have n3 : w.heap.size + 1 + 1 < wr.heap.size + 1 := by omega
      have KS : ∀ (W : World) (j : Nat) (v : Value), (W.setCell ⟨w.heap.size + 1 + 1, 0, none⟩ v).cell? ⟨wr.heap.size, j, none⟩ = W.cell? ⟨wr.heap.size, j, none⟩ := fun W j v => World.cell?_setCell_far _ _ _ _ (fun e => n2 e)
      go_wp2_with fail
      refine region_fold (by simp only [ldOut_fold]; rfl) ?_
      go_region_held3 (fun w' => w'.cell? ⟨wr.heap.size, 0, none⟩ = some (.bool leaf) ∧ w'.cell? ⟨wr.heap.size, 1, none⟩ = some (.slice eA ents.length eC) ∧ w'.cell? ⟨wr.heap.size, 2, none⟩ = some (.slice kA keys.length kC) ∧ w'.cell? ⟨wr.heap.size, 3, none⟩ = some (.slice dA kids.length dC) ∧ w'.cell? ⟨wr.heap.size, 4, none⟩ = some (.slice bA buf.length bC)) (go_keep)
        (first
          | (go_at_call_of 37 eA; refine (entries_any _ _ _ _ (e1.go (((Below.refl _ _).alloc (Nat.le_refl _) _).drew) hle (Nat.le_refl _)) ez).mono ?_; rintro e w1 ⟨v1, rfl, o1, hb1⟩; obtain ⟨A1, C1, rfl, -⟩ := own_row o1; have G1 : Below wr.heap.size wr w1 := nextB (((Below.refl _ _).alloc (Nat.le_refl _) _).drew) (Nat.le_refl _) hb1; have T1 := (bcells (hb1.mono (show wr.heap.size + 1 ≤ _ by simp))).1; have Z1 : wr.heap.size + 1 ≤ w1.heap.size := Nat.le_trans (by simp) hb1.size; have O1 : w1.cell? ⟨w.heap.size + 1 + 1, 0, none⟩ = some (.slice Av k Cv) := (G1.cell (p := ⟨w.heap.size + 1 + 1, 0, none⟩) sl).trans oc)
          | (refine step_app_nilI rfl (.const (.slice none 0 0)) (.tmp 29) rfl kA kC keys (by simp [Act.eval]) (by simp [Act.eval]) (k1.go G1 hle (Nat.le_refl _)) kn kz ?_; intro A2 C2 w2 o2 hb2; have G2 : Below wr.heap.size wr w2 := nextB G1 (Nat.le_refl _) hb2; have T2 := (bcells (hb2.mono (show wr.heap.size + 1 ≤ _ by exact Z1))).1; have Z2 : wr.heap.size + 1 ≤ w2.heap.size := Nat.le_trans (Z1) hb2.size; have O2 : w2.cell? ⟨w.heap.size + 1 + 1, 0, none⟩ = some (.slice Av k Cv) := (G2.cell (p := ⟨w.heap.size + 1 + 1, 0, none⟩) sl).trans oc)
          | (refine step_app_nilI rfl (.const (.slice none 0 0)) (.tmp 32) rfl dA dC kids (by simp [Act.eval]) (by simp [Act.eval]) (t1.go G2 hle (Nat.le_refl _)) dn dz ?_; intro A3 C3 w3 o3 hb3; have G3 : Below wr.heap.size wr w3 := nextB G2 (Nat.le_refl _) hb3; have T3 := (bcells (hb3.mono (show wr.heap.size + 1 ≤ _ by exact Z2))).1; have Z3 : wr.heap.size + 1 ≤ w3.heap.size := Nat.le_trans (Z2) hb3.size; have O3 : w3.cell? ⟨w.heap.size + 1 + 1, 0, none⟩ = some (.slice Av k Cv) := (G3.cell (p := ⟨w.heap.size + 1 + 1, 0, none⟩) sl).trans oc)
          | (go_at_call_of 37 bA; refine (entries_any _ _ _ _ (f1.go G3 hle (Nat.le_refl _)) fz).mono ?_; rintro e w4 ⟨v4, rfl, o4, hb4⟩; obtain ⟨A4, C4, rfl, -⟩ := own_row o4; have G4 : Below wr.heap.size wr w4 := nextB G3 (Nat.le_refl _) hb4; have T4 := (bcells (hb4.mono (show wr.heap.size + 1 ≤ _ by exact Z3))).1; have Z4 : wr.heap.size + 1 ≤ w4.heap.size := Nat.le_trans (Z3) hb4.size; have O4 : w4.cell? ⟨w.heap.size + 1 + 1, 0, none⟩ = some (.slice Av k Cv) := (G4.cell (p := ⟨w.heap.size + 1 + 1, 0, none⟩) sl).trans oc; have OA4 : ∀ ob : Obj, (w4.alloc ob).cell? ⟨w.heap.size + 1 + 1, 0, none⟩ = some (.slice Av k Cv) := fun ob => ((((Below.refl w4.heap.size w4).alloc (Nat.le_refl _) ob).cell (p := ⟨w.heap.size + 1 + 1, 0, none⟩) (by show w.heap.size + 1 + 1 < w4.heap.size; omega))).trans O4)
          | (refine step_append_lies _ rfl (.tmp 22) (.tmp 38) 22 rfl (w.heap.size + 3) 58 j0 _ 5 104 Try.underlying22 hi0 hz0 hz1 hz2 rfl (by decide) (.slice Av k Cv) k (flatN qs) (by simp [Act.eval]) (own_next (own_next hown.out G4) ((Below.refl _ _).alloc (Nat.le_refl _) _)) ⟨w4.heap.size, 0, none⟩ 1 1 (flatN [⟨leaf, A1, C1, ents, A2, C2, keys, A3, C3, kids, A4, C4, buf⟩]) (by simp [Act.eval]) rfl (newsN _ _ _ _ (rowL_alloc w4 _ _)) (flatN_one _) (by decide) (by unfold maxLen; omega) (by omega) (by simp; omega) (w4.heap.size + 1) (by simp) ?_; intro g' C' w5 hown5 hgrow5 hat5 hlt5; have CF : ∀ j, w5.cell? ⟨wr.heap.size, j, none⟩ = w4.cell? ⟨wr.heap.size, j, none⟩ := (fun j => (hgrow5.cell_far ⟨wr.heap.size, j, none⟩ (by show wr.heap.size < _; simp; omega) (fun e => by have := (hov.out wr.heap.size e.symm).2; omega)).trans (((Below.refl w4.heap.size w4).alloc (Nat.le_refl _) _).cell (p := ⟨wr.heap.size, j, none⟩) (by show wr.heap.size < w4.heap.size; omega))); have O5 : w5.cell? ⟨w.heap.size + 1 + 1, 0, none⟩ = some (.slice Av k Cv) := (hgrow5.cell_far ⟨w.heap.size + 1 + 1, 0, none⟩ (by show w.heap.size + 1 + 1 < _; simp; omega) (fun e => by have := (hov.out (w.heap.size + 1 + 1) e.symm).1; omega)).trans (OA4 _); have F5 : w5.frozen? ⟨w.heap.size + 1 + 1, 0, none⟩ = false := (hgrow5.frozen_far ⟨w.heap.size + 1 + 1, 0, none⟩ (by show w.heap.size + 1 + 1 < _; simp; omega) (fun e => by have := (hov.out (w.heap.size + 1 + 1) e.symm).1; omega)).trans ((((Below.refl w4.heap.size w4).alloc (Nat.le_refl _) _).frozen (p := ⟨w.heap.size + 1 + 1, 0, none⟩) (by show w.heap.size + 1 + 1 < w4.heap.size; omega)).trans ((G4.frozen (p := ⟨w.heap.size + 1 + 1, 0, none⟩) sl).trans (of 0))); have HR := hideC (And.intro hown5 (And.intro hgrow5 hat5)); clear hown5 hgrow5 hat5))
      all_goals
        have hqlen := HQ.out
        obtain ⟨hm1, hm2⟩ := HM.out
        obtain ⟨hown5, hgrow5, hat5⟩ := HR.out
        clear HM HQ HR
        subst hqlen
        have hb34 : Below w2.heap.size w2 w4 := nextB hb3 (Nat.le_refl _) hb4
        have hb234 : Below w1.heap.size w1 w4 := nextB hb2 (Nat.le_refl _) hb34
        have q1 : w4.ownsRow wr.heap.size _ _ _ _ _ := own_mono (own_next o1 hb234) (by simp)
        have q2 : w4.ownsRow wr.heap.size _ _ _ _ _ := own_mono (own_next o2 hb34) (by omega)
        have q3 : w4.ownsRow wr.heap.size _ _ _ _ _ := own_mono (own_next o3 hb4) (by omega)
        have q4 : w4.ownsRow wr.heap.size _ _ _ _ _ := own_mono o4 (by omega)
        have hq : PN.own wr.heap.size w4 ⟨leaf, A1, C1, ents, A2, C2, keys, A3, C3, kids, A4, C4, buf⟩ := ⟨q1, q2, q3, q4, ez, kz, dz, fz⟩
        have R := HAT.out.step G4 hq hown5 hgrow5 hat5
        have Rm : (qs ++ [PN.mk leaf A1 C1 ents A2 C2 keys A3 C3 kids A4 C4 buf]).map PN.nd = (ps.take (qs.length + 1)).map PN.nd := by
          rw [hm2, List.map_append, hm1]; rfl
        have RR := hideC (And.intro R Rm)
        clear R Rm hq q1 q2 q3 q4 o1 o2 o3 o4 hm1 hm2 T1 T2 T3 T4 KS CF O1 O2 O3 O4 OA4 O5 F5 hown5 hgrow5 hat5 hown hov HAT
        go_wp2
        go_roundw
        case rel =>
          go_light
          obtain ⟨R, Rm⟩ := RR.out
          exact ⟨qs.length + 1, qs ++ [PN.mk leaf A1 C1 ents A2 C2 keys A3 C3 kids A4 C4 buf], _, _, by omega, by go_num, by simp, R, Rm⟩
        case measure => simp [intOf]; omega
    · obtain rfl : k = ps.length := by omega
      have o0 : wr.cell? ⟨w.heap.size + 1 + 1, 0, none⟩ = some (.slice Av ps.length Cv) := by rw [← hql]; exact hat.out.cell 0
      have o1 : wr.cell? ⟨w.heap.size + 1 + 1, 1, none⟩ = some (.int .i64 r) := hat.out.cell 1
      have r0 : wr.cell? ⟨w.heap.size + 1, 0, none⟩ = some (.slice none 0 0) := hat.res.cell 0
      have r1 : wr.cell? ⟨w.heap.size + 1, 1, none⟩ = some (.int .i64 0) := hat.res.cell 1
      have rf : ∀ j, wr.frozen? ⟨w.heap.size + 1, j, none⟩ = false := fun j => hat.res.frozen j
      have HQ := hideC (And.intro hql (And.intro hat hmap))
      have hni : ¬ ((ps.length : Int) < (ps.length : Int)) := by omega
      clear hql hat hmap HS
      go_wp2
      obtain ⟨hql, hat, hmap⟩ := HQ.out
      rw [List.take_length] at hmap
      have hE := hat.fin (by rw [hql]; exact hz) (.slice Av ps.length Cv) (.int .i64 r)
      exact bodyPost_ret (v := .agg #[.slice Av ps.length Cv, .int .i64 r]) (by simp [results, Try.results18, go_sem, r0, r1]) rfl ⟨Av, Cv, qs, by rw [hql], hE.1, hmap, hE.2⟩

end Go.Proofs.Ytlojfgdpmaigmab
