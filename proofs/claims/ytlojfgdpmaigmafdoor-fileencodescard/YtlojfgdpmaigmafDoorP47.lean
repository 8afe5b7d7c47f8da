/- base.Check: what package base says of a base. -/
import Derived.Test.YtlojfgdpmaigmafDoorCheckB1
import Derived.Test.YtlojfgdpmaigmafDoorBucketWalk
import Derived.Test.YtlojfgdpmaigmafDoorMayWalk
namespace Go.Proofs.YtlojfgdpmaigmafDoor
open Go.RowKit Plain

/-- What the program asks of a base's trees. -/
def treesC (n f : Int) (n0 : List Nd) (r0 : Int) (n1 : List Nd) (r1 : Int) (n2 : List Nd) (r2 : Int) : Bool :=
  decide ((allP n0 r0 0 1099511627776).1 = 0) && ((allP n0 r0 0 1099511627776).2.all (pointB n f) && (stepB 60 (allP n0 r0 0 1099511627776).2 n1 r1 && stepB 3600 (allP n0 r0 0 1099511627776).2 n2 r2))

theorem trees_eq (n f : Int) (n0 : List Nd) (r0 : Int) (n1 : List Nd) (r1 : Int) (n2 : List Nd) (r2 : Int) : treesC n f n0 r0 n1 r1 n2 r2 = treesB n f n0 r0 n1 r1 n2 r2 := by
  unfold treesC treesB
  cases hb : bookP n0 r0 n f with
  | some l =>
    obtain ⟨h1, h2, h3⟩ := book_some hb
    show _ = (stepB 1 l n0 r0 && (stepB 60 l n1 r1 && stepB 3600 l n2 r2))
    rw [step_one hb, h1, h2, h3]
    simp
  | none =>
    unfold bookP at hb
    split at hb
    · cases hb
    · rename_i hc
      by_cases h1 : (allP n0 r0 0 1099511627776).1 = 0
      · have h2 : (allP n0 r0 0 1099511627776).2.all (pointB n f) = false := by
          cases h : (allP n0 r0 0 1099511627776).2.all (pointB n f) with
          | false => rfl
          | true => exact absurd ⟨h1, h⟩ hc
        rw [h2]
        simp
      · simp [h1]

set_option maxRecDepth 20000 in
set_option maxHeartbeats 1000000 in
theorem treesMayBe_any (A : Option Addr) (C : Nat) (ss : List ByteArray) (t0 t1 t2 : TR) (f : Int) (w : World) (hZ : SzAt w) (h0 : t0.ok w) (h1 : t1.ok w) (h2 : t2.ok w) :
    Calls Tryd.prog 20 #[.agg (baseV A C ss t0 t1 t2 f).toArray] w fun e w' => e = .returned (.bool (treesC ss.length f (t0.ps.map PN.nd) t0.r (t1.ps.map PN.nd) t1.r (t2.ps.map PN.nd) t2.r)) ∧ Below w.heap.size w w' := by
  have b0 : ∀ o : Obj, Below w.heap.size w (w.alloc o) := fun o => (Below.refl _ _).alloc (Nat.le_refl _) o
  obtain ⟨nb, hnb⟩ : ∃ nb, nb = treesC ss.length f (t0.ps.map PN.nd) t0.r (t1.ps.map PN.nd) t1.r (t2.ps.map PN.nd) t2.r := ⟨_, rfl⟩
  have HN : Hid (nb = treesC ss.length f (t0.ps.map PN.nd) t0.r (t1.ps.map PN.nd) t1.r (t2.ps.map PN.nd) t2.r) := hnb
  rw [← hnb]
  clear hnb
  have ptc := fun (VA : Option Addr) (VC : Nat) (L : List En) w' h' hz hk hg => points_any (ss.length : Int) f VA VC L w' h' hz hk hg
  obtain ⟨A0, C0, p0, r0⟩ := t0
  obtain ⟨A1, C1, p1, r1⟩ := t1
  obtain ⟨A2, C2, p2, r2⟩ := t2
  obtain ⟨n0, f0, -⟩ := h0
  obtain ⟨n1, f1, -⟩ := h1
  obtain ⟨n2, f2, -⟩ := h2
  simp only [baseV] at *
  have g0 := fun w' hN => ball_any A0 C0 r0 p0 w' hN f0
  have hfc := allP_facts (ns := p0.map PN.nd) (r := r0) (low := 0) (high := 1099511627776)
  have hlen := allP_len (p0.map PN.nd) r0 0 1099511627776
  have HT : Hid (nb = (decide ((allP (p0.map PN.nd) r0 0 1099511627776).1 = 0) && ((allP (p0.map PN.nd) r0 0 1099511627776).2.all (pointB ss.length f) && (stepB 60 (allP (p0.map PN.nd) r0 0 1099511627776).2 (p1.map PN.nd) r1 && stepB 3600 (allP (p0.map PN.nd) r0 0 1099511627776).2 (p2.map PN.nd) r2)))) := HN.out
  generalize allP (p0.map PN.nd) r0 0 1099511627776 = P at g0 hfc hlen HT
  obtain ⟨c, L⟩ := P
  simp only at g0 hfc hlen HT
  clear HN
  have bx : ∀ w', Below (w.alloc (.cells #[.slice A ss.length C, .slice A0 p0.length C0, .int .i64 r0, .slice A1 p1.length C1, .int .i64 r1, .slice A2 p2.length C2, .int .i64 r2, .int .i64 f] 28)).heap.size (w.alloc (.cells #[.slice A ss.length C, .slice A0 p0.length C0, .int .i64 r0, .slice A1 p1.length C1, .int .i64 r1, .slice A2 p2.length C2, .int .i64 r2, .int .i64 f] 28)) w' → RowL w' w.heap.size 28 [.slice A ss.length C, .slice A0 p0.length C0, .int .i64 r0, .slice A1 p1.length C1, .int .i64 r1, .slice A2 p2.length C2, .int .i64 r2, .int .i64 f] := fun w' hb => (rowL_alloc w _ _).below hb (by simp)
  have BX := hideM bx
  clear bx
  by_cases hc : c = 0
  · subst hc
    have pt := fun VA VC w' h' => ptc VA VC L w' h' hlen hfc.2.2 hfc.2.1
    cases hpb : L.all (pointB ss.length f) with
    | false =>
      have H1 : Hid (nb = false) := by
        show _ = _
        rw [HT.out, hpb]
        simp
      simp only [hpb] at pt
      clear HT ptc
      go_enter Tryd.func20, Tryd.ntmps20
      go_wp2_with (first
        | (go_at_call 35; refine (g0 _ (n0.up (b0 _))).mono ?_; rintro e w1 ⟨hb1, v, rfl, ho⟩; obtain ⟨VA, VC, hvv, -, -, -, hrow⟩ := own_row ho; subst hvv; have hw1 : Below w.heap.size w w1 := nextB (b0 _) (Nat.le_refl _) hb1; have rb := BX.out _ hb1; have yy := (fun j => rb.cell j); have lb := rb.lt)
        | (go_at_call 36; refine (pt VA VC _ hrow).mono ?_; rintro e w2 ⟨rfl, hb2⟩))
      go_ret
      exact ⟨by rw [H1.out]; rfl, nextB hw1 (Nat.le_refl _) hb2⟩
    | true =>
      have HT2 : Hid (nb = (stepB 60 L (p1.map PN.nd) r1 && stepB 3600 L (p2.map PN.nd) r2)) := by
        show _ = _
        rw [HT.out, hpb]
        simp
      simp only [hpb] at pt
      clear HT ptc
      go_enter Tryd.func20, Tryd.ntmps20
      go_wp2_with (first
        | (go_at_call 35; refine (g0 _ (n0.up (b0 _))).mono ?_; rintro e w1 ⟨hb1, v, rfl, ho⟩; obtain ⟨VA, VC, hvv, -, -, -, hrow⟩ := own_row ho; subst hvv; have hw1 : Below w.heap.size w w1 := nextB (b0 _) (Nat.le_refl _) hb1; have rb := BX.out _ hb1; have yy := (fun j => rb.cell j); have lb := rb.lt)
        | (go_at_call 36; refine (pt VA VC _ hrow).mono ?_; rintro e w2 ⟨rfl, hb2⟩))
      have rb2 := rb.below hb2 lb
      have lb2 := rb2.lt
      have hw2 : Below w.heap.size w w2 := nextB hw1 (Nat.le_refl _) hb2
      have hrow2 := hrow.up hb2
      clear yy rb lb hb2 hb1 hw1 hrow pt g0 hpb
      go_loopw [5] (fun v5 wr => ∃ k : Nat, 1 ≤ k ∧ k ≤ 3 ∧ v5 = .int .i64 k ∧ Hid ((1 < k → stepB 60 L (p1.map PN.nd) r1 = true) ∧ (2 < k → stepB 3600 L (p2.map PN.nd) r2 = true)) ∧ Below w2.heap.size w2 wr) (fun v5 _ => 3 - (intOf v5).toNat)
      case atStart => exact ⟨1, by omega, by omega, rfl, ⟨fun h => by omega, fun h => by omega⟩, Below.refl _ _⟩
      case round =>
        obtain ⟨k, hk1, hk3, rfl, HP, hb⟩ := hrel
        have hwr : Below w.heap.size w wr := nextB hw2 (Nat.le_refl _) hb
        have rb1 := rb2.below hb lb2
        have lb1 := rb1.lt
        have yy := fun j => rb1.cell j
        have hrw := hrow2.up hb
        rcases (show k = 1 ∨ k = 2 ∨ k = 3 by omega) with rfl | rfl | rfl
        · have gk := fun w' hN => ball_any A1 C1 r1 p1 w' hN f1
          have hll := allP_len (p1.map PN.nd) r1 0 1099511627776
          have HS : Hid (stepB 60 L (p1.map PN.nd) r1 = match rollP 60 L with | none => false | some W => decide ((allP (p1.map PN.nd) r1 0 1099511627776).1 = 0) && decide (W = (allP (p1.map PN.nd) r1 0 1099511627776).2)) := rfl
          have HFk : Hid (stepB 60 L (p1.map PN.nd) r1 = false → nb = false) := fun q => by
            rw [HT2.out, q]
            simp
          generalize allP (p1.map PN.nd) r1 0 1099511627776 = P at gk hll HS
          obtain ⟨c, M⟩ := P
          simp only at gk hll HS
          by_cases hc : c = 0
          · subst hc
            cases hroll : rollP 60 L with
            | none =>
              have HF : Hid (nb = false) := HFk.out (by rw [HS.out, hroll])
              have conB : ∀ w', RowAt w'.heap.size w' VA (flatE L) → Calls Tryd.prog 37 #[.slice VA L.length VC, .int .i64 60] w' fun e w'' => e = .returned (.tuple #[.slice none 0 0, .int .i64 1]) ∧ Below w'.heap.size w' w'' := fun w' hr => buckets_any VA VC L 60 (Or.inl rfl) w' hr hlen hfc.1 hfc.2.1 hfc.2.2 _ (fun e w'' q1 _ q3 => ⟨q3 hroll, q1⟩)
              clear HS HFk hroll HT2 HP
              go_wp2_with (first | (go_at_call 35; refine (gk _ (n1.up hwr)).mono ?_; rintro e w3 ⟨hb3, v3, rfl, ho3⟩; obtain ⟨LA, LC, hv3, -, -, -, hr3⟩ := own_row ho3; subst hv3; have hw3 : Below w.heap.size w w3 := nextB hwr (Nat.le_refl _) hb3; have zs := hZ.below hw3; have zi := sz_i1; have hrw3 := hrw.up hb3) | (go_at_call 34; refine (sizes_any _ zs).mono ?_; rintro e ws ⟨rfl, hbs⟩; have hws : Below w.heap.size w ws := nextB hw3 (Nat.le_refl _) hbs; have hrws := hrw3.up hbs) | (go_at_call 37; refine (conB _ hrws).mono ?_; rintro e w4 ⟨rfl, hb4⟩))
              go_ret
              exact ⟨by rw [HF.out]; rfl, nextB hws (Nat.le_refl _) hb4⟩
            | some W =>
              have hWl := roll_len hfc.2.1 hroll
              have conB : ∀ w', RowAt w'.heap.size w' VA (flatE L) → Calls Tryd.prog 37 #[.slice VA L.length VC, .int .i64 60] w' fun e w'' => (∃ v, e = .returned (.tuple #[v, .int .i64 0]) ∧ w''.ownsRow w'.heap.size 48 7 v W.length (flatE W)) ∧ Below w'.heap.size w' w'' := fun w' hr => buckets_any VA VC L 60 (Or.inl rfl) w' hr hlen hfc.1 hfc.2.1 hfc.2.2 _ (fun e w'' q1 q2 _ => ⟨q2 W hroll, q1⟩)
              have HSW : Hid (stepB 60 L (p1.map PN.nd) r1 = decide (W = M)) := by
                show _ = _
                rw [HS.out, hroll]
                simp
              clear HS hroll
              have sm := fun A' B' C' D' w' h1 h2 => equalE_any A' B' C' D' M W w' h1 h2 (by omega) (by omega)
              by_cases hWL : W = M
              · have HS1 : stepB 60 L (p1.map PN.nd) r1 = true := by
                  rw [HSW.out]
                  simpa using hWL
                have HP' : Hid ((1 < 2 → stepB 60 L (p1.map PN.nd) r1 = true) ∧ (2 < 2 → stepB 3600 L (p2.map PN.nd) r2 = true)) := ⟨fun _ => HS1, fun h => by omega⟩
                have hd : decide (M = W) = true := by simpa using hWL.symm
                simp only [hd] at sm
                have SM := hideM sm
                clear HSW HFk HT2 HP hd hWL HS1 sm
                go_wp2_with (first | (go_at_call 35; refine (gk _ (n1.up hwr)).mono ?_; rintro e w3 ⟨hb3, v3, rfl, ho3⟩; obtain ⟨LA, LC, hv3, -, -, -, hr3⟩ := own_row ho3; subst hv3; have hw3 : Below w.heap.size w w3 := nextB hwr (Nat.le_refl _) hb3; have zs := hZ.below hw3; have zi := sz_i1; have hrw3 := hrw.up hb3) | (go_at_call 34; refine (sizes_any _ zs).mono ?_; rintro e ws ⟨rfl, hbs⟩; have hws : Below w.heap.size w ws := nextB hw3 (Nat.le_refl _) hbs; have hrws := hrw3.up hbs) | (go_at_call 37; refine (conB _ hrws).mono ?_; rintro e w4 ⟨⟨v4, rfl, ho4⟩, hb4⟩; obtain ⟨WA, WC, hv4, -, -, -, hr4⟩ := own_row ho4; subst hv4) | (go_at_call 38; refine (SM.out _ _ _ _ _ ((hr3.up hbs).up hb4) hr4).mono ?_; rintro e w6 ⟨rfl, hb6⟩))
                exact ⟨⟨2, by omega, by omega, by go_num, HP', nextB (nextB (nextB (nextB hb (Nat.le_refl _) hb3) (Nat.le_refl _) hbs) (Nat.le_refl _) hb4) (Nat.le_refl _) hb6⟩, by simp only [intOf]; omega⟩
              · have HF : Hid (nb = false) := HFk.out (by rw [HSW.out]; simpa using hWL)
                have hd : decide (M = W) = false := by simpa using fun e => hWL e.symm
                simp only [hd] at sm
                have SM := hideM sm
                clear HSW HFk HT2 HP hd hWL sm
                go_wp2_with (first | (go_at_call 35; refine (gk _ (n1.up hwr)).mono ?_; rintro e w3 ⟨hb3, v3, rfl, ho3⟩; obtain ⟨LA, LC, hv3, -, -, -, hr3⟩ := own_row ho3; subst hv3; have hw3 : Below w.heap.size w w3 := nextB hwr (Nat.le_refl _) hb3; have zs := hZ.below hw3; have zi := sz_i1; have hrw3 := hrw.up hb3) | (go_at_call 34; refine (sizes_any _ zs).mono ?_; rintro e ws ⟨rfl, hbs⟩; have hws : Below w.heap.size w ws := nextB hw3 (Nat.le_refl _) hbs; have hrws := hrw3.up hbs) | (go_at_call 37; refine (conB _ hrws).mono ?_; rintro e w4 ⟨⟨v4, rfl, ho4⟩, hb4⟩; obtain ⟨WA, WC, hv4, -, -, -, hr4⟩ := own_row ho4; subst hv4) | (go_at_call 38; refine (SM.out _ _ _ _ _ ((hr3.up hbs).up hb4) hr4).mono ?_; rintro e w6 ⟨rfl, hb6⟩))
                go_ret
                exact ⟨by rw [HF.out]; rfl, nextB (nextB hws (Nat.le_refl _) hb4) (Nat.le_refl _) hb6⟩
          · have HF : Hid (nb = false) := HFk.out (by
              rw [HS.out]
              cases rollP 60 L with
              | none => rfl
              | some W => simp [hc])
            have hc' : (c != 0) = true := by simpa using hc
            clear HS HFk HT2 HP
            go_wp2_with (first | (go_at_call 35; refine (gk _ (n1.up hwr)).mono ?_; rintro e w3 ⟨hb3, v3, rfl, ho3⟩; obtain ⟨LA, LC, hv3, -, -, -, hr3⟩ := own_row ho3; subst hv3; have hw3 : Below w.heap.size w w3 := nextB hwr (Nat.le_refl _) hb3; have hrw3 := hrw.up hb3))
            go_ret
            exact ⟨by rw [HF.out]; rfl, hw3⟩
        · have gk := fun w' hN => ball_any A2 C2 r2 p2 w' hN f2
          have hll := allP_len (p2.map PN.nd) r2 0 1099511627776
          have HS : Hid (stepB 3600 L (p2.map PN.nd) r2 = match rollP 3600 L with | none => false | some W => decide ((allP (p2.map PN.nd) r2 0 1099511627776).1 = 0) && decide (W = (allP (p2.map PN.nd) r2 0 1099511627776).2)) := rfl
          have HFk : Hid (stepB 3600 L (p2.map PN.nd) r2 = false → nb = false) := fun q => by
            rw [HT2.out, q]
            simp
          generalize allP (p2.map PN.nd) r2 0 1099511627776 = P at gk hll HS
          obtain ⟨c, M⟩ := P
          simp only at gk hll HS
          by_cases hc : c = 0
          · subst hc
            cases hroll : rollP 3600 L with
            | none =>
              have HF : Hid (nb = false) := HFk.out (by rw [HS.out, hroll])
              have conB : ∀ w', RowAt w'.heap.size w' VA (flatE L) → Calls Tryd.prog 37 #[.slice VA L.length VC, .int .i64 3600] w' fun e w'' => e = .returned (.tuple #[.slice none 0 0, .int .i64 1]) ∧ Below w'.heap.size w' w'' := fun w' hr => buckets_any VA VC L 3600 (Or.inr rfl) w' hr hlen hfc.1 hfc.2.1 hfc.2.2 _ (fun e w'' q1 _ q3 => ⟨q3 hroll, q1⟩)
              clear HS HFk hroll HT2 HP
              go_wp2_with (first | (go_at_call 35; refine (gk _ (n2.up hwr)).mono ?_; rintro e w3 ⟨hb3, v3, rfl, ho3⟩; obtain ⟨LA, LC, hv3, -, -, -, hr3⟩ := own_row ho3; subst hv3; have hw3 : Below w.heap.size w w3 := nextB hwr (Nat.le_refl _) hb3; have zs := hZ.below hw3; have zi := sz_i2; have hrw3 := hrw.up hb3) | (go_at_call 34; refine (sizes_any _ zs).mono ?_; rintro e ws ⟨rfl, hbs⟩; have hws : Below w.heap.size w ws := nextB hw3 (Nat.le_refl _) hbs; have hrws := hrw3.up hbs) | (go_at_call 37; refine (conB _ hrws).mono ?_; rintro e w4 ⟨rfl, hb4⟩))
              go_ret
              exact ⟨by rw [HF.out]; rfl, nextB hws (Nat.le_refl _) hb4⟩
            | some W =>
              have hWl := roll_len hfc.2.1 hroll
              have conB : ∀ w', RowAt w'.heap.size w' VA (flatE L) → Calls Tryd.prog 37 #[.slice VA L.length VC, .int .i64 3600] w' fun e w'' => (∃ v, e = .returned (.tuple #[v, .int .i64 0]) ∧ w''.ownsRow w'.heap.size 48 7 v W.length (flatE W)) ∧ Below w'.heap.size w' w'' := fun w' hr => buckets_any VA VC L 3600 (Or.inr rfl) w' hr hlen hfc.1 hfc.2.1 hfc.2.2 _ (fun e w'' q1 q2 _ => ⟨q2 W hroll, q1⟩)
              have HSW : Hid (stepB 3600 L (p2.map PN.nd) r2 = decide (W = M)) := by
                show _ = _
                rw [HS.out, hroll]
                simp
              clear HS hroll
              have sm := fun A' B' C' D' w' h1 h2 => equalE_any A' B' C' D' M W w' h1 h2 (by omega) (by omega)
              by_cases hWL : W = M
              · have HS1 : stepB 3600 L (p2.map PN.nd) r2 = true := by
                  rw [HSW.out]
                  simpa using hWL
                have HP' : Hid ((1 < 3 → stepB 60 L (p1.map PN.nd) r1 = true) ∧ (2 < 3 → stepB 3600 L (p2.map PN.nd) r2 = true)) := ⟨fun _ => HP.out.1 (by omega), fun _ => HS1⟩
                have hd : decide (M = W) = true := by simpa using hWL.symm
                simp only [hd] at sm
                have SM := hideM sm
                clear HSW HFk HT2 HP hd hWL HS1 sm
                go_wp2_with (first | (go_at_call 35; refine (gk _ (n2.up hwr)).mono ?_; rintro e w3 ⟨hb3, v3, rfl, ho3⟩; obtain ⟨LA, LC, hv3, -, -, -, hr3⟩ := own_row ho3; subst hv3; have hw3 : Below w.heap.size w w3 := nextB hwr (Nat.le_refl _) hb3; have zs := hZ.below hw3; have zi := sz_i2; have hrw3 := hrw.up hb3) | (go_at_call 34; refine (sizes_any _ zs).mono ?_; rintro e ws ⟨rfl, hbs⟩; have hws : Below w.heap.size w ws := nextB hw3 (Nat.le_refl _) hbs; have hrws := hrw3.up hbs) | (go_at_call 37; refine (conB _ hrws).mono ?_; rintro e w4 ⟨⟨v4, rfl, ho4⟩, hb4⟩; obtain ⟨WA, WC, hv4, -, -, -, hr4⟩ := own_row ho4; subst hv4) | (go_at_call 38; refine (SM.out _ _ _ _ _ ((hr3.up hbs).up hb4) hr4).mono ?_; rintro e w6 ⟨rfl, hb6⟩))
                exact ⟨⟨3, by omega, by omega, by go_num, HP', nextB (nextB (nextB (nextB hb (Nat.le_refl _) hb3) (Nat.le_refl _) hbs) (Nat.le_refl _) hb4) (Nat.le_refl _) hb6⟩, by simp only [intOf]; omega⟩
              · have HF : Hid (nb = false) := HFk.out (by rw [HSW.out]; simpa using hWL)
                have hd : decide (M = W) = false := by simpa using fun e => hWL e.symm
                simp only [hd] at sm
                have SM := hideM sm
                clear HSW HFk HT2 HP hd hWL sm
                go_wp2_with (first | (go_at_call 35; refine (gk _ (n2.up hwr)).mono ?_; rintro e w3 ⟨hb3, v3, rfl, ho3⟩; obtain ⟨LA, LC, hv3, -, -, -, hr3⟩ := own_row ho3; subst hv3; have hw3 : Below w.heap.size w w3 := nextB hwr (Nat.le_refl _) hb3; have zs := hZ.below hw3; have zi := sz_i2; have hrw3 := hrw.up hb3) | (go_at_call 34; refine (sizes_any _ zs).mono ?_; rintro e ws ⟨rfl, hbs⟩; have hws : Below w.heap.size w ws := nextB hw3 (Nat.le_refl _) hbs; have hrws := hrw3.up hbs) | (go_at_call 37; refine (conB _ hrws).mono ?_; rintro e w4 ⟨⟨v4, rfl, ho4⟩, hb4⟩; obtain ⟨WA, WC, hv4, -, -, -, hr4⟩ := own_row ho4; subst hv4) | (go_at_call 38; refine (SM.out _ _ _ _ _ ((hr3.up hbs).up hb4) hr4).mono ?_; rintro e w6 ⟨rfl, hb6⟩))
                go_ret
                exact ⟨by rw [HF.out]; rfl, nextB (nextB hws (Nat.le_refl _) hb4) (Nat.le_refl _) hb6⟩
          · have HF : Hid (nb = false) := HFk.out (by
              rw [HS.out]
              cases rollP 3600 L with
              | none => rfl
              | some W => simp [hc])
            have hc' : (c != 0) = true := by simpa using hc
            clear HS HFk HT2 HP
            go_wp2_with (first | (go_at_call 35; refine (gk _ (n2.up hwr)).mono ?_; rintro e w3 ⟨hb3, v3, rfl, ho3⟩; obtain ⟨LA, LC, hv3, -, -, -, hr3⟩ := own_row ho3; subst hv3; have hw3 : Below w.heap.size w w3 := nextB hwr (Nat.le_refl _) hb3; have hrw3 := hrw.up hb3))
            go_ret
            exact ⟨by rw [HF.out]; rfl, hw3⟩
        · have H1 : Hid (nb = true) := by
            show _ = _
            rw [HT2.out, HP.out.1 (by omega), HP.out.2 (by omega)]
            rfl
          clear HP HT2
          go_wp2_with fail
          go_ret
          exact ⟨by rw [H1.out]; rfl, hwr⟩
  · have H1 : Hid (nb = false) := by
      show _ = _
      rw [HT.out]
      simp [hc]
    have hc' : (c != 0) = true := by simpa using hc
    clear HT ptc
    go_enter Tryd.func20, Tryd.ntmps20
    go_wp2_with (first
      | (go_at_call 35; refine (g0 _ (n0.up (b0 _))).mono ?_; rintro e w1 ⟨hb1, v, rfl, ho⟩; obtain ⟨VA, VC, hvv, -, -, -, hrow⟩ := own_row ho; subst hvv))
    go_ret
    exact ⟨by rw [H1.out]; rfl, nextB (b0 _) (Nat.le_refl _) hb1⟩

end Go.Proofs.YtlojfgdpmaigmafDoor

/- base.Check, whole. -/
namespace Go.Proofs.YtlojfgdpmaigmafDoor
open Go.RowKit Plain

theorem SzAt.alloc {w : World} (h : SzAt w) (o : Obj) : SzAt (w.alloc o) := h.below ((Below.refl _ _).alloc (Nat.le_refl _) o)

set_option maxRecDepth 20000 in
set_option maxHeartbeats 1000000 in
theorem bcheck_any (A : Option Addr) (C : Nat) (ss : List ByteArray) (t0 t1 t2 : TR) (f : Int) (w : World) (hZ : SzAt w) (hC : ss.length ≤ C) (hS : StrsAt w.heap.size w A ss) (h0 : t0.ok w) (h1 : t1.ok w) (h2 : t2.ok w) (bb : Bool) (hbb : Hid (baseB ss f (t0.ps.map PN.nd) t0.r (t1.ps.map PN.nd) t1.r (t2.ps.map PN.nd) t2.r = bb)) :
    Calls Tryd.prog 6 #[.agg (baseV A C ss t0 t1 t2 f).toArray] w fun e w' => e = .returned (.int .i64 (if bb = true then 0 else 7)) ∧ Below w.heap.size w w' := by
  have b0 : ∀ o : Obj, Below w.heap.size w (w.alloc o) := fun o => (Below.refl _ _).alloc (Nat.le_refl _) o
  obtain ⟨res, hres⟩ : ∃ res : Int, res = if bb = true then 0 else 7 := ⟨_, rfl⟩
  have HR : Hid (res = if bb = true then 0 else 7) := hres
  rw [← hres]
  clear hres
  have HB : Hid (bb = ((decide (ss.length ≤ 16) && namesB ss) && (inB f 0 1048575 && (decide (f % 3600 = 0) && treesC ss.length f (t0.ps.map PN.nd) t0.r (t1.ps.map PN.nd) t1.r (t2.ps.map PN.nd) t2.r)))) := by
    show _ = _
    rw [← hbb.out, trees_eq]
    unfold baseB
    cases decide (ss.length ≤ 16) <;> cases inB f 0 1048575 <;> cases decide (f % 3600 = 0) <;> cases namesB ss <;> rfl
  have okup : ∀ (t : TR) (W : World), Below w.heap.size w W → t.ok w → t.ok W := fun t W hW ht => ⟨ht.1.up hW, ht.2.1, ht.2.2⟩
  have nmc := fun o => namesMayBe_any A C ss (w.alloc o) (hS.up (b0 o)) hC
  have trc := fun W (hW : Below w.heap.size w W) => treesMayBe_any A C ss t0 t1 t2 f W (hZ.below hW) (okup t0 W hW h0) (okup t1 W hW h1) (okup t2 W hW h2)
  generalize treesC ss.length f (t0.ps.map PN.nd) t0.r (t1.ps.map PN.nd) t1.r (t2.ps.map PN.nd) t2.r = tb at trc HB
  generalize (decide (ss.length ≤ 16) && namesB ss) = nb at nmc HB
  obtain ⟨A0, C0, p0, r0⟩ := t0
  obtain ⟨A1, C1, p1, r1⟩ := t1
  obtain ⟨A2, C2, p2, r2⟩ := t2
  simp only [baseV] at *
  clear hbb okup h0 h1 h2
  cases nb with
  | false =>
    have H1 : Hid (res = 7) := by
      show _ = _
      rw [HR.out, HB.out]
      rfl
    clear HR HB trc
    go_enter Tryd.func6, Tryd.ntmps6
    go_wp2_with (first | (go_at_call 17; refine (nmc _).mono ?_; rintro e w1 ⟨rfl, hw1⟩; subst w1))
    go_ret
    exact ⟨by rw [H1.out]; rfl, b0 _⟩
  | true =>
    cases hf : inB f 0 1048575 with
    | false =>
      have H1 : Hid (res = 7) := by
        show _ = _
        rw [HR.out, HB.out, hf]
        rfl
      clear HR HB trc
      go_enter Tryd.func6, Tryd.ntmps6
      go_wp2_with (first | (go_at_call 17; refine (nmc _).mono ?_; rintro e w1 ⟨rfl, hw1⟩; subst w1) | (go_at_call 18; refine (btime_any _ _).mono ?_; rintro e w1 ⟨rfl, hw1⟩; subst w1))
      go_ret
      exact ⟨by rw [H1.out]; rfl, b0 _⟩
    | true =>
      have hff := (inB_iff _ _ _).1 hf
      have hff' : 0 ≤ f ∧ f < 1099511627776 := by omega
      have flc := fun o => isFloor_any f (w.alloc o) (hZ.alloc o) hff'
      cases hm : decide (f % 3600 = 0) with
      | false =>
        have H1 : Hid (res = 7) := by
          show _ = _
          rw [HR.out, HB.out, hf, hm]
          rfl
        simp only [hm] at flc
        clear HR HB trc hm
        go_enter Tryd.func6, Tryd.ntmps6
        go_wp2_with (first | (go_at_call 17; refine (nmc _).mono ?_; rintro e w1 ⟨rfl, hw1⟩; subst w1) | (go_at_call 18; refine (btime_any _ _).mono ?_; rintro e w1 ⟨rfl, hw1⟩; subst w1) | (go_at_call 19; refine (flc _).mono ?_; rintro e wf ⟨rfl, hbf⟩; have hwf : Below w.heap.size w wf := nextB (b0 _) (Nat.le_refl _) hbf; have fb := fun j => ((bcells hbf).1 w.heap.size j (by simp)); have lf : w.heap.size < wf.heap.size := Nat.lt_of_lt_of_le (by simp) hbf.size))
        go_ret
        exact ⟨by rw [H1.out]; rfl, hwf⟩
      | true =>
        have H1 : Hid (res = if tb = true then 0 else 7) := by
          show _ = _
          rw [HR.out, HB.out, hf, hm]
          rfl
        simp only [hm] at flc
        clear HR HB hm
        cases tb with
        | false =>
          have H2 : Hid (res = 7) := H1.out
          clear H1
          go_enter Tryd.func6, Tryd.ntmps6
          go_wp2_with (first | (go_at_call 17; refine (nmc _).mono ?_; rintro e w1 ⟨rfl, hw1⟩; subst w1) | (go_at_call 18; refine (btime_any _ _).mono ?_; rintro e w1 ⟨rfl, hw1⟩; subst w1) | (go_at_call 19; refine (flc _).mono ?_; rintro e wf ⟨rfl, hbf⟩; have hwf : Below w.heap.size w wf := nextB (b0 _) (Nat.le_refl _) hbf; have fb := fun j => ((bcells hbf).1 w.heap.size j (by simp)); have lf : w.heap.size < wf.heap.size := Nat.lt_of_lt_of_le (by simp) hbf.size) | (go_at_call 20; refine (trc _ hwf).mono ?_; rintro e w2 ⟨rfl, hb2⟩))
          go_ret
          exact ⟨by rw [H2.out]; rfl, nextB hwf (Nat.le_refl _) hb2⟩
        | true =>
          have H2 : Hid (res = 0) := H1.out
          clear H1
          go_enter Tryd.func6, Tryd.ntmps6
          go_wp2_with (first | (go_at_call 17; refine (nmc _).mono ?_; rintro e w1 ⟨rfl, hw1⟩; subst w1) | (go_at_call 18; refine (btime_any _ _).mono ?_; rintro e w1 ⟨rfl, hw1⟩; subst w1) | (go_at_call 19; refine (flc _).mono ?_; rintro e wf ⟨rfl, hbf⟩; have hwf : Below w.heap.size w wf := nextB (b0 _) (Nat.le_refl _) hbf; have fb := fun j => ((bcells hbf).1 w.heap.size j (by simp)); have lf : w.heap.size < wf.heap.size := Nat.lt_of_lt_of_le (by simp) hbf.size) | (go_at_call 20; refine (trc _ hwf).mono ?_; rintro e w2 ⟨rfl, hb2⟩))
          go_ret
          exact ⟨by rw [H2.out]; rfl, nextB hwf (Nat.le_refl _) hb2⟩

end Go.Proofs.YtlojfgdpmaigmafDoor

/- The place of a series: base.seriesOf. -/
namespace Go.Proofs.YtlojfgdpmaigmafDoor
open Go.RowKit Plain

end Go.Proofs.YtlojfgdpmaigmafDoor

/- The small functions that ask a base. -/
namespace Go.Proofs.YtlojfgdpmaigmafDoor
open Go.RowKit Plain

end Go.Proofs.YtlojfgdpmaigmafDoor

/- The place of a series: the document's placeOf and seriesFault. -/
namespace Go.Proofs.YtlojfgdpmaigmafDoor
open Go.RowKit Plain

end Go.Proofs.YtlojfgdpmaigmafDoor
