/- What bases may be: the document's BaseMay. -/
import Derived.Test.YtlojfgdpmaigmafDoorBookWalk
import Derived.Test.YtlojfgdpmaigmafDoorNamesWalk
namespace Go.Proofs.YtlojfgdpmaigmafDoor
open Go.RowKit Plain

theorem sizeR_any (k : Nat) (hk : k < 3) (w : World) :
    Calls Tryd.prog 29 #[.int .i64 k] w fun e w' => e = .returned (.int .i64 (if k = 0 then 1 else if k = 1 then 60 else 3600)) ∧ Below w.heap.size w w' := by
  rcases (show k = 0 ∨ k = 1 ∨ k = 2 by omega) with rfl | rfl | rfl <;>
  · go_enter Tryd.func29, Tryd.ntmps29
    go_wp2
    go_ret
    exact ⟨rfl, (Below.refl _ _).alloc (Nat.le_refl _) _⟩

theorem okN_of {ss : List ByteArray} {i : Nat} (hi : i < ss.length) : okN ss i = (nameB ss[i] && !Lib.containsS (ss.take i) ss[i]) := by
  unfold okN
  rw [show ss.getD i ByteArray.empty = ss[i] by rw [List.getD_eq_getElem?_getD, List.getElem?_eq_getElem hi]; rfl]

theorem okN_bad {ss : List ByteArray} {i k : Nat} (hi : i < ss.length) (hk : k < i) (h : ss[k]'(by omega) = ss[i]) : okN ss i = false := by
  rw [okN_of hi]
  have : Lib.containsS (ss.take i) ss[i] = true := by
    rw [Lib.containsS_iff, ← h]
    exact List.mem_take_iff_getElem.2 ⟨k, by omega, rfl⟩
  rw [this]
  simp

theorem okN_good {ss : List ByteArray} {i : Nat} (hi : i < ss.length) (hn : nameB ss[i] = true) (h : ∀ j (hj : j < ss.length), j < i → ss[j] ≠ ss[i]) : okN ss i = true := by
  rw [okN_of hi, hn]
  cases hc : Lib.containsS (ss.take i) ss[i] with
  | false => rfl
  | true =>
    rw [Lib.containsS_iff] at hc
    obtain ⟨j, hj, e⟩ := List.mem_take_iff_getElem.1 hc
    exact absurd e (h j (by omega) (by omega))

theorem hideM {p : Prop} (h : p) : Hid p := h

theorem allL_len : ∀ (xs : List En) (o r : List En), (∀ x ∈ xs, Good x.ru) → (∀ y ∈ o, Good y.ru) → xs.foldl insO (some o) = some r → r.length ≤ o.length + xs.length
  | [], o, r, _, _, h => by cases h; simp
  | x :: xs, o, r, hx, ho, h => by
    rw [List.foldl_cons] at h
    cases hi : insO (some o) x with
    | none => rw [hi, fold_none] at h; cases h
    | some o' =>
      rw [hi] at h
      obtain ⟨q1, q2⟩ := ins_good (hx x List.mem_cons_self) ho hi
      have := allL_len xs o' r (fun y hy => hx y (List.mem_cons_of_mem _ hy)) q1 h
      simp only [List.length_cons]
      omega

theorem roll_len {size : Int} {l W : List En} (hg : ∀ x ∈ l, Good x.ru) (h : rollP size l = some W) : W.length ≤ l.length := by
  have := allL_len (l.map (bk size)) [] W (fun x hx => by
    obtain ⟨y, hy, rfl⟩ := List.mem_map.1 hx
    exact hg y hy) (by simp) h
  simpa using this

set_option maxRecDepth 20000 in
set_option maxHeartbeats 4000000 in
theorem baseMay_any (A : Option Addr) (C : Nat) (ss : List ByteArray) (t0 t1 t2 : TR) (f : Int) (w : World) (hS : StrsAt w.heap.size w A ss) (h0 : NodesAt w.heap.size w t0.A t0.ps) (h1 : NodesAt w.heap.size w t1.A t1.ps) (h2 : NodesAt w.heap.size w t2.A t2.ps) :
    Calls Tryd.prog 12 #[.agg (baseV A C ss t0 t1 t2 f).toArray] w fun e w' => e = .returned (.bool (baseB ss f (t0.ps.map PN.nd) t0.r (t1.ps.map PN.nd) t1.r (t2.ps.map PN.nd) t2.r)) ∧ Below w.heap.size w w' := by
  have b0 : ∀ o : Obj, Below w.heap.size w (w.alloc o) := fun o => (Below.refl _ _).alloc (Nat.le_refl _) o
  obtain ⟨nb, hnb⟩ : ∃ nb, nb = baseB ss f (t0.ps.map PN.nd) t0.r (t1.ps.map PN.nd) t1.r (t2.ps.map PN.nd) t2.r := ⟨_, rfl⟩
  have HN : Hid (nb = baseB ss f (t0.ps.map PN.nd) t0.r (t1.ps.map PN.nd) t1.r (t2.ps.map PN.nd) t2.r) := hnb
  rw [← hnb]
  clear hnb
  have bkc := fun w' h0' Q HQ => book_any A C ss t0 t1 t2 f w' h0' Q HQ
  obtain ⟨A0, C0, p0, r0⟩ := t0
  obtain ⟨A1, C1, p1, r1⟩ := t1
  obtain ⟨A2, C2, p2, r2⟩ := t2
  simp only [baseV] at *
  by_cases k16 : ss.length ≤ 16
  · have k16' : decide (16 < (ss.length : Int)) = false := by simp; omega
    by_cases kf : inB f 0 1048575 = true
    · have kff := (inB_iff _ _ _).1 kf
      by_cases km : f % 3600 = 0
      · have km' : (f % 3600 != 0) = false := by simpa using km
        have KM : Hid (f % 3600 = 0) := km
        clear km
        go_enter Tryd.func12, Tryd.ntmps12
        go_wp2_with (first | (go_at_call 26; refine (in_any _ _ _ _).mono ?_; rintro e w1 ⟨rfl, hw1⟩; subst w1))
        obtain ⟨w1, hw1⟩ : ∃ w1, w1 = w.alloc (.cells #[.slice A ss.length C, .slice A0 p0.length C0, .int .i64 r0, .slice A1 p1.length C1, .int .i64 r1, .slice A2 p2.length C2, .int .i64 r2, .int .i64 f] 28) := ⟨_, rfl⟩
        have rb : RowL w1 w.heap.size 28 [.slice A ss.length C, .slice A0 p0.length C0, .int .i64 r0, .slice A1 p1.length C1, .int .i64 r1, .slice A2 p2.length C2, .int .i64 r2, .int .i64 f] := by
          rw [hw1]
          exact rowL_alloc w _ _
        have hbw : Below w.heap.size w w1 := by
          rw [hw1]
          exact b0 _
        rw [← hw1]
        clear hw1
        have hz := hS.z
        have lb := rb.lt
        go_loopw [3] (fun vi wr => ∃ i : Nat, i ≤ ss.length ∧ vi = .int .i64 i ∧ Hid (∀ j, j < i → okN ss j = true) ∧ Below w1.heap.size w1 wr) (fun vi _ => ss.length - (intOf vi).toNat)
        case atStart => exact ⟨0, Nat.zero_le _, rfl, (fun j hj => by omega), Below.refl _ _⟩
        case round =>
          obtain ⟨i, hi, rfl, HA, hb⟩ := hrel
          have hwr : Below w.heap.size w wr := nextB hbw (Nat.le_refl _) hb
          have rb1 := rb.below hb lb
          have y0 := rb1.cell 0
          simp only [List.getElem?_cons_zero] at y0
          have lb1 := rb1.lt
          have hsz := hwr.size
          by_cases hlt : i < ss.length
          · obtain ⟨b, o, rfl, hbl, hc, -⟩ := (hS.row.below hwr (Nat.le_refl _)).str hlt
            have hbr : b < wr.heap.size := by omega
            have hss := hS.each _ (List.getElem_mem hlt)
            have nm := nameMay_any ss[i] wr (Nat.le_trans hss (by unfold maxLen; decide))
            have HFo : Hid (okN ss i = false → nb = false) := fun q => by
              rw [HN.out]
              unfold baseB
              rw [names_bad hlt q]
              simp
            cases hn : nameB ss[i] with
            | false =>
              have H1 : Hid (nb = false) := HFo.out (by rw [okN_of hlt, hn]; rfl)
              simp only [hn] at nm
              generalize ss[i] = s at *
              clear HFo HN bkc HA
              go_wp2_with (go_at_call 27; refine nm.mono ?_; rintro e w2 ⟨rfl, hw2⟩; subst w2)
              go_ret
              exact ⟨by rw [H1.out]; rfl, hwr⟩
            | true =>
              simp only [hn] at nm
              go_wp2_with (go_at_call 27; refine nm.mono ?_; rintro e w2 ⟨rfl, hw2⟩; subst w2)
              clear nm
              go_loopw [4] (fun vk wk => ∃ k : Nat, k ≤ i ∧ vk = .int .i64 k ∧ Hid (∀ j (hj : j < ss.length), j < k → ss[j] ≠ ss[i]) ∧ Below w1.heap.size w1 wk) (fun vk _ => i - (intOf vk).toNat)
              case atStart => exact ⟨0, Nat.zero_le _, rfl, (fun j _ hj => by omega), hb⟩
              case round =>
                clear y0 rb1 lb1 hc hbl hbr hwr hb hsz
                obtain ⟨k, hk, rfl, HD, hb⟩ := hrel
                have hwr : Below w.heap.size w wr := nextB hbw (Nat.le_refl _) hb
                have rb1 := rb.below hb lb
                have y0 := rb1.cell 0
                simp only [List.getElem?_cons_zero] at y0
                have lb1 := rb1.lt
                have hsz := hwr.size
                by_cases hki : k < i
                · have hkl : k < ss.length := by omega
                  obtain ⟨b1, o1, e1, hbl, hc, -⟩ := (hS.row.below hwr (Nat.le_refl _)).str hlt
                  obtain ⟨b2, o2, e2, -, hc2, -⟩ := (hS.row.below hwr (Nat.le_refl _)).str hkl
                  cases e1
                  cases e2
                  have hbr : b < wr.heap.size := by omega
                  by_cases he : ss[k] = ss[i]
                  · have H1 : Hid (nb = false) := HFo.out (okN_bad hlt hki he)
                    rw [he] at hc2
                    generalize ss[i] = s at *
                    clear HFo HN bkc HA HD he
                    go_wp2_with fail
                    go_quiet (fail)
                    go_wp2_with fail
                    go_ret
                    exact ⟨by rw [H1.out]; rfl, below_drewN hwr _⟩
                  · have HD' : Hid (∀ j (hj : j < ss.length), j < k + 1 → ss[j] ≠ ss[i]) := fun j hj hjk => by
                      by_cases e : j = k
                      · subst e
                        exact he
                      · exact HD.out j hj (by omega)
                    have he1 : (ss[k].toList == ss[i].toList) = false := by
                      simp only [beq_eq_false_iff_ne, ne_eq]
                      intro e
                      exact he (ByteArray.ext (by simpa [ByteArray.toList_eq] using e))
                    go_wp2_with fail
                    go_quiet (fail)
                    go_wp2_with fail
                    go_roundw
                    case rel =>
                      go_light
                      exact ⟨k + 1, hki, by go_num, HD', below_drewN hb _⟩
                    case measure => simp [intOf]; omega
                · have H1 : Hid (∀ j, j < i + 1 → okN ss j = true) := fun j hj => by
                    by_cases e : j = i
                    · subst e
                      exact okN_good hlt hn (fun q hq hqi => HD.out q hq (by omega))
                    · exact HA.out j (by omega)
                  clear HD HA
                  go_wp2_with fail
                  go_roundw
                  case rel =>
                    go_light
                    exact ⟨i + 1, hlt, by go_num, H1, hb⟩
                  case measure => simp [intOf]; omega
          · have HNm : Hid (namesB ss = true) := names_ok (fun j hj => HA.out j (by omega))
            clear HA
            cases hbk : bookP (p0.map PN.nd) r0 ss.length f with
            | none =>
              have H1 : Hid (nb = false) := by
                show nb = false
                rw [HN.out]
                unfold baseB treesB
                rw [hbk]
                simp
              have con : ∀ w', NodesAt w'.heap.size w' A0 p0 → Calls Tryd.prog 13 #[.agg #[.slice A ss.length C, .slice A0 p0.length C0, .int .i64 r0, .slice A1 p1.length C1, .int .i64 r1, .slice A2 p2.length C2, .int .i64 r2, .int .i64 f]] w' fun e w'' => e = .returned (.tuple #[.slice none 0 0, .bool false]) ∧ Below w'.heap.size w' w'' := fun w' hN => bkc w' hN _ (fun e w'' q1 _ q3 => ⟨q3 hbk, q1⟩)
              clear bkc HN hbk
              have y1 := rb1.cell 1
              have yy := fun j => rb1.cell j
              go_wp2_with (go_at_call 13; refine (con _ (h0.up hwr)).mono ?_; rintro e w2 ⟨rfl, hb2⟩)
              refine wp_loop_rounds 1 ?_
              rw [rounds_succ]
              go_wp2_with fail
              go_ret
              exact ⟨by rw [H1.out]; rfl, nextB hwr (Nat.le_refl _) hb2⟩
            | some l =>
              obtain ⟨hb1, hb2, hb3⟩ := book_some hbk
              have hfc := allP_facts (ns := p0.map PN.nd) (r := r0) (low := 0) (high := 1099511627776)
              have hlen := allP_len (p0.map PN.nd) r0 0 1099511627776
              rw [hb2] at hfc hlen
              have HNb : Hid (nb = (stepB 1 l (p0.map PN.nd) r0 && (stepB 60 l (p1.map PN.nd) r1 && stepB 3600 l (p2.map PN.nd) r2))) := by
                show _ = _
                rw [HN.out]
                unfold baseB treesB
                rw [hbk, HNm.out, kf]
                simp [k16, KM.out]
              have con : ∀ w', NodesAt w'.heap.size w' A0 p0 → Calls Tryd.prog 13 #[.agg #[.slice A ss.length C, .slice A0 p0.length C0, .int .i64 r0, .slice A1 p1.length C1, .int .i64 r1, .slice A2 p2.length C2, .int .i64 r2, .int .i64 f]] w' fun e w'' => (∃ v, e = .returned (.tuple #[v, .bool true]) ∧ w''.ownsRow w'.heap.size 48 7 v l.length (flatE l)) ∧ Below w'.heap.size w' w'' := fun w' hN => bkc w' hN _ (fun e w'' q1 q2 _ => ⟨q2 l hbk, q1⟩)
              clear bkc HN hbk hb1 hb2 hb3 HNm KM
              have yy := fun j => rb1.cell j
              go_wp2_with (go_at_call 13; refine (con _ (h0.up hwr)).mono ?_; rintro e w2 ⟨⟨v, rfl, ho⟩, hb2⟩; obtain ⟨VA, VC, hvv, -, -, -, hrow⟩ := own_row ho; subst hvv)
              clear con
              have rb2 := rb1.below hb2 lb1
              have hw2 : Below w.heap.size w w2 := nextB hwr (Nat.le_refl _) hb2
              have lb2 := rb2.lt
              clear y0 yy rb1 lb1 hb2 hb hwr hsz
              go_loopw [6, 7] (fun v6 v7 wr => ∃ k : Nat, k ≤ 3 ∧ v7 = .int .i64 k ∧ ((v6 = .bool true ∧ Hid ((0 < k → stepB 1 l (p0.map PN.nd) r0 = true) ∧ (1 < k → stepB 60 l (p1.map PN.nd) r1 = true) ∧ (2 < k → stepB 3600 l (p2.map PN.nd) r2 = true))) ∨ (v6 = .bool false ∧ 0 < k ∧ Hid (nb = false))) ∧ Below w2.heap.size w2 wr) (fun _ v7 _ => 3 - (intOf v7).toNat)
              case atStart => exact ⟨0, by omega, rfl, .inl ⟨rfl, ⟨fun h => by omega, fun h => by omega, fun h => by omega⟩⟩, Below.refl _ _⟩
              case round =>
                obtain ⟨k, hk, rfl, hcase, hb⟩ := hrel
                have hwr : Below w.heap.size w wr := nextB hw2 (Nat.le_refl _) hb
                have rb1 := rb2.below hb lb2
                have lb1 := rb1.lt
                have yy := fun j => rb1.cell j
                have hrw := hrow.up hb
                rcases hcase with ⟨rfl, HP⟩ | ⟨rfl, hk0, HF⟩
                · rcases (show k = 0 ∨ k = 1 ∨ k = 2 ∨ k = 3 by omega) with rfl | rfl | rfl | rfl
                  · have sz : ∀ w', Calls Tryd.prog 29 #[.int .i64 0] w' fun e w'' => e = .returned (.int .i64 1) ∧ Below w'.heap.size w' w'' := fun w' => by
                      have := sizeR_any 0 (by decide) w'
                      simpa using this
                    have g2 := fun w' hN => allOf_all A0 C0 r0 0 1099511627776 p0 w' hN
                    have hll := allP_len (p0.map PN.nd) r0 0 1099511627776
                    have HS : Hid (stepB 1 l (p0.map PN.nd) r0 = match rollP 1 l with | none => false | some W => decide ((allP (p0.map PN.nd) r0 0 1099511627776).1 = 0) && decide (W = (allP (p0.map PN.nd) r0 0 1099511627776).2)) := rfl
                    have HFk : Hid (stepB 1 l (p0.map PN.nd) r0 = false → nb = false) := fun q => by
                      rw [HNb.out, q]
                      simp
                    generalize allP (p0.map PN.nd) r0 0 1099511627776 = P at g2 hll HS
                    obtain ⟨c, L⟩ := P
                    simp only at g2 hll HS
                    cases hroll : rollP 1 l with
                    | none =>
                      have HF : Hid (nb = false) := HFk.out (by rw [HS.out, hroll])
                      have conR : ∀ w', RowAt w'.heap.size w' VA (flatE l) → Calls Tryd.prog 28 #[.slice VA l.length VC, .int .i64 1] w' fun e w'' => e = .returned (.tuple #[.slice none 0 0, .bool false]) ∧ Below w'.heap.size w' w'' := fun w' hr => rolled_any VA VC l 1 (Or.inl rfl) w' hr hlen hfc.2.1 hfc.2.2 _ (fun e w'' q1 _ q3 => ⟨q3 hroll, q1⟩)
                      clear HS HFk hroll HNb HP
                      go_wp2_with (first
                        | (go_at_call 29; refine (sz _).mono ?_; rintro e w3 ⟨rfl, hb3⟩; have rb3 := rb1.below hb3 lb1; have lb3 := rb3.lt; have hw3 : Below wr.heap.size wr w3 := hb3; have hr3 := hrw.up hb3)
                        | (go_at_call 28; refine (conR _ hr3).mono ?_; rintro e w4 ⟨rfl, hb4⟩; have rb4 := rb3.below hb4 lb3; have lb4 := rb4.lt; have y4 := (fun j => rb4.cell j); have hw4 : Below w.heap.size w w4 := nextB (nextB hwr (Nat.le_refl _) hb3) (Nat.le_refl _) hb4)
                        | (go_at_call 30; refine (g2 _ (h0.up hw4)).mono ?_; rintro e w5 ⟨hb5, v5, rfl, ho5⟩; obtain ⟨LA, LC, hv5, -, -, -, hr5⟩ := own_row ho5; subst hv5; have h25 : Below w2.heap.size w2 w5 := nextB (nextB (nextB hb (Nat.le_refl _) hb3) (Nat.le_refl _) hb4) (Nat.le_refl _) hb5))
                      exact ⟨⟨1, by omega, by go_num, .inr ⟨rfl, by omega, HF⟩, h25⟩, by simp only [intOf]; omega⟩
                    | some W =>
                      have hWl := roll_len hfc.2.1 hroll
                      have conR : ∀ w', RowAt w'.heap.size w' VA (flatE l) → Calls Tryd.prog 28 #[.slice VA l.length VC, .int .i64 1] w' fun e w'' => (∃ v, e = .returned (.tuple #[v, .bool true]) ∧ w''.ownsRow w'.heap.size 48 7 v W.length (flatE W)) ∧ Below w'.heap.size w' w'' := fun w' hr => rolled_any VA VC l 1 (Or.inl rfl) w' hr hlen hfc.2.1 hfc.2.2 _ (fun e w'' q1 q2 _ => ⟨q2 W hroll, q1⟩)
                      have HSW : Hid (stepB 1 l (p0.map PN.nd) r0 = (decide (c = 0) && decide (W = L))) := by
                        show _ = _
                        rw [HS.out, hroll]
                      clear HS hroll
                      by_cases hc : c = 0
                      · have sm := fun A' B' C' D' w' h1 h2 => sameR_any A' B' C' D' W L w' h1 h2 (by omega) (by omega)
                        have hc' : (c == 0) = true := by simpa using hc
                        by_cases hWL : W = L
                        · have HS1 : stepB 1 l (p0.map PN.nd) r0 = true := by
                            rw [HSW.out]
                            simp [hc, hWL]
                          have HP' : Hid ((0 < 1 → stepB 1 l (p0.map PN.nd) r0 = true) ∧ (1 < 1 → stepB 60 l (p1.map PN.nd) r1 = true) ∧ (2 < 1 → stepB 3600 l (p2.map PN.nd) r2 = true)) := ⟨fun _ => HS1, fun h => by omega, fun h => by omega⟩
                          have hd : decide (W = L) = true := by simpa using hWL
                          simp only [hd] at sm
                          have SM := hideM sm
                          clear HSW HFk HNb HP hd hWL HS1 sm hc
                          go_wp2_with (first
                        | (go_at_call 29; refine (sz _).mono ?_; rintro e w3 ⟨rfl, hb3⟩; have rb3 := rb1.below hb3 lb1; have lb3 := rb3.lt; have hw3 : Below wr.heap.size wr w3 := hb3; have hr3 := hrw.up hb3)
                        | (go_at_call 28; refine (conR _ hr3).mono ?_; rintro e w4 ⟨⟨v4, rfl, ho4⟩, hb4⟩; obtain ⟨WA, WC, hv4, -, -, -, hr4⟩ := own_row ho4; subst hv4; have rb4 := rb3.below hb4 lb3; have lb4 := rb4.lt; have y4 := (fun j => rb4.cell j); have hw4 : Below w.heap.size w w4 := nextB (nextB hwr (Nat.le_refl _) hb3) (Nat.le_refl _) hb4)
                        | (go_at_call 30; refine (g2 _ (h0.up hw4)).mono ?_; rintro e w5 ⟨hb5, v5, rfl, ho5⟩; obtain ⟨LA, LC, hv5, -, -, -, hr5⟩ := own_row ho5; subst hv5; have h25 : Below w2.heap.size w2 w5 := nextB (nextB (nextB hb (Nat.le_refl _) hb3) (Nat.le_refl _) hb4) (Nat.le_refl _) hb5)
                        | (go_at_call 31; refine (SM.out _ _ _ _ _ (hr4.up hb5) hr5).mono ?_; rintro e w6 ⟨rfl, hb6⟩))
                          exact ⟨⟨1, by omega, by go_num, .inl ⟨rfl, HP'⟩, nextB h25 (Nat.le_refl _) hb6⟩, by simp only [intOf]; omega⟩
                        · have HF : Hid (nb = false) := HFk.out (by rw [HSW.out]; simp [hWL])
                          have hd : decide (W = L) = false := by simpa using hWL
                          simp only [hd] at sm
                          have SM := hideM sm
                          clear HSW HFk HNb HP hd hWL sm hc
                          go_wp2_with (first
                        | (go_at_call 29; refine (sz _).mono ?_; rintro e w3 ⟨rfl, hb3⟩; have rb3 := rb1.below hb3 lb1; have lb3 := rb3.lt; have hw3 : Below wr.heap.size wr w3 := hb3; have hr3 := hrw.up hb3)
                        | (go_at_call 28; refine (conR _ hr3).mono ?_; rintro e w4 ⟨⟨v4, rfl, ho4⟩, hb4⟩; obtain ⟨WA, WC, hv4, -, -, -, hr4⟩ := own_row ho4; subst hv4; have rb4 := rb3.below hb4 lb3; have lb4 := rb4.lt; have y4 := (fun j => rb4.cell j); have hw4 : Below w.heap.size w w4 := nextB (nextB hwr (Nat.le_refl _) hb3) (Nat.le_refl _) hb4)
                        | (go_at_call 30; refine (g2 _ (h0.up hw4)).mono ?_; rintro e w5 ⟨hb5, v5, rfl, ho5⟩; obtain ⟨LA, LC, hv5, -, -, -, hr5⟩ := own_row ho5; subst hv5; have h25 : Below w2.heap.size w2 w5 := nextB (nextB (nextB hb (Nat.le_refl _) hb3) (Nat.le_refl _) hb4) (Nat.le_refl _) hb5)
                        | (go_at_call 31; refine (SM.out _ _ _ _ _ (hr4.up hb5) hr5).mono ?_; rintro e w6 ⟨rfl, hb6⟩))
                          exact ⟨⟨1, by omega, by go_num, .inr ⟨rfl, by omega, HF⟩, nextB h25 (Nat.le_refl _) hb6⟩, by simp only [intOf]; omega⟩
                      · have HF : Hid (nb = false) := HFk.out (by rw [HSW.out]; simp [hc])
                        have hc' : (c == 0) = false := by simpa using hc
                        clear HSW HFk HNb HP
                        go_wp2_with (first
                        | (go_at_call 29; refine (sz _).mono ?_; rintro e w3 ⟨rfl, hb3⟩; have rb3 := rb1.below hb3 lb1; have lb3 := rb3.lt; have hw3 : Below wr.heap.size wr w3 := hb3; have hr3 := hrw.up hb3)
                        | (go_at_call 28; refine (conR _ hr3).mono ?_; rintro e w4 ⟨⟨v4, rfl, ho4⟩, hb4⟩; obtain ⟨WA, WC, hv4, -, -, -, hr4⟩ := own_row ho4; subst hv4; have rb4 := rb3.below hb4 lb3; have lb4 := rb4.lt; have y4 := (fun j => rb4.cell j); have hw4 : Below w.heap.size w w4 := nextB (nextB hwr (Nat.le_refl _) hb3) (Nat.le_refl _) hb4)
                        | (go_at_call 30; refine (g2 _ (h0.up hw4)).mono ?_; rintro e w5 ⟨hb5, v5, rfl, ho5⟩; obtain ⟨LA, LC, hv5, -, -, -, hr5⟩ := own_row ho5; subst hv5; have h25 : Below w2.heap.size w2 w5 := nextB (nextB (nextB hb (Nat.le_refl _) hb3) (Nat.le_refl _) hb4) (Nat.le_refl _) hb5))
                        exact ⟨⟨1, by omega, by go_num, .inr ⟨rfl, by omega, HF⟩, h25⟩, by simp only [intOf]; omega⟩
                  · have sz : ∀ w', Calls Tryd.prog 29 #[.int .i64 1] w' fun e w'' => e = .returned (.int .i64 60) ∧ Below w'.heap.size w' w'' := fun w' => by
                      have := sizeR_any 1 (by decide) w'
                      simpa using this
                    have g2 := fun w' hN => allOf_all A1 C1 r1 0 1099511627776 p1 w' hN
                    have hll := allP_len (p1.map PN.nd) r1 0 1099511627776
                    have HS : Hid (stepB 60 l (p1.map PN.nd) r1 = match rollP 60 l with | none => false | some W => decide ((allP (p1.map PN.nd) r1 0 1099511627776).1 = 0) && decide (W = (allP (p1.map PN.nd) r1 0 1099511627776).2)) := rfl
                    have HFk : Hid (stepB 60 l (p1.map PN.nd) r1 = false → nb = false) := fun q => by
                      rw [HNb.out, q]
                      simp
                    generalize allP (p1.map PN.nd) r1 0 1099511627776 = P at g2 hll HS
                    obtain ⟨c, L⟩ := P
                    simp only at g2 hll HS
                    cases hroll : rollP 60 l with
                    | none =>
                      have HF : Hid (nb = false) := HFk.out (by rw [HS.out, hroll])
                      have conR : ∀ w', RowAt w'.heap.size w' VA (flatE l) → Calls Tryd.prog 28 #[.slice VA l.length VC, .int .i64 60] w' fun e w'' => e = .returned (.tuple #[.slice none 0 0, .bool false]) ∧ Below w'.heap.size w' w'' := fun w' hr => rolled_any VA VC l 60 (Or.inr (Or.inl rfl)) w' hr hlen hfc.2.1 hfc.2.2 _ (fun e w'' q1 _ q3 => ⟨q3 hroll, q1⟩)
                      clear HS HFk hroll HNb HP
                      go_wp2_with (first
                        | (go_at_call 29; refine (sz _).mono ?_; rintro e w3 ⟨rfl, hb3⟩; have rb3 := rb1.below hb3 lb1; have lb3 := rb3.lt; have hw3 : Below wr.heap.size wr w3 := hb3; have hr3 := hrw.up hb3)
                        | (go_at_call 28; refine (conR _ hr3).mono ?_; rintro e w4 ⟨rfl, hb4⟩; have rb4 := rb3.below hb4 lb3; have lb4 := rb4.lt; have y4 := (fun j => rb4.cell j); have hw4 : Below w.heap.size w w4 := nextB (nextB hwr (Nat.le_refl _) hb3) (Nat.le_refl _) hb4)
                        | (go_at_call 30; refine (g2 _ (h1.up hw4)).mono ?_; rintro e w5 ⟨hb5, v5, rfl, ho5⟩; obtain ⟨LA, LC, hv5, -, -, -, hr5⟩ := own_row ho5; subst hv5; have h25 : Below w2.heap.size w2 w5 := nextB (nextB (nextB hb (Nat.le_refl _) hb3) (Nat.le_refl _) hb4) (Nat.le_refl _) hb5))
                      exact ⟨⟨2, by omega, by go_num, .inr ⟨rfl, by omega, HF⟩, h25⟩, by simp only [intOf]; omega⟩
                    | some W =>
                      have hWl := roll_len hfc.2.1 hroll
                      have conR : ∀ w', RowAt w'.heap.size w' VA (flatE l) → Calls Tryd.prog 28 #[.slice VA l.length VC, .int .i64 60] w' fun e w'' => (∃ v, e = .returned (.tuple #[v, .bool true]) ∧ w''.ownsRow w'.heap.size 48 7 v W.length (flatE W)) ∧ Below w'.heap.size w' w'' := fun w' hr => rolled_any VA VC l 60 (Or.inr (Or.inl rfl)) w' hr hlen hfc.2.1 hfc.2.2 _ (fun e w'' q1 q2 _ => ⟨q2 W hroll, q1⟩)
                      have HSW : Hid (stepB 60 l (p1.map PN.nd) r1 = (decide (c = 0) && decide (W = L))) := by
                        show _ = _
                        rw [HS.out, hroll]
                      clear HS hroll
                      by_cases hc : c = 0
                      · have sm := fun A' B' C' D' w' h1 h2 => sameR_any A' B' C' D' W L w' h1 h2 (by omega) (by omega)
                        have hc' : (c == 0) = true := by simpa using hc
                        by_cases hWL : W = L
                        · have HS1 : stepB 60 l (p1.map PN.nd) r1 = true := by
                            rw [HSW.out]
                            simp [hc, hWL]
                          have HP' : Hid ((0 < 2 → stepB 1 l (p0.map PN.nd) r0 = true) ∧ (1 < 2 → stepB 60 l (p1.map PN.nd) r1 = true) ∧ (2 < 2 → stepB 3600 l (p2.map PN.nd) r2 = true)) := ⟨fun _ => HP.out.1 (by omega), fun _ => HS1, fun h => by omega⟩
                          have hd : decide (W = L) = true := by simpa using hWL
                          simp only [hd] at sm
                          have SM := hideM sm
                          clear HSW HFk HNb HP hd hWL HS1 sm hc
                          go_wp2_with (first
                        | (go_at_call 29; refine (sz _).mono ?_; rintro e w3 ⟨rfl, hb3⟩; have rb3 := rb1.below hb3 lb1; have lb3 := rb3.lt; have hw3 : Below wr.heap.size wr w3 := hb3; have hr3 := hrw.up hb3)
                        | (go_at_call 28; refine (conR _ hr3).mono ?_; rintro e w4 ⟨⟨v4, rfl, ho4⟩, hb4⟩; obtain ⟨WA, WC, hv4, -, -, -, hr4⟩ := own_row ho4; subst hv4; have rb4 := rb3.below hb4 lb3; have lb4 := rb4.lt; have y4 := (fun j => rb4.cell j); have hw4 : Below w.heap.size w w4 := nextB (nextB hwr (Nat.le_refl _) hb3) (Nat.le_refl _) hb4)
                        | (go_at_call 30; refine (g2 _ (h1.up hw4)).mono ?_; rintro e w5 ⟨hb5, v5, rfl, ho5⟩; obtain ⟨LA, LC, hv5, -, -, -, hr5⟩ := own_row ho5; subst hv5; have h25 : Below w2.heap.size w2 w5 := nextB (nextB (nextB hb (Nat.le_refl _) hb3) (Nat.le_refl _) hb4) (Nat.le_refl _) hb5)
                        | (go_at_call 31; refine (SM.out _ _ _ _ _ (hr4.up hb5) hr5).mono ?_; rintro e w6 ⟨rfl, hb6⟩))
                          exact ⟨⟨2, by omega, by go_num, .inl ⟨rfl, HP'⟩, nextB h25 (Nat.le_refl _) hb6⟩, by simp only [intOf]; omega⟩
                        · have HF : Hid (nb = false) := HFk.out (by rw [HSW.out]; simp [hWL])
                          have hd : decide (W = L) = false := by simpa using hWL
                          simp only [hd] at sm
                          have SM := hideM sm
                          clear HSW HFk HNb HP hd hWL sm hc
                          go_wp2_with (first
                        | (go_at_call 29; refine (sz _).mono ?_; rintro e w3 ⟨rfl, hb3⟩; have rb3 := rb1.below hb3 lb1; have lb3 := rb3.lt; have hw3 : Below wr.heap.size wr w3 := hb3; have hr3 := hrw.up hb3)
                        | (go_at_call 28; refine (conR _ hr3).mono ?_; rintro e w4 ⟨⟨v4, rfl, ho4⟩, hb4⟩; obtain ⟨WA, WC, hv4, -, -, -, hr4⟩ := own_row ho4; subst hv4; have rb4 := rb3.below hb4 lb3; have lb4 := rb4.lt; have y4 := (fun j => rb4.cell j); have hw4 : Below w.heap.size w w4 := nextB (nextB hwr (Nat.le_refl _) hb3) (Nat.le_refl _) hb4)
                        | (go_at_call 30; refine (g2 _ (h1.up hw4)).mono ?_; rintro e w5 ⟨hb5, v5, rfl, ho5⟩; obtain ⟨LA, LC, hv5, -, -, -, hr5⟩ := own_row ho5; subst hv5; have h25 : Below w2.heap.size w2 w5 := nextB (nextB (nextB hb (Nat.le_refl _) hb3) (Nat.le_refl _) hb4) (Nat.le_refl _) hb5)
                        | (go_at_call 31; refine (SM.out _ _ _ _ _ (hr4.up hb5) hr5).mono ?_; rintro e w6 ⟨rfl, hb6⟩))
                          exact ⟨⟨2, by omega, by go_num, .inr ⟨rfl, by omega, HF⟩, nextB h25 (Nat.le_refl _) hb6⟩, by simp only [intOf]; omega⟩
                      · have HF : Hid (nb = false) := HFk.out (by rw [HSW.out]; simp [hc])
                        have hc' : (c == 0) = false := by simpa using hc
                        clear HSW HFk HNb HP
                        go_wp2_with (first
                        | (go_at_call 29; refine (sz _).mono ?_; rintro e w3 ⟨rfl, hb3⟩; have rb3 := rb1.below hb3 lb1; have lb3 := rb3.lt; have hw3 : Below wr.heap.size wr w3 := hb3; have hr3 := hrw.up hb3)
                        | (go_at_call 28; refine (conR _ hr3).mono ?_; rintro e w4 ⟨⟨v4, rfl, ho4⟩, hb4⟩; obtain ⟨WA, WC, hv4, -, -, -, hr4⟩ := own_row ho4; subst hv4; have rb4 := rb3.below hb4 lb3; have lb4 := rb4.lt; have y4 := (fun j => rb4.cell j); have hw4 : Below w.heap.size w w4 := nextB (nextB hwr (Nat.le_refl _) hb3) (Nat.le_refl _) hb4)
                        | (go_at_call 30; refine (g2 _ (h1.up hw4)).mono ?_; rintro e w5 ⟨hb5, v5, rfl, ho5⟩; obtain ⟨LA, LC, hv5, -, -, -, hr5⟩ := own_row ho5; subst hv5; have h25 : Below w2.heap.size w2 w5 := nextB (nextB (nextB hb (Nat.le_refl _) hb3) (Nat.le_refl _) hb4) (Nat.le_refl _) hb5))
                        exact ⟨⟨2, by omega, by go_num, .inr ⟨rfl, by omega, HF⟩, h25⟩, by simp only [intOf]; omega⟩
                  · have sz : ∀ w', Calls Tryd.prog 29 #[.int .i64 2] w' fun e w'' => e = .returned (.int .i64 3600) ∧ Below w'.heap.size w' w'' := fun w' => by
                      have := sizeR_any 2 (by decide) w'
                      simpa using this
                    have g2 := fun w' hN => allOf_all A2 C2 r2 0 1099511627776 p2 w' hN
                    have hll := allP_len (p2.map PN.nd) r2 0 1099511627776
                    have HS : Hid (stepB 3600 l (p2.map PN.nd) r2 = match rollP 3600 l with | none => false | some W => decide ((allP (p2.map PN.nd) r2 0 1099511627776).1 = 0) && decide (W = (allP (p2.map PN.nd) r2 0 1099511627776).2)) := rfl
                    have HFk : Hid (stepB 3600 l (p2.map PN.nd) r2 = false → nb = false) := fun q => by
                      rw [HNb.out, q]
                      simp
                    generalize allP (p2.map PN.nd) r2 0 1099511627776 = P at g2 hll HS
                    obtain ⟨c, L⟩ := P
                    simp only at g2 hll HS
                    cases hroll : rollP 3600 l with
                    | none =>
                      have HF : Hid (nb = false) := HFk.out (by rw [HS.out, hroll])
                      have conR : ∀ w', RowAt w'.heap.size w' VA (flatE l) → Calls Tryd.prog 28 #[.slice VA l.length VC, .int .i64 3600] w' fun e w'' => e = .returned (.tuple #[.slice none 0 0, .bool false]) ∧ Below w'.heap.size w' w'' := fun w' hr => rolled_any VA VC l 3600 (Or.inr (Or.inr rfl)) w' hr hlen hfc.2.1 hfc.2.2 _ (fun e w'' q1 _ q3 => ⟨q3 hroll, q1⟩)
                      clear HS HFk hroll HNb HP
                      go_wp2_with (first
                        | (go_at_call 29; refine (sz _).mono ?_; rintro e w3 ⟨rfl, hb3⟩; have rb3 := rb1.below hb3 lb1; have lb3 := rb3.lt; have hw3 : Below wr.heap.size wr w3 := hb3; have hr3 := hrw.up hb3)
                        | (go_at_call 28; refine (conR _ hr3).mono ?_; rintro e w4 ⟨rfl, hb4⟩; have rb4 := rb3.below hb4 lb3; have lb4 := rb4.lt; have y4 := (fun j => rb4.cell j); have hw4 : Below w.heap.size w w4 := nextB (nextB hwr (Nat.le_refl _) hb3) (Nat.le_refl _) hb4)
                        | (go_at_call 30; refine (g2 _ (h2.up hw4)).mono ?_; rintro e w5 ⟨hb5, v5, rfl, ho5⟩; obtain ⟨LA, LC, hv5, -, -, -, hr5⟩ := own_row ho5; subst hv5; have h25 : Below w2.heap.size w2 w5 := nextB (nextB (nextB hb (Nat.le_refl _) hb3) (Nat.le_refl _) hb4) (Nat.le_refl _) hb5))
                      exact ⟨⟨3, by omega, by go_num, .inr ⟨rfl, by omega, HF⟩, h25⟩, by simp only [intOf]; omega⟩
                    | some W =>
                      have hWl := roll_len hfc.2.1 hroll
                      have conR : ∀ w', RowAt w'.heap.size w' VA (flatE l) → Calls Tryd.prog 28 #[.slice VA l.length VC, .int .i64 3600] w' fun e w'' => (∃ v, e = .returned (.tuple #[v, .bool true]) ∧ w''.ownsRow w'.heap.size 48 7 v W.length (flatE W)) ∧ Below w'.heap.size w' w'' := fun w' hr => rolled_any VA VC l 3600 (Or.inr (Or.inr rfl)) w' hr hlen hfc.2.1 hfc.2.2 _ (fun e w'' q1 q2 _ => ⟨q2 W hroll, q1⟩)
                      have HSW : Hid (stepB 3600 l (p2.map PN.nd) r2 = (decide (c = 0) && decide (W = L))) := by
                        show _ = _
                        rw [HS.out, hroll]
                      clear HS hroll
                      by_cases hc : c = 0
                      · have sm := fun A' B' C' D' w' h1 h2 => sameR_any A' B' C' D' W L w' h1 h2 (by omega) (by omega)
                        have hc' : (c == 0) = true := by simpa using hc
                        by_cases hWL : W = L
                        · have HS1 : stepB 3600 l (p2.map PN.nd) r2 = true := by
                            rw [HSW.out]
                            simp [hc, hWL]
                          have HP' : Hid ((0 < 3 → stepB 1 l (p0.map PN.nd) r0 = true) ∧ (1 < 3 → stepB 60 l (p1.map PN.nd) r1 = true) ∧ (2 < 3 → stepB 3600 l (p2.map PN.nd) r2 = true)) := ⟨fun _ => HP.out.1 (by omega), fun _ => HP.out.2.1 (by omega), fun _ => HS1⟩
                          have hd : decide (W = L) = true := by simpa using hWL
                          simp only [hd] at sm
                          have SM := hideM sm
                          clear HSW HFk HNb HP hd hWL HS1 sm hc
                          go_wp2_with (first
                        | (go_at_call 29; refine (sz _).mono ?_; rintro e w3 ⟨rfl, hb3⟩; have rb3 := rb1.below hb3 lb1; have lb3 := rb3.lt; have hw3 : Below wr.heap.size wr w3 := hb3; have hr3 := hrw.up hb3)
                        | (go_at_call 28; refine (conR _ hr3).mono ?_; rintro e w4 ⟨⟨v4, rfl, ho4⟩, hb4⟩; obtain ⟨WA, WC, hv4, -, -, -, hr4⟩ := own_row ho4; subst hv4; have rb4 := rb3.below hb4 lb3; have lb4 := rb4.lt; have y4 := (fun j => rb4.cell j); have hw4 : Below w.heap.size w w4 := nextB (nextB hwr (Nat.le_refl _) hb3) (Nat.le_refl _) hb4)
                        | (go_at_call 30; refine (g2 _ (h2.up hw4)).mono ?_; rintro e w5 ⟨hb5, v5, rfl, ho5⟩; obtain ⟨LA, LC, hv5, -, -, -, hr5⟩ := own_row ho5; subst hv5; have h25 : Below w2.heap.size w2 w5 := nextB (nextB (nextB hb (Nat.le_refl _) hb3) (Nat.le_refl _) hb4) (Nat.le_refl _) hb5)
                        | (go_at_call 31; refine (SM.out _ _ _ _ _ (hr4.up hb5) hr5).mono ?_; rintro e w6 ⟨rfl, hb6⟩))
                          exact ⟨⟨3, by omega, by go_num, .inl ⟨rfl, HP'⟩, nextB h25 (Nat.le_refl _) hb6⟩, by simp only [intOf]; omega⟩
                        · have HF : Hid (nb = false) := HFk.out (by rw [HSW.out]; simp [hWL])
                          have hd : decide (W = L) = false := by simpa using hWL
                          simp only [hd] at sm
                          have SM := hideM sm
                          clear HSW HFk HNb HP hd hWL sm hc
                          go_wp2_with (first
                        | (go_at_call 29; refine (sz _).mono ?_; rintro e w3 ⟨rfl, hb3⟩; have rb3 := rb1.below hb3 lb1; have lb3 := rb3.lt; have hw3 : Below wr.heap.size wr w3 := hb3; have hr3 := hrw.up hb3)
                        | (go_at_call 28; refine (conR _ hr3).mono ?_; rintro e w4 ⟨⟨v4, rfl, ho4⟩, hb4⟩; obtain ⟨WA, WC, hv4, -, -, -, hr4⟩ := own_row ho4; subst hv4; have rb4 := rb3.below hb4 lb3; have lb4 := rb4.lt; have y4 := (fun j => rb4.cell j); have hw4 : Below w.heap.size w w4 := nextB (nextB hwr (Nat.le_refl _) hb3) (Nat.le_refl _) hb4)
                        | (go_at_call 30; refine (g2 _ (h2.up hw4)).mono ?_; rintro e w5 ⟨hb5, v5, rfl, ho5⟩; obtain ⟨LA, LC, hv5, -, -, -, hr5⟩ := own_row ho5; subst hv5; have h25 : Below w2.heap.size w2 w5 := nextB (nextB (nextB hb (Nat.le_refl _) hb3) (Nat.le_refl _) hb4) (Nat.le_refl _) hb5)
                        | (go_at_call 31; refine (SM.out _ _ _ _ _ (hr4.up hb5) hr5).mono ?_; rintro e w6 ⟨rfl, hb6⟩))
                          exact ⟨⟨3, by omega, by go_num, .inr ⟨rfl, by omega, HF⟩, nextB h25 (Nat.le_refl _) hb6⟩, by simp only [intOf]; omega⟩
                      · have HF : Hid (nb = false) := HFk.out (by rw [HSW.out]; simp [hc])
                        have hc' : (c == 0) = false := by simpa using hc
                        clear HSW HFk HNb HP
                        go_wp2_with (first
                        | (go_at_call 29; refine (sz _).mono ?_; rintro e w3 ⟨rfl, hb3⟩; have rb3 := rb1.below hb3 lb1; have lb3 := rb3.lt; have hw3 : Below wr.heap.size wr w3 := hb3; have hr3 := hrw.up hb3)
                        | (go_at_call 28; refine (conR _ hr3).mono ?_; rintro e w4 ⟨⟨v4, rfl, ho4⟩, hb4⟩; obtain ⟨WA, WC, hv4, -, -, -, hr4⟩ := own_row ho4; subst hv4; have rb4 := rb3.below hb4 lb3; have lb4 := rb4.lt; have y4 := (fun j => rb4.cell j); have hw4 : Below w.heap.size w w4 := nextB (nextB hwr (Nat.le_refl _) hb3) (Nat.le_refl _) hb4)
                        | (go_at_call 30; refine (g2 _ (h2.up hw4)).mono ?_; rintro e w5 ⟨hb5, v5, rfl, ho5⟩; obtain ⟨LA, LC, hv5, -, -, -, hr5⟩ := own_row ho5; subst hv5; have h25 : Below w2.heap.size w2 w5 := nextB (nextB (nextB hb (Nat.le_refl _) hb3) (Nat.le_refl _) hb4) (Nat.le_refl _) hb5))
                        exact ⟨⟨3, by omega, by go_num, .inr ⟨rfl, by omega, HF⟩, h25⟩, by simp only [intOf]; omega⟩
                  · have H1 : Hid (nb = true) := by
                      show nb = true
                      rw [HNb.out, HP.out.1 (by omega), HP.out.2.1 (by omega), HP.out.2.2 (by omega)]
                      rfl
                    clear HP HNb
                    go_wp2_with fail
                    go_ret
                    exact ⟨by rw [H1.out]; rfl, hwr⟩
                · by_cases hk3 : k < 3
                  · go_wp2_with fail
                    go_ret
                    exact ⟨by rw [HF.out]; rfl, hwr⟩
                  · go_wp2_with fail
                    go_ret
                    exact ⟨by rw [HF.out]; rfl, hwr⟩
      · have HF : Hid (nb = false) := by
          show nb = false
          rw [HN.out]
          unfold baseB
          simp [km]
        have km' : (f % 3600 != 0) = true := by simpa using km
        clear HN bkc
        go_enter Tryd.func12, Tryd.ntmps12
        go_wp2_with (first | (go_at_call 26; refine (in_any _ _ _ _).mono ?_; rintro e w1 ⟨rfl, hw1⟩; subst w1))
        go_ret
        exact ⟨by rw [HF.out]; rfl, b0 _⟩
    · have kf' : inB f 0 1048575 = false := by simpa using kf
      have HF : Hid (nb = false) := by
        show nb = false
        rw [HN.out]
        unfold baseB
        simp [kf']
      clear HN bkc
      go_enter Tryd.func12, Tryd.ntmps12
      go_wp2_with (first | (go_at_call 26; refine (in_any _ _ _ _).mono ?_; rintro e w1 ⟨rfl, hw1⟩; subst w1))
      go_ret
      exact ⟨by rw [HF.out]; rfl, b0 _⟩
  · have HF : Hid (nb = false) := by
      show nb = false
      rw [HN.out]
      unfold baseB
      simp [k16]
    have k16' : 16 < (ss.length : Int) := by omega
    clear HN bkc
    go_enter Tryd.func12, Tryd.ntmps12
    go_wp2_with fail
    go_ret
    exact ⟨by rw [HF.out]; rfl, b0 _⟩

end Go.Proofs.YtlojfgdpmaigmafDoor
