/- What a base knows of points: the document's Book. -/
import Derived.Test.YtlojfgdpmaigmafDoorRefBase
import Derived.Test.YtlojfgdpmaigmafDoorP14
namespace Go.Proofs.YtlojfgdpmaigmafDoor
open Go.RowKit Plain

/-- A base, as it is handed over. -/
def baseV (A : Option Addr) (C : Nat) (ss : List ByteArray) (t0 t1 t2 : TR) (f : Int) : List Value := [.slice A ss.length C, .slice t0.A t0.ps.length t0.C, .int .i64 t0.r, .slice t1.A t1.ps.length t1.C, .int .i64 t1.r, .slice t2.A t2.ps.length t2.C, .int .i64 t2.r, .int .i64 f]

set_option maxRecDepth 20000 in
set_option maxHeartbeats 1000000 in
theorem book_any (A : Option Addr) (C : Nat) (ss : List ByteArray) (t0 t1 t2 : TR) (f : Int) (w : World) (h0 : NodesAt w.heap.size w t0.A t0.ps) (Q : Ending → World → Prop)
    (HQ : Hid (∀ e w', Below w.heap.size w w' → (∀ l, bookP (t0.ps.map PN.nd) t0.r ss.length f = some l → ∃ v, e = .returned (.tuple #[v, .bool true]) ∧ w'.ownsRow w.heap.size 48 7 v l.length (flatE l)) → (bookP (t0.ps.map PN.nd) t0.r ss.length f = none → e = .returned (.tuple #[.slice none 0 0, .bool false])) → Q e w')) :
    Calls Tryd.prog 13 #[.agg (baseV A C ss t0 t1 t2 f).toArray] w Q := by
  have b0 : ∀ o : Obj, Below w.heap.size w (w.alloc o) := fun o => (Below.refl _ _).alloc (Nat.le_refl _) o
  obtain ⟨A0, C0, p0, r0⟩ := t0
  obtain ⟨A1, C1, p1, r1⟩ := t1
  obtain ⟨A2, C2, p2, r2⟩ := t2
  simp only [baseV] at *
  have g2 := fun w' hN => allOf_all A0 C0 r0 0 1099511627776 p0 w' hN
  have hf := allP_facts (ns := p0.map PN.nd) (r := r0) (low := 0) (high := 1099511627776)
  have hl := allP_len (p0.map PN.nd) r0 0 1099511627776
  have HB : Hid (bookP (p0.map PN.nd) r0 ss.length f = if (allP (p0.map PN.nd) r0 0 1099511627776).1 = 0 ∧ (allP (p0.map PN.nd) r0 0 1099511627776).2.all (pointB ss.length f) = true then some (allP (p0.map PN.nd) r0 0 1099511627776).2 else none) := rfl
  generalize allP (p0.map PN.nd) r0 0 1099511627776 = P at g2 hf hl HB
  obtain ⟨c, L⟩ := P
  simp only at g2 hf hl HB
  obtain ⟨-, hf2, hf3⟩ := hf
  by_cases hc : c = 0
  · subst hc
    go_enter Tryd.func13, Tryd.ntmps13
    go_wp2_with (go_at_call 30; refine (g2 _ (h0.up (b0 _))).mono ?_; rintro e w1 ⟨hb1, v, rfl, ho⟩; obtain ⟨VA, VC, hvv, -, -, -, hrow⟩ := own_row ho; subst hvv; have hd := (bcells hb1).1; have z1 := sz1 hb1; have hw1 : Below w.heap.size w w1 := nextB (b0 _) (Nat.le_refl _) hb1)
    have rb : RowL w1 w.heap.size 28 [.slice A ss.length C, .slice A0 p0.length C0, .int .i64 r0, .slice A1 p1.length C1, .int .i64 r1, .slice A2 p2.length C2, .int .i64 r2, .int .i64 f] := (rowL_alloc w _ _).below hb1 (by simp)
    clear hd hb1
    go_loopw [6] (fun vi wr => ∃ i : Nat, i ≤ L.length ∧ vi = .int .i64 i ∧ Hid ((L.take i).all (pointB ss.length f) = true) ∧ Below w1.heap.size w1 wr) (fun vi _ => L.length - (intOf vi).toNat)
    case atStart => exact ⟨0, Nat.zero_le _, rfl, (by show _ = _; simp), Below.refl _ _⟩
    case round =>
      obtain ⟨i, hi, rfl, HA, hb⟩ := hrel
      have rb1 := rb.below hb z1
      have y0 := rb1.cell 0
      have y7 := rb1.cell 7
      simp only [List.getElem?_cons_zero, List.getElem?_cons_succ] at y0 y7
      have hsz := hb.size
      have lb := rb1.lt
      by_cases hlt : i < L.length
      · obtain ⟨b, o, rfl, hbl, c0, c1, c2, c3, c4, c5, c6⟩ := (hrow.below hb (Nat.le_refl _)).en hlt
        have hbr : b < wr.heap.size := by omega
        have hki := hf3 _ (List.getElem_mem hlt)
        have HT : Hid ((L.take (i + 1)).all (pointB ss.length f) = ((L.take i).all (pointB ss.length f) && pointB ss.length f L[i])) := by
          show _ = _
          rw [List.take_succ_eq_append_getElem hlt, List.all_append]
          simp
        have HF : Hid (pointB ss.length f L[i] = false → bookP (p0.map PN.nd) r0 ss.length f = none) := fun q => by
          rw [HB.out, if_neg]
          rintro ⟨_, h2⟩
          rw [List.all_eq_true] at h2
          rw [h2 _ (List.getElem_mem hlt)] at q
          cases q
        obtain ⟨x, hx⟩ : ∃ x, L[i] = x := ⟨_, rfl⟩
        rw [hx] at c0 c1 c2 c3 c4 c5 c6 hki HT HF
        have HP : Hid (pointB ss.length f x = (decide (x.key / 1048576 < ss.length) && (decide (f ≤ x.key % 1048576) && decide (x.t = x.key % 1048576)))) := rfl
        by_cases k1 : x.key / 1048576 < ss.length
        · have k1' : decide ((ss.length : Int) ≤ x.key / 1048576) = false := by simpa using k1
          by_cases k2 : f ≤ x.key % 1048576
          · have k2' : decide (x.key % 1048576 < f) = false := by simpa using k2
            by_cases k3 : x.t = x.key % 1048576
            · have k3' : (x.t != x.key % 1048576) = false := by simpa using k3
              have H1 : Hid ((L.take (i + 1)).all (pointB ss.length f) = true) := by
                show _ = _
                rw [HT.out, HA.out, HP.out]
                simp [k1, k2, k3]
              clear HF HT HP HA
              go_wp2_with fail
              go_quiet (fail)
              go_wp2_with fail
              go_roundw
              case rel =>
                go_light
                exact ⟨i + 1, hlt, by go_num, H1, below_drewN hb _⟩
              case measure => simp [intOf]; omega
            · have k3' : (x.t != x.key % 1048576) = true := by simpa using k3
              have H1 : Hid (bookP (p0.map PN.nd) r0 ss.length f = none) := HF.out (by rw [HP.out]; simp [k3])
              clear HF HT HP HA HB
              go_wp2_with fail
              go_quiet (fail)
              go_wp2_with fail
              exact HQ.out _ _ (nextB hw1 (Nat.le_refl _) (below_drewN hb _)) (fun l hl => by rw [H1.out] at hl; cases hl) (fun _ => rfl)
          · have k2' : decide (x.key % 1048576 < f) = true := by simpa using k2
            have H1 : Hid (bookP (p0.map PN.nd) r0 ss.length f = none) := HF.out (by rw [HP.out]; simp [k2])
            clear HF HT HP HA HB
            go_wp2_with fail
            go_quiet (fail)
            go_wp2_with fail
            exact HQ.out _ _ (nextB hw1 (Nat.le_refl _) (below_drewN hb _)) (fun l hl => by rw [H1.out] at hl; cases hl) (fun _ => rfl)
        · have k1' : decide ((ss.length : Int) ≤ x.key / 1048576) = true := by simpa using k1
          have H1 : Hid (bookP (p0.map PN.nd) r0 ss.length f = none) := HF.out (by rw [HP.out]; simp [k1])
          clear HF HT HP HA HB
          go_wp2_with fail
          go_quiet (fail)
          go_wp2_with fail
          exact HQ.out _ _ (nextB hw1 (Nat.le_refl _) (below_drewN hb _)) (fun l hl => by rw [H1.out] at hl; cases hl) (fun _ => rfl)
      · have H1 : Hid (bookP (p0.map PN.nd) r0 ss.length f = some L) := by
          show _ = _
          have q := HA.out
          rw [List.take_of_length_le (by omega)] at q
          rw [HB.out, if_pos ⟨by trivial, q⟩]
        clear HA HB
        go_wp2_with fail
        have how : wr.ownsRow w.heap.size 48 7 (.slice VA L.length VC) L.length (flatE L) := own_mono (own_of_block ho (fun k hk => hb.block k (ho.lt k hk).2)) (by simp)
        exact HQ.out _ _ (nextB hw1 (Nat.le_refl _) hb) (fun l hl => by rw [H1.out] at hl; cases hl; exact ⟨_, rfl, how⟩) (fun hn => by rw [H1.out] at hn; cases hn)
  · have HF : Hid (bookP (p0.map PN.nd) r0 ss.length f = none) := by
      show _ = _
      rw [HB.out, if_neg (fun e => hc e.1)]
    have hc' : (c != 0) = true := by simpa using hc
    go_enter Tryd.func13, Tryd.ntmps13
    go_wp2_with (go_at_call 30; refine (g2 _ (h0.up (b0 _))).mono ?_; rintro e w1 ⟨hb1, v, rfl, ho⟩; obtain ⟨VA, VC, hvv, -, -, -, hrow⟩ := own_row ho; subst hvv)
    refine HQ.out _ _ (nextB (b0 _) (Nat.le_refl _) hb1) (fun l hl => by rw [HF.out] at hl; cases hl) (fun _ => rfl)

end Go.Proofs.YtlojfgdpmaigmafDoor
