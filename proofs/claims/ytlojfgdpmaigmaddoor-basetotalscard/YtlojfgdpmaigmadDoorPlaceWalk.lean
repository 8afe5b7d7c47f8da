/- The place of a series: the document's placeOf and seriesFault. -/
import Derived.Test.YtlojfgdpmaigmadDoorP40
namespace Go.Proofs.YtlojfgdpmaigmadDoor
open Go.RowKit Plain

set_option maxRecDepth 20000 in
set_option maxHeartbeats 1000000 in
theorem placeR_any (A : Option Addr) (C : Nat) (ss : List ByteArray) (x : ByteArray) (w : World) (h : StrsAt w.heap.size w A ss) :
    Calls Tryd.prog 30 #[.slice A ss.length C, .string x] w fun e w' => e = .returned (.int .i64 (Lib.idxOfS ss x)) ∧ w' = w := by
  have hz := h.z
  obtain ⟨p, hp⟩ : ∃ p, p = Lib.idxOfS ss x := ⟨_, rfl⟩
  have HP : Hid (p = Lib.idxOfS ss x) := hp
  rw [← hp]
  clear hp
  go_enter Tryd.func30, Tryd.ntmps30
  go_wp2_with fail
  go_loopw [5] (fun vi wr => ∃ k : Nat, k ≤ ss.length ∧ vi = .int .i64 k ∧ Hid (∀ j, j < k → ss.getD j ByteArray.empty ≠ x) ∧ wr = w) (fun vi _ => ss.length - (intOf vi).toNat)
  case atStart => exact ⟨0, Nat.zero_le _, rfl, (fun j hj => by omega), rfl⟩
  case round =>
    obtain ⟨k, hk, rfl, HA, hw⟩ := hrel
    subst hw
    by_cases hlt : k < ss.length
    · obtain ⟨b, o, rfl, hbl, hc, -⟩ := h.row.str hlt
      have HG : Hid (ss.getD k ByteArray.empty = ss[k]) := by
        show _ = _
        rw [List.getD_eq_getElem?_getD, List.getElem?_eq_getElem hlt]
        rfl
      by_cases he : ss[k] = x
      · have H1 : Hid (p = k) := by
          show _ = _
          have q := Lib.idxOfS_hit ss ss.length k x hlt (Nat.le_refl _) (by rw [HG.out]; exact he) HA.out
          rw [List.take_length] at q
          rw [HP.out, q]
        rw [he] at hc
        clear HA HG HP
        go_wp2_with fail
        go_ret
        exact ⟨by rw [H1.out]; rfl, rfl⟩
      · have H1 : Hid (∀ j, j < k + 1 → ss.getD j ByteArray.empty ≠ x) := fun j hj => by
          by_cases e : j = k
          · subst e
            rw [HG.out]
            exact he
          · exact HA.out j (by omega)
        have he1 : (ss[k].toList == x.toList) = false := by
          simp only [beq_eq_false_iff_ne, ne_eq]
          intro e
          exact he (ByteArray.ext (by simpa [ByteArray.toList_eq] using e))
        clear HA HG
        go_wp2_with fail
        exact ⟨⟨k + 1, hlt, by go_num, H1, by trivial⟩, by simp only [intOf]; omega⟩
    · have H1 : Hid (p = -1) := by
        show _ = _
        have q := Lib.idxOfS_miss ss ss.length x (fun j hj => HA.out j (by omega))
        rw [List.take_length] at q
        rw [HP.out, q]
      clear HA HP
      go_wp2_with fail
      go_ret
      exact ⟨by rw [H1.out]; rfl, rfl⟩

set_option maxRecDepth 20000 in
set_option maxHeartbeats 1000000 in
theorem seriesFault_any (A : Option Addr) (C : Nat) (ss : List ByteArray) (t0 t1 t2 : TR) (f : Int) (x : ByteArray) (w : World) (hS : StrsAt w.heap.size w A ss) (h0 : t0.ok w) (h1 : t1.ok w) (h2 : t2.ok w) (bb : Bool) (hbb : Hid (baseB ss f (t0.ps.map PN.nd) t0.r (t1.ps.map PN.nd) t1.r (t2.ps.map PN.nd) t2.r = bb)) :
    Calls Tryd.prog 29 #[.agg (baseV A C ss t0 t1 t2 f).toArray, .string x] w fun e w' => e = .returned (.int .i64 (if bb = true then (if Lib.idxOfS ss x < 0 then 6 else 0) else 7)) ∧ Below w.heap.size w w' := by
  have b0 : ∀ o : Obj, Below w.heap.size w (w.alloc o) := fun o => (Below.refl _ _).alloc (Nat.le_refl _) o
  have mm := fun w' (hb : Below w.heap.size w w') => baseMay_any A C ss t0 t1 t2 f w' (hS.up hb) (h0.1.up hb) (h1.1.up hb) (h2.1.up hb)
  rw [hbb.out] at mm
  have ix := fun w' (hb : Below w.heap.size w w') => placeR_any A C ss x w' (hS.up hb)
  generalize Lib.idxOfS ss x = p at ix ⊢
  clear hbb h0 h1 h2 hS
  obtain ⟨A0, C0, p0, r0⟩ := t0
  obtain ⟨A1, C1, p1, r1⟩ := t1
  obtain ⟨A2, C2, p2, r2⟩ := t2
  simp only [baseV] at *
  have IX := hideM ix
  have MM := hideM mm
  clear ix mm
  cases bb with
  | false =>
    simp only [Bool.false_eq_true, if_false]
    go_enter Tryd.func29, Tryd.ntmps29
    go_wp2_with (first
      | (go_at_call 7; refine (MM.out _ (b0 _)).mono ?_; rintro e w1 ⟨rfl, hb1⟩))
    go_ret
    exact ⟨rfl, nextB (b0 _) (Nat.le_refl _) hb1⟩
  | true =>
    simp only [if_true]
    by_cases hp : p < 0
    · simp only [hp, if_true]
      go_enter Tryd.func29, Tryd.ntmps29
      go_wp2_with (first
        | (go_at_call 7; refine (MM.out _ (b0 _)).mono ?_; rintro e w1 ⟨rfl, hb1⟩; have hw1 : Below w.heap.size w w1 := nextB (b0 _) (Nat.le_refl _) hb1; have yy := (bcells hb1).1; have z1 := sz1 hb1)
        | (go_at_call 30; refine (IX.out _ hw1).mono ?_; rintro e w2 ⟨rfl, hw2⟩; subst w2))
      go_ret
      exact ⟨rfl, hw1⟩
    · simp only [hp, if_false]
      go_enter Tryd.func29, Tryd.ntmps29
      go_wp2_with (first
        | (go_at_call 7; refine (MM.out _ (b0 _)).mono ?_; rintro e w1 ⟨rfl, hb1⟩; have hw1 : Below w.heap.size w w1 := nextB (b0 _) (Nat.le_refl _) hb1; have yy := (bcells hb1).1; have z1 := sz1 hb1)
        | (go_at_call 30; refine (IX.out _ hw1).mono ?_; rintro e w2 ⟨rfl, hw2⟩; subst w2))
      go_ret
      exact ⟨rfl, hw1⟩

end Go.Proofs.YtlojfgdpmaigmadDoor
