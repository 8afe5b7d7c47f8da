/- Lists of names: base.namesMayBe. -/
import Derived.Test.YtlojfgdpmaigmafGreatDoorP26
import Derived.Test.YtlojfgdpmaigmafGreatDoorP12
import Derived.Test.YtlojfgdpmaigmafGreatDoorLays
import Derived.Shelf.Slices.Turned
namespace Go.Proofs.YtlojfgdpmaigmafGreatDoor
section
open Go.RowKit Plain

theorem qoa {ss : List ByteArray} {i : Nat} (hi : i < ss.length) (h : okN ss i = false) : q3w ss = false := by
 cases hn : q3w ss with
 | false => rfl
 | true =>
   unfold q3w at hn
   rw [List.all_eq_true] at hn
   have := hn i (by simpa using hi)
   rw [h] at this
   cases this

theorem qtf {ss : List ByteArray} (h : ∀ j, j < ss.length → okN ss j = true) : q3w ss = true := by
 unfold q3w
 rw [List.all_eq_true]
 exact fun j hj => h j (by simpa using hj)

set_option maxRecDepth 20000 in
set_option maxHeartbeats 1000000 in
theorem qdz (A : Option Addr) (C : Nat) (ss : List ByteArray) (w : World) (h : q2z w.heap.size w A ss) (hC : ss.length ≤ C) :
   Calls Tryz.prog 57 #[.slice A ss.length C] w fun e w' => e = .returned (.bool (decide (ss.length ≤ 16) && q3w ss)) ∧ w' = w := by
 obtain ⟨nb, hnb⟩ : ∃ nb, nb = (decide (ss.length ≤ 16) && q3w ss) := ⟨_, rfl⟩
 have HN : Hid (nb = (decide (ss.length ≤ 16) && q3w ss)) := hnb
 rw [← hnb]
 clear hnb
 have hz := h.z
 have con : ∀ (b o i : Nat) (x : ByteArray) (W : World), i ≤ ss.length → (∀ j, j < ss.length → W.cell? ⟨b, o + j, none⟩ = some (.string (ss.getD j ByteArray.empty))) → Calls Tryz.prog 108 #[.slice (some ⟨b, o, none⟩) i C, .string x] W fun e w' => e = .returned (.bool (Lib.containsS (ss.take i) x)) ∧ w' = W := fun b o i x W hi hc => Any.slices_Contains_string Tryz.containsS b o i C ss x W hi (by omega) hc
 by_cases h16 : ss.length ≤ 16
 · have h16' : ¬ (16 < (ss.length : Int)) := by omega
   go_enter Tryz.func57, Tryz.ntmps57
   go_wp2_with fail
   go_loopw [10] (fun vi wr => ∃ k : Nat, k ≤ ss.length ∧ vi = .int .i64 k ∧ Hid (∀ j, j < k → okN ss j = true) ∧ wr = w) (fun vi _ => ss.length - (intOf vi).toNat)
   case atStart => exact ⟨0, Nat.zero_le _, rfl, (fun j hj => by omega), rfl⟩
   case round =>
     obtain ⟨k, hk, rfl, HA, hw⟩ := hrel
     subst hw
     by_cases hlt : k < ss.length
     · obtain ⟨b, o, rfl, hbl, hc, hcs⟩ := h.row.str hlt
       have HE : Hid (okN ss k = (q6z ss[k] && !Lib.containsS (ss.take k) ss[k])) := by
         show _ = _
         unfold okN
         rw [show ss.getD k ByteArray.empty = ss[k] by rw [List.getD_eq_getElem?_getD, List.getElem?_eq_getElem hlt]; rfl]
       have HB : Hid (okN ss k = true → ∀ j, j < k + 1 → okN ss j = true) := fun q j hj => by
         by_cases e : j = k
         · subst e
           exact q
         · exact HA.out j (by omega)
       have HF : Hid (okN ss k = false → nb = false) := fun q => by
         rw [HN.out, qoa hlt q]
         simp
       have cc := con b o k ss[k] wr (by omega) hcs
       have nm := qme ss[k] wr
       generalize ss[k] = s at *
       have h0k : (0 : Int) ≤ (k : Int) := by omega
       have hkC : (k : Int) ≤ (C : Int) := by omega
       cases hn : q6z s with
       | false =>
         have H1 : Hid (nb = false) := HF.out (by rw [HE.out, hn]; rfl)
         simp only [hn] at nm
         clear HE HB HF cc con hcs
         go_wp2_with (first | (go_at_call 107; refine nm.mono ?_; rintro e w1 ⟨rfl, hw1⟩; subst w1))
         go_ret
         exact ⟨by rw [H1.out]; rfl, rfl⟩
       | true =>
         simp only [hn] at nm
         cases hcn : Lib.containsS (ss.take k) s with
         | true =>
           have H1 : Hid (nb = false) := HF.out (by rw [HE.out, hn, hcn]; rfl)
           simp only [hcn] at cc
           clear HE HB HF con hcs
           go_wp2_with (first | (go_at_call 107; refine nm.mono ?_; rintro e w1 ⟨rfl, hw1⟩; subst w1) | (go_at_call 108; refine cc.mono ?_; rintro e w1 ⟨rfl, hw1⟩; subst w1))
           go_ret
           exact ⟨by rw [H1.out]; rfl, rfl⟩
         | false =>
           have H1 : Hid (∀ j, j < k + 1 → okN ss j = true) := HB.out (by rw [HE.out, hn, hcn]; rfl)
           simp only [hcn] at cc
           clear HE HB HF con hcs
           go_wp2_with (first | (go_at_call 107; refine nm.mono ?_; rintro e w1 ⟨rfl, hw1⟩; subst w1) | (go_at_call 108; refine cc.mono ?_; rintro e w1 ⟨rfl, hw1⟩; subst w1))
           exact ⟨⟨k + 1, hlt, by go_num, H1, by trivial⟩, by simp only [intOf]; omega⟩
     · have HT : Hid (nb = true) := by
         show nb = true
         rw [HN.out, qtf (fun j hj => HA.out j (by omega)), show decide (ss.length ≤ 16) = true by simpa using h16]
         rfl
       go_wp2_with fail
       go_ret
       exact ⟨by rw [HT.out]; rfl, rfl⟩
 · have HF : Hid (nb = false) := by
     show nb = false
     rw [HN.out, show decide (ss.length ≤ 16) = false by simpa using h16]
     rfl
   have h16' : 16 < (ss.length : Int) := by omega
   go_enter Tryz.func57, Tryz.ntmps57
   go_wp2_with fail
   go_ret
   exact ⟨by rw [HF.out]; rfl, rfl⟩

end
section
open Go.RowKit Plain

theorem qnb {p : Prop} (h : p) : Hid p := h

theorem qkv : ∀ (xs : List En) (o r : List En), (∀ x ∈ xs, Good x.ru) → (∀ y ∈ o, Good y.ru) → xs.foldl insO (some o) = some r → r.length ≤ o.length + xs.length
 | [], o, r, _, _, h => by cases h; simp
 | x :: xs, o, r, hx, ho, h => by
   rw [List.foldl_cons] at h
   cases hi : insO (some o) x with
   | none => rw [hi, q3n] at h; cases h
   | some o' =>
     rw [hi] at h
     obtain ⟨q1, q2⟩ := q5p (hx x List.mem_cons_self) ho hi
     have := qkv xs o' r (fun y hy => hx y (List.mem_cons_of_mem _ hy)) q1 h
     simp only [List.length_cons]
     omega

theorem qa8 {size : Int} {l W : List En} (hg : ∀ x ∈ l, Good x.ru) (h : q1f size l = some W) : W.length ≤ l.length := by
 have := qkv (l.map (bk size)) [] W (fun x hx => by
   obtain ⟨y, hy, rfl⟩ := List.mem_map.1 hx
   exact hg y hy) (by simp) h
 simpa using this

end
end Go.Proofs.YtlojfgdpmaigmafGreatDoor
