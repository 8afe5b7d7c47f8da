/- Entries that may be (P2.1): the code's test and the document's. -/
import Derived.Test.YtlojfgdpmaigmafGreatDoorP13
import Derived.Test.YtlojfgdpmaigmafGreatDoorP12
import Derived.BigQuiet
import Derived.Test.YtlojfgdpmaigmafGreatDoorP02
import Derived.Handy
import Derived.Deep.OwnRows
import Derived.Deep.Light
namespace Go.Proofs.YtlojfgdpmaigmafGreatDoor
section
open Go.RowKit Plain

theorem qw7 {xs : List En} {low high : Int} {k : Nat} (hk : k < xs.length) (h : q0p xs low high = q0p (xs.drop k) (q5o xs low k) high) (he : entB xs[k] (q5o xs low k) high = false) : q0p xs low high = false := by
 rw [h, qba hk, he, Bool.false_and]

theorem qsw {xs : List En} {low high : Int} {k : Nat} (hk : k < xs.length) (h : q0p xs low high = q0p (xs.drop k) (q5o xs low k) high) (he : entB xs[k] (q5o xs low k) high = true) :
   q0p xs low high = q0p (xs.drop (k + 1)) (q5o xs low (k + 1)) high := by
 rw [h, qba hk, he, Bool.true_and]

theorem qso {xs : List En} {low high : Int} {k : Nat} (hk : k = xs.length) (h : q0p xs low high = q0p (xs.drop k) (q5o xs low k) high) : q0p xs low high = true := by
 rw [h, hk, List.drop_length]; rfl

theorem q0y {a b : Bool} (h : a = b) : Ending.returned (.bool a) = .returned (.bool b) := by rw [h]

set_option maxRecDepth 20000 in
set_option maxHeartbeats 4000000 in
theorem q1b (A : Option Addr) (C : Nat) (xs : List En) (most low high : Int) (w : World) (h : q0l w.heap.size w A (q0d xs)) (hz : xs.length * 56 ≤ 140737488351232) (hl : -9223372036854775808 ≤ low) (hh : high ≤ 9223372036854775807) :
   Calls Tryz.prog 176 #[.slice A xs.length C, .int .i64 most, .int .i64 low, .int .i64 high] w fun e w' => e = .returned (.bool (decide ((xs.length : Int) ≤ most) && q0p xs low high)) ∧ Below w.heap.size w w' := by
 by_cases hm : most < xs.length
 · have HE : Hid ((decide ((xs.length : Int) ≤ most) && q0p xs low high) = false) := by
     show _ = false
     rw [decide_eq_false (by omega), Bool.false_and]
   go_enter Tryz.func176, Tryz.ntmps176
   go_wp2_with fail
   go_ret
   exact ⟨q0y HE.out.symm, Below.refl _ _⟩
 · have HE : Hid ((decide ((xs.length : Int) ≤ most) && q0p xs low high) = q0p xs low high) := by
     show _ = _
     rw [decide_eq_true (by omega), Bool.true_and]
   rw [HE.out]
   go_enter Tryz.func176, Tryz.ntmps176
   go_wp2_with fail
   go_loopw [2, 17] (fun lo i wr => ∃ k : Nat, k ≤ xs.length ∧ i = .int .i64 k ∧ lo = .int .i64 (q5o xs low k) ∧ low ≤ q5o xs low k ∧ Hid (q0p xs low high = q0p (xs.drop k) (q5o xs low k) high) ∧ Below w.heap.size w wr) (fun _ i _ => xs.length - (intOf i).toNat)
   case atStart => exact ⟨0, Nat.zero_le _, rfl, rfl, Int.le_refl _, (show _ = _ from rfl), Below.refl _ _⟩
   case round =>
     obtain ⟨k, hk, rfl, rfl, hlo, HR, hb⟩ := hrel
     by_cases hlt : k < xs.length
     · obtain ⟨b, o, rfl, hbl, c0, c1, c2, c3, c4, c5, c6⟩ := (h.below hb (Nat.le_refl _)).en hlt
       have hle : w.heap.size ≤ wr.heap.size := hb.size
       have hbr : b < wr.heap.size := by omega
       have HY : Hid (entB xs[k] (q5o xs low k) high = true → q0p xs low high = q0p (xs.drop (k + 1)) (q5o xs low (k + 1)) high) := fun he => qsw hlt HR.out he
       have HN : Hid (entB xs[k] (q5o xs low k) high = false → q0p xs low high = false) := fun he => qw7 hlt HR.out he
       have HS : Hid (q5o xs low (k + 1) = xs[k].key + 1) := by show _ = _; simp [q5o, hlt]
       clear HR
       generalize xs[k] = x at *
       generalize q5o xs low k = lo at *
       obtain ⟨key, c, s, xlo, xhi, t, l⟩ := x
       simp only at c0 c1 c2 c3 c4 c5 c6
       by_cases h1 : lo ≤ key
       · by_cases h2 : key < high
         · by_cases h3 : c = 0
           · have HN' := HN.out (by simp [entB, h3])
             clear HN HY
             have HN'' : Hid (q0p xs low high = false) := HN'
             clear HN'
             subst h3
             go_wp2_with fail
             go_ret
             exact ⟨q0y HN''.out.symm, hb.alloc hle _⟩
           · by_cases h4 : q1h c s xlo xhi t l = 0
             · have h4' : (q1h c s xlo xhi t l == 0) = true := by simpa using h4
               have h3' : (c == 0) = false := by simpa using h3
               have HY' : Hid (q0p xs low high = q0p (xs.drop (k + 1)) (q5o xs low (k + 1)) high) := HY.out (by simp [entB, h1, h2, h3, h4])
               clear h3 HY HN
               go_wp2_with (first | (go_at_call 112; refine (q1m _ _ _ _ _ _ _).mono ?_; rintro e w1 ⟨rfl, hb1⟩; have hc1 := (q0q hb1).1))
               go_roundw
               case rel =>
                 go_light
                 have hs := HS.out
                 exact ⟨k + 1, by omega, by go_num, by rw [hs], by omega, HY', q0e (hb.alloc hle _) (Nat.le_refl _) hb1⟩
               case measure => simp [intOf]; omega
             · have h4' : (q1h c s xlo xhi t l == 0) = false := by simpa using h4
               have h3' : (c == 0) = false := by simpa using h3
               have HN' : Hid (q0p xs low high = false) := HN.out (by simp [entB, h4])
               clear h3 HY HN
               have h4n : (q1h c s xlo xhi t l != 0) = true := by simpa using h4
               go_wp2_with (first | (go_at_call 112; refine (q1m _ _ _ _ _ _ _).mono ?_; rintro e w1 ⟨rfl, hb1⟩; have hc1 := (q0q hb1).1))
               go_ret
               exact ⟨q0y HN'.out.symm, q0e (hb.alloc hle _) (Nat.le_refl _) hb1⟩
         · have HN' : Hid (q0p xs low high = false) := HN.out (by simp [entB, h2])
           clear HN HY
           go_wp2_with fail
           go_ret
           exact ⟨q0y HN'.out.symm, hb.alloc hle _⟩
       · have HN' : Hid (q0p xs low high = false) := HN.out (by simp [entB, h1])
         clear HN HY
         go_wp2_with fail
         go_ret
         exact ⟨q0y HN'.out.symm, hb.alloc hle _⟩
     · obtain rfl : k = xs.length := by omega
       go_wp2
       go_ret
       exact ⟨q0y (qso rfl HR.out).symm, hb⟩

end
section
open Go.RowKit Plain

theorem q1x {B : Nat} {w w' : World} (h : Below B w w') (n : Nat) : Below B w (w'.drewN n) := ⟨h.os, h.tape, h.output, h.size, h.block⟩

end
section
open Go.RowKit Plain

structure q4q (w : World) (g : Nat) : Prop where
 c0 : w.cell? ⟨g, 0, none⟩ = some (.bool true)
 c1 : w.cell? ⟨g, 1, none⟩ = some (.slice none 0 0)
 c2 : w.cell? ⟨g, 2, none⟩ = some (.slice none 0 0)
 c3 : w.cell? ⟨g, 3, none⟩ = some (.slice none 0 0)
 c4 : w.cell? ⟨g, 4, none⟩ = some (.slice none 0 0)
 lt : g < w.heap.size

theorem q4q.below {B g : Nat} {w w' : World} (h : q4q w g) (hb : Below B w w') (hg : g < B) : q4q w' g :=
 ⟨(hb.cell (p := ⟨g, 0, none⟩) hg).trans h.c0, (hb.cell (p := ⟨g, 1, none⟩) hg).trans h.c1, (hb.cell (p := ⟨g, 2, none⟩) hg).trans h.c2, (hb.cell (p := ⟨g, 3, none⟩) hg).trans h.c3, (hb.cell (p := ⟨g, 4, none⟩) hg).trans h.c4, Nat.lt_of_lt_of_le h.lt hb.size⟩

theorem q4q.alloc {g : Nat} {w : World} (h : q4q w g) (o : Obj) : q4q (w.alloc o) g :=
 h.below ((Below.refl w.heap.size w).alloc (Nat.le_refl _) o) h.lt

set_option maxHeartbeats 1000000 in
theorem qfa (w : World) :
   Calls Tryz.prog 47 #[] w
     fun e w' => ∃ g, e = .returned (.agg #[.slice (some ⟨g, 0, none⟩) 1 1, .int .i64 0]) ∧ w.heap.size ≤ g ∧ q4q w' g ∧ Below w.heap.size w w' := by
 go_enter Tryz.func47, Tryz.ntmps47
 go_wp2_with fail
 exact bodyPost_ret (v := .agg #[.slice (some ⟨w.heap.size + 1, 0, none⟩) 1 1, .int .i64 0]) (by simp [results, Tryz.results47, go_sem]) rfl ⟨w.heap.size + 1, rfl, by omega, ⟨by simp, by simp, by simp, by simp, by simp, by simp⟩, ((Below.refl w.heap.size w).alloc (Nat.le_refl _) _).alloc (by simp) _⟩

end
section
open Go.RowKit Plain

def tv (b : Bool) (g : Nat) : Value := if b = true then .slice (some ⟨g, 0, none⟩) 1 1 else .slice none 0 0

theorem q4q.set {w : World} {g b j : Nat} {v : Value} (h : q4q w g) (hne : g ≠ b) : q4q (w.setCell ⟨b, j, none⟩ v) g := by
 have c : ∀ i, (w.setCell ⟨b, j, none⟩ v).cell? ⟨g, i, none⟩ = w.cell? ⟨g, i, none⟩ := fun i => World.cell?_setCell_far _ _ _ _ (fun e => hne e.symm)
 exact ⟨(c 0).trans h.c0, (c 1).trans h.c1, (c 2).trans h.c2, (c 3).trans h.c3, (c 4).trans h.c4, by simpa using h.lt⟩

theorem qiy {w w1 : World} {n : Nat} {t : TypeId} {l A : List Value} (ra : RowL w1 n t A) (rb : RowL w1 (n + 1) t l) (hb : Below n w w1) (i : Nat) (v1 v2 : Value) :
   RowL ((w1.setCell ⟨n + 1, i, none⟩ v1).setCell ⟨n + 1, i + 1, none⟩ v2) n t A ∧ RowL ((w1.setCell ⟨n + 1, i, none⟩ v1).setCell ⟨n + 1, i + 1, none⟩ v2) (n + 1) t ((l.set i v1).set (i + 1) v2) ∧ Below n w ((w1.setCell ⟨n + 1, i, none⟩ v1).setCell ⟨n + 1, i + 1, none⟩ v2) ∧
   ∀ g, q4q w1 g → n + 1 < g → q4q ((w1.setCell ⟨n + 1, i, none⟩ v1).setCell ⟨n + 1, i + 1, none⟩ v2) g := by
 have far : ∀ (W : World) (j : Nat) (v : Value), (W.setCell ⟨n + 1, j, none⟩ v).heap[n]? = W.heap[n]? := fun W j v => Below.heap_setCell _ _ _ _ (show n ≠ n + 1 by omega)
 refine ⟨(ra.of_block (far _ _ _)).of_block (far _ _ _), (rb.set i v1).set (i + 1) v2, ⟨hb.os, hb.tape, hb.output, by simpa using hb.size, fun k hk => ?_⟩, fun g hg hl => (hg.set (by omega)).set (by omega)⟩
 exact (Below.heap_setCell _ _ _ _ (show k ≠ n + 1 by omega)).trans ((Below.heap_setCell _ _ _ _ (show k ≠ n + 1 by omega)).trans (hb.block k hk))

set_option maxRecDepth 20000 in
set_option maxHeartbeats 800000 in
theorem qtw (w : World) :
   Calls Tryz.prog 50 #[] w
     fun e w' => ∃ g0 g1 g2, e = .returned (.agg #[.slice none 0 0, .slice (some ⟨g0, 0, none⟩) 1 1, .int .i64 0, .slice (some ⟨g1, 0, none⟩) 1 1, .int .i64 0, .slice (some ⟨g2, 0, none⟩) 1 1, .int .i64 0, .int .i64 0]) ∧ q4q w' g0 ∧ q4q w' g1 ∧ q4q w' g2 ∧ Below w.heap.size w w' := by
 go_enter Tryz.func50, Tryz.ntmps50
 go_wp2_with fail
 obtain ⟨W0, hW0⟩ : ∃ W0, W0 = (w.alloc (.cells #[.slice none 0 0, .slice none 0 0, .int .i64 0, .slice none 0 0, .int .i64 0, .slice none 0 0, .int .i64 0, .int .i64 0] 29)).alloc (.cells #[.slice none 0 0, .slice none 0 0, .int .i64 0, .slice none 0 0, .int .i64 0, .slice none 0 0, .int .i64 0, .int .i64 0] 29) := ⟨_, rfl⟩
 have ra : RowL W0 w.heap.size 29 [.slice none 0 0, .slice none 0 0, .int .i64 0, .slice none 0 0, .int .i64 0, .slice none 0 0, .int .i64 0, .int .i64 0] := by
   rw [hW0]
   exact (q0b w _ _).of_block (Below.heap_alloc _ _ _ (by simp))
 have rb : RowL W0 (w.heap.size + 1) 29 [.slice none 0 0, .slice none 0 0, .int .i64 0, .slice none 0 0, .int .i64 0, .slice none 0 0, .int .i64 0, .int .i64 0] := by
   rw [hW0]
   have := q0b (w.alloc (.cells #[.slice none 0 0, .slice none 0 0, .int .i64 0, .slice none 0 0, .int .i64 0, .slice none 0 0, .int .i64 0, .int .i64 0] 29)) [.slice none 0 0, .slice none 0 0, .int .i64 0, .slice none 0 0, .int .i64 0, .slice none 0 0, .int .i64 0, .int .i64 0] 29
   simpa using this
 have hb0 : Below w.heap.size w W0 := by
   rw [hW0]
   exact ((Below.refl _ _).alloc (Nat.le_refl _) _).alloc (by simp) _
 rw [← hW0]
 clear hW0
 obtain ⟨n, hn⟩ : ∃ n, n = w.heap.size := ⟨_, rfl⟩
 rw [← hn] at ra rb hb0 ⊢
 have HN : Hid (n = w.heap.size) := hn
 clear hn
 go_loopw [3] (fun vi wr => ∃ (k g0 g1 g2 : Nat), k ≤ 3 ∧ vi = .int .i64 k ∧ RowL wr n 29 [.slice none 0 0, .slice none 0 0, .int .i64 0, .slice none 0 0, .int .i64 0, .slice none 0 0, .int .i64 0, .int .i64 0] ∧ RowL wr (n + 1) 29 [.slice none 0 0, tv (decide (0 < k)) g0, .int .i64 0, tv (decide (1 < k)) g1, .int .i64 0, tv (decide (2 < k)) g2, .int .i64 0, .int .i64 0] ∧ (0 < k → q4q wr g0 ∧ n + 1 < g0) ∧ (1 < k → q4q wr g1 ∧ n + 1 < g1) ∧ (2 < k → q4q wr g2 ∧ n + 1 < g2) ∧ Below n w wr) (fun vi _ => 3 - (intOf vi).toNat)
 case atStart => exact ⟨0, 0, 0, 0, by omega, rfl, ra, rb, fun h => by omega, fun h => by omega, fun h => by omega, hb0⟩
 case round =>
   clear ra rb hb0
   obtain ⟨k, g0, g1, g2, hk, rfl, ra, rb, p0, p1, p2, hb⟩ := hrel
   have hla := ra.lt
   have hlb := rb.lt
   rcases (show k = 0 ∨ k = 1 ∨ k = 2 ∨ k = 3 by omega) with rfl | rfl | rfl | rfl
   · have rb' := rb
     simp only [tv] at rb
     simp at rb
     go_wp2_with (go_at_call 47; refine (qfa _).mono ?_; rintro e w1 ⟨g, rfl, hg, hn, hb1⟩; have rb1 := rb.below hb1 hlb; have ra1 := ra.below hb1 hla; have d := fun j => rb1.cell j; have f := fun j => rb1.frozen j; have l1 := rb1.lt)
     obtain ⟨q1, q2, q3, q4⟩ := qiy ra1 rb1 (hb.trans (hb1.mono (show n ≤ wr.heap.size by omega))) 1 (.slice (some ⟨g, 0, none⟩) 1 1) (.int .i64 0)
     exact ⟨⟨1, g, 0, 0, by omega, by go_num, q1, by simpa [tv] using q2, fun _ => ⟨q4 _ hn (by omega), by omega⟩, fun h => by omega, fun h => by omega, q3⟩, by simp only [intOf]; omega⟩
   · have rb' := rb
     simp only [tv] at rb
     simp at rb
     go_wp2_with (go_at_call 47; refine (qfa _).mono ?_; rintro e w1 ⟨g, rfl, hg, hn, hb1⟩; have rb1 := rb.below hb1 hlb; have ra1 := ra.below hb1 hla; have d := fun j => rb1.cell j; have f := fun j => rb1.frozen j; have l1 := rb1.lt)
     obtain ⟨q1, q2, q3, q4⟩ := qiy ra1 rb1 (hb.trans (hb1.mono (show n ≤ wr.heap.size by omega))) 3 (.slice (some ⟨g, 0, none⟩) 1 1) (.int .i64 0)
     exact ⟨⟨2, g0, g, 0, by omega, by go_num, q1, by simpa [tv] using q2, fun _ => ⟨q4 _ ((p0 (by omega)).1.below hb1 (p0 (by omega)).1.lt) (p0 (by omega)).2, (p0 (by omega)).2⟩, fun _ => ⟨q4 _ hn (by omega), by omega⟩, fun h => by omega, q3⟩, by simp only [intOf]; omega⟩
   · have rb' := rb
     simp only [tv] at rb
     simp at rb
     go_wp2_with (go_at_call 47; refine (qfa _).mono ?_; rintro e w1 ⟨g, rfl, hg, hn, hb1⟩; have rb1 := rb.below hb1 hlb; have ra1 := ra.below hb1 hla; have d := fun j => rb1.cell j; have f := fun j => rb1.frozen j; have l1 := rb1.lt)
     obtain ⟨q1, q2, q3, q4⟩ := qiy ra1 rb1 (hb.trans (hb1.mono (show n ≤ wr.heap.size by omega))) 5 (.slice (some ⟨g, 0, none⟩) 1 1) (.int .i64 0)
     exact ⟨⟨3, g0, g1, g, by omega, by go_num, q1, by simpa [tv] using q2, fun _ => ⟨q4 _ ((p0 (by omega)).1.below hb1 (p0 (by omega)).1.lt) (p0 (by omega)).2, (p0 (by omega)).2⟩, fun _ => ⟨q4 _ ((p1 (by omega)).1.below hb1 (p1 (by omega)).1.lt) (p1 (by omega)).2, (p1 (by omega)).2⟩, fun _ => ⟨q4 _ hn (by omega), by omega⟩, q3⟩, by simp only [intOf]; omega⟩
   · simp only [tv] at rb
     simp at rb
     have d := fun j => rb.cell j
     have da := fun j => ra.cell j
     have fa := fun j => ra.frozen j
     have N : ∀ g, q4q wr g → n + 1 < g → q4q ((((((((wr.setCell ⟨n, 0, none⟩ (.slice none 0 0)).setCell ⟨n, 1, none⟩ (.slice (some ⟨g0, 0, none⟩) 1 1)).setCell ⟨n, 2, none⟩ (.int .i64 0)).setCell ⟨n, 3, none⟩ (.slice (some ⟨g1, 0, none⟩) 1 1)).setCell ⟨n, 4, none⟩ (.int .i64 0)).setCell ⟨n, 5, none⟩ (.slice (some ⟨g2, 0, none⟩) 1 1)).setCell ⟨n, 6, none⟩ (.int .i64 0)).setCell ⟨n, 7, none⟩ (.int .i64 0)) g := fun g h hl =>
       (((((((h.set (by omega)).set (by omega)).set (by omega)).set (by omega)).set (by omega)).set (by omega)).set (by omega)).set (by omega)
     have S : ∀ {W : World} (j : Nat) (v : Value), Below n w W → Below n w (W.setCell ⟨n, j, none⟩ v) := fun j v h => ⟨h.os, h.tape, h.output, by simpa using h.size, fun k hk => (Below.heap_setCell _ _ _ _ (show k ≠ n by omega)).trans (h.block k hk)⟩
     have B8 := S 7 (.int .i64 0) (S 6 (.int .i64 0) (S 5 (.slice (some ⟨g2, 0, none⟩) 1 1) (S 4 (.int .i64 0) (S 3 (.slice (some ⟨g1, 0, none⟩) 1 1) (S 2 (.int .i64 0) (S 1 (.slice (some ⟨g0, 0, none⟩) 1 1) (S 0 (.slice none 0 0) hb)))))))
     have E0 : Hid (q4q _ g0) := N g0 (p0 (by omega)).1 (p0 (by omega)).2
     have E1 : Hid (q4q _ g1) := N g1 (p1 (by omega)).1 (p1 (by omega)).2
     have E2 : Hid (q4q _ g2) := N g2 (p2 (by omega)).1 (p2 (by omega)).2
     have B : Hid (Below w.heap.size w _) := B8.mono (by have := HN.out; omega)
     clear N S B8 p0 p1 p2
     go_wp2_with fail
     refine bodyPost_ret (v := .agg #[.slice none 0 0, .slice (some ⟨g0, 0, none⟩) 1 1, .int .i64 0, .slice (some ⟨g1, 0, none⟩) 1 1, .int .i64 0, .slice (some ⟨g2, 0, none⟩) 1 1, .int .i64 0, .int .i64 0]) ?_ rfl ?_
     · simp [results, Tryz.results50, go_sem, da]
     · exact ⟨g0, g1, g2, rfl, E0.out, E1.out, E2.out, B.out⟩

end
end Go.Proofs.YtlojfgdpmaigmafGreatDoor
