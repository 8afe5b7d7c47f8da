/- A reader's times: the walk of all. -/
import Derived.Test.YtlojfgdpmaigmafGreatDoorP31
import Derived.Test.YtlojfgdpmaigmafGreatDoorP40
namespace Go.Proofs.YtlojfgdpmaigmafGreatDoor
open Go.RowKit Plain

theorem qdt (l : List En) (x : En) : q0d l ++ q0d [x] = q0d (l ++ [x]) := (q2j l [x]).symm

theorem quo {w : World} {vb : Nat} {x : En} (hv : RowL w vb 86 x.vals) : ∀ j u, (q0d [x])[j]? = some u → w.cell? (Addr.add ⟨vb, 0, none⟩ j) = some u := by
 intro j u hu
 rw [WideShapes.add_plain, Nat.zero_add, hv.cell]
 simpa [q0d] using hu

def PsTo (rb : Nat) (s : Rs) (w : World) (e : Ending) (w' : World) : Prop :=
 ∃ v, e = .returned v ∧ w'.ownsRow w.heap.size 86 7 v (q1c (cnt 10000 s).1.toNat true 0 (cnt 10000 s).2).1.length (q0d (q1c (cnt 10000 s).1.toNat true 0 (cnt 10000 s).2).1) ∧ RdTo rb (q1c (cnt 10000 s).1.toNat true 0 (cnt 10000 s).2).2 w w'

theorem qhx {k : Nat} {first : Bool} {ahead : Int} {s : Rs} (h : (q2r first ahead s).code ≠ 0) : q1c (k + 1) first ahead s = ([], q2r first ahead s) := by
 unfold q1c
 rw [if_neg h]

theorem qni {k : Nat} {first : Bool} {ahead : Int} {s : Rs} (h : (q2r first ahead s).code = 0) : q1c (k + 1) first ahead s = (if (q1c k false (q1v ahead s).key (q2r first ahead s)).2.code = 0 then q1v ahead s :: (q1c k false (q1v ahead s).key (q2r first ahead s)).1 else [], (q1c k false (q1v ahead s).key (q2r first ahead s)).2) := by
 rw [q1c, if_pos h]

def qbx (xs : List En) (p : List En × Rs) : List En × Rs := (if p.2.code = 0 then xs ++ p.1 else [], p.2)

theorem quh {xs : List En} {k : Nat} {first : Bool} {ahead : Int} {s : Rs} (h : (q2r first ahead s).code = 0) : qbx xs (q1c (k + 1) first ahead s) = qbx (xs ++ [q1v ahead s]) (q1c k false (q1v ahead s).key (q2r first ahead s)) := by
 rw [qni h]
 unfold qbx
 by_cases h0 : (q1c k false (q1v ahead s).key (q2r first ahead s)).2.code = 0
 · simp only [h0, if_true, List.append_assoc, List.singleton_append]
 · simp only [h0, if_false]

theorem qo5 (k : Nat) (ahead : Int) (s : Rs) : qbx [] (q1c k true ahead s) = q1c k true ahead s := by
 unfold qbx
 split
 · simp
 · rename_i h
   rw [← qj0 k true ahead s h]

set_option maxRecDepth 20000 in
set_option maxHeartbeats 4000000 in
theorem qju (rb : Nat) (s : Rs) (w : World) (h : RdAt w rb s) :
   Calls Tryz.prog 29 #[.pointer (some ⟨rb, 0, none⟩)] w (PsTo rb s w) := by
 obtain ⟨i0, hi0, hz0, hz1, hz2⟩ := info_parts qbz
 have con1 := q0f (qb5 rb 10000 s w h)
 have hr := qk3 (m := 10000) (by decide) h.u8
 unfold PsTo
 obtain ⟨n, hn⟩ : ∃ n : Nat, (cnt 10000 s).1 = (n : Int) := ⟨(cnt 10000 s).1.toNat, by omega⟩
 obtain ⟨s1, hs⟩ : ∃ s1, (cnt 10000 s).2 = s1 := ⟨_, rfl⟩
 rw [hn] at con1 hr ⊢
 rw [hs] at con1 ⊢
 rw [Int.toNat_natCast]
 obtain ⟨NL, NS, hN⟩ : ∃ NL NS, q1c n true 0 s1 = (NL, NS) := ⟨_, _, rfl⟩
 rw [hN]
 show Calls _ _ _ _ fun e w' => ∃ v, e = .returned v ∧ w'.ownsRow w.heap.size 86 7 v NL.length (q0d NL) ∧ RdTo rb NS w w'
 have HN := q0f hN
 have hn1 : n ≤ 10000 := by omega
 have hlw := h.lt
 clear hN hn hs h hr
 go_enter Tryz.func29, Tryz.ntmps29
 go_wp2_with (first
   | (go_at_call 76; refine con1.out.mono ?_; rintro e w1 ⟨rfl, hT1⟩))
 go_loopw [3, 4, 5, 6, 9] (fun vo va _ _ vi wr => ∃ (i : Nat) (s' : Rs) (xs : List En) (ahead : Int), i ≤ n ∧ vi = .int .i64 (i : Int) ∧ va = .int .i64 ahead ∧ (0 ≤ ahead ∧ ahead < 1099511627776) ∧ xs.length = i ∧ (i = 0 ∨ s'.code = 0) ∧ Hid (qbx xs (q1c (n - i) (decide (i = 0)) ahead s') = (NL, NS)) ∧ wr.ownsRow w.heap.size 86 7 vo i (q0d xs) ∧ RdTo rb s' w wr) (fun _ _ _ _ vi _ => n - (intOf vi).toNat)
 case atStart => exact ⟨0, s1, [], 0, Nat.zero_le _, rfl, rfl, by decide, rfl, .inl rfl, by rw [show decide (0 = 0) = true from rfl, qo5]; exact HN.out, World.ownsRow_nil _ _ _ _, hT1⟩
 case round =>
   obtain ⟨i, s', xs, ahead, hi, rfl, rfl, hah, hxl, hcz, HE, hown, hT⟩ := hrel
   by_cases hlt : i < n
   · have hlt' : (i : Int) < (n : Int) := by omega
     have con2 := q0f (qo6 rb ahead s' wr hah hT.rd)
     have hu := hT.rd.u8
     have kd : 0 ≤ (q1v ahead s').key := by
       have := qle hu
       show 0 ≤ ahead + (num s').1
       omega
     have h1 := HE.out
     rw [show n - i = (n - (i + 1)) + 1 by omega] at h1
     have H1 := q0f h1
     have HBD : Hid (badP (decide (i = 0)) ahead (q1v ahead s') = (decide (1099511627776 ≤ (q1v ahead s').key) || ((!(decide (i = 0)) && decide ((q1v ahead s').key = ahead)) || decide ((q1v ahead s').c = 0)))) := rfl
     have HA : Hid (q2r (decide (i = 0)) ahead s' = if badP (decide (i = 0)) ahead (q1v ahead s') = true then q1l 7 (six s') else six s') := rfl
     have HST := q0f fun hc => qhx (k := n - (i + 1)) (first := decide (i = 0)) (ahead := ahead) (s := s') hc
     have HGO := q0f fun hc => quh (xs := xs) (k := n - (i + 1)) (first := decide (i = 0)) (ahead := ahead) (s := s') hc
     obtain ⟨aft, haft⟩ : ∃ aft, q2r (decide (i = 0)) ahead s' = aft := ⟨_, rfl⟩
     rw [haft] at HA HST HGO
     obtain ⟨x, hx⟩ : ∃ x, q1v ahead s' = x := ⟨_, rfl⟩
     rw [hx] at con2 kd HBD HA HGO
     obtain ⟨s6, hs6⟩ : ∃ s6, six s' = s6 := ⟨_, rfl⟩
     rw [hs6] at con2 HA
     have HT := q0f hT
     have HO := q0f hown
     have HV := q0f (fun k => hown.lt k)
     have HX := q0f hxl
     clear hx hs6 haft h1 HE hT hown hu hxl hcz
     obtain ⟨key, c, ss, lo, hi', tt, l⟩ := x
     simp only at kd HBD
     have con2 : Hid (Calls Tryz.prog 80 #[.pointer (some ⟨rb, 0, none⟩), .int .i64 ahead] wr fun e w' => e = .returned (.agg #[.int .i64 key, .int .i64 c, .int .i64 ss, .int .i64 lo, .int .i64 hi', .int .i64 tt, .int .i64 l]) ∧ RdTo rb s6 wr w') := con2
     have con3 := q0f fun W (hW : RdAt W rb s6) => q4h rb 7 s6 W hW
     have e4' : True := trivial
     have hc : (c == 0) = true ∨ (c == 0) = false := by cases (c == 0) <;> simp
     have hk : (key == ahead) = true ∨ (key == ahead) = false := by cases (key == ahead) <;> simp
     by_cases hbad : badP (decide (i = 0)) ahead ⟨key, c, ss, lo, hi', tt, l⟩ = true
     · have haf : aft = q1l 7 s6 := by rw [HA.out, if_pos hbad]
       have hcode : (q1l 7 s6).code ≠ 0 := q4d (by decide) _
       subst haf
       have hjp : NL = [] ∧ NS = q1l 7 s6 := by
         have h2 := H1.out
         rw [HST.out hcode] at h2
         unfold qbx at h2
         simp only [hcode, if_false] at h2
         obtain ⟨e1, e2⟩ := Prod.mk.inj h2
         exact ⟨e1.symm, e2.symm⟩
       obtain ⟨rfl, rfl⟩ := hjp
       have hne : ((q1l 7 s6).code != 0) = true := by simpa using hcode
       rw [HBD.out] at hbad
       clear HST HGO HA H1 HN HX HBD
       by_cases hb1 : 1099511627776 ≤ key
       · clear hbad
         go_upto_region 10 with (first
           | (go_at_call 80; refine con2.out.mono ?_; rintro e w2 ⟨rfl, hT2⟩; have hT3 := (HT.out.step hT2).below ((Below.refl w2.heap.size w2).alloc (Nat.le_refl _) (.cells #[.int .i64 key, .int .i64 c, .int .i64 ss, .int .i64 lo, .int .i64 hi', .int .i64 tt, .int .i64 l] 86)))
           | (go_at_call 79; refine (con3.out _ hT3.rd).mono ?_; rintro e w3 ⟨rfl, hT5⟩; have hT4 := hT3.step hT5; obtain ⟨A4, C4, row4, -⟩ := hT4.rd.at'; have e4 := row4.cell 1; have l4 := row4.lt; simp only [List.getElem?_cons_zero, List.getElem?_cons_succ] at e4))
         repeat go_step
         refine bodyPost_ret (v := .slice none 0 0) (by simp [results, Tryz.results29, go_sem]) rfl ⟨_, rfl, World.ownsRow_nil _ _ _ _, hT4⟩
       · by_cases h0 : (0 : Int) < (i : Int)
         · rcases hk with hk | hk
           · clear hbad
             go_upto_region 10 with (first
               | (go_at_call 80; refine con2.out.mono ?_; rintro e w2 ⟨rfl, hT2⟩; have hT3 := (HT.out.step hT2).below ((Below.refl w2.heap.size w2).alloc (Nat.le_refl _) (.cells #[.int .i64 key, .int .i64 c, .int .i64 ss, .int .i64 lo, .int .i64 hi', .int .i64 tt, .int .i64 l] 86)))
               | (go_at_call 79; refine (con3.out _ hT3.rd).mono ?_; rintro e w3 ⟨rfl, hT5⟩; have hT4 := hT3.step hT5; obtain ⟨A4, C4, row4, -⟩ := hT4.rd.at'; have e4 := row4.cell 1; have l4 := row4.lt; simp only [List.getElem?_cons_zero, List.getElem?_cons_succ] at e4))
             repeat go_step
             refine bodyPost_ret (v := .slice none 0 0) (by simp [results, Tryz.results29, go_sem]) rfl ⟨_, rfl, World.ownsRow_nil _ _ _ _, hT4⟩
           · have hc1 : (c == 0) = true := by
               have hk' : key ≠ ahead := by simpa using hk
               simp only [hb1, hk', decide_false, Bool.false_or, Bool.and_false, decide_eq_true_eq] at hbad
               simpa using hbad
             clear hbad hc
             go_upto_region 10 with (first
               | (go_at_call 80; refine con2.out.mono ?_; rintro e w2 ⟨rfl, hT2⟩; have hT3 := (HT.out.step hT2).below ((Below.refl w2.heap.size w2).alloc (Nat.le_refl _) (.cells #[.int .i64 key, .int .i64 c, .int .i64 ss, .int .i64 lo, .int .i64 hi', .int .i64 tt, .int .i64 l] 86)))
               | (go_at_call 79; refine (con3.out _ hT3.rd).mono ?_; rintro e w3 ⟨rfl, hT5⟩; have hT4 := hT3.step hT5; obtain ⟨A4, C4, row4, -⟩ := hT4.rd.at'; have e4 := row4.cell 1; have l4 := row4.lt; simp only [List.getElem?_cons_zero, List.getElem?_cons_succ] at e4))
             repeat go_step
             refine bodyPost_ret (v := .slice none 0 0) (by simp [results, Tryz.results29, go_sem]) rfl ⟨_, rfl, World.ownsRow_nil _ _ _ _, hT4⟩
         · have hc1 : (c == 0) = true := by
             have hi0 : i = 0 := by omega
             simp only [hb1, hi0, decide_false, decide_true, Bool.false_or, Bool.not_true, Bool.false_and, decide_eq_true_eq] at hbad
             simpa using hbad
           clear hbad hc
           go_upto_region 10 with (first
             | (go_at_call 80; refine con2.out.mono ?_; rintro e w2 ⟨rfl, hT2⟩; have hT3 := (HT.out.step hT2).below ((Below.refl w2.heap.size w2).alloc (Nat.le_refl _) (.cells #[.int .i64 key, .int .i64 c, .int .i64 ss, .int .i64 lo, .int .i64 hi', .int .i64 tt, .int .i64 l] 86)))
             | (go_at_call 79; refine (con3.out _ hT3.rd).mono ?_; rintro e w3 ⟨rfl, hT5⟩; have hT4 := hT3.step hT5; obtain ⟨A4, C4, row4, -⟩ := hT4.rd.at'; have e4 := row4.cell 1; have l4 := row4.lt; simp only [List.getElem?_cons_zero, List.getElem?_cons_succ] at e4))
           repeat go_step
           refine bodyPost_ret (v := .slice none 0 0) (by simp [results, Tryz.results29, go_sem]) rfl ⟨_, rfl, World.ownsRow_nil _ _ _ _, hT4⟩
     · have haf : aft = s6 := by rw [HA.out, if_neg hbad]
       subst haf
       rw [HBD.out] at hbad
       simp only [Bool.not_eq_true, Bool.or_eq_false_iff, Bool.and_eq_false_iff, decide_eq_false_iff_not, Bool.not_eq_false'] at hbad
       obtain ⟨hb1, hb2, hb3⟩ := hbad
       have hc1 : (c == 0) = false := by simpa using hb3
       have hne := hc1
       clear hc
       by_cases hcode : aft.code = 0
       · have HJ := q0f (HGO.out hcode ▸ H1.out : qbx (xs ++ [⟨key, c, ss, lo, hi', tt, l⟩]) (q1c (n - (i + 1)) false key aft) = (NL, NS))
         have hcd : (aft.code != 0) = false := by simpa using hcode
         rw [hcode] at hcd
         have HC := q0f hcode
         clear HST HGO HA H1 HN HBD hk
         by_cases h0 : (0 : Int) < (i : Int)
         · have hk1 : (key == ahead) = false := by
             rcases hb2 with hb2 | hb2
             · simp only [decide_eq_true_eq] at hb2; omega
             · simpa using hb2
           clear hb2
           go_wp2_with (first
             | (go_at_call 80; refine con2.out.mono ?_; rintro e w2 ⟨rfl, hT2⟩; have hT3 := (HT.out.step hT2).below ((Below.refl w2.heap.size w2).alloc (Nat.le_refl _) (.cells #[.int .i64 key, .int .i64 c, .int .i64 ss, .int .i64 lo, .int .i64 hi', .int .i64 tt, .int .i64 l] 86)); obtain ⟨A4, C4, row4, -⟩ := hT3.rd.at'; have e4 := row4.cell 1; have l4 := row4.lt; simp only [List.getElem?_cons_zero, List.getElem?_cons_succ] at e4; have V2 := q0b w2 [.int .i64 key, .int .i64 c, .int .i64 ss, .int .i64 lo, .int .i64 hi', .int .i64 tt, .int .i64 l] 86; have hown3 := q1d (q0c (w' := w2) HO.out (fun k hk => hT2.kp.block k (HV.out k hk).2 (by have := (HV.out k hk).1; simp; omega))) ((Below.refl w2.heap.size w2).alloc (Nat.le_refl _) (.cells #[.int .i64 key, .int .i64 c, .int .i64 ss, .int .i64 lo, .int .i64 hi', .int .i64 tt, .int .i64 l] 86)))
             | (at_builtin; refine wpList_append_own _ rfl _ _ 33 rfl w.heap.size 86 i0 _ 7 56 Tryz.underlying33 hi0 hz0 hz1 hz2 rfl (by decide) u3 i (q0d xs) rfl (hown3.alloc _) ⟨w2.heap.size + 1, 0, none⟩ 1 1 (q0d [⟨key, c, ss, lo, hi', tt, l⟩]) rfl rfl (quo (x := ⟨key, c, ss, lo, hi', tt, l⟩) (by have h5 := q0b (w2.alloc (.cells #[.int .i64 key, .int .i64 c, .int .i64 ss, .int .i64 lo, .int .i64 hi', .int .i64 tt, .int .i64 l] 86)) [.int .i64 key, .int .i64 c, .int .i64 ss, .int .i64 lo, .int .i64 hi', .int .i64 tt, .int .i64 l] 86; rw [show (w2.alloc (.cells #[.int .i64 key, .int .i64 c, .int .i64 ss, .int .i64 lo, .int .i64 hi', .int .i64 tt, .int .i64 l] 86)).heap.size = w2.heap.size + 1 by simp] at h5; exact h5)) (q2i _) (by unfold maxLen; omega) (by omega) (by have := HT.out.kp.size; have := hT2.kp.size; simp; omega) ?_; intro v4 w4 hown4 hgrow4 _; have row4' := (V2.below ((Below.refl _ _).alloc (Nat.le_refl _) (.cells #[.int .i64 key, .int .i64 c, .int .i64 ss, .int .i64 lo, .int .i64 hi', .int .i64 tt, .int .i64 l] 86)) V2.lt).of_block (w' := w4) (hgrow4.block _ (by simp; omega) (fun e => by have := (HV.out _ e.symm).2; have := hT2.kp.size; omega)); have d4 := fun j => row4'.cell j; have m4 := row4'.lt))
           go_roundw
           case rel =>
             refine ⟨i + 1, aft, xs ++ [⟨key, c, ss, lo, hi', tt, l⟩], key, by omega, by go_num, rfl, ⟨kd, by omega⟩, by rw [List.length_append, HX.out]; rfl, .inr HC.out, ?_, ?_, ?_⟩
             · show qbx _ _ = _
               rw [show decide (i + 1 = 0) = false from rfl, ← HJ.out]
             · rw [← qdt]
               exact hown4
             · exact (hT3.below ((Below.refl _ _).alloc (Nat.le_refl _) (.cells #[.int .i64 key, .int .i64 c, .int .i64 ss, .int .i64 lo, .int .i64 hi', .int .i64 tt, .int .i64 l] 86))).grown hlw hgrow4 (fun k hk => (HV.out k hk).1)
           case measure => simp [intOf]; omega
         · clear hb2
           go_wp2_with (first
             | (go_at_call 80; refine con2.out.mono ?_; rintro e w2 ⟨rfl, hT2⟩; have hT3 := (HT.out.step hT2).below ((Below.refl w2.heap.size w2).alloc (Nat.le_refl _) (.cells #[.int .i64 key, .int .i64 c, .int .i64 ss, .int .i64 lo, .int .i64 hi', .int .i64 tt, .int .i64 l] 86)); obtain ⟨A4, C4, row4, -⟩ := hT3.rd.at'; have e4 := row4.cell 1; have l4 := row4.lt; simp only [List.getElem?_cons_zero, List.getElem?_cons_succ] at e4; have V2 := q0b w2 [.int .i64 key, .int .i64 c, .int .i64 ss, .int .i64 lo, .int .i64 hi', .int .i64 tt, .int .i64 l] 86; have hown3 := q1d (q0c (w' := w2) HO.out (fun k hk => hT2.kp.block k (HV.out k hk).2 (by have := (HV.out k hk).1; simp; omega))) ((Below.refl w2.heap.size w2).alloc (Nat.le_refl _) (.cells #[.int .i64 key, .int .i64 c, .int .i64 ss, .int .i64 lo, .int .i64 hi', .int .i64 tt, .int .i64 l] 86)))
             | (at_builtin; refine wpList_append_own _ rfl _ _ 33 rfl w.heap.size 86 i0 _ 7 56 Tryz.underlying33 hi0 hz0 hz1 hz2 rfl (by decide) u3 i (q0d xs) rfl (hown3.alloc _) ⟨w2.heap.size + 1, 0, none⟩ 1 1 (q0d [⟨key, c, ss, lo, hi', tt, l⟩]) rfl rfl (quo (x := ⟨key, c, ss, lo, hi', tt, l⟩) (by have h5 := q0b (w2.alloc (.cells #[.int .i64 key, .int .i64 c, .int .i64 ss, .int .i64 lo, .int .i64 hi', .int .i64 tt, .int .i64 l] 86)) [.int .i64 key, .int .i64 c, .int .i64 ss, .int .i64 lo, .int .i64 hi', .int .i64 tt, .int .i64 l] 86; rw [show (w2.alloc (.cells #[.int .i64 key, .int .i64 c, .int .i64 ss, .int .i64 lo, .int .i64 hi', .int .i64 tt, .int .i64 l] 86)).heap.size = w2.heap.size + 1 by simp] at h5; exact h5)) (q2i _) (by unfold maxLen; omega) (by omega) (by have := HT.out.kp.size; have := hT2.kp.size; simp; omega) ?_; intro v4 w4 hown4 hgrow4 _; have row4' := (V2.below ((Below.refl _ _).alloc (Nat.le_refl _) (.cells #[.int .i64 key, .int .i64 c, .int .i64 ss, .int .i64 lo, .int .i64 hi', .int .i64 tt, .int .i64 l] 86)) V2.lt).of_block (w' := w4) (hgrow4.block _ (by simp; omega) (fun e => by have := (HV.out _ e.symm).2; have := hT2.kp.size; omega)); have d4 := fun j => row4'.cell j; have m4 := row4'.lt))
           go_roundw
           case rel =>
             refine ⟨i + 1, aft, xs ++ [⟨key, c, ss, lo, hi', tt, l⟩], key, by omega, by go_num, rfl, ⟨kd, by omega⟩, by rw [List.length_append, HX.out]; rfl, .inr HC.out, ?_, ?_, ?_⟩
             · show qbx _ _ = _
               rw [show decide (i + 1 = 0) = false from rfl, ← HJ.out]
             · rw [← qdt]
               exact hown4
             · exact (hT3.below ((Below.refl _ _).alloc (Nat.le_refl _) (.cells #[.int .i64 key, .int .i64 c, .int .i64 ss, .int .i64 lo, .int .i64 hi', .int .i64 tt, .int .i64 l] 86))).grown hlw hgrow4 (fun k hk => (HV.out k hk).1)
           case measure => simp [intOf]; omega
       · have hjp : NL = [] ∧ NS = aft := by
           have h2 := H1.out
           rw [HST.out hcode] at h2
           unfold qbx at h2
           simp only [hcode, if_false] at h2
           obtain ⟨e1, e2⟩ := Prod.mk.inj h2
           exact ⟨e1.symm, e2.symm⟩
         obtain ⟨rfl, rfl⟩ := hjp
         have hcd := bne_iff_ne.2 hcode
         clear HST HGO HA H1 HN HX HBD hk
         by_cases h0 : (0 : Int) < (i : Int)
         · have hk1 : (key == ahead) = false := by
             rcases hb2 with hb2 | hb2
             · simp only [decide_eq_true_eq] at hb2; omega
             · simpa using hb2
           clear hb2
           go_upto_region 10 with (first
             | (go_at_call 80; refine con2.out.mono ?_; rintro e w2 ⟨rfl, hT2⟩; have hT3 := (HT.out.step hT2).below ((Below.refl w2.heap.size w2).alloc (Nat.le_refl _) (.cells #[.int .i64 key, .int .i64 c, .int .i64 ss, .int .i64 lo, .int .i64 hi', .int .i64 tt, .int .i64 l] 86)); obtain ⟨A4, C4, row4, -⟩ := hT3.rd.at'; have e4 := row4.cell 1; have l4 := row4.lt; simp only [List.getElem?_cons_zero, List.getElem?_cons_succ] at e4))
           repeat go_step
           refine bodyPost_ret (v := .slice none 0 0) (by simp [results, Tryz.results29, go_sem]) rfl ⟨_, rfl, World.ownsRow_nil _ _ _ _, hT3⟩
         · clear hb2
           go_upto_region 10 with (first
             | (go_at_call 80; refine con2.out.mono ?_; rintro e w2 ⟨rfl, hT2⟩; have hT3 := (HT.out.step hT2).below ((Below.refl w2.heap.size w2).alloc (Nat.le_refl _) (.cells #[.int .i64 key, .int .i64 c, .int .i64 ss, .int .i64 lo, .int .i64 hi', .int .i64 tt, .int .i64 l] 86)); obtain ⟨A4, C4, row4, -⟩ := hT3.rd.at'; have e4 := row4.cell 1; have l4 := row4.lt; simp only [List.getElem?_cons_zero, List.getElem?_cons_succ] at e4))
           repeat go_step
           refine bodyPost_ret (v := .slice none 0 0) (by simp [results, Tryz.results29, go_sem]) rfl ⟨_, rfl, World.ownsRow_nil _ _ _ _, hT3⟩
   · have hlt' : ¬ ((i : Int) < (n : Int)) := by omega
     have h1 := HE.out
     rw [show n - i = 0 by omega] at h1
     have e1 : xs = NL ∧ s' = NS := by
       unfold qbx at h1
       obtain ⟨e1, e2⟩ := Prod.mk.inj h1
       refine ⟨?_, e2⟩
       rw [← e1]
       show xs = if s'.code = 0 then xs ++ [] else []
       rcases hcz with h0 | h0
       · subst h0
         obtain rfl : xs = [] := List.eq_nil_of_length_eq_zero hxl
         split <;> rfl
       · rw [if_pos h0, List.append_nil]
     have HO2 := q0f (show wr.ownsRow w.heap.size 86 7 u3 xs.length (q0d xs) by rw [hxl]; exact hown)
     obtain ⟨rfl, rfl⟩ := e1
     clear h1 HE HN hown hxl
     go_wp2_with fail
     go_ret
     exact ⟨_, rfl, HO2.out, hT⟩

end Go.Proofs.YtlojfgdpmaigmafGreatDoor
