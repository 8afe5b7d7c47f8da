/- base.bucketsOf: what comes of points, in buckets of a size. -/
import Derived.Test.YtlojfgdpmaigmafGreatDoorP26
import Derived.Test.YtlojfgdpmaigmafGreatDoorP02
import Derived.Test.YtlojfgdpmaigmafGreatDoorP21
import Derived.BigQuiet
import Derived.Test.YtlojfgdpmaigmafGreatDoorP27
namespace Go.Proofs.YtlojfgdpmaigmafGreatDoor
section
open Go.RowKit Plain

theorem qwj {size : Int} {l : List En} {i : Nat} (hi : i < l.length) : (l.map (bk size))[i]'(by simpa using hi) = bk size l[i] := by simp

theorem qml {l : List En} (hp : l.Pairwise fun a b => a.key < b.key) {size : Int} (hs : size = 1 ∨ size = 60 ∨ size = 3600) : (l.map (bk size)).Pairwise fun a b => a.key ≤ b.key := by
 rcases hs with rfl | hs
 · rw [List.pairwise_map]
   refine hp.imp fun h => ?_
   rw [qp5, qp5]
   omega
 · exact qpb hp hs

set_option maxRecDepth 20000 in
set_option maxHeartbeats 1000000 in
theorem qbg (A : Option Addr) (C : Nat) (l : List En) (size : Int) (hs : size = 1 ∨ size = 60 ∨ size = 3600) (w : World) (h : q0l w.heap.size w A (q0d l)) (hz : l.length ≤ 28000) (hp : l.Pairwise fun a b => a.key < b.key) (hg : ∀ x ∈ l, Good x.ru) (hk : ∀ x ∈ l, 0 ≤ x.key ∧ x.key < 1099511627776) (Q : Ending → World → Prop)
   (HQ : Hid (∀ e w', Below w.heap.size w w' → (∀ ys, q1f size l = some ys → ∃ v, e = .returned (.tuple #[v, .int .i64 0]) ∧ w'.ownsRow w.heap.size 86 7 v ys.length (q0d ys)) → (q1f size l = none → e = .returned (.tuple #[.slice none 0 0, .int .i64 1])) → Q e w')) :
   Calls Tryz.prog 110 #[.slice A l.length C, .int .i64 size] w Q := by
 obtain ⟨i0, hi0, hz0, hz1, hz2⟩ := info_parts qbz
 have HS : Hid ((l.map (bk size)).Pairwise fun a b => a.key ≤ b.key) := qml hp hs
 go_enter Tryz.func110, Tryz.ntmps110
 go_wp2_with fail
 go_loopw [6, 15] (fun vo vi wr => ∃ (i : Nat) (out : List En), i ≤ l.length ∧ vi = .int .i64 i ∧ Hid (Brg (l.map (bk size)) i out) ∧ out.length ≤ i ∧ wr.ownsRow w.heap.size 86 7 vo out.length (q0d out) ∧ Below w.heap.size w wr) (fun _ vi _ => l.length - (intOf vi).toNat)
 case atStart => exact ⟨0, [], Nat.zero_le _, rfl, qge _, by simp, World.ownsRow_nil _ _ _ _, Below.refl _ _⟩
 case round =>
   obtain ⟨i, out, hi, rfl, HB, hol, hown, hb⟩ := hrel
   have hsz := hb.size
   by_cases hlt : i < l.length
   · obtain ⟨b, o, rfl, hbl, c0, c1, c2, c3, c4, c5, c6⟩ := (h.below hb (Nat.le_refl _)).en hlt
     have hbr : b < wr.heap.size := by omega
     have hki := hk _ (List.getElem_mem hlt)
     have hgi := hg _ (List.getElem_mem hlt)
     have hly : i < (l.map (bk size)).length := by simpa using hlt
     have hyi := qwj (size := size) hlt
     obtain ⟨x, hx⟩ : ∃ x, l[i] = x := ⟨_, rfl⟩
     rw [hx] at c0 c1 c2 c3 c4 c5 c6 hki hgi hyi
     have hkm : 0 ≤ x.key % 1048576 ∧ x.key % 1048576 < 1048576 := by omega
     have hkd : 0 ≤ x.key / 1048576 ∧ x.key / 1048576 < 1048576 := by omega
     obtain ⟨tb, htb⟩ : ∃ tb, tb = x.key % 1048576 - x.key % 1048576 % size := ⟨_, rfl⟩
     have htbb : 0 ≤ tb ∧ tb < 1048576 := by rw [htb]; rcases hs with rfl | rfl | rfl <;> omega
     obtain ⟨kx, hkx⟩ : ∃ kx, kx = x.key / 1048576 * 1048576 + tb := ⟨_, rfl⟩
     have HX : Hid (bk size x = ⟨kx, x.c, x.s, x.lo, x.hi, x.t, x.l⟩) := by
       show _ = _
       rw [hkx, htb, show x.key / 1048576 * 1048576 + (x.key % 1048576 - x.key % 1048576 % size) = (bk size x).key from (quz x size).symm]
       rfl
     have hkxb : 0 ≤ kx ∧ kx < 1099511627776 := by omega
     have q1 : ∀ W, Calls Tryz.prog 127 #[.int .i64 x.key] W fun e w' => e = .returned (.int .i64 (x.key / 1048576)) ∧ ∃ m, w' = W.drewN m := fun W => (q3y x.key W hki).mono fun _ _ ⟨a1, a2⟩ => ⟨a1, 0, by rw [a2]; rfl⟩
     have q2 : ∀ W, Calls Tryz.prog 126 #[.int .i64 x.key] W fun e w' => e = .returned (.int .i64 (x.key % 1048576)) ∧ ∃ m, w' = W.drewN m := fun W => (q3d x.key W hki).mono fun _ _ ⟨a1, a2⟩ => ⟨a1, 0, by rw [a2]; rfl⟩
     have q3 : ∀ W, Calls Tryz.prog 101 #[.int .i64 (x.key % 1048576), .int .i64 size] W fun e w' => e = .returned (.int .i64 tb) ∧ ∃ m, w' = W.drewN m := fun W => (q3g (x.key % 1048576) size W (by omega) hs).mono fun _ _ ⟨a1, a2⟩ => ⟨by rw [a1, htb], 0, by rw [a2]; rfl⟩
     have q4 : ∀ W, Calls Tryz.prog 100 #[.int .i64 (x.key / 1048576), .int .i64 tb] W fun e w' => e = .returned (.int .i64 kx) ∧ ∃ m, w' = W.drewN m := fun W => (q7h (x.key / 1048576) tb W hkd htbb).mono fun _ _ ⟨a1, a2⟩ => ⟨by rw [a1, hkx], 0, by rw [a2]; rfl⟩
     clear htb hkx
     rcases List.eq_nil_or_concat out with rfl | ⟨l', y, rfl⟩
     · have HB' : Hid (Brg (l.map (bk size)) (i + 1) ([] ++ [En.mk kx x.c x.s x.lo x.hi x.t x.l])) := by
         have q := qg6 HS.out HB.out hly (by rw [hyi]; exact hgi) (fun l y e => by simp at e)
         rw [hyi, HX.out] at q
         exact q
       clear HB
       obtain ⟨A0, C0, hv, hr0, hA0⟩ := q0k hown
       simp only [List.length_nil] at hv
       rw [hv]
       go_wp2_with fail
       go_quiet (first | (refine Calls.quiet_of (q1 _)) | (refine Calls.quiet_of (q2 _)) | (refine Calls.quiet_of (q3 _)) | (refine Calls.quiet_of (q4 _)))
       have hownd : (wr.drewN nq).ownsRow w.heap.size 86 7 (.slice A0 0 C0) 0 (q0d []) := by
         rw [← hv]
         exact q0c hown (fun _ _ => rfl)
       have hbd := q1x hb nq
       go_wp2_with (at_builtin; refine wpList_append_own _ rfl _ _ 33 rfl w.heap.size 86 i0 _ 7 56 Tryz.underlying33 hi0 hz0 hz1 hz2 rfl (by decide) (.slice A0 0 C0) 0 (q0d []) rfl ((hownd.alloc _).alloc _) ⟨wr.heap.size + 1, 0, none⟩ 1 1 (En.mk kx x.c x.s x.lo x.hi x.t x.l).vals rfl rfl (qrf (wr.drewN nq) _ (En.mk kx x.c x.s x.lo x.hi x.t x.l)) (q8u _) (by unfold maxLen; omega) (by omega) (by simp; omega) ?_; intro v2 w2 hown2 hgrow2 _)
       have R1 := qae (out := []) (hownd.alloc _) (hbd.alloc (by simpa using hsz) _) (by simp; omega) hgrow2
       go_wp2
       go_roundw
       case rel =>
         go_light
         exact ⟨i + 1, [] ++ [En.mk kx x.c x.s x.lo x.hi x.t x.l], by omega, by go_num, HB', by simp, qd0 (out := []) hown2, R1.1⟩
       case measure => simp [intOf]; omega
     · rw [List.concat_eq_append] at HB hol hown
       obtain ⟨g, cap, hv, hgb, hgl⟩ := hown.form (by simp)
       have hl1 : (l' ++ [y]).length = l'.length + 1 := by simp
       rw [hl1] at hv hown hol
       subst hv
       have hE := q9b hown
       obtain ⟨d0, d1, d2, d3, d4, d5, d6⟩ := hE
       have hd0 : decide ((l'.length : Int) < 0) = false := by simp
       have hngw : ¬ g = wr.heap.size := by omega
       by_cases hk0 : y.key = kx
       · have hbs := qlx HS.out HB.out hly (by rw [hyi]; exact hgi) (by rw [hyi, HX.out]; exact hk0)
         simp only [hyi, HX.out] at hbs
         obtain ⟨hm, hB1, hN1⟩ := hbs
         clear HB
         obtain ⟨J, hJ⟩ : ∃ J : Ru, J = (mrg y.ru x.ru).1 := ⟨_, rfl⟩
         obtain ⟨ec, hec⟩ : ∃ ec : Int, ec = (mrg y.ru x.ru).2 := ⟨_, rfl⟩
         have hm' : mrg y.ru x.ru = if y.c + x.c ≤ 1073741824 then (jn y.ru x.ru, 0) else (zro, 1) := hm
         have HJ : Hid ((ec = 0 ∧ Brg (l.map (bk size)) (i + 1) (l' ++ [mkE y.key J])) ∨ (ec = 1 ∧ q1f size l = none)) := by
           by_cases hc : y.c + x.c ≤ 1073741824
           · left
             rw [hec, hJ, hm', if_pos hc, hk0]
             exact ⟨rfl, hB1 hc⟩
           · right
             rw [hec, hm', if_neg hc]
             exact ⟨rfl, hN1 hc⟩
         have con : ∀ w', Calls Tryz.prog 67 #[.agg #[.int .i64 y.c, .int .i64 y.s, .int .i64 y.lo, .int .i64 y.hi, .int .i64 y.t, .int .i64 y.l], .agg #[.int .i64 x.c, .int .i64 x.s, .int .i64 x.lo, .int .i64 x.hi, .int .i64 x.t, .int .i64 x.l]] w' fun e w'' => e = .returned (.tuple #[.agg #[.int .i64 J.c, .int .i64 J.s, .int .i64 J.lo, .int .i64 J.hi, .int .i64 J.t, .int .i64 J.l], .int .i64 ec]) ∧ Below w'.heap.size w' w'' := by
           intro w'
           have := q5e y.ru x.ru w'
           rw [← hJ, ← hec] at this
           exact this
         clear hm hm' hJ hec hB1 hN1
         obtain ⟨jc, js, jlo, jhi, jt, jl⟩ := J
         simp only at con
         have hkb : (y.key == kx) = true := by simpa using hk0
         have hkn : (y.key != kx) = false := by simpa using hk0
         clear hk0
         go_wp2_with fail
         go_quiet (first | (refine Calls.quiet_of (q1 _)) | (refine Calls.quiet_of (q2 _)) | (refine Calls.quiet_of (q3 _)) | (refine Calls.quiet_of (q4 _)))
         go_wp2_with fail
         obtain ⟨wd, hwd⟩ : ∃ wd, wd = (wr.alloc (.cells #[.int .i64 x.key, .int .i64 x.c, .int .i64 x.s, .int .i64 x.lo, .int .i64 x.hi, .int .i64 x.t, .int .i64 x.l] 86)).drewN nq := ⟨_, rfl⟩
         have rx : RowL wd wr.heap.size 86 x.vals := by
           rw [hwd]
           exact q0b wr x.vals _
         have hbd0 : Below wr.heap.size wr wd := by
           rw [hwd]
           exact q1x ((Below.refl _ _).alloc (Nat.le_refl _) _) nq
         have hbd : Below w.heap.size w wd := hb.trans (hbd0.mono hsz)
         have hownd : wd.ownsRow w.heap.size 86 7 (.slice (some ⟨g, 0, none⟩) (l'.length + 1) cap) (l'.length + 1) (q0d (l' ++ [y])) := q0c hown (fun k hk => hbd0.block k (q5r hown hk).2)
         have hzd : wd.heap.size = wr.heap.size + 1 := by rw [hwd]; simp
         rw [← hwd]
         clear hown hb hbd0 c0 c1 c2 c3 c4 c5 c6 d0 d1 d2 d3 d4 d5 d6 hwd
         obtain ⟨-, d1, d2, d3, d4, d5, d6⟩ := q9b hownd
         have rxx := fun j => rx.cell j
         simp only [En.vals] at rxx
         have x1 := rxx 1
         have x2 := rxx 2
         have x3 := rxx 3
         have x4 := rxx 4
         have x5 := rxx 5
         have x6 := rxx 6
         simp only [List.getElem?_cons_zero, List.getElem?_cons_succ] at x1 x2 x3 x4 x5 x6
         obtain ⟨n, hn⟩ : ∃ n, n = wr.heap.size := ⟨_, rfl⟩
         rw [← hn] at hsz hzd hgl hngw x1 x2 x3 x4 x5 x6 ⊢
         have hgd : g < wd.heap.size := by omega
         have hnd : n < wd.heap.size := by omega
         clear rx rxx hbr hn hzd
         have q0 : (0 : Int) ≤ (l'.length : Int) := by omega
         obtain ⟨m, hm⟩ : ∃ m, m = l'.length + 1 := ⟨_, rfl⟩
         rw [← hm]
         have q1 : (l'.length : Int) < (m : Int) := by omega
         have HM : Hid (m = l'.length + 1) := hm
         clear hm
         have n1 : ¬ g = wd.heap.size := by omega
         have n2 : ¬ n = wd.heap.size := by omega
         have hgd1 : g < wd.heap.size + 1 := by omega
         have hnd1 : n < wd.heap.size + 1 := by omega
         have KS : ∀ (W : World) (b' o' j : Nat) (v : Value), ¬ b' = wd.heap.size → (W.setCell ⟨wd.heap.size, j, none⟩ v).cell? ⟨b', o', none⟩ = W.cell? ⟨b', o', none⟩ := fun W b' o' j v hb => World.cell?_setCell_far _ _ _ _ (fun e => hb e.symm)
         go_cut [11, 12] (fun v8 v9 wc => ∃ rb, v8 = .pointer (some ⟨rb, 0, none⟩) ∧ v9 = .int .i64 ec ∧ wd.heap.size ≤ rb ∧ RowL wc rb 49 [.int .i64 jc, .int .i64 js, .int .i64 jlo, .int .i64 jhi, .int .i64 jt, .int .i64 jl] ∧ Below wd.heap.size wd wc)
         case first =>
           go_region_held3 (fun w' => w'.cell? ⟨g, l'.length * 7 + 1, none⟩ = some (.int .i64 y.c) ∧ w'.cell? ⟨g, l'.length * 7 + 2, none⟩ = some (.int .i64 y.s) ∧ w'.cell? ⟨g, l'.length * 7 + 3, none⟩ = some (.int .i64 y.lo) ∧ w'.cell? ⟨g, l'.length * 7 + 4, none⟩ = some (.int .i64 y.hi) ∧ w'.cell? ⟨g, l'.length * 7 + 5, none⟩ = some (.int .i64 y.t) ∧ w'.cell? ⟨g, l'.length * 7 + 6, none⟩ = some (.int .i64 y.l) ∧ w'.cell? ⟨n, 1, none⟩ = some (.int .i64 x.c) ∧ w'.cell? ⟨n, 2, none⟩ = some (.int .i64 x.s) ∧ w'.cell? ⟨n, 3, none⟩ = some (.int .i64 x.lo) ∧ w'.cell? ⟨n, 4, none⟩ = some (.int .i64 x.hi) ∧ w'.cell? ⟨n, 5, none⟩ = some (.int .i64 x.t) ∧ w'.cell? ⟨n, 6, none⟩ = some (.int .i64 x.l)) (go_keep) (first | (go_at_call 67; refine (con _).mono ?_; rintro e w3 ⟨rfl, hb3⟩; have T3 := (q0q (hb3.mono (show wd.heap.size ≤ _ by simp))).1; first | (have T4 := qel (W := wd.drew) (n := wd.heap.size) hb3 rfl; obtain ⟨T40, T41, T42, T43, T44, T45, U4⟩ := T4) | skip))
           · go_wp2
             go_meet
             case rel =>
               refine ⟨w3.heap.size, rfl, rfl, ?_, q0b w3 _ _, ?_⟩
               · have := hb3.size; simpa using this
               · have bw : Below wd.heap.size wd w3 := ((Below.refl wd.heap.size wd).drew).trans (hb3.mono (by simp))
                 exact bw.alloc bw.size _
           · go_wp2
             go_meet
             case rel =>
               have r0 : RowL w3 wd.heap.size 49 [.int .i64 0, .int .i64 0, .int .i64 0, .int .i64 0, .int .i64 0, .int .i64 0] := RowL.below (q0b wd.drew _ _) hb3 (by simp)
               have bw : Below wd.heap.size wd w3 := (((Below.refl wd.heap.size wd).alloc (Nat.le_refl _) _).drew).trans (hb3.mono (by simp))
               refine ⟨wd.heap.size, rfl, rfl, Nat.le_refl _, (((((r0.set 0 _).set 1 _).set 2 _).set 3 _).set 4 _).set 5 _, ?_⟩
               exact set6 bw (Nat.le_refl _) _ _ _ _ _ _
         case rest =>
           obtain ⟨rb, rfl, rfl, hrb, hrw, hbc⟩ := hcut
           have r0 := hrw.cell 0
           have r1 := hrw.cell 1
           have r2 := hrw.cell 2
           have r3 := hrw.cell 3
           have r4 := hrw.cell 4
           have r5 := hrw.cell 5
           simp only [List.getElem?_cons_zero, List.getElem?_cons_succ] at r0 r1 r2 r3 r4 r5
           have hrl := hrw.lt
           have hcs : wd.heap.size ≤ wc.heap.size := hbc.size
           have hdz := hbd.size
           have hownc : wc.ownsRow w.heap.size 86 7 (.slice (some ⟨g, 0, none⟩) (l'.length + 1) cap) (l'.length + 1) (q0d (l' ++ [y])) := q0c hownd (fun k hk => hbc.block k (q5r hownd hk).2)
           have hbcc : Below w.heap.size w wc := hbd.trans (hbc.mono hdz)
           obtain ⟨-, e1, e2, e3, e4, e5, e6⟩ := q9b hownc
           have ef := fun j => hownc.frozenAt j
           have hgc : g < wc.heap.size := by omega
           have n3 : ¬ rb = g := by omega
           have n4 : ¬ g = rb := by omega
           have HO : Hid (wc.ownsRow w.heap.size 86 7 (.slice (some ⟨g, 0, none⟩) (l'.length + 1) cap) (l'.length + 1) (q0d (l' ++ [y]))) := hownc
           clear hownd hownc d1 d2 d3 d4 d5 d6 x1 x2 x3 x4 x5 x6 con KS
           rcases HJ.out with ⟨he, hWA⟩ | ⟨he, hIN⟩
           · subst he
             have HW' : Hid (Brg (l.map (bk size)) (i + 1) (l' ++ [mkE y.key (Ru.mk jc js jlo jhi jt jl)])) := hWA
             clear HJ hWA
             go_wp2_with fail
             go_roundw
             case rel =>
               go_light
               have hm := HM.out
               subst hm
               exact ⟨i + 1, l' ++ [mkE y.key (Ru.mk jc js jlo jhi jt jl)], by omega, by go_num, HW', by simp; omega, (by
                 have q := qp1 HO.out (Ru.mk jc js jlo jhi jt jl)
                 rw [← show (l' ++ [mkE y.key (Ru.mk jc js jlo jhi jt jl)]).length = l'.length + 1 by simp] at q
                 simpa using q), q3c (q3c (q3c (q3c (q3c (q3c hbcc hgb _ _) hgb _ _) hgb _ _) hgb _ _) hgb _ _) hgb _ _⟩
             case measure => simp [intOf]; omega
           · subst he
             have HN : Hid (q1f size l = none) := hIN
             clear HJ hIN
             go_wp2_with fail
             refine HQ.out _ _ (hbcc) (fun ys hys => by rw [HN.out] at hys; cases hys) (fun _ => rfl)
       · have HB' : Hid (Brg (l.map (bk size)) (i + 1) (l' ++ [y] ++ [En.mk kx x.c x.s x.lo x.hi x.t x.l])) := by
           have q := qg6 HS.out HB.out hly (by rw [hyi]; exact hgi) (fun l2 y2 e => by
             obtain ⟨_, e2⟩ := List.append_inj' e rfl
             cases e2
             rw [hyi, HX.out]
             exact hk0)
           rw [hyi, HX.out] at q
           exact q
         clear HB
         have hkb : (y.key == kx) = false := by simpa using hk0
         have hkn : (y.key != kx) = true := by simpa using hk0
         go_wp2_with fail
         go_quiet (first | (refine Calls.quiet_of (q1 _)) | (refine Calls.quiet_of (q2 _)) | (refine Calls.quiet_of (q3 _)) | (refine Calls.quiet_of (q4 _)))
         have hownd : (wr.drewN nq).ownsRow w.heap.size 86 7 (.slice (some ⟨g, 0, none⟩) (l'.length + 1) cap) (l'.length + 1) (q0d (l' ++ [y])) := q0c hown (fun _ _ => rfl)
         have hbd := q1x hb nq
         go_wp2_with (at_builtin; refine wpList_append_own _ rfl _ _ 33 rfl w.heap.size 86 i0 _ 7 56 Tryz.underlying33 hi0 hz0 hz1 hz2 rfl (by decide) (.slice (some ⟨g, 0, none⟩) (l'.length + 1) cap) (l'.length + 1) (q0d (l' ++ [y])) rfl ((hownd.alloc _).alloc _) ⟨wr.heap.size + 1, 0, none⟩ 1 1 (En.mk kx x.c x.s x.lo x.hi x.t x.l).vals rfl rfl (qrf (wr.drewN nq) _ (En.mk kx x.c x.s x.lo x.hi x.t x.l)) (q8u _) (by unfold maxLen; omega) (by omega) (by simp; omega) ?_; intro v2 w2 hown2 hgrow2 _)
         have R1 := qae (out := l' ++ [y]) (by rw [hl1]; exact hownd.alloc _) (hbd.alloc (by simpa using hsz) _) (by simp; omega) hgrow2
         go_wp2
         go_roundw
         case rel =>
           go_light
           exact ⟨i + 1, l' ++ [y] ++ [En.mk kx x.c x.s x.lo x.hi x.t x.l], by omega, by go_num, HB', by simp; omega, qd0 (out := l' ++ [y]) (by rw [hl1]; exact hown2), R1.1⟩
         case measure => simp [intOf]; omega
   · have HE : Hid (q1f size l = some out) := by
       have q := HB.out
       rw [show i = (l.map (bk size)).length by simp; omega] at q
       exact qpc q
     clear HB
     go_wp2_with fail
     exact HQ.out _ _ hb (fun ys hys => by rw [HE.out] at hys; cases hys; exact ⟨_, rfl, hown⟩) (fun hn => by rw [HE.out] at hn; cases hn)

theorem q7l (A : Option Addr) (C : Nat) (l : List En) (size : Int) (hs : size = 60 ∨ size = 3600) (w : World) (h : q0l w.heap.size w A (q0d l)) (hz : l.length ≤ 28000) (hp : l.Pairwise fun a b => a.key < b.key) (hg : ∀ x ∈ l, Good x.ru) (hk : ∀ x ∈ l, 0 ≤ x.key ∧ x.key < 1099511627776) (Q : Ending → World → Prop)
   (HQ : Hid (∀ e w', Below w.heap.size w w' → (∀ ys, q1f size l = some ys → ∃ v, e = .returned (.tuple #[v, .int .i64 0]) ∧ w'.ownsRow w.heap.size 86 7 v ys.length (q0d ys)) → (q1f size l = none → e = .returned (.tuple #[.slice none 0 0, .int .i64 1])) → Q e w')) :
   Calls Tryz.prog 110 #[.slice A l.length C, .int .i64 size] w Q := qbg A C l size (.inr hs) w h hz hp hg hk Q HQ

end
section
open Go.RowKit Plain

set_option maxHeartbeats 1000000 in
theorem qfn (A : Option Addr) (C : Nat) (r : Int) (ps : List PN) (w : World) (hN : q0j w.heap.size w A ps) (hwf : ∀ p ∈ ps, p.wf) :
   Calls Tryz.prog 109 #[.agg #[.slice A ps.length C, .int .i64 r]] w
     fun e w' => Below w.heap.size w w' ∧ ∃ v, e = .returned (.tuple #[v, .int .i64 (allP (ps.map PN.nd) r 0 1099511627776).1]) ∧ w'.ownsRow w.heap.size 86 7 v (allP (ps.map PN.nd) r 0 1099511627776).2.length (q0d (allP (ps.map PN.nd) r 0 1099511627776).2) := by
 have g := fun w' hN => qjq A C r 0 9223372036854775807 ps w' hN hwf
 simp only [q9v] at g
 generalize allP (ps.map PN.nd) r 0 1099511627776 = P at g
 obtain ⟨c, L⟩ := P
 simp only at g
 have b0 : ∀ o : Obj, Below w.heap.size w (w.alloc o) := fun o => (Below.refl _ _).alloc (Nat.le_refl _) o
 go_enter Tryz.func109, Tryz.ntmps109
 go_wp2_with (go_at_call 52; refine (g _ (hN.up (b0 _))).mono ?_; rintro e w1 ⟨hb1, v, rfl, ho⟩)
 exact bodyPost_ret (v := .tuple #[v, .int .i64 c]) (by simp [results, Tryz.results109, go_sem]) rfl ⟨q0e (b0 _) (Nat.le_refl _) hb1, v, rfl, q0o ho (by simp)⟩

set_option maxRecDepth 20000 in
set_option maxHeartbeats 1000000 in
theorem qee (A A' : Option Addr) (C C' : Nat) (xs ys : List En) (w : World) (h : q0l w.heap.size w A (q0d xs)) (h' : q0l w.heap.size w A' (q0d ys)) (hz : xs.length * 56 ≤ 140737488351232) (hz' : ys.length * 56 ≤ 140737488351232) :
   Calls Tryz.prog 111 #[.slice A xs.length C, .slice A' ys.length C'] w fun e w' => e = .returned (.bool (decide (xs = ys))) ∧ Below w.heap.size w w' := by
 obtain ⟨nb, hnb⟩ : ∃ nb, nb = decide (xs = ys) := ⟨_, rfl⟩
 rw [← hnb]
 by_cases hl : xs.length = ys.length
 · have HN : Hid (nb = decide (xs = ys)) := hnb
   clear hnb
   go_enter Tryz.func111, Tryz.ntmps111
   go_wp2_with fail
   have hl' : (xs.length : Int) = (ys.length : Int) := by omega
   go_loopw [13] (fun vi wr => ∃ i : Nat, i ≤ xs.length ∧ vi = .int .i64 i ∧ Hid (xs.take i = ys.take i) ∧ Below w.heap.size w wr) (fun vi _ => xs.length - (intOf vi).toNat)
   case atStart => exact ⟨0, Nat.zero_le _, rfl, (by show _ = _; simp), Below.refl _ _⟩
   case round =>
     obtain ⟨i, hi, rfl, HT, hb⟩ := hrel
     by_cases hlt : i < xs.length
     · have hlt' : i < ys.length := by omega
       obtain ⟨b, o, rfl, hbl, c0, c1, c2, c3, c4, c5, c6⟩ := (h.below hb (Nat.le_refl _)).en hlt
       obtain ⟨b', o', rfl, hbl', d0, d1, d2, d3, d4, d5, d6⟩ := (h'.below hb (Nat.le_refl _)).en hlt'
       have hsz := hb.size
       have l1 : b < wr.heap.size := by omega
       have l2 : b' < wr.heap.size := by omega
       by_cases hxy : xs[i] = ys[i]
       · have HT' : Hid (xs.take (i + 1) = ys.take (i + 1)) := by
           show _ = _
           rw [List.take_succ_eq_append_getElem hlt, List.take_succ_eq_append_getElem hlt', HT.out, hxy]
         rw [hxy] at c0 c1 c2 c3 c4 c5 c6
         clear hxy HT
         generalize ys[i] = y at *
         go_wp2_with fail
         go_quiet (fail)
         go_wp2_with fail
         go_roundw
         case rel =>
           go_light
           exact ⟨i + 1, hlt, by go_num, HT', q1x hb _⟩
         case measure => simp [intOf]; omega
       · have HF : Hid (nb = false) := by
           show nb = false
           rw [HN.out, decide_eq_false_iff_not]
           intro e
           subst e
           exact hxy rfl
         have hne := z0c hxy
         clear HT HN hxy
         generalize xs[i] = x at *
         generalize ys[i] = y at *
         rcases hne with k0 | ⟨k0, k1⟩ | ⟨k0, k1, k2⟩ | ⟨k0, k1, k2, k3⟩ | ⟨k0, k1, k2, k3, k4⟩ | ⟨k0, k1, k2, k3, k4, k5⟩ | ⟨k0, k1, k2, k3, k4, k5, k6⟩
         all_goals
           go_wp2_with fail
           go_quiet (fail)
           go_wp2_with fail
           go_ret
           exact ⟨by rw [HF.out]; rfl, q1x hb _⟩
     · have HE : Hid (nb = true) := by
         show nb = true
         have q := HT.out
         rw [List.take_of_length_le (by omega), List.take_of_length_le (by omega)] at q
         rw [HN.out, q]
         simp
       go_wp2_with fail
       go_ret
       exact ⟨by rw [HE.out]; rfl, hb⟩
 · have HF : Hid (nb = false) := by
     show nb = false
     rw [hnb]
     simp only [decide_eq_false_iff_not]
     intro e
     exact hl (by rw [e])
   clear hnb
   go_enter Tryz.func111, Tryz.ntmps111
   go_wp2_with fail
   go_ret
   exact ⟨by rw [HF.out]; rfl, Below.refl _ _⟩

set_option maxRecDepth 20000 in
set_option maxHeartbeats 1000000 in
theorem qnf (n f : Int) (VA : Option Addr) (VC : Nat) (L : List En) (w : World) (h : q0l w.heap.size w VA (q0d L)) (hz : L.length ≤ 28000) (hk : ∀ x ∈ L, 0 ≤ x.key ∧ x.key < 1099511627776) (hg : ∀ x ∈ L, Good x.ru) :
   Calls Tryz.prog 82 #[.slice VA L.length VC, .int .i64 n, .int .i64 f] w fun e w' => e = .returned (.bool (L.all (q2d n f))) ∧ Below w.heap.size w w' := by
 obtain ⟨nb, hnb⟩ : ∃ nb, nb = L.all (q2d n f) := ⟨_, rfl⟩
 have HN : Hid (nb = L.all (q2d n f)) := hnb
 rw [← hnb]
 clear hnb
 go_enter Tryz.func82, Tryz.ntmps82
 go_wp2_with fail
 go_loopw [12] (fun vi wr => ∃ i : Nat, i ≤ L.length ∧ vi = .int .i64 i ∧ Hid ((L.take i).all (q2d n f) = true) ∧ Below w.heap.size w wr) (fun vi _ => L.length - (intOf vi).toNat)
 case atStart => exact ⟨0, Nat.zero_le _, rfl, (by show _ = _; simp), Below.refl _ _⟩
 case round =>
   obtain ⟨i, hi, rfl, HA, hb⟩ := hrel
   have hsz := hb.size
   by_cases hlt : i < L.length
   · obtain ⟨b, o, rfl, hbl, c0, c1, c2, c3, c4, c5, c6⟩ := (h.below hb (Nat.le_refl _)).en hlt
     have hbr : b < wr.heap.size := by omega
     have hki := hk _ (List.getElem_mem hlt)
     have hgi := hg _ (List.getElem_mem hlt)
     have HT : Hid ((L.take (i + 1)).all (q2d n f) = ((L.take i).all (q2d n f) && q2d n f L[i])) := by
       show _ = _
       rw [List.take_succ_eq_append_getElem hlt, List.all_append]
       simp
     have HF : Hid (q2d n f L[i] = false → nb = false) := fun q => by
       rw [HN.out]
       cases ha : L.all (q2d n f) with
       | false => rfl
       | true =>
         rw [List.all_eq_true] at ha
         rw [ha _ (List.getElem_mem hlt)] at q
         cases q
     obtain ⟨x, hx⟩ : ∃ x, L[i] = x := ⟨_, rfl⟩
     rw [hx] at c0 c1 c2 c3 c4 c5 c6 hki hgi HT HF
     have hc0 : (x.c == 0) = false := by have : x.c ≠ 0 := hgi.2; simpa using this
     have con := q0s fun W => q1m x.c x.s x.lo x.hi x.t x.l W
     rw [show q1h x.c x.s x.lo x.hi x.t x.l = 0 from hgi.1] at con
     have HP : Hid (q2d n f x = (decide (x.key / 1048576 < n) && (decide (f ≤ x.key % 1048576) && decide (x.t = x.key % 1048576)))) := rfl
     have b1 : ∀ ob : Obj, Below w.heap.size w (wr.alloc ob) := fun ob => hb.alloc hsz ob
     by_cases k1 : x.key / 1048576 < n
     · have k1' : decide (n ≤ x.key / 1048576) = false := by simpa using k1
       by_cases k2 : f ≤ x.key % 1048576
       · have k2' : decide (x.key % 1048576 < f) = false := by simpa using k2
         by_cases k3 : x.key % 1048576 = x.t
         · have k3' : (x.key % 1048576 != x.t) = false := by simpa using k3
           have H1 : Hid ((L.take (i + 1)).all (q2d n f) = true) := by
             show _ = _
             rw [HT.out, HA.out, HP.out, decide_eq_true k1, decide_eq_true k2, decide_eq_true k3.symm]
             rfl
           clear HF HT HP HA k3 hgi
           go_wp2_with (first | (go_at_call 126; refine (q3d x.key _ hki).mono ?_; rintro e w2 ⟨rfl, hw2⟩; subst w2) | (go_at_call 127; refine (q3y x.key _ hki).mono ?_; rintro e w2 ⟨rfl, hw2⟩; subst w2) | (go_at_call 112; refine (con.out _).mono ?_; rintro e w3 ⟨rfl, hb3⟩; have hb3' : Below w.heap.size w w3 := q0e (b1 _) (Nat.le_refl _) hb3))
           go_roundw
           case rel =>
             go_light
             exact ⟨i + 1, hlt, by go_num, H1, hb3'⟩
           case measure => simp [intOf]; omega
         · have k3' : (x.key % 1048576 != x.t) = true := by simpa using k3
           have H1 : Hid (nb = false) := HF.out (by rw [HP.out]; simp [Ne.symm k3])
           clear HF HT HP HA HN hgi
           go_wp2_with (first | (go_at_call 126; refine (q3d x.key _ hki).mono ?_; rintro e w2 ⟨rfl, hw2⟩; subst w2) | (go_at_call 127; refine (q3y x.key _ hki).mono ?_; rintro e w2 ⟨rfl, hw2⟩; subst w2))
           go_ret
           exact ⟨by rw [H1.out]; rfl, b1 _⟩
       · have k2' : decide (x.key % 1048576 < f) = true := by simpa using k2
         have H1 : Hid (nb = false) := HF.out (by rw [HP.out]; simp [k2])
         clear HF HT HP HA HN hgi
         go_wp2_with (first | (go_at_call 126; refine (q3d x.key _ hki).mono ?_; rintro e w2 ⟨rfl, hw2⟩; subst w2) | (go_at_call 127; refine (q3y x.key _ hki).mono ?_; rintro e w2 ⟨rfl, hw2⟩; subst w2))
         go_ret
         exact ⟨by rw [H1.out]; rfl, b1 _⟩
     · have k1' : decide (n ≤ x.key / 1048576) = true := by simpa using k1
       have H1 : Hid (nb = false) := HF.out (by rw [HP.out]; simp [k1])
       clear HF HT HP HA HN hgi
       go_wp2_with (first | (go_at_call 126; refine (q3d x.key _ hki).mono ?_; rintro e w2 ⟨rfl, hw2⟩; subst w2) | (go_at_call 127; refine (q3y x.key _ hki).mono ?_; rintro e w2 ⟨rfl, hw2⟩; subst w2))
       go_ret
       exact ⟨by rw [H1.out]; rfl, b1 _⟩
   · have H1 : Hid (nb = true) := by
       show _ = _
       have q := HA.out
       rw [List.take_of_length_le (by omega)] at q
       rw [HN.out, q]
     go_wp2_with fail
     go_ret
     exact ⟨by rw [H1.out]; rfl, hb⟩

end
section
open Go.RowKit Plain

def q5l (n f : Int) (x : En) : Bool := q2d n f x && decide (q1h x.c x.s x.lo x.hi x.t x.l = 0)

set_option maxRecDepth 20000 in
set_option maxHeartbeats 1000000 in
theorem q9i (n f : Int) (VA : Option Addr) (VC : Nat) (L : List En) (w : World) (h : q0l w.heap.size w VA (q0d L)) (hz : L.length ≤ 28000) (hk : ∀ x ∈ L, 0 ≤ x.key ∧ x.key < 1099511627776) (hc : ∀ x ∈ L, x.c ≠ 0) :
   Calls Tryz.prog 82 #[.slice VA L.length VC, .int .i64 n, .int .i64 f] w fun e w' => e = .returned (.bool (L.all (q5l n f))) ∧ Below w.heap.size w w' := by
 obtain ⟨nb, hnb⟩ : ∃ nb, nb = L.all (q5l n f) := ⟨_, rfl⟩
 have HN : Hid (nb = L.all (q5l n f)) := hnb
 rw [← hnb]
 clear hnb
 go_enter Tryz.func82, Tryz.ntmps82
 go_wp2_with fail
 go_loopw [12] (fun vi wr => ∃ i : Nat, i ≤ L.length ∧ vi = .int .i64 i ∧ Hid ((L.take i).all (q5l n f) = true) ∧ Below w.heap.size w wr) (fun vi _ => L.length - (intOf vi).toNat)
 case atStart => exact ⟨0, Nat.zero_le _, rfl, (by show _ = _; simp), Below.refl _ _⟩
 case round =>
   obtain ⟨i, hi, rfl, HA, hb⟩ := hrel
   have hsz := hb.size
   by_cases hlt : i < L.length
   · obtain ⟨b, o, rfl, hbl, c0, c1, c2, c3, c4, c5, c6⟩ := (h.below hb (Nat.le_refl _)).en hlt
     have hbr : b < wr.heap.size := by omega
     have hki := hk _ (List.getElem_mem hlt)
     have hgi := hc _ (List.getElem_mem hlt)
     have HT : Hid ((L.take (i + 1)).all (q5l n f) = ((L.take i).all (q5l n f) && q5l n f L[i])) := by
       show _ = _
       rw [List.take_succ_eq_append_getElem hlt, List.all_append]
       simp
     have HF : Hid (q5l n f L[i] = false → nb = false) := fun q => by
       rw [HN.out]
       cases ha : L.all (q5l n f) with
       | false => rfl
       | true =>
         rw [List.all_eq_true] at ha
         rw [ha _ (List.getElem_mem hlt)] at q
         cases q
     obtain ⟨x, hx⟩ : ∃ x, L[i] = x := ⟨_, rfl⟩
     rw [hx] at c0 c1 c2 c3 c4 c5 c6 hki hgi HT HF
     have hc0 : (x.c == 0) = false := by simpa using hgi
     have con := q0s fun W => q1m x.c x.s x.lo x.hi x.t x.l W
     have HP : Hid (q5l n f x = ((decide (x.key / 1048576 < n) && (decide (f ≤ x.key % 1048576) && decide (x.t = x.key % 1048576))) && decide (q1h x.c x.s x.lo x.hi x.t x.l = 0))) := rfl
     have b1 : ∀ ob : Obj, Below w.heap.size w (wr.alloc ob) := fun ob => hb.alloc hsz ob
     by_cases k1 : x.key / 1048576 < n
     · have k1' : decide (n ≤ x.key / 1048576) = false := by simpa using k1
       by_cases k2 : f ≤ x.key % 1048576
       · have k2' : decide (x.key % 1048576 < f) = false := by simpa using k2
         by_cases k3 : x.key % 1048576 = x.t
         · have k3' : (x.key % 1048576 != x.t) = false := by simpa using k3
           by_cases k5 : q1h x.c x.s x.lo x.hi x.t x.l = 0
           · have H1 : Hid ((L.take (i + 1)).all (q5l n f) = true) := by
               show _ = _
               rw [HT.out, HA.out, HP.out, decide_eq_true k1, decide_eq_true k2, decide_eq_true k3.symm, decide_eq_true k5]
               rfl
             rw [k5] at con
             clear HF HT HP HA k3 hgi k5
             go_wp2_with (first | (go_at_call 126; refine (q3d x.key _ hki).mono ?_; rintro e w2 ⟨rfl, hw2⟩; subst w2) | (go_at_call 127; refine (q3y x.key _ hki).mono ?_; rintro e w2 ⟨rfl, hw2⟩; subst w2) | (go_at_call 112; refine (con.out _).mono ?_; rintro e w3 ⟨rfl, hb3⟩; have hb3' : Below w.heap.size w w3 := q0e (b1 _) (Nat.le_refl _) hb3))
             go_roundw
             case rel =>
               go_light
               exact ⟨i + 1, hlt, by go_num, H1, hb3'⟩
             case measure => simp [intOf]; omega
           · have H1 : Hid (nb = false) := HF.out (by rw [HP.out]; simp [k5])
             obtain ⟨cc, hcc⟩ : ∃ cc, q1h x.c x.s x.lo x.hi x.t x.l = cc := ⟨_, rfl⟩
             rw [hcc] at con k5
             have k5' : (cc != 0) = true := by simpa using k5
             clear HF HT HP HA HN hgi hcc k3 k5
             go_wp2_with (first | (go_at_call 126; refine (q3d x.key _ hki).mono ?_; rintro e w2 ⟨rfl, hw2⟩; subst w2) | (go_at_call 127; refine (q3y x.key _ hki).mono ?_; rintro e w2 ⟨rfl, hw2⟩; subst w2) | (go_at_call 112; refine (con.out _).mono ?_; rintro e w3 ⟨rfl, hb3⟩; have hb3' : Below w.heap.size w w3 := q0e (b1 _) (Nat.le_refl _) hb3))
             go_ret
             exact ⟨by rw [H1.out]; rfl, hb3'⟩
         · have k3' : (x.key % 1048576 != x.t) = true := by simpa using k3
           have H1 : Hid (nb = false) := HF.out (by rw [HP.out]; simp [Ne.symm k3])
           clear HF HT HP HA HN hgi
           go_wp2_with (first | (go_at_call 126; refine (q3d x.key _ hki).mono ?_; rintro e w2 ⟨rfl, hw2⟩; subst w2) | (go_at_call 127; refine (q3y x.key _ hki).mono ?_; rintro e w2 ⟨rfl, hw2⟩; subst w2))
           go_ret
           exact ⟨by rw [H1.out]; rfl, b1 _⟩
       · have k2' : decide (x.key % 1048576 < f) = true := by simpa using k2
         have H1 : Hid (nb = false) := HF.out (by rw [HP.out]; simp [k2])
         clear HF HT HP HA HN hgi
         go_wp2_with (first | (go_at_call 126; refine (q3d x.key _ hki).mono ?_; rintro e w2 ⟨rfl, hw2⟩; subst w2) | (go_at_call 127; refine (q3y x.key _ hki).mono ?_; rintro e w2 ⟨rfl, hw2⟩; subst w2))
         go_ret
         exact ⟨by rw [H1.out]; rfl, b1 _⟩
     · have k1' : decide (n ≤ x.key / 1048576) = true := by simpa using k1
       have H1 : Hid (nb = false) := HF.out (by rw [HP.out]; simp [k1])
       clear HF HT HP HA HN hgi
       go_wp2_with (first | (go_at_call 126; refine (q3d x.key _ hki).mono ?_; rintro e w2 ⟨rfl, hw2⟩; subst w2) | (go_at_call 127; refine (q3y x.key _ hki).mono ?_; rintro e w2 ⟨rfl, hw2⟩; subst w2))
       go_ret
       exact ⟨by rw [H1.out]; rfl, b1 _⟩
   · have H1 : Hid (nb = true) := by
       show _ = _
       have q := HA.out
       rw [List.take_of_length_le (by omega)] at q
       rw [HN.out, q]
     go_wp2_with fail
     go_ret
     exact ⟨by rw [H1.out]; rfl, hb⟩

end
end Go.Proofs.YtlojfgdpmaigmafGreatDoor
