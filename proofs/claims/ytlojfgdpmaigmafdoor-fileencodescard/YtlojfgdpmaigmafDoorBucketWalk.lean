/- base.bucketsOf: what comes of points, in buckets of a size. -/
import Derived.Test.YtlojfgdpmaigmafDoorP40
import Derived.Test.YtlojfgdpmaigmafDoorP10
import Derived.Test.YtlojfgdpmaigmafDoorBringWalk
import Derived.BigQuiet
namespace Go.Proofs.YtlojfgdpmaigmafDoor
open Go.RowKit Plain

theorem map_get {size : Int} {l : List En} {i : Nat} (hi : i < l.length) : (l.map (bk size))[i]'(by simpa using hi) = bk size l[i] := by simp

theorem bk_sorted3 {l : List En} (hp : l.Pairwise fun a b => a.key < b.key) {size : Int} (hs : size = 1 ∨ size = 60 ∨ size = 3600) : (l.map (bk size)).Pairwise fun a b => a.key ≤ b.key := by
  rcases hs with rfl | hs
  · rw [List.pairwise_map]
    refine hp.imp fun h => ?_
    rw [bk_one, bk_one]
    omega
  · exact bk_sorted hp hs

set_option maxRecDepth 20000 in
set_option maxHeartbeats 1000000 in
theorem bucketsG_any (A : Option Addr) (C : Nat) (l : List En) (size : Int) (hs : size = 1 ∨ size = 60 ∨ size = 3600) (w : World) (h : RowAt w.heap.size w A (flatE l)) (hz : l.length ≤ 28000) (hp : l.Pairwise fun a b => a.key < b.key) (hg : ∀ x ∈ l, Good x.ru) (hk : ∀ x ∈ l, 0 ≤ x.key ∧ x.key < 1099511627776) (Q : Ending → World → Prop)
    (HQ : Hid (∀ e w', Below w.heap.size w w' → (∀ ys, rollP size l = some ys → ∃ v, e = .returned (.tuple #[v, .int .i64 0]) ∧ w'.ownsRow w.heap.size 48 7 v ys.length (flatE ys)) → (rollP size l = none → e = .returned (.tuple #[.slice none 0 0, .int .i64 1])) → Q e w')) :
    Calls Tryd.prog 37 #[.slice A l.length C, .int .i64 size] w Q := by
  obtain ⟨i0, hi0, hz0, hz1, hz2⟩ := info_parts infoE
  have HS : Hid ((l.map (bk size)).Pairwise fun a b => a.key ≤ b.key) := bk_sorted3 hp hs
  go_enter Tryd.func37, Tryd.ntmps37
  go_wp2_with fail
  go_loopw [6, 15] (fun vo vi wr => ∃ (i : Nat) (out : List En), i ≤ l.length ∧ vi = .int .i64 i ∧ Hid (Brg (l.map (bk size)) i out) ∧ out.length ≤ i ∧ wr.ownsRow w.heap.size 48 7 vo out.length (flatE out) ∧ Below w.heap.size w wr) (fun _ vi _ => l.length - (intOf vi).toNat)
  case atStart => exact ⟨0, [], Nat.zero_le _, rfl, brg_start _, by simp, World.ownsRow_nil _ _ _ _, Below.refl _ _⟩
  case round =>
    obtain ⟨i, out, hi, rfl, HB, hol, hown, hb⟩ := hrel
    have hsz := hb.size
    by_cases hlt : i < l.length
    · obtain ⟨b, o, rfl, hbl, c0, c1, c2, c3, c4, c5, c6⟩ := (h.below hb (Nat.le_refl _)).en hlt
      have hbr : b < wr.heap.size := by omega
      have hki := hk _ (List.getElem_mem hlt)
      have hgi := hg _ (List.getElem_mem hlt)
      have hly : i < (l.map (bk size)).length := by simpa using hlt
      have hyi := map_get (size := size) hlt
      obtain ⟨x, hx⟩ : ∃ x, l[i] = x := ⟨_, rfl⟩
      rw [hx] at c0 c1 c2 c3 c4 c5 c6 hki hgi hyi
      have hkm : 0 ≤ x.key % 1048576 ∧ x.key % 1048576 < 1048576 := by omega
      have hkd : 0 ≤ x.key / 1048576 ∧ x.key / 1048576 < 1048576 := by omega
      obtain ⟨tb, htb⟩ : ∃ tb, tb = x.key % 1048576 - x.key % 1048576 % size := ⟨_, rfl⟩
      have htbb : 0 ≤ tb ∧ tb < 1048576 := by rw [htb]; rcases hs with rfl | rfl | rfl <;> omega
      obtain ⟨kx, hkx⟩ : ∃ kx, kx = x.key / 1048576 * 1048576 + tb := ⟨_, rfl⟩
      have HX : Hid (bk size x = ⟨kx, x.c, x.s, x.lo, x.hi, x.t, x.l⟩) := by
        show _ = _
        rw [hkx, htb, show x.key / 1048576 * 1048576 + (x.key % 1048576 - x.key % 1048576 % size) = (bk size x).key from (bk_key x size).symm]
        rfl
      have hkxb : 0 ≤ kx ∧ kx < 1099511627776 := by omega
      have q1 : ∀ W, Calls Tryd.prog 49 #[.int .i64 x.key] W fun e w' => e = .returned (.int .i64 (x.key / 1048576)) ∧ ∃ m, w' = W.drewN m := fun W => (place_any x.key W hki).mono fun _ _ ⟨a1, a2⟩ => ⟨a1, 0, by rw [a2]; rfl⟩
      have q2 : ∀ W, Calls Tryd.prog 48 #[.int .i64 x.key] W fun e w' => e = .returned (.int .i64 (x.key % 1048576)) ∧ ∃ m, w' = W.drewN m := fun W => (timeOf_any x.key W hki).mono fun _ _ ⟨a1, a2⟩ => ⟨a1, 0, by rw [a2]; rfl⟩
      have q3 : ∀ W, Calls Tryd.prog 52 #[.int .i64 (x.key % 1048576), .int .i64 size] W fun e w' => e = .returned (.int .i64 tb) ∧ ∃ m, w' = W.drewN m := fun W => (bbegin_any (x.key % 1048576) size W (by omega) hs).mono fun _ _ ⟨a1, a2⟩ => ⟨by rw [a1, htb], 0, by rw [a2]; rfl⟩
      have q4 : ∀ W, Calls Tryd.prog 51 #[.int .i64 (x.key / 1048576), .int .i64 tb] W fun e w' => e = .returned (.int .i64 kx) ∧ ∃ m, w' = W.drewN m := fun W => (keyOf_any (x.key / 1048576) tb W hkd htbb).mono fun _ _ ⟨a1, a2⟩ => ⟨by rw [a1, hkx], 0, by rw [a2]; rfl⟩
      clear htb hkx
      rcases List.eq_nil_or_concat out with rfl | ⟨l', y, rfl⟩
      · have HB' : Hid (Brg (l.map (bk size)) (i + 1) ([] ++ [En.mk kx x.c x.s x.lo x.hi x.t x.l])) := by
          have q := brg_new HS.out HB.out hly (by rw [hyi]; exact hgi) (fun l y e => by simp at e)
          rw [hyi, HX.out] at q
          exact q
        clear HB
        obtain ⟨A0, C0, hv, hr0, hA0⟩ := own_row hown
        simp only [List.length_nil] at hv
        rw [hv]
        go_wp2_with fail
        go_quiet (first | (refine Calls.quiet_of (q1 _)) | (refine Calls.quiet_of (q2 _)) | (refine Calls.quiet_of (q3 _)) | (refine Calls.quiet_of (q4 _)))
        have hownd : (wr.drewN nq).ownsRow w.heap.size 48 7 (.slice A0 0 C0) 0 (flatE []) := by
          rw [← hv]
          exact own_of_block hown (fun _ _ => rfl)
        have hbd := below_drewN hb nq
        go_wp2_with (at_builtin; refine wpList_append_own _ rfl _ _ 35 rfl w.heap.size 48 i0 _ 7 56 Tryd.underlying35 hi0 hz0 hz1 hz2 rfl (by decide) (.slice A0 0 C0) 0 (flatE []) rfl ((hownd.alloc _).alloc _) ⟨wr.heap.size + 1, 0, none⟩ 1 1 (En.mk kx x.c x.s x.lo x.hi x.t x.l).vals rfl rfl (news2 (wr.drewN nq) _ (En.mk kx x.c x.s x.lo x.hi x.t x.l)) (vals_one _) (by unfold maxLen; omega) (by omega) (by simp; omega) ?_; intro v2 w2 hown2 hgrow2 _)
        have R1 := app_below (out := []) (hownd.alloc _) (hbd.alloc (by simpa using hsz) _) (by simp; omega) hgrow2
        go_wp2
        go_roundw
        case rel =>
          go_light
          exact ⟨i + 1, [] ++ [En.mk kx x.c x.s x.lo x.hi x.t x.l], by omega, by go_num, HB', by simp, app_own (out := []) hown2, R1.1⟩
        case measure => simp [intOf]; omega
      · rw [List.concat_eq_append] at HB hol hown
        obtain ⟨g, cap, hv, hgb, hgl⟩ := hown.form (by simp)
        have hl1 : (l' ++ [y]).length = l'.length + 1 := by simp
        rw [hl1] at hv hown hol
        subst hv
        have hE := own_last hown
        obtain ⟨d0, d1, d2, d3, d4, d5, d6⟩ := hE
        have hd0 : decide ((l'.length : Int) < 0) = false := by simp
        have hngw : ¬ g = wr.heap.size := by omega
        by_cases hk0 : y.key = kx
        · have hbs := brg_same HS.out HB.out hly (by rw [hyi]; exact hgi) (by rw [hyi, HX.out]; exact hk0)
          simp only [hyi, HX.out] at hbs
          obtain ⟨hm, hB1, hN1⟩ := hbs
          clear HB
          obtain ⟨J, hJ⟩ : ∃ J : Ru, J = (mrg y.ru x.ru).1 := ⟨_, rfl⟩
          obtain ⟨ec, hec⟩ : ∃ ec : Int, ec = (mrg y.ru x.ru).2 := ⟨_, rfl⟩
          have hm' : mrg y.ru x.ru = if y.c + x.c ≤ 1073741824 then (jn y.ru x.ru, 0) else (zro, 1) := hm
          have HJ : Hid ((ec = 0 ∧ Brg (l.map (bk size)) (i + 1) (l' ++ [mkE y.key J])) ∨ (ec = 1 ∧ rollP size l = none)) := by
            by_cases hc : y.c + x.c ≤ 1073741824
            · left
              rw [hec, hJ, hm', if_pos hc, hk0]
              exact ⟨rfl, hB1 hc⟩
            · right
              rw [hec, hm', if_neg hc]
              exact ⟨rfl, hN1 hc⟩
          have con : ∀ w', Calls Tryd.prog 43 #[.agg #[.int .i64 y.c, .int .i64 y.s, .int .i64 y.lo, .int .i64 y.hi, .int .i64 y.t, .int .i64 y.l], .agg #[.int .i64 x.c, .int .i64 x.s, .int .i64 x.lo, .int .i64 x.hi, .int .i64 x.t, .int .i64 x.l]] w' fun e w'' => e = .returned (.tuple #[.agg #[.int .i64 J.c, .int .i64 J.s, .int .i64 J.lo, .int .i64 J.hi, .int .i64 J.t, .int .i64 J.l], .int .i64 ec]) ∧ Below w'.heap.size w' w'' := by
            intro w'
            have := merge_any y.ru x.ru w'
            rw [← hJ, ← hec] at this
            exact this
          clear hm hm' hJ hec hB1 hN1
          obtain ⟨jc, js, jlo, jhi, jt, jl⟩ := J
          simp only at con
          have hkb : (y.key == kx) = true := by simpa using hk0
          have hkn : (y.key != kx) = false := by simpa using hk0
          clear hk0
          go_wp2_with fail
          go_quiet (first | (refine Calls.quiet_of (q1 _)) | (refine Calls.quiet_of (q2 _)) | (refine Calls.quiet_of (q3 _)) | (refine Calls.quiet_of (q4 _)))
          go_wp2_with fail
          obtain ⟨wd, hwd⟩ : ∃ wd, wd = (wr.alloc (.cells #[.int .i64 x.key, .int .i64 x.c, .int .i64 x.s, .int .i64 x.lo, .int .i64 x.hi, .int .i64 x.t, .int .i64 x.l] 48)).drewN nq := ⟨_, rfl⟩
          have rx : RowL wd wr.heap.size 48 x.vals := by
            rw [hwd]
            exact rowL_alloc wr x.vals _
          have hbd0 : Below wr.heap.size wr wd := by
            rw [hwd]
            exact below_drewN ((Below.refl _ _).alloc (Nat.le_refl _) _) nq
          have hbd : Below w.heap.size w wd := hb.trans (hbd0.mono hsz)
          have hownd : wd.ownsRow w.heap.size 48 7 (.slice (some ⟨g, 0, none⟩) (l'.length + 1) cap) (l'.length + 1) (flatE (l' ++ [y])) := own_of_block hown (fun k hk => hbd0.block k (own_some hown hk).2)
          have hzd : wd.heap.size = wr.heap.size + 1 := by rw [hwd]; simp
          rw [← hwd]
          clear hown hb hbd0 c0 c1 c2 c3 c4 c5 c6 d0 d1 d2 d3 d4 d5 d6 hwd
          obtain ⟨-, d1, d2, d3, d4, d5, d6⟩ := own_last hownd
          have rxx := fun j => rx.cell j
          simp only [En.vals] at rxx
          have x1 := rxx 1
          have x2 := rxx 2
          have x3 := rxx 3
          have x4 := rxx 4
          have x5 := rxx 5
          have x6 := rxx 6
          simp only [List.getElem?_cons_zero, List.getElem?_cons_succ] at x1 x2 x3 x4 x5 x6
          obtain ⟨n, hn⟩ : ∃ n, n = wr.heap.size := ⟨_, rfl⟩
          rw [← hn] at hsz hzd hgl hngw x1 x2 x3 x4 x5 x6 ⊢
          have hgd : g < wd.heap.size := by omega
          have hnd : n < wd.heap.size := by omega
          clear rx rxx hbr hn hzd
          have q0 : (0 : Int) ≤ (l'.length : Int) := by omega
          obtain ⟨m, hm⟩ : ∃ m, m = l'.length + 1 := ⟨_, rfl⟩
          rw [← hm]
          have q1 : (l'.length : Int) < (m : Int) := by omega
          have HM : Hid (m = l'.length + 1) := hm
          clear hm
          have n1 : ¬ g = wd.heap.size := by omega
          have n2 : ¬ n = wd.heap.size := by omega
          have hgd1 : g < wd.heap.size + 1 := by omega
          have hnd1 : n < wd.heap.size + 1 := by omega
          have KS : ∀ (W : World) (b' o' j : Nat) (v : Value), ¬ b' = wd.heap.size → (W.setCell ⟨wd.heap.size, j, none⟩ v).cell? ⟨b', o', none⟩ = W.cell? ⟨b', o', none⟩ := fun W b' o' j v hb => World.cell?_setCell_far _ _ _ _ (fun e => hb e.symm)
          go_cut [11, 12] (fun v8 v9 wc => ∃ rb, v8 = .pointer (some ⟨rb, 0, none⟩) ∧ v9 = .int .i64 ec ∧ wd.heap.size ≤ rb ∧ RowL wc rb 46 [.int .i64 jc, .int .i64 js, .int .i64 jlo, .int .i64 jhi, .int .i64 jt, .int .i64 jl] ∧ Below wd.heap.size wd wc)
          case first =>
            go_region_held3 (fun w' => w'.cell? ⟨g, l'.length * 7 + 1, none⟩ = some (.int .i64 y.c) ∧ w'.cell? ⟨g, l'.length * 7 + 2, none⟩ = some (.int .i64 y.s) ∧ w'.cell? ⟨g, l'.length * 7 + 3, none⟩ = some (.int .i64 y.lo) ∧ w'.cell? ⟨g, l'.length * 7 + 4, none⟩ = some (.int .i64 y.hi) ∧ w'.cell? ⟨g, l'.length * 7 + 5, none⟩ = some (.int .i64 y.t) ∧ w'.cell? ⟨g, l'.length * 7 + 6, none⟩ = some (.int .i64 y.l) ∧ w'.cell? ⟨n, 1, none⟩ = some (.int .i64 x.c) ∧ w'.cell? ⟨n, 2, none⟩ = some (.int .i64 x.s) ∧ w'.cell? ⟨n, 3, none⟩ = some (.int .i64 x.lo) ∧ w'.cell? ⟨n, 4, none⟩ = some (.int .i64 x.hi) ∧ w'.cell? ⟨n, 5, none⟩ = some (.int .i64 x.t) ∧ w'.cell? ⟨n, 6, none⟩ = some (.int .i64 x.l)) (go_keep) (first | (go_at_call 43; refine (con _).mono ?_; rintro e w3 ⟨rfl, hb3⟩; have T3 := (bcells (hb3.mono (show wd.heap.size ≤ _ by simp))).1; first | (have T4 := alloc_rule (W := wd.drew) (n := wd.heap.size) hb3 rfl; obtain ⟨T40, T41, T42, T43, T44, T45, U4⟩ := T4) | skip))
            · go_wp2
              go_meet
              case rel =>
                refine ⟨w3.heap.size, rfl, rfl, ?_, rowL_alloc w3 _ _, ?_⟩
                · have := hb3.size; simpa using this
                · have bw : Below wd.heap.size wd w3 := ((Below.refl wd.heap.size wd).drew).trans (hb3.mono (by simp))
                  exact bw.alloc bw.size _
            · go_wp2
              go_meet
              case rel =>
                have r0 : RowL w3 wd.heap.size 46 [.int .i64 0, .int .i64 0, .int .i64 0, .int .i64 0, .int .i64 0, .int .i64 0] := RowL.below (rowL_alloc wd.drew _ _) hb3 (by simp)
                have bw : Below wd.heap.size wd w3 := (((Below.refl wd.heap.size wd).alloc (Nat.le_refl _) _).drew).trans (hb3.mono (by simp))
                refine ⟨wd.heap.size, rfl, rfl, Nat.le_refl _, (((((r0.set 0 _).set 1 _).set 2 _).set 3 _).set 4 _).set 5 _, ?_⟩
                exact set6 bw (Nat.le_refl _) _ _ _ _ _ _
          case rest =>
            obtain ⟨rb, rfl, rfl, hrb, hrw, hbc⟩ := hcut
            have r0 := hrw.cell 0
            have r1 := hrw.cell 1
            have r2 := hrw.cell 2
            have r3 := hrw.cell 3
            have r4 := hrw.cell 4
            have r5 := hrw.cell 5
            simp only [List.getElem?_cons_zero, List.getElem?_cons_succ] at r0 r1 r2 r3 r4 r5
            have hrl := hrw.lt
            have hcs : wd.heap.size ≤ wc.heap.size := hbc.size
            have hdz := hbd.size
            have hownc : wc.ownsRow w.heap.size 48 7 (.slice (some ⟨g, 0, none⟩) (l'.length + 1) cap) (l'.length + 1) (flatE (l' ++ [y])) := own_of_block hownd (fun k hk => hbc.block k (own_some hownd hk).2)
            have hbcc : Below w.heap.size w wc := hbd.trans (hbc.mono hdz)
            obtain ⟨-, e1, e2, e3, e4, e5, e6⟩ := own_last hownc
            have ef := fun j => hownc.frozenAt j
            have hgc : g < wc.heap.size := by omega
            have n3 : ¬ rb = g := by omega
            have n4 : ¬ g = rb := by omega
            have HO : Hid (wc.ownsRow w.heap.size 48 7 (.slice (some ⟨g, 0, none⟩) (l'.length + 1) cap) (l'.length + 1) (flatE (l' ++ [y]))) := hownc
            clear hownd hownc d1 d2 d3 d4 d5 d6 x1 x2 x3 x4 x5 x6 con KS
            rcases HJ.out with ⟨he, hWA⟩ | ⟨he, hIN⟩
            · subst he
              have HW' : Hid (Brg (l.map (bk size)) (i + 1) (l' ++ [mkE y.key (Ru.mk jc js jlo jhi jt jl)])) := hWA
              clear HJ hWA
              go_wp2_with fail
              go_roundw
              case rel =>
                go_light
                have hm := HM.out
                subst hm
                exact ⟨i + 1, l' ++ [mkE y.key (Ru.mk jc js jlo jhi jt jl)], by omega, by go_num, HW', by simp; omega, (by
                  have q := own_put HO.out (Ru.mk jc js jlo jhi jt jl)
                  rw [← show (l' ++ [mkE y.key (Ru.mk jc js jlo jhi jt jl)]).length = l'.length + 1 by simp] at q
                  simpa using q), below_set (below_set (below_set (below_set (below_set (below_set hbcc hgb _ _) hgb _ _) hgb _ _) hgb _ _) hgb _ _) hgb _ _⟩
              case measure => simp [intOf]; omega
            · subst he
              have HN : Hid (rollP size l = none) := hIN
              clear HJ hIN
              go_wp2_with fail
              refine HQ.out _ _ (hbcc) (fun ys hys => by rw [HN.out] at hys; cases hys) (fun _ => rfl)
        · have HB' : Hid (Brg (l.map (bk size)) (i + 1) (l' ++ [y] ++ [En.mk kx x.c x.s x.lo x.hi x.t x.l])) := by
            have q := brg_new HS.out HB.out hly (by rw [hyi]; exact hgi) (fun l2 y2 e => by
              obtain ⟨_, e2⟩ := List.append_inj' e rfl
              cases e2
              rw [hyi, HX.out]
              exact hk0)
            rw [hyi, HX.out] at q
            exact q
          clear HB
          have hkb : (y.key == kx) = false := by simpa using hk0
          have hkn : (y.key != kx) = true := by simpa using hk0
          go_wp2_with fail
          go_quiet (first | (refine Calls.quiet_of (q1 _)) | (refine Calls.quiet_of (q2 _)) | (refine Calls.quiet_of (q3 _)) | (refine Calls.quiet_of (q4 _)))
          have hownd : (wr.drewN nq).ownsRow w.heap.size 48 7 (.slice (some ⟨g, 0, none⟩) (l'.length + 1) cap) (l'.length + 1) (flatE (l' ++ [y])) := own_of_block hown (fun _ _ => rfl)
          have hbd := below_drewN hb nq
          go_wp2_with (at_builtin; refine wpList_append_own _ rfl _ _ 35 rfl w.heap.size 48 i0 _ 7 56 Tryd.underlying35 hi0 hz0 hz1 hz2 rfl (by decide) (.slice (some ⟨g, 0, none⟩) (l'.length + 1) cap) (l'.length + 1) (flatE (l' ++ [y])) rfl ((hownd.alloc _).alloc _) ⟨wr.heap.size + 1, 0, none⟩ 1 1 (En.mk kx x.c x.s x.lo x.hi x.t x.l).vals rfl rfl (news2 (wr.drewN nq) _ (En.mk kx x.c x.s x.lo x.hi x.t x.l)) (vals_one _) (by unfold maxLen; omega) (by omega) (by simp; omega) ?_; intro v2 w2 hown2 hgrow2 _)
          have R1 := app_below (out := l' ++ [y]) (by rw [hl1]; exact hownd.alloc _) (hbd.alloc (by simpa using hsz) _) (by simp; omega) hgrow2
          go_wp2
          go_roundw
          case rel =>
            go_light
            exact ⟨i + 1, l' ++ [y] ++ [En.mk kx x.c x.s x.lo x.hi x.t x.l], by omega, by go_num, HB', by simp; omega, app_own (out := l' ++ [y]) (by rw [hl1]; exact hown2), R1.1⟩
          case measure => simp [intOf]; omega
    · have HE : Hid (rollP size l = some out) := by
        have q := HB.out
        rw [show i = (l.map (bk size)).length by simp; omega] at q
        exact brg_end q
      clear HB
      go_wp2_with fail
      exact HQ.out _ _ hb (fun ys hys => by rw [HE.out] at hys; cases hys; exact ⟨_, rfl, hown⟩) (fun hn => by rw [HE.out] at hn; cases hn)

theorem buckets_any (A : Option Addr) (C : Nat) (l : List En) (size : Int) (hs : size = 60 ∨ size = 3600) (w : World) (h : RowAt w.heap.size w A (flatE l)) (hz : l.length ≤ 28000) (hp : l.Pairwise fun a b => a.key < b.key) (hg : ∀ x ∈ l, Good x.ru) (hk : ∀ x ∈ l, 0 ≤ x.key ∧ x.key < 1099511627776) (Q : Ending → World → Prop)
    (HQ : Hid (∀ e w', Below w.heap.size w w' → (∀ ys, rollP size l = some ys → ∃ v, e = .returned (.tuple #[v, .int .i64 0]) ∧ w'.ownsRow w.heap.size 48 7 v ys.length (flatE ys)) → (rollP size l = none → e = .returned (.tuple #[.slice none 0 0, .int .i64 1])) → Q e w')) :
    Calls Tryd.prog 37 #[.slice A l.length C, .int .i64 size] w Q := bucketsG_any A C l size (.inr hs) w h hz hp hg hk Q HQ

end Go.Proofs.YtlojfgdpmaigmafDoor
