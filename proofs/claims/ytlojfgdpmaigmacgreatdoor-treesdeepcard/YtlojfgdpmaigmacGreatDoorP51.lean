/- TreeTells of package winnowerkeep: it is so. -/
import Derived.Test.YtlojfgdpmaigmacGreatDoorAddAny
import Derived.Test.YtlojfgdpmaigmacGreatDoorBaseNewWalk
import Derived.Test.YtlojfgdpmaigmacGreatDoorP08
import Derived.Deep.RegionHeld3
import Derived.Deep.DeepCutAuto
import Derived.Test.YtlojfgdpmaigmacGreatDoorGetWalk
namespace Go.Proofs.YtlojfgdpmaigmacGreatDoor
open Go.RowKit Plain Go.Shelf

theorem new_nodes {w : World} {g : Nat} (h : NewAt w g) : NodesAt w.heap.size w (some ⟨g, 0, none⟩) [zleaf] := by
  refine ⟨.inr ⟨g, 0, rfl, h.lt, fun j u hu => ?_⟩, fun k hk => ?_, by decide⟩
  · have hj : j < 5 := by
      have := (List.getElem?_eq_some_iff.1 hu).1
      simpa [flatN_length] using this
    rw [Nat.zero_add]
    rcases (show j = 0 ∨ j = 1 ∨ j = 2 ∨ j = 3 ∨ j = 4 by omega) with rfl | rfl | rfl | rfl | rfl <;> cases hu
    · exact h.c0
    · exact h.c1
    · exact h.c2
    · exact h.c3
    · exact h.c4
  · obtain rfl : k = 0 := by simpa using hk
    exact ⟨.inl rfl, .inl rfl, .inl rfl, .inl rfl, fun _ => rfl, fun _ => rfl, fun _ => rfl, fun _ => rfl, by simp [zleaf], by simp [zleaf], by simp [zleaf], by simp [zleaf]⟩

theorem zleaf_wf : ∀ p ∈ [zleaf], p.wf := by
  intro p hp
  obtain rfl : p = zleaf := by simpa using hp
  unfold PN.wf zleaf
  simp

theorem new_allP : allP ([zleaf].map PN.nd) 0 0 1099511627776 = (0, []) := by
  have h : treeC ([zleaf].map PN.nd) 0 = 0 := by decide
  exact allP_of h (by rw [allR_all h]; rfl)

theorem new_base : baseB [] 0 ([zleaf].map PN.nd) 0 ([zleaf].map PN.nd) 0 ([zleaf].map PN.nd) 0 = true := by
  have hb : bookP ([zleaf].map PN.nd) 0 0 0 = some [] := by
    unfold bookP
    rw [new_allP]
    rfl
  have hs : ∀ sz, stepB sz [] ([zleaf].map PN.nd) 0 = true := fun sz => by
    unfold stepB
    rw [new_allP]
    rfl
  have ht : treesB 0 0 ([zleaf].map PN.nd) 0 ([zleaf].map PN.nd) 0 ([zleaf].map PN.nd) 0 = true := by
    unfold treesB
    rw [hb]
    simp only [hs]
    rfl
  unfold baseB
  have e : ((([] : List ByteArray).length : Nat) : Int) = 0 := rfl
  rw [e, ht]
  decide

theorem new_L {L0 L1 L2 : List En} (h : BaseL [] 0 ([zleaf].map PN.nd) 0 ([zleaf].map PN.nd) 0 ([zleaf].map PN.nd) 0 L0 L1 L2) : L0 = [] ∧ L1 = [] ∧ L2 = [] :=
  ⟨(Prod.mk.inj (h.a0.symm.trans new_allP)).2, (Prod.mk.inj (h.a1.symm.trans new_allP)).2, (Prod.mk.inj (h.a2.symm.trans new_allP)).2⟩

theorem with_nil (s : ByteArray) : withS [] s = [s] := by
  unfold withS
  rw [if_pos (by show (-1 : Int) < 0; decide)]
  rfl

/-- To a new base any point is added that may be. -/
theorem new_add {s : ByteArray} {t v c : Int} (hp : ptC s t v 0 = 0) : ¬ AddNo [] s t v 0 ([zleaf].map PN.nd) 0 ([zleaf].map PN.nd) 0 ([zleaf].map PN.nd) 0 c := by
  rintro (⟨h, _⟩ | ⟨_, h, _⟩ | ⟨_, _, _, h⟩)
  · rw [new_base] at h; cases h
  · exact h hp
  · rw [with_nil] at h
    obtain ⟨L0, L1, L2, hL⟩ := baseL new_base
    obtain ⟨rfl, rfl, rfl⟩ := new_L hL
    rcases h with h | ⟨_, h⟩
    · simp at h
    · rcases h [] [] [] hL with (h | h | h) | h | h | h
      · cases h
      · cases h
      · cases h
      · simp at h
      · simp at h
      · simp at h

theorem put_at {Bad : Int → Prop} {Fine : List Nd → Int → Prop} {wr w3 : World} {XA : Option Addr} {xl XC mb base : Nat} {sr c k : Int} (hb : Below wr.heap.size wr w3) (hm : wr.heap.size ≤ mb) (hmb : mb < base) (hr : RowL w3 mb 26 [.slice none 0 0, .int .i64 0]) (h : PutP Bad Fine base w3 XA xl XC sr c) :
    PutM Bad Fine k wr (.pointer (some ⟨mb, 0, none⟩)) (.int .i64 c) (.int .i64 k) ((w3.setCell ⟨mb, 0, none⟩ (.slice XA xl XC)).setCell ⟨mb, 1, none⟩ (.int .i64 sr)) :=
  ⟨mb, XA, xl, XC, sr, c, rfl, rfl, rfl, hm, set1_below (set1_below hb hm _ _) hm _ _, (hr.set 0 _).set 1 _, h.keep (by omega) fun k hk _ => (Below.heap_setCell _ _ _ _ (show k ≠ mb by omega)).trans (Below.heap_setCell _ _ _ _ (show k ≠ mb by omega))⟩

end Go.Proofs.YtlojfgdpmaigmacGreatDoor

/- TreeTells of package winnowerkeep: its walk. -/
namespace Go.Proofs.YtlojfgdpmaigmacGreatDoor
open Go.RowKit Plain Go.Shelf

def x57 : En := mkE 5 (one 5 7)
def badT (c : Int) : Prop := c = 1 ∧ (ins [] x57 = none ∨ (200 < ([zleaf].map PN.nd).length ∧ 900 < ([] : List En).length))
def fineT (m : List Nd) (q : Int) : Prop := ∃ M, ins [] x57 = some M ∧ allP m q 0 1099511627776 = (0, M)

theorem one_a : ptC ⟨#[97]⟩ 5 7 0 = 0 := by decide

theorem add_new (g0 g1 g2 : Nat) (W : World) (hZ : SzAt W) (h0 : NewAt W g0) (h1 : NewAt W g1) (h2 : NewAt W g2) :
    Calls Tryz.prog 22 #[.agg #[.slice none 0 0, .slice (some ⟨g0, 0, none⟩) 1 1, .int .i64 0, .slice (some ⟨g1, 0, none⟩) 1 1, .int .i64 0, .slice (some ⟨g2, 0, none⟩) 1 1, .int .i64 0, .int .i64 0], .agg #[.string ⟨#[97]⟩, .int .i64 5, .int .i64 7]] W
      fun e w' => (∃ NA NC X0 x0 Y0 s0 X1 x1 Y1 s1 X2 x2 Y2 s2, e = .returned (.tuple #[.agg #[.slice NA 1 NC, .slice X0 x0 Y0, .int .i64 s0, .slice X1 x1 Y1, .int .i64 s1, .slice X2 x2 Y2, .int .i64 s2, .int .i64 0], .int .i64 0])) ∧ Below W.heap.size W w' := by
  have hz : (Lit.int .i64 0).wf = true := by decide
  refine (badd_any none 0 [] ⟨some ⟨g0, 0, none⟩, 1, [zleaf], 0⟩ ⟨some ⟨g1, 0, none⟩, 1, [zleaf], 0⟩ ⟨some ⟨g2, 0, none⟩, 1, [zleaf], 0⟩ 0 ⟨#[97]⟩ 5 7 W hZ (Nat.le_refl _) ⟨.inl rfl, by decide, by simp⟩ (by decide) ⟨new_nodes h0, zleaf_wf, hz⟩ ⟨new_nodes h1, zleaf_wf, hz⟩ ⟨new_nodes h2, zleaf_wf, hz⟩).mono ?_
  rintro e w' ⟨hb, h⟩
  refine ⟨?_, hb⟩
  rcases h with ⟨c, _, hno, _⟩ | ⟨A', C', u0, u1, u2, L0, L1, L2, M0, M1, M2, _, rfl, _⟩
  · exact absurd hno (new_add one_a)
  · exact ⟨A', C', u0.A, _, u0.C, u0.r, u1.A, _, u1.C, u1.r, u2.A, _, u2.C, u2.r, by rw [with_nil]; rfl⟩

set_option maxRecDepth 20000 in
set_option maxHeartbeats 4000000 in
theorem tells_any (w : World) (hZ : SzAt w) : Calls Tryz.prog 7 #[] w fun e w' => e = .returned (.bool true) ∧ Below w.heap.size w w' := by
  have OF := hideC (of_yes 5 7 w (by decide) (by decide))
  go_enter Tryz.func7, Tryz.ntmps7
  go_wp2_with (first | (go_at_call 21; refine OF.out.mono ?_; rintro e w1 ⟨rfl, hb1⟩))
  obtain ⟨wd, hwd⟩ : ∃ wd, wd = w1.alloc (.cells (ruV (one 5 7)).toArray 38) := ⟨_, rfl⟩
  obtain ⟨rb, hrb⟩ : ∃ rb, rb = w1.heap.size := ⟨_, rfl⟩
  have HD : Hid (Below w.heap.size w wd) := by rw [hwd]; exact hb1.alloc hb1.size _
  have HR : RowL wd rb 38 (ruV (one 5 7)) := by rw [hwd, hrb]; exact rowL_alloc w1 _ _
  simp only [ruV, one] at hwd
  rw [← hwd, ← hrb]
  have r0 : wd.cell? ⟨rb, 0, none⟩ = some (.int .i64 1) := HR.cell 0
  have r1 : wd.cell? ⟨rb, 1, none⟩ = some (.int .i64 7) := HR.cell 1
  have r2 : wd.cell? ⟨rb, 2, none⟩ = some (.int .i64 7) := HR.cell 2
  have r3 : wd.cell? ⟨rb, 3, none⟩ = some (.int .i64 7) := HR.cell 3
  have r4 : wd.cell? ⟨rb, 4, none⟩ = some (.int .i64 5) := HR.cell 4
  have r5 : wd.cell? ⟨rb, 5, none⟩ = some (.int .i64 7) := HR.cell 5
  have lr := HR.lt
  have n3 : ¬ rb = wd.heap.size := by omega
  have lr1 : rb < wd.heap.size + 1 := by omega
  clear hwd hrb hb1 HR OF
  have KS : ∀ (W : World) (b' o' j m : Nat) (u : Value), ¬ b' = m → (W.setCell ⟨m, j, none⟩ u).cell? ⟨b', o', none⟩ = W.cell? ⟨b', o', none⟩ := fun W b' o' j m u hb => World.cell?_setCell_far _ _ _ _ (fun e => hb e.symm)
  have PT : Hid (∀ (g : Nat) (W : World), NewAt W g → Calls Tryz.prog 13 #[.agg #[.slice (some ⟨g, 0, none⟩) 1 1, .int .i64 0], .int .i64 5, .agg #[.int .i64 1, .int .i64 7, .int .i64 7, .int .i64 7, .int .i64 5, .int .i64 7]] W (PutC badT fineT W)) := fun g W hn => put_con (r := one 5 7) (x := x57) (new_nodes hn) zleaf_wf new_allP (one_good (by decide) (by decide)) (by decide) rfl
  go_cut [3, 4] (fun v3 v4 wc => PutM badT fineT 0 wd v3 v4 (.int .i64 0) wc)
  case first =>
    go_region_held3 (fun w' => w'.cell? ⟨rb, 0, none⟩ = some (.int .i64 1) ∧ w'.cell? ⟨rb, 1, none⟩ = some (.int .i64 7) ∧ w'.cell? ⟨rb, 2, none⟩ = some (.int .i64 7) ∧ w'.cell? ⟨rb, 3, none⟩ = some (.int .i64 7) ∧ w'.cell? ⟨rb, 4, none⟩ = some (.int .i64 5) ∧ w'.cell? ⟨rb, 5, none⟩ = some (.int .i64 7)) (go_keep)
      (first
        | (go_at_call 20; refine (new_any _).mono ?_; rintro e w2 ⟨g, rfl, hg, hn, hb2⟩; have T2 := (bcells (hb2.mono (show wd.heap.size ≤ _ by first | simp | (simp; omega)))).1; have D2 := (bcells hb2).1 wd.heap.size; have F2 := (bcells hb2).2 wd.heap.size; have Z2 : wd.heap.size ≤ w2.heap.size := Nat.le_trans (by first | simp | (simp; omega)) hb2.size; have Z2l : wd.heap.size < w2.heap.size := (by have h1 := hn.lt; have h2 := hg; simp at h2; omega); have n5 : ¬ wd.heap.size = w2.heap.size := (by omega); have n6 : wd.heap.size < w2.heap.size + 1 := (by omega); have n4 : ¬ rb = w2.heap.size := (by omega); have l4 : rb < w2.heap.size := (by omega); have l5 : rb < w2.heap.size + 1 := (by omega); have HB2 := hideC hb2; have HN2 := hideC hn; clear hb2 hn hg)
        | (go_at_call 13; refine (PT.out g _ ?_).mono ?_; (first | exact HN2.out | exact HN2.out.alloc _); rintro e w3 ⟨XA, xl, XC, sr, c, rfl, hb3, hP⟩; have T3 := (bcells (hb3.mono (show w2.heap.size ≤ _ by first | simp | (simp; omega)))).1; have D3 := (bcells hb3).1 wd.heap.size; have F3 := (bcells hb3).2 wd.heap.size; have D4 := (bcells hb3).1 w2.heap.size; have F4 := (bcells hb3).2 w2.heap.size; have HB3 := hideC hb3; have HP3 := hideC hP; clear hb3 hP))
    all_goals
      go_wp2
      go_meet
      case rel =>
        first
          | exact put_late ((((Below.refl wd.heap.size wd).drew).trans (HB2.out.mono (by simp))).trans (HB3.out.mono Z2)) (HP3.out.keep Z2 fun _ _ _ => rfl)
          | exact put_at ((((Below.refl wd.heap.size wd).drew).trans (HB2.out.mono (by simp))).trans (((Below.refl _ _).alloc Z2 _).trans (HB3.out.mono (by simp; omega)))) Z2 (by simp) ((rowL_alloc w2 [.slice none 0 0, .int .i64 0] 26).below HB3.out (by simp)) HP3.out
          | exact put_at ((((Below.refl wd.heap.size wd).alloc (Nat.le_refl _) _).drew).trans ((HB2.out.mono (by simp)).trans (HB3.out.mono Z2))) (Nat.le_refl _) (by have := HB2.out.size; simp at this; omega) (((rowL_alloc wd [.slice none 0 0, .int .i64 0] 26).of_block (w' := (wd.alloc (.cells #[.slice none 0 0, .int .i64 0] 26)).drew) rfl |>.below HB2.out (by simp)).below HB3.out (by have := HB2.out.size; simp at this; omega)) HP3.out
  case rest =>
    obtain ⟨tb, XA, xl, XC, sr, c, rfl, rfl, -, hmb, hbc, hrm, hP⟩ := hcut
    obtain ⟨wq, hwq⟩ : ∃ wq, wq = wc := ⟨_, rfl⟩
    subst hwq
    rcases hP with ⟨_, _, h | h⟩ | ⟨rfl, g, q, rfl, rfl, hT, M, hM, ha⟩
    · cases h
    · simp at h
    · obtain rfl : M = [x57] := by cases hM; rfl
      have hk := knows_allP ha
      have hgot : gotP (q.map PN.nd) sr 5 = (one 5 7, 0) := by rw [hk.got (by decide)]; rfl
      have GT := hideC (get_any (some ⟨g, 0, none⟩) XC sr 5 q wq hT.nodes (treeC_wf hk.ok))
      rw [hgot] at GT
      simp only [tupR, one] at GT
      have t0 := hrm.cell 0
      have t1 := hrm.cell 1
      simp only [List.getElem?_cons_zero, List.getElem?_cons_succ] at t0 t1
      have HQ : Hid (Below w.heap.size w wq) := nextB HD.out (Nat.le_refl _) hbc
      have HZ := hideC hZ
      clear hZ hk hgot ha hM hT hrm hbc r0 r1 r2 r3 r4 r5 KS PT
      go_wp2_with (first
        | (go_at_call 15; refine GT.out.mono ?_; rintro e w4 ⟨rfl, hb4⟩; have H4 : Hid (Below w.heap.size w w4) := nextB HQ.out (Nat.le_refl _) hb4; clear hb4 t0 t1)
        | (go_at_call 23; refine (bnew_any _).mono ?_; rintro e w5 ⟨g0, g1, g2, rfl, k0, k1, k2, hb5⟩; have H5 : Hid (Below w.heap.size w w5) := nextB (H4.out.alloc H4.out.size _) (Nat.le_refl _) hb5; have X5 : Hid (RowL w5 w4.heap.size 38 (ruV (one 5 7))) := (rowL_alloc w4 (ruV (one 5 7)) _).below hb5 (by simp); have K5 := hideC (And.intro k0 (And.intro k1 k2)); clear hb5 k0 k1 k2)
        | (go_at_call 22; refine (add_new g0 g1 g2 _ (HZ.out.below H5.out) K5.out.1 K5.out.2.1 K5.out.2.2).mono ?_; rintro e w6 ⟨⟨NA, NC, X0, x0, Y0, s0, X1, x1, Y1, s1, X2, x2, Y2, s2, rfl⟩, hb6⟩; have H6 : Hid (Below w.heap.size w w6) := nextB H5.out (Nat.le_refl _) hb6; have x6 := fun j => (X5.out.below hb6 X5.out.lt).cell j; have l6 : w4.heap.size < w6.heap.size := (X5.out.below hb6 X5.out.lt).lt; simp only [ruV, one] at x6; clear hb6))
      go_ret
      exact ⟨rfl, H6.out.alloc H6.out.size _⟩

end Go.Proofs.YtlojfgdpmaigmacGreatDoor
