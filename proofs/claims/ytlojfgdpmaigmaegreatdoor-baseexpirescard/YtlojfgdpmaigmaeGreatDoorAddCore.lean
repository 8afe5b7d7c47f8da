/- base.Add: its walk. -/
import Derived.Test.YtlojfgdpmaigmaeGreatDoorP49
import Derived.Deep.DeepCutAuto
namespace Go.Proofs.YtlojfgdpmaigmaeGreatDoor
open Go.RowKit Plain Go.Shelf

              simp only [zb8] at d
              have HB9 := hideC hL1.st.below
              have HX := hideC (And.intro hc0 hB)
              clear hL1 hB hc0 HK HK1 hrm hbc
              go_upto_region 16 with fail
              repeat go_step
              refine bodyPost_ret (v := noBase c) (by simp [noBase, results, Tryz.results22, go_sem, d]) rfl ?_
              refine ⟨?_, .inr (.inl ⟨h16, c, HX.out.1, .inl HX.out.2, rfl⟩)⟩
              exact set8_below HB9.out (by have := HN.out; omega) _ _ _ _ _ _ _ _
            · have m0 := hrm.cell 0
              have m1 := hrm.cell 1
              simp only [List.getElem?_cons_zero, List.getElem?_cons_succ] at m0 m1
              have lm := hrm.lt
              have fc := fun j => hL1.bc.frozen j
              have lc1 := hL1.bc.lt
              obtain ⟨z1, dc1⟩ := HK1.out.cell (j := 1) (by decide)
              obtain ⟨z2, dc2⟩ := HK1.out.cell (j := 2) (by decide)
              have HX := hideC (And.intro hT (And.intro hF (And.intro lcb hbc)))
              clear hL1 hT hF HK hrm hbc
              go_wp2_with fail
              go_roundw
              case rel =>
                go_light
                exact ⟨1, by omega, by go_num, HK1.out.step0 HX.out.2.2.1 HX.out.1 HX.out.2.1⟩
              case measure => simp [intOf]
        · have iz := sz_i1
          have a1 : wr.cell? ⟨n, 3, none⟩ = some (.slice A1 p1.length C1) := by rw [HN.out]; exact hL.st.bb.cell 3
          have a2 : wr.cell? ⟨n, 4, none⟩ = some (.int .i64 r1) := by rw [HN.out]; exact hL.st.bb.cell 4
          have PTd : Hid (∀ W, Below wr.heap.size wr W → Calls Tryz.prog 51 #[.agg #[.slice A1 p1.length C1, .int .i64 r1], .int .i64 k1, .agg #[.int .i64 r.c, .int .i64 r.s, .int .i64 r.lo, .int .i64 r.hi, .int .i64 r.t, .int .i64 r.l]] W (PutC B1 F1 W)) := fun W hb => PT1.out W (nextB hL.st.below (Nat.le_refl _) hb)
          clear hL hK PT0 PT1 PT2
          go_upto_region 14 with fail
          go_cut [13, 14, 50] from 50 to 77 (fun v13 v14 v50 wc => PutM B1 F1 1 wr v13 v14 v50 wc)
          case first =>
            go_region_held3 (fun w' => w'.cell? ⟨n, 3, none⟩ = some (.slice A1 p1.length C1) ∧ w'.cell? ⟨n, 4, none⟩ = some (.int .i64 r1) ∧ w'.cell? ⟨n + 1, 1, none⟩ = some (.int .i64 t) ∧ w'.cell? ⟨rb, 0, none⟩ = some (.int .i64 r.c) ∧ w'.cell? ⟨rb, 1, none⟩ = some (.int .i64 r.s) ∧ w'.cell? ⟨rb, 2, none⟩ = some (.int .i64 r.lo) ∧ w'.cell? ⟨rb, 3, none⟩ = some (.int .i64 r.hi) ∧ w'.cell? ⟨rb, 4, none⟩ = some (.int .i64 r.t) ∧ w'.cell? ⟨rb, 5, none⟩ = some (.int .i64 r.l)) (go_keep) (first
              | (go_at_call 53; refine (BG1.out _).mono ?_; rintro e wx ⟨rfl, hwx⟩; subst wx)
              | (go_at_call 52; refine (KY1.out _).mono ?_; rintro e wy ⟨rfl, hwy⟩; subst wy)
              | (go_at_call 51; refine (PTd.out _ ?_).mono ?_; (first | exact (Below.refl _ _).drew | exact ((Below.refl _ _).alloc (Nat.le_refl _) _).drew); rintro e w3 ⟨XA, xl, XC, sr, c, rfl, hb3, hP⟩; have T3 := (bcells (hb3.mono (show wr.heap.size ≤ _ by simp))).1; first | (have T4 := alloc_rule8 (W := wr.drew) (n := wr.heap.size) hb3 rfl; obtain ⟨T40, U4⟩ := T4) | skip))
            all_goals
              go_wp2
              go_meet
              case rel =>
                first
                  | exact put_late (((Below.refl wr.heap.size wr).drew).trans (hb3.mono (by simp))) hP
                  | exact put_early (by simpa using hb3) (by simpa using hP)
          case rest =>
            obtain ⟨mb, XA, xl, XC, sr, c, rfl, rfl, rfl, hmb, hbc, hrm, hP⟩ := hcut
            have HK1 := hideC (HK.out.next hbc)
            obtain ⟨cs1, hL1⟩ := HK1.out.ldl
            rcases hP with ⟨hc0, hB⟩ | ⟨rfl, g, q, rfl, rfl, hT, hF⟩
            · have hne : (c != 0) = true := by simpa using hc0
              have d : ∀ j, wc.cell? ⟨n + 1 + 1, j, none⟩ = zb8[j]? := fun j => by rw [HN.out]; exact hL1.st.bo.cell j
              have fz : ∀ j, wc.frozen? ⟨n + 1 + 1, j, none⟩ = false := fun j => by rw [HN.out]; exact hL1.st.bo.frozen j

              simp only [zb8] at d
              have HB9 := hideC hL1.st.below
              have HX := hideC (And.intro hc0 hB)
              clear hL1 hB hc0 HK HK1 hrm hbc
              go_upto_region 16 with fail
              repeat go_step
              refine bodyPost_ret (v := noBase c) (by simp [noBase, results, Tryz.results22, go_sem, d]) rfl ?_
              refine ⟨?_, .inr (.inl ⟨h16, c, HX.out.1, .inr (.inl HX.out.2), rfl⟩)⟩
              exact set8_below HB9.out (by have := HN.out; omega) _ _ _ _ _ _ _ _
            · have m0 := hrm.cell 0
              have m1 := hrm.cell 1
              simp only [List.getElem?_cons_zero, List.getElem?_cons_succ] at m0 m1
              have lm := hrm.lt
              have fc := fun j => hL1.bc.frozen j
              have lc1 := hL1.bc.lt
              obtain ⟨z1, dc1⟩ := HK1.out.cell (j := 3) (by decide)
              obtain ⟨z2, dc2⟩ := HK1.out.cell (j := 4) (by decide)
              have HX := hideC (And.intro hT (And.intro hF (And.intro lcb hbc)))
              clear hL1 hT hF HK hrm hbc
              go_wp2_with fail
              go_roundw
              case rel =>
                go_light
                exact ⟨2, by omega, by go_num, HK1.out.step1 HX.out.2.2.1 HX.out.1 HX.out.2.1⟩
              case measure => simp [intOf]
        · have iz := sz_i2
          have a1 : wr.cell? ⟨n, 5, none⟩ = some (.slice A2 p2.length C2) := by rw [HN.out]; exact hL.st.bb.cell 5
          have a2 : wr.cell? ⟨n, 6, none⟩ = some (.int .i64 r2) := by rw [HN.out]; exact hL.st.bb.cell 6
          have PTd : Hid (∀ W, Below wr.heap.size wr W → Calls Tryz.prog 51 #[.agg #[.slice A2 p2.length C2, .int .i64 r2], .int .i64 k2, .agg #[.int .i64 r.c, .int .i64 r.s, .int .i64 r.lo, .int .i64 r.hi, .int .i64 r.t, .int .i64 r.l]] W (PutC B2 F2 W)) := fun W hb => PT2.out W (nextB hL.st.below (Nat.le_refl _) hb)
          clear hL hK PT0 PT1 PT2
          go_upto_region 14 with fail
          go_cut [13, 14, 50] from 50 to 77 (fun v13 v14 v50 wc => PutM B2 F2 2 wr v13 v14 v50 wc)
          case first =>
            go_region_held3 (fun w' => w'.cell? ⟨n, 5, none⟩ = some (.slice A2 p2.length C2) ∧ w'.cell? ⟨n, 6, none⟩ = some (.int .i64 r2) ∧ w'.cell? ⟨n + 1, 1, none⟩ = some (.int .i64 t) ∧ w'.cell? ⟨rb, 0, none⟩ = some (.int .i64 r.c) ∧ w'.cell? ⟨rb, 1, none⟩ = some (.int .i64 r.s) ∧ w'.cell? ⟨rb, 2, none⟩ = some (.int .i64 r.lo) ∧ w'.cell? ⟨rb, 3, none⟩ = some (.int .i64 r.hi) ∧ w'.cell? ⟨rb, 4, none⟩ = some (.int .i64 r.t) ∧ w'.cell? ⟨rb, 5, none⟩ = some (.int .i64 r.l)) (go_keep) (first
              | (go_at_call 53; refine (BG2.out _).mono ?_; rintro e wx ⟨rfl, hwx⟩; subst wx)
              | (go_at_call 52; refine (KY2.out _).mono ?_; rintro e wy ⟨rfl, hwy⟩; subst wy)
              | (go_at_call 51; refine (PTd.out _ ?_).mono ?_; (first | exact (Below.refl _ _).drew | exact ((Below.refl _ _).alloc (Nat.le_refl _) _).drew); rintro e w3 ⟨XA, xl, XC, sr, c, rfl, hb3, hP⟩; have T3 := (bcells (hb3.mono (show wr.heap.size ≤ _ by simp))).1; first | (have T4 := alloc_rule8 (W := wr.drew) (n := wr.heap.size) hb3 rfl; obtain ⟨T40, U4⟩ := T4) | skip))
            all_goals
              go_wp2
              go_meet
              case rel =>
                first
                  | exact put_late (((Below.refl wr.heap.size wr).drew).trans (hb3.mono (by simp))) hP
                  | exact put_early (by simpa using hb3) (by simpa using hP)
          case rest =>
            obtain ⟨mb, XA, xl, XC, sr, c, rfl, rfl, rfl, hmb, hbc, hrm, hP⟩ := hcut
            have HK1 := hideC (HK.out.next hbc)
            obtain ⟨cs1, hL1⟩ := HK1.out.ldl
            rcases hP with ⟨hc0, hB⟩ | ⟨rfl, g, q, rfl, rfl, hT, hF⟩
            · have hne : (c != 0) = true := by simpa using hc0
              have d : ∀ j, wc.cell? ⟨n + 1 + 1, j, none⟩ = zb8[j]? := fun j => by rw [HN.out]; exact hL1.st.bo.cell j
              have fz : ∀ j, wc.frozen? ⟨n + 1 + 1, j, none⟩ = false := fun j => by rw [HN.out]; exact hL1.st.bo.frozen j

              simp only [zb8] at d
              have HB9 := hideC hL1.st.below
              have HX := hideC (And.intro hc0 hB)
              clear hL1 hB hc0 HK HK1 hrm hbc
              go_upto_region 16 with fail
              repeat go_step
              refine bodyPost_ret (v := noBase c) (by simp [noBase, results, Tryz.results22, go_sem, d]) rfl ?_
              refine ⟨?_, .inr (.inl ⟨h16, c, HX.out.1, .inr (.inr HX.out.2), rfl⟩)⟩
              exact set8_below HB9.out (by have := HN.out; omega) _ _ _ _ _ _ _ _
            · have m0 := hrm.cell 0
              have m1 := hrm.cell 1
              simp only [List.getElem?_cons_zero, List.getElem?_cons_succ] at m0 m1
              have lm := hrm.lt
              have fc := fun j => hL1.bc.frozen j
              have lc1 := hL1.bc.lt
              obtain ⟨z1, dc1⟩ := HK1.out.cell (j := 5) (by decide)
              obtain ⟨z2, dc2⟩ := HK1.out.cell (j := 6) (by decide)
              have HX := hideC (And.intro hT (And.intro hF (And.intro lcb hbc)))
              clear hL1 hT hF HK hrm hbc
              go_wp2_with fail
              go_roundw
              case rel =>
                go_light
                exact ⟨3, by omega, by go_num, HK1.out.step2 HX.out.2.2.1 HX.out.1 HX.out.2.1⟩
              case measure => simp [intOf]
        · clear PT0 PT1 PT2
          obtain ⟨g0, D0, g1, D1, g2, D2, q0, q1, q2, s0, s1, s2, hrow, hfin⟩ := hK.done
          have d := fun j => hrow.cell j
          have lo := hrow.lt
          have da : ∀ j, wr.cell? ⟨n + 1 + 1, j, none⟩ = zb8[j]? := fun j => by rw [HN.out]; exact hL.st.bo.cell j
          have fa : ∀ j, wr.frozen? ⟨n + 1 + 1, j, none⟩ = false := fun j => by rw [HN.out]; exact hL.st.bo.frozen j
          have la : n + 1 + 1 < wr.heap.size := by rw [HN.out]; exact hL.st.bo.lt
          simp only [zb8] at da
          have HF := hideC hfin
          clear hfin hK hL hrow HK
          go_wp2_with fail
          refine bodyPost_ret (v := .tuple #[.agg #[.slice VA ns.length VC, .slice (some ⟨g0, 0, none⟩) q0.length D0, .int .i64 s0, .slice (some ⟨g1, 0, none⟩) q1.length D1, .int .i64 s1, .slice (some ⟨g2, 0, none⟩) q2.length D2, .int .i64 s2, .int .i64 f], .int .i64 0]) (by simp [results, Tryz.results22, go_sem, da]) rfl ?_
          have := HF.out (.slice VA ns.length VC) (.slice (some ⟨g0, 0, none⟩) q0.length D0) (.int .i64 s0) (.slice (some ⟨g1, 0, none⟩) q1.length D1) (.int .i64 s1) (.slice (some ⟨g2, 0, none⟩) q2.length D2) (.int .i64 s2) (.int .i64 f)
          rw [← HN.out] at this
          exact ⟨HN.out ▸ this.1, .inr (.inr ⟨h16, VA, VC, g0, D0, g1, D1, g2, D2, q0, q1, q2, s0, s1, s2, rfl, HN.out ▸ this.2.1, HN.out ▸ this.2.2.1, HN.out ▸ this.2.2.2.1, HN.out ▸ this.2.2.2.2.1, this.2.2.2.2.2⟩)⟩
    · have h16' : (16 < (ns.length : Int)) := by omega
      have d : ∀ j, wq.cell? ⟨n + 1 + 1, j, none⟩ = zb8[j]? := fun j => by rw [HN.out]; exact HC.out.st.bo.cell j
      have fz : ∀ j, wq.frozen? ⟨n + 1 + 1, j, none⟩ = false := fun j => by rw [HN.out]; exact HC.out.st.bo.frozen j
      have l9 : n + 1 + 1 < wq.heap.size := by rw [HN.out]; exact HC.out.st.bo.lt
      simp only [zb8] at d
      clear PT0 PT1 PT2 IX SZ S4
      go_wp2_with fail
      refine bodyPost_ret (v := noBase 1) (by simp [noBase, results, Tryz.results22, go_sem, d]) rfl ?_
      refine ⟨?_, .inl ⟨by omega, rfl⟩⟩
      exact set8_below HC.out.st.below (by have := HN.out; omega) _ _ _ _ _ _ _ _

end Go.Proofs.YtlojfgdpmaigmaeGreatDoor
