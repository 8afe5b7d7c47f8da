/- tree.sink at a node with kids. -/
import Derived.Test.YtlojfgdpmaigmacGreatDoorP32
namespace Go.Proofs.YtlojfgdpmaigmacGreatDoor
open Go.RowKit Plain Go.Shelf

/-- On the way: the boxes of the tree and of the entry, and the tree as it is. -/
structure SiA (base : Nat) (w wr : World) (g C : Nat) (qs : List PN) (r : Int) (x : En) (qs1 : List PN) : Prop where
  mem : SinkMem base w g C qs wr qs1
  bt : RowL wr w.heap.size 26 [.slice (some ⟨g, 0, none⟩) qs.length C, .int .i64 r]
  bx : RowL wr (w.heap.size + 1) 40 x.vals
  ft : w.heap.size ∉ feet g qs1
  fx : w.heap.size + 1 ∉ feet g qs1

theorem SiA.start {base g C : Nat} {w : World} {qs : List PN} {r : Int} {x : En} (h : NT base w g C qs) : SiA base w ((w.alloc (.cells #[.slice (some ⟨g, 0, none⟩) qs.length C, .int .i64 r] 26)).alloc (.cells x.vals.toArray 40)) g C qs r x qs := by
  have hb2 : Below w.heap.size w ((w.alloc (.cells #[.slice (some ⟨g, 0, none⟩) qs.length C, .int .i64 r] 26)).alloc (.cells x.vals.toArray 40)) := ((Below.refl _ _).alloc (Nat.le_refl _) _).alloc (by simp) _
  have hlt := h.lt
  refine ⟨SinkMem.of_below h hb2, ?_, ?_, fun e => by have := (hlt _ e).2; omega, fun e => by have := (hlt _ e).2; omega⟩
  · exact (rowL_alloc w [.slice (some ⟨g, 0, none⟩) qs.length C, .int .i64 r] _).of_block (Below.heap_alloc _ _ _ (by simp))
  · have := rowL_alloc (w.alloc (.cells #[.slice (some ⟨g, 0, none⟩) qs.length C, .int .i64 r] 26)) x.vals 40
    simpa using this

theorem SiA.step {base g C : Nat} {w wr w' : World} {qs qs1 qs2 : List PN} {r : Int} {x : En} (h : SiA base w wr g C qs r x qs1) (hm : SinkMem base wr g C qs1 w' qs2) : SiA base w w' g C qs r x qs2 := by
  have l1 := h.bt.lt
  have l2 := h.bx.lt
  refine ⟨h.mem.trans hm, hm.kept.row h.bt h.ft, hm.kept.row h.bx h.fx, fun e => ?_, fun e => ?_⟩
  · rcases hm.fresh _ e with e | e
    · exact h.ft e
    · omega
  · rcases hm.fresh _ e with e | e
    · exact h.fx e
    · omega

theorem SiA.next {base g C : Nat} {w wr w' : World} {qs qs1 : List PN} {r : Int} {x : En} (h : SiA base w wr g C qs r x qs1) (hb : Below wr.heap.size wr w') : SiA base w w' g C qs r x qs1 :=
  h.step (SinkMem.of_below h.mem.nt hb)

theorem withE_len (l : List En) (x : En) : (withE l x).length ≤ l.length + 1 := by
  unfold withE
  have := lowN_le l x.key
  split
  · simp
  · simp; omega

set_option maxRecDepth 20000 in
set_option maxHeartbeats 4000000 in
theorem sink_inner (base g C : Nat) (qs : List PN) (r : Int) (k : Nat) (x : En) (w : World) (D F : List PN → Prop) (kids : List Int) (kd : Nat) (hT : NT base w g C qs) (hk : k < qs.length) (hl : (qs[k]).leaf = false) (hB : base ≤ w.heap.size) (hkd : kd < kids.length) (HD0 : Hid (D qs))
    (HDB : Hid (∀ (qs1 : List PN) (_ : qs1.length = qs.length) (_ : D qs1) (h : k < qs1.length), (qs1[k]).buf.Pairwise (fun x y => x.key < y.key) ∧ (qs1[k]).buf.length ≤ 8 ∧ (qs1[k]).kids = kids))
    (HFL : Hid (∀ W, NT base W g C qs → base ≤ W.heap.size → Calls Tryz.prog 68 #[.agg #[.slice (some ⟨g, 0, none⟩) qs.length C, .int .i64 r], .int .i64 (k : Int)] W fun e w' => e = .returned (.tuple #[]) ∧ ∃ qs1, SinkMem base W g C qs w' qs1 ∧ D qs1))
    (HF1 : Hid (∀ (qs1 : List PN) (_ : qs1.length = qs.length) (_ : D qs1) (h : k < qs1.length) (A' : Option Addr) (C' : Nat), (hasK (qs1[k]).buf x.key || decide ((qs1[k]).buf.length < 8)) = true → F (qs1.set k { qs1[k] with buf := withE (qs1[k]).buf x, bA := A', bC := C' })))
    (HKI : Hid (∀ (qs1 : List PN) (W : World) (_ : qs1.length = qs.length) (_ : D qs1) (h : k < qs1.length), NT base W g C qs1 → Calls Tryz.prog 69 #[.agg #[.bool (qs1[k]).leaf, .slice (qs1[k]).eA (qs1[k]).ents.length (qs1[k]).eC, .slice (qs1[k]).kA (qs1[k]).keys.length (qs1[k]).kC, .slice (qs1[k]).dA (qs1[k]).kids.length (qs1[k]).dC, .slice (qs1[k]).bA (qs1[k]).buf.length (qs1[k]).bC], .int .i64 x.key] W fun e w' => e = .returned (.int .i64 (kd : Int)) ∧ Below W.heap.size W w'))
    (HSK : Hid (∀ (qs1 : List PN) (W : World), qs1.length = qs.length → D qs1 → NT base W g C qs1 → base ≤ W.heap.size → Calls Tryz.prog 32 #[.agg #[.slice (some ⟨g, 0, none⟩) qs.length C, .int .i64 r], .int .i64 (kids.getD kd 0), .agg #[.int .i64 x.key, .int .i64 x.c, .int .i64 x.s, .int .i64 x.lo, .int .i64 x.hi, .int .i64 x.t, .int .i64 x.l]] W fun e w' => e = .returned (.tuple #[]) ∧ ∃ qs2, SinkMem base W g C qs1 w' qs2 ∧ F qs2 ∧ qs2[k]? = qs1[k]?)) :
    Calls Tryz.prog 32 #[.agg #[.slice (some ⟨g, 0, none⟩) qs.length C, .int .i64 r], .int .i64 (k : Int), .agg #[.int .i64 x.key, .int .i64 x.c, .int .i64 x.s, .int .i64 x.lo, .int .i64 x.hi, .int .i64 x.t, .int .i64 x.l]] w
      fun e w' => e = .returned (.tuple #[]) ∧ ∃ qs', SinkMem base w g C qs w' qs' ∧ F qs' := by
  have hat := hT.node hk
  have ho := (hT.each _ (List.getElem_mem hk)).b
  obtain ⟨hp0, hle0, -⟩ := HDB.out qs rfl HD0.out hk
  have hgl := hT.glt.2
  have i1 : (k : Int) < (qs.length : Int) := by omega
  have i0 : (0 : Int) ≤ (k : Int) := by omega
  have hb2 : ∀ o1 o2 : Obj, Below w.heap.size w ((w.alloc o1).alloc o2) := fun o1 o2 => ((Below.refl _ _).alloc (Nat.le_refl _) o1).alloc (by simp) o2
  have HS0 := hideC (SiA.start (r := r) (x := x) hT)
  obtain ⟨n0, n1, n2, n3, n4⟩ := hat
  rw [hl] at n0
  have hcw := fun W (hW : Below w.heap.size w W) => canWait_any (qs[k]).bA (qs[k]).bC (qs[k]).buf x.key W ((own_ok (own_next ho hW)).1) (by omega) hp0
  have HW := hideC hcw
  have HT := hideC hT
  generalize (hasK (qs[k]).buf x.key || decide ((qs[k]).buf.length < 8)) = c0 at HW
  generalize (qs[k]).bA = bA0 at HW n4
  generalize (qs[k]).bC = bC0 at HW n4
  generalize (qs[k]).buf.length = bN0 at HW n4
  clear hcw hT ho hl n1 n2 n3 hp0 hle0
  go_enter Tryz.func32, Tryz.ntmps32
  go_upto_region 4 with fail
  go_cut [31] from 24 to 31 (fun v wc => v = .bool (!c0) ∧ Hid (SiA base w wc g C qs r x qs))
  case first =>
    go_region_with (go_at_call 67; refine (HW.out _ ((hb2 _ _).drew)).mono ?_; rintro e w2 ⟨rfl, hb2'⟩; have HS1 := hideC (HS0.out.next ((Below.refl _ _).drew.trans hb2')); clear hb2')
    all_goals
      go_wp2
      go_meet
      case rel => exact ⟨rfl, HS1⟩
  case rest =>
    obtain ⟨rfl, HS1⟩ := hcut
    have t0 : wc.cell? ⟨w.heap.size, 0, none⟩ = some (.slice (some ⟨g, 0, none⟩) qs.length C) := HS1.out.bt.cell 0
    have t1 : wc.cell? ⟨w.heap.size, 1, none⟩ = some (.int .i64 r) := HS1.out.bt.cell 1
    clear HS0 n0 n4 HW
    go_upto_if 31 with fail
    go_cut [] from 32 to 34 (fun wd => ∃ qs1 : List PN, qs1.length = qs.length ∧ Hid (D qs1) ∧ Hid (SiA base w wd g C qs r x qs1))
    case first =>
      cases c0 with
      | true =>
        simp only [Bool.not_true]
        go_wp2_with fail
        go_meet
        case rel => exact ⟨qs, rfl, HD0, HS1⟩
      | false =>
        simp only [Bool.not_false]
        go_wp2_with (go_at_call 68; refine (HFL.out _ HS1.out.mem.nt (Nat.le_trans hB HS1.out.mem.kept.size)).mono ?_; rintro e w2 ⟨rfl, qs1, hm1, hd1⟩)
        go_meet
        case rel => exact ⟨qs1, hm1.len, hd1, HS1.out.step hm1⟩
    case rest =>
      obtain ⟨qs1, hl1, HD1, HS2⟩ := hcut
      clear HS1 t0 t1 HFL HD0
      obtain ⟨wd, hwd⟩ : ∃ wd, wd = wc := ⟨_, rfl⟩
      subst hwd
      have hk1 : k < qs1.length := by omega
      obtain ⟨hp1, hle1, hkids⟩ := HDB.out qs1 hl1 HD1.out hk1
      have hnt := HS2.out.mem.nt
      have hat := hnt.node hk1
      have ho := (hnt.each _ (List.getElem_mem hk1))
      have hgl1 := hnt.glt.2
      have hgb : g ∉ obk (qs1[k]).bA := fun e => (hnt.blocks_nodup hk1).2.2.1 (by rw [blocks_eq]; simp [e])
      have hf1 := hideC fun A' C' => HF1.out qs1 hl1 HD1.out hk1 A' C'
      have hki := hideC fun W hW => HKI.out qs1 W hl1 HD1.out hk1 hW
      have hsk := hideC fun W hW hb => HSK.out qs1 W hl1 HD1.out hW hb
      obtain ⟨n0, n1, n2, n3, n4⟩ := hat
      have hcw := fun W (hW : Below wd.heap.size wd W) => canWait_any (qs1[k]).bA (qs1[k]).bC (qs1[k]).buf x.key W ((own_ok (own_next ho.b hW)).1) (by omega) hp1
      have hcon := fun W (hW : Below wd.heap.size wd W) => with_any base (qs1[k]).bA (qs1[k]).bC (qs1[k]).buf x W (own_next ho.b hW) hp1 (Nat.le_trans (Nat.le_trans hB HS2.out.mem.kept.size) hW.size) (by omega)
      have fz := hnt.free (k * 5 + 4)
      have HW := hideC hcw
      have HC := hideC hcon
      have HNT := hideC hnt
      have HO := hideC ho
      have HGB := hideC hgb
      clear hcw hcon hnt ho HF1 HKI HSK HDB hp1 hgb
      obtain ⟨q, hq⟩ : ∃ q, qs1[k] = q := ⟨_, rfl⟩
      rw [hq] at HW HC HO HGB hf1 hki n0 n1 n2 n3 n4 hkids hle1
      obtain ⟨c1, hc1⟩ : ∃ c, c = (hasK q.buf x.key || decide (q.buf.length < 8)) := ⟨_, rfl⟩
      rw [← hc1] at HW hf1
      clear hc1
      have x0 : wd.cell? ⟨w.heap.size + 1, 0, none⟩ = some (.int .i64 x.key) := HS2.out.bx.cell 0
      have hxl := HS2.out.bx.lt
      go_upto_region 6 with fail
      go_cut [41] from 35 to 41 (fun v we => v = .bool c1 ∧ Hid (Below wd.heap.size wd we))
      case first =>
        go_region_with (go_at_call 67; refine (HW.out _ ((Below.refl _ _).drew)).mono ?_; rintro e w2 ⟨rfl, hb2'⟩)
        all_goals
          go_wp2
          go_meet
          case rel => exact ⟨rfl, (Below.refl _ _).drew.trans hb2'⟩
      case rest =>
        obtain ⟨rfl, HBE⟩ := hcut
        have hbe := HBE.out
        have HS3 := hideC (HS2.out.next hbe)
        have hsze := hbe.size
        have m0 := (hbe.cell (p := ⟨g, k * 5, none⟩) hgl1).trans n0
        have m1 := (hbe.cell (p := ⟨g, k * 5 + 1, none⟩) hgl1).trans n1
        have m2 := (hbe.cell (p := ⟨g, k * 5 + 2, none⟩) hgl1).trans n2
        have m3 := (hbe.cell (p := ⟨g, k * 5 + 3, none⟩) hgl1).trans n3
        have m4 := (hbe.cell (p := ⟨g, k * 5 + 4, none⟩) hgl1).trans n4
        have hge : g < wc.heap.size := by omega
        have y0 : wc.cell? ⟨w.heap.size + 1, 0, none⟩ = some (.int .i64 x.key) := HS3.out.bx.cell 0
        have y1 : wc.cell? ⟨w.heap.size + 1, 1, none⟩ = some (.int .i64 x.c) := HS3.out.bx.cell 1
        have y2 : wc.cell? ⟨w.heap.size + 1, 2, none⟩ = some (.int .i64 x.s) := HS3.out.bx.cell 2
        have y3 : wc.cell? ⟨w.heap.size + 1, 3, none⟩ = some (.int .i64 x.lo) := HS3.out.bx.cell 3
        have y4 : wc.cell? ⟨w.heap.size + 1, 4, none⟩ = some (.int .i64 x.hi) := HS3.out.bx.cell 4
        have y5 : wc.cell? ⟨w.heap.size + 1, 5, none⟩ = some (.int .i64 x.t) := HS3.out.bx.cell 5
        have y6 : wc.cell? ⟨w.heap.size + 1, 6, none⟩ = some (.int .i64 x.l) := HS3.out.bx.cell 6
        have b0 : wc.cell? ⟨w.heap.size, 0, none⟩ = some (.slice (some ⟨g, 0, none⟩) qs.length C) := HS3.out.bt.cell 0
        have b1 : wc.cell? ⟨w.heap.size, 1, none⟩ = some (.int .i64 r) := HS3.out.bt.cell 1
        have hxl3 := HS3.out.bx.lt
        have hbl3 := HS3.out.bt.lt
        clear n0 n1 n2 n3 n4 x0 hbe
        cases c1 with
        | true =>
          have fz3 : wc.frozen? ⟨g, k * 5 + 4, none⟩ = false := (HBE.out.frozen (p := ⟨g, k * 5 + 4, none⟩) hgl1).trans fz
          go_upto_region 7 with fail
          go_region_with (go_at_call 66; refine (HC.out _ (HBE.out.drew)).mono ?_; rintro e w2 ⟨A2, C2, rfl, hm2⟩; have HM := hideC (hm2.from ((Below.refl _ _).drew)); have c2 : w2.cell? ⟨g, k * 5 + 4, none⟩ = some (.slice q.bA q.buf.length q.bC) := (HM.out.kept.cell _ hge HGB.out).trans m4; have f2 : w2.frozen? ⟨g, k * 5 + 4, none⟩ = false := (World.frozen?_of_block (a := ⟨g, k * 5 + 4, none⟩) (HM.out.kept.block g hge HGB.out)).trans fz3; clear hm2)
          all_goals
            go_wp2
            (try simp only [Exit.inBlock, Exit.then]); refine bodyPost_ret (results_none rfl _ _ _) rfl ?_
            have hst := HS3.out.mem.nt.setBuf hk1 hq HM.out.own HM.out.kept HM.out.lies' (by have := withE_len q.buf x; omega)
            refine ⟨rfl, _, HS3.out.mem.trans hst, ?_⟩
            exact hf1.out A2 C2 trivial
        | false =>
          have hod := (own_ok HO.out.d).1
          rw [hkids] at hod m3 hki
          obtain ⟨db, doff, hA, hdl, hdc⟩ := hod.int hkd
          rw [hA] at m3 hki
          have nk : wc.cell? ⟨db, doff + kd, none⟩ = some (.int .i64 (kids.getD kd 0)) := by
            rw [HBE.out.cell (p := ⟨db, doff + kd, none⟩) hdl, hdc, List.getD_eq_getElem?_getD, List.getElem?_eq_getElem hkd]
            rfl
          have hnodes : Hid (∀ (w3 : World) (qs2 : List PN), NT base w3 g C qs2 → qs2[k]? = qs1[k]? → w3.cell? ⟨g, k * 5, none⟩ = some (.bool q.leaf) ∧ w3.cell? ⟨g, k * 5 + 1, none⟩ = some (.slice q.eA q.ents.length q.eC) ∧ w3.cell? ⟨g, k * 5 + 2, none⟩ = some (.slice q.kA q.keys.length q.kC) ∧ w3.cell? ⟨g, k * 5 + 3, none⟩ = some (.slice (some ⟨db, doff, none⟩) kids.length q.dC) ∧ w3.cell? ⟨g, k * 5 + 4, none⟩ = some (.slice q.bA q.buf.length q.bC) ∧ w3.cell? ⟨db, doff + kd, none⟩ = some (.int .i64 (kids.getD kd 0))) := fun w3 qs2 hn2 hq2 => by
            rw [List.getElem?_eq_getElem hk1, hq] at hq2
            obtain ⟨hk2, hq2'⟩ := List.getElem?_eq_some_iff.1 hq2
            obtain ⟨d0, d1, d2, d3, d4⟩ := hn2.node hk2
            have hod2 := (own_ok (hn2.each _ (List.getElem_mem hk2)).d).1
            rw [hq2'] at d0 d1 d2 d3 d4 hod2
            rw [hkids] at hod2 d3
            rw [hA] at hod2 d3
            obtain ⟨db', doff', hA', _, hdc'⟩ := hod2.int hkd
            cases hA'
            refine ⟨d0, d1, d2, d3, d4, ?_⟩
            rw [hdc', List.getD_eq_getElem?_getD, List.getElem?_eq_getElem hkd]
            rfl
          generalize kids.getD kd 0 = kp at nk hsk hnodes
          have hdl3 : db < wc.heap.size := by omega
          have k0 : (0 : Int) ≤ (kd : Int) := by omega
          have k1 : (kd : Int) < (kids.length : Int) := by omega
          have hnt3 := hideC HS3.out.mem.nt
          have hbs : base ≤ wc.heap.size := Nat.le_trans hB HS3.out.mem.kept.size
          clear HW HC HO HGB hod hdc hA hf1 HS2 HNT hkids
          go_upto_region 8 with fail
          go_region_held3 (fun w' => w'.cell? ⟨w.heap.size, 0, none⟩ = some (.slice (some ⟨g, 0, none⟩) qs.length C) ∧ w'.cell? ⟨w.heap.size, 1, none⟩ = some (.int .i64 r) ∧ w'.cell? ⟨g, k * 5, none⟩ = some (.bool q.leaf) ∧ w'.cell? ⟨g, k * 5 + 1, none⟩ = some (.slice q.eA q.ents.length q.eC) ∧ w'.cell? ⟨g, k * 5 + 2, none⟩ = some (.slice q.kA q.keys.length q.kC) ∧ w'.cell? ⟨g, k * 5 + 3, none⟩ = some (.slice (some ⟨db, doff, none⟩) kids.length q.dC) ∧ w'.cell? ⟨g, k * 5 + 4, none⟩ = some (.slice q.bA q.buf.length q.bC) ∧ w'.cell? ⟨w.heap.size + 1, 0, none⟩ = some (.int .i64 x.key) ∧ w'.cell? ⟨w.heap.size + 1, 1, none⟩ = some (.int .i64 x.c) ∧ w'.cell? ⟨w.heap.size + 1, 2, none⟩ = some (.int .i64 x.s) ∧ w'.cell? ⟨w.heap.size + 1, 3, none⟩ = some (.int .i64 x.lo) ∧ w'.cell? ⟨w.heap.size + 1, 4, none⟩ = some (.int .i64 x.hi) ∧ w'.cell? ⟨w.heap.size + 1, 5, none⟩ = some (.int .i64 x.t) ∧ w'.cell? ⟨w.heap.size + 1, 6, none⟩ = some (.int .i64 x.l) ∧ w'.cell? ⟨db, doff + kd, none⟩ = some (.int .i64 kp)) (go_keep) (first
            | (go_at_call 69; refine (hki.out _ (hnt3.out.below ((Below.refl _ _).drew) (Nat.le_refl _))).mono ?_; rintro e w2 ⟨rfl, hb2'⟩; have hbw2 : Below wc.heap.size wc w2 := (Below.refl _ _).drew.trans hb2'; have HS4 := hideC (HS3.out.next hbw2); have z := fun b o (hb : b < wc.heap.size) => hbw2.cell (p := ⟨b, o, none⟩) hb; have z0 := (z _ 0 hbl3).trans b0; have z1 := (z _ 1 hbl3).trans b1; have z2 := (z g (k * 5) hge).trans m0; have z3 := (z g (k * 5 + 1) hge).trans m1; have z4 := (z g (k * 5 + 2) hge).trans m2; have z5 := (z g (k * 5 + 3) hge).trans m3; have z6 := (z g (k * 5 + 4) hge).trans m4; have z7 := (z _ 0 hxl3).trans y0; have z8 := (z _ 1 hxl3).trans y1; have z9 := (z _ 2 hxl3).trans y2; have za := (z _ 3 hxl3).trans y3; have zb := (z _ 4 hxl3).trans y4; have zc := (z _ 5 hxl3).trans y5; have zd := (z _ 6 hxl3).trans y6; have ze := (z db (doff + kd) hdl3).trans nk; clear z)
            | (go_at_call 32; refine (hsk.out _ HS4.out.mem.nt (Nat.le_trans hB HS4.out.mem.kept.size)).mono ?_; rintro e w3 ⟨rfl, qs2, hm2, hf2, hq2⟩; have HS5 := hideC (HS4.out.step hm2); have HR := hideC (And.intro (HS4.out.mem.trans hm2) hf2); have v := hnodes.out w3 qs2 hm2.nt hq2; obtain ⟨v0, v1, v2, v3, v4, v5⟩ := v; have u0 : w3.cell? ⟨w.heap.size, 0, none⟩ = some (.slice (some ⟨g, 0, none⟩) qs.length C) := HS5.out.bt.cell 0; have u1 : w3.cell? ⟨w.heap.size, 1, none⟩ = some (.int .i64 r) := HS5.out.bt.cell 1; have u2 := fun j => HS5.out.bx.cell j; simp only [En.vals] at u2; clear hm2 hf2 hq2))
          all_goals
            go_wp2
            go_end0
            exact ⟨rfl, _, HR.out⟩

end Go.Proofs.YtlojfgdpmaigmacGreatDoor
