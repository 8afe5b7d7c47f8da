/- tree.sink at a node with kids. -/
import Derived.Test.YtlojfgdpmaigmacP14
import Derived.Test.YtlojfgdpmaigmacFlushWalk
import Derived.Test.YtlojfgdpmaigmacAdoptWalk2
import Derived.Test.YtlojfgdpmaigmacP11
namespace Go.Proofs.Ytlojfgdpmaigmac
open Go.RowKit Plain Go.Shelf

/-- On the way: the boxes of the tree and of the entry, and the tree as it is. -/
structure SiA (base : Nat) (w wr : World) (g C : Nat) (qs : List PN) (r : Int) (x : En) (qs1 : List PN) : Prop where
  mem : SinkMem base w g C qs wr qs1
  bt : RowL wr w.heap.size 26 [.slice (some ⟨g, 0, none⟩) qs.length C, .int .i64 r]
  bx : RowL wr (w.heap.size + 1) 53 x.vals
  ft : w.heap.size ∉ feet g qs1
  fx : w.heap.size + 1 ∉ feet g qs1

theorem SiA.start {base g C : Nat} {w : World} {qs : List PN} {r : Int} {x : En} (h : NT base w g C qs) : SiA base w ((w.alloc (.cells #[.slice (some ⟨g, 0, none⟩) qs.length C, .int .i64 r] 26)).alloc (.cells x.vals.toArray 53)) g C qs r x qs := by
  have hb2 : Below w.heap.size w ((w.alloc (.cells #[.slice (some ⟨g, 0, none⟩) qs.length C, .int .i64 r] 26)).alloc (.cells x.vals.toArray 53)) := ((Below.refl _ _).alloc (Nat.le_refl _) _).alloc (by simp) _
  have hlt := h.lt
  refine ⟨SinkMem.of_below h hb2, ?_, ?_, fun e => by have := (hlt _ e).2; omega, fun e => by have := (hlt _ e).2; omega⟩
  · exact (rowL_alloc w [.slice (some ⟨g, 0, none⟩) qs.length C, .int .i64 r] _).of_block (Below.heap_alloc _ _ _ (by simp))
  · have := rowL_alloc (w.alloc (.cells #[.slice (some ⟨g, 0, none⟩) qs.length C, .int .i64 r] 26)) x.vals 53
    simpa using this

theorem SiA.step {base g C : Nat} {w wr w' : World} {qs qs1 qs2 : List PN} {r : Int} {x : En} (h : SiA base w wr g C qs r x qs1) (hm : SinkMem base wr g C qs1 w' qs2) : SiA base w w' g C qs r x qs2 := by
  have l1 := h.bt.lt
  have l2 := h.bx.lt
  refine ⟨h.mem.trans hm, hm.kept.row h.bt h.ft, hm.kept.row h.bx h.fx, fun e => ?_, fun e => ?_⟩
  · rcases hm.fresh _ e with e | e
    · exact h.ft e
    · omega
  · rcases hm.fresh _ e with e | e
    · exact h.fx e
    · omega

theorem SiA.next {base g C : Nat} {w wr w' : World} {qs qs1 : List PN} {r : Int} {x : En} (h : SiA base w wr g C qs r x qs1) (hb : Below wr.heap.size wr w') : SiA base w w' g C qs r x qs1 :=
  h.step (SinkMem.of_below h.mem.nt hb)

theorem withE_len (l : List En) (x : En) : (withE l x).length ≤ l.length + 1 := by
  unfold withE
  have := lowN_le l x.key
  split
  · simp
  · simp; omega

set_option maxRecDepth 20000 in
set_option maxHeartbeats 4000000 in
theorem sink_inner (base g C : Nat) (qs : List PN) (r : Int) (k : Nat) (x : En) (w : World) (D F : List PN → Prop) (kids : List Int) (kd : Nat) (hT : NT base w g C qs) (hk : k < qs.length) (hl : (qs[k]).leaf = false) (hB : base ≤ w.heap.size) (hkd : kd < kids.length) (HD0 : Hid (D qs))
    (HDB : Hid (∀ (qs1 : List PN) (_ : qs1.length = qs.length) (_ : D qs1) (h : k < qs1.length), (qs1[k]).buf.Pairwise (fun x y => x.key < y.key) ∧ (qs1[k]).buf.length ≤ 8 ∧ (qs1[k]).kids = kids))
    (HFL : Hid (∀ W, NT base W g C qs → base ≤ W.heap.size → Calls Try.prog 45 #[.agg #[.slice (some ⟨g, 0, none⟩) qs.length C, .int .i64 r], .int .i64 (k : Int)] W fun e w' => e = .returned (.tuple #[]) ∧ ∃ qs1, SinkMem base W g C qs w' qs1 ∧ D qs1))
    (HF1 : Hid (∀ (qs1 : List PN) (_ : qs1.length = qs.length) (_ : D qs1) (h : k < qs1.length) (A' : Option Addr) (C' : Nat), (hasK (qs1[k]).buf x.key || decide ((qs1[k]).buf.length < 8)) = true → F (qs1.set k { qs1[k] with buf := withE (qs1[k]).buf x, bA := A', bC := C' })))
    (HKI : Hid (∀ (qs1 : List PN) (W : World) (_ : qs1.length = qs.length) (_ : D qs1) (h : k < qs1.length), NT base W g C qs1 → Calls Try.prog 46 #[.agg #[.bool (qs1[k]).leaf, .slice (qs1[k]).eA (qs1[k]).ents.length (qs1[k]).eC, .slice (qs1[k]).kA (qs1[k]).keys.length (qs1[k]).kC, .slice (qs1[k]).dA (qs1[k]).kids.length (qs1[k]).dC, .slice (qs1[k]).bA (qs1[k]).buf.length (qs1[k]).bC], .int .i64 x.key] W fun e w' => e = .returned (.int .i64 (kd : Int)) ∧ Below W.heap.size W w'))
    (HSK : Hid (∀ (qs1 : List PN) (W : World), qs1.length = qs.length → D qs1 → NT base W g C qs1 → base ≤ W.heap.size → Calls Try.prog 29 #[.agg #[.slice (some ⟨g, 0, none⟩) qs.length C, .int .i64 r], .int .i64 (kids.getD kd 0), .agg #[.int .i64 x.key, .int .i64 x.c, .int .i64 x.s, .int .i64 x.lo, .int .i64 x.hi, .int .i64 x.t, .int .i64 x.l]] W fun e w' => e = .returned (.tuple #[]) ∧ ∃ qs2, SinkMem base W g C qs1 w' qs2 ∧ F qs2 ∧ qs2[k]? = qs1[k]?)) :
    Calls Try.prog 29 #[.agg #[.slice (some ⟨g, 0, none⟩) qs.length C, .int .i64 r], .int .i64 (k : Int), .agg #[.int .i64 x.key, .int .i64 x.c, .int .i64 x.s, .int .i64 x.lo, .int .i64 x.hi, .int .i64 x.t, .int .i64 x.l]] w
      fun e w' => e = .returned (.tuple #[]) ∧ ∃ qs', SinkMem base w g C qs w' qs' ∧ F qs' := by
  have hat := hT.node hk
  have ho := (hT.each _ (List.getElem_mem hk)).b
  obtain ⟨hp0, hle0, -⟩ := HDB.out qs rfl HD0.out hk
  have hgl := hT.glt.2
  have i1 : (k : Int) < (qs.length : Int) := by omega
  have i0 : (0 : Int) ≤ (k : Int) := by omega
  have hb2 : ∀ o1 o2 : Obj, Below w.heap.size w ((w.alloc o1).alloc o2) := fun o1 o2 => ((Below.refl _ _).alloc (Nat.le_refl _) o1).alloc (by simp) o2
  have HS0 := hideC (SiA.start (r := r) (x := x) hT)
  obtain ⟨n0, n1, n2, n3, n4⟩ := hat
  rw [hl] at n0
  have hcw := fun W (hW : Below w.heap.size w W) => canWait_any (qs[k]).bA (qs[k]).bC (qs[k]).buf x.key W ((own_ok (own_next ho hW)).1) (by omega) hp0
  have HW := hideC hcw
  have HT := hideC hT
  generalize (hasK (qs[k]).buf x.key || decide ((qs[k]).buf.length < 8)) = c0 at HW
  generalize (qs[k]).bA = bA0 at HW n4
  generalize (qs[k]).bC = bC0 at HW n4
  generalize (qs[k]).buf.length = bN0 at HW n4
  clear hcw hT ho hl n1 n2 n3 hp0 hle0
  go_enter Try.func29, Try.ntmps29
  go_upto_region 4 with fail
  go_cut [31] from 24 to 31 (fun v wc => v = .bool (!c0) ∧ Hid (SiA base w wc g C qs r x qs))
  case first =>
    go_region_with (go_at_call 44; refine (HW.out _ ((hb2 _ _).drew)).mono ?_; rintro e w2 ⟨rfl, hb2'⟩; have HS1 := hideC (HS0.out.next ((Below.refl _ _).drew.trans hb2')); clear hb2')
    all_goals
      go_wp2
      go_meet
      case rel => exact ⟨rfl, HS1⟩
  case rest =>
    obtain ⟨rfl, HS1⟩ := hcut
    have t0 : wc.cell? ⟨w.heap.size, 0, none⟩ = some (.slice (some ⟨g, 0, none⟩) qs.length C) := HS1.out.bt.cell 0
    have t1 : wc.cell? ⟨w.heap.size, 1, none⟩ = some (.int .i64 r) := HS1.out.bt.cell 1
    clear HS0 n0 n4 HW
    go_upto_if 31 with fail
    go_cut [] from 32 to 34 (fun wd => ∃ qs1 : List PN, qs1.length = qs.length ∧ Hid (D qs1) ∧ Hid (SiA base w wd g C qs r x qs1))
    case first =>
      cases c0 with
      | true =>
        simp only [Bool.not_true]
        go_wp2_with fail
        go_meet
        case rel => exact ⟨qs, rfl, HD0, HS1⟩
      | false =>
        simp only [Bool.not_false]
        go_wp2_with (go_at_call 45; refine (HFL.out _ HS1.out.mem.nt (Nat.le_trans hB HS1.out.mem.kept.size)).mono ?_; rintro e w2 ⟨rfl, qs1, hm1, hd1⟩)
        go_meet
        case rel => exact ⟨qs1, hm1.len, hd1, HS1.out.step hm1⟩
    case rest =>
      obtain ⟨qs1, hl1, HD1, HS2⟩ := hcut
      clear HS1 t0 t1 HFL HD0
      obtain ⟨wd, hwd⟩ : ∃ wd, wd = wc := ⟨_, rfl⟩
      subst hwd
      have hk1 : k < qs1.length := by omega
      obtain ⟨hp1, hle1, hkids⟩ := HDB.out qs1 hl1 HD1.out hk1
      have hnt := HS2.out.mem.nt
      have hat := hnt.node hk1
      have ho := (hnt.each _ (List.getElem_mem hk1))
      have hgl1 := hnt.glt.2
      have hgb : g ∉ obk (qs1[k]).bA := fun e => (hnt.blocks_nodup hk1).2.2.1 (by rw [blocks_eq]; simp [e])
      have hf1 := hideC fun A' C' => HF1.out qs1 hl1 HD1.out hk1 A' C'
      have hki := hideC fun W hW => HKI.out qs1 W hl1 HD1.out hk1 hW
      have hsk := hideC fun W hW hb => HSK.out qs1 W hl1 HD1.out hW hb
      obtain ⟨n0, n1, n2, n3, n4⟩ := hat
      have hcw := fun W (hW : Below wd.heap.size wd W) => canWait_any (qs1[k]).bA (qs1[k]).bC (qs1[k]).buf x.key W ((own_ok (own_next ho.b hW)).1) (by omega) hp1
      have hcon := fun W (hW : Below wd.heap.size wd W) => with_any base (qs1[k]).bA (qs1[k]).bC (qs1[k]).buf x W (own_next ho.b hW) hp1 (Nat.le_trans (Nat.le_trans hB HS2.out.mem.kept.size) hW.size) (by omega)
      have fz := hnt.free (k * 5 + 4)
      have HW := hideC hcw
      have HC := hideC hcon
      have HNT := hideC hnt
      have HO := hideC ho
      have HGB := hideC hgb
      clear hcw hcon hnt ho HF1 HKI HSK HDB hp1 hgb
      obtain ⟨q, hq⟩ : ∃ q, qs1[k] = q := ⟨_, rfl⟩
      rw [hq] at HW HC HO HGB hf1 hki n0 n1 n2 n3 n4 hkids hle1
      obtain ⟨c1, hc1⟩ : ∃ c, c = (hasK q.buf x.key || decide (q.buf.length < 8)) := ⟨_, rfl⟩
      rw [← hc1] at HW hf1
      clear hc1
      have x0 : wd.cell? ⟨w.heap.size + 1, 0, none⟩ = some (.int .i64 x.key) := HS2.out.bx.cell 0
      have hxl := HS2.out.bx.lt
      go_upto_region 6 with fail
      go_cut [41] from 35 to 41 (fun v we => v = .bool c1 ∧ Hid (Below wd.heap.size wd we))
      case first =>
        go_region_with (go_at_call 44; refine (HW.out _ ((Below.refl _ _).drew)).mono ?_; rintro e w2 ⟨rfl, hb2'⟩)
        all_goals
          go_wp2
          go_meet
          case rel => exact ⟨rfl, (Below.refl _ _).drew.trans hb2'⟩
      case rest =>
        obtain ⟨rfl, HBE⟩ := hcut
        have hbe := HBE.out
        have HS3 := hideC (HS2.out.next hbe)
        have hsze := hbe.size
        have m0 := (hbe.cell (p := ⟨g, k * 5, none⟩) hgl1).trans n0
        have m1 := (hbe.cell (p := ⟨g, k * 5 + 1, none⟩) hgl1).trans n1
        have m2 := (hbe.cell (p := ⟨g, k * 5 + 2, none⟩) hgl1).trans n2
        have m3 := (hbe.cell (p := ⟨g, k * 5 + 3, none⟩) hgl1).trans n3
        have m4 := (hbe.cell (p := ⟨g, k * 5 + 4, none⟩) hgl1).trans n4
        have hge : g < wc.heap.size := by omega
        have y0 : wc.cell? ⟨w.heap.size + 1, 0, none⟩ = some (.int .i64 x.key) := HS3.out.bx.cell 0
        have y1 : wc.cell? ⟨w.heap.size + 1, 1, none⟩ = some (.int .i64 x.c) := HS3.out.bx.cell 1
        have y2 : wc.cell? ⟨w.heap.size + 1, 2, none⟩ = some (.int .i64 x.s) := HS3.out.bx.cell 2
        have y3 : wc.cell? ⟨w.heap.size + 1, 3, none⟩ = some (.int .i64 x.lo) := HS3.out.bx.cell 3
        have y4 : wc.cell? ⟨w.heap.size + 1, 4, none⟩ = some (.int .i64 x.hi) := HS3.out.bx.cell 4
        have y5 : wc.cell? ⟨w.heap.size + 1, 5, none⟩ = some (.int .i64 x.t) := HS3.out.bx.cell 5
        have y6 : wc.cell? ⟨w.heap.size + 1, 6, none⟩ = some (.int .i64 x.l) := HS3.out.bx.cell 6
        have b0 : wc.cell? ⟨w.heap.size, 0, none⟩ = some (.slice (some ⟨g, 0, none⟩) qs.length C) := HS3.out.bt.cell 0
        have b1 : wc.cell? ⟨w.heap.size, 1, none⟩ = some (.int .i64 r) := HS3.out.bt.cell 1
        have hxl3 := HS3.out.bx.lt
        have hbl3 := HS3.out.bt.lt
        clear n0 n1 n2 n3 n4 x0 hbe
        cases c1 with
        | true =>
          have fz3 : wc.frozen? ⟨g, k * 5 + 4, none⟩ = false := (HBE.out.frozen (p := ⟨g, k * 5 + 4, none⟩) hgl1).trans fz
          go_upto_region 7 with fail
          go_region_with (go_at_call 43; refine (HC.out _ (HBE.out.drew)).mono ?_; rintro e w2 ⟨A2, C2, rfl, hm2⟩; have HM := hideC (hm2.from ((Below.refl _ _).drew)); have c2 : w2.cell? ⟨g, k * 5 + 4, none⟩ = some (.slice q.bA q.buf.length q.bC) := (HM.out.kept.cell _ hge HGB.out).trans m4; have f2 : w2.frozen? ⟨g, k * 5 + 4, none⟩ = false := (World.frozen?_of_block (a := ⟨g, k * 5 + 4, none⟩) (HM.out.kept.block g hge HGB.out)).trans fz3; clear hm2)
          all_goals
            go_wp2
            (try simp only [Exit.inBlock, Exit.then]); refine bodyPost_ret (results_none rfl _ _ _) rfl ?_
            have hst := HS3.out.mem.nt.setBuf hk1 hq HM.out.own HM.out.kept HM.out.lies' (by have := withE_len q.buf x; omega)
            refine ⟨rfl, _, HS3.out.mem.trans hst, ?_⟩
            exact hf1.out A2 C2 trivial
        | false =>
          have hod := (own_ok HO.out.d).1
          rw [hkids] at hod m3 hki
          obtain ⟨db, doff, hA, hdl, hdc⟩ := hod.int hkd
          rw [hA] at m3 hki
          have nk : wc.cell? ⟨db, doff + kd, none⟩ = some (.int .i64 (kids.getD kd 0)) := by
            rw [HBE.out.cell (p := ⟨db, doff + kd, none⟩) hdl, hdc, List.getD_eq_getElem?_getD, List.getElem?_eq_getElem hkd]
            rfl
          have hnodes : Hid (∀ (w3 : World) (qs2 : List PN), NT base w3 g C qs2 → qs2[k]? = qs1[k]? → w3.cell? ⟨g, k * 5, none⟩ = some (.bool q.leaf) ∧ w3.cell? ⟨g, k * 5 + 1, none⟩ = some (.slice q.eA q.ents.length q.eC) ∧ w3.cell? ⟨g, k * 5 + 2, none⟩ = some (.slice q.kA q.keys.length q.kC) ∧ w3.cell? ⟨g, k * 5 + 3, none⟩ = some (.slice (some ⟨db, doff, none⟩) kids.length q.dC) ∧ w3.cell? ⟨g, k * 5 + 4, none⟩ = some (.slice q.bA q.buf.length q.bC) ∧ w3.cell? ⟨db, doff + kd, none⟩ = some (.int .i64 (kids.getD kd 0))) := fun w3 qs2 hn2 hq2 => by
            rw [List.getElem?_eq_getElem hk1, hq] at hq2
            obtain ⟨hk2, hq2'⟩ := List.getElem?_eq_some_iff.1 hq2
            obtain ⟨d0, d1, d2, d3, d4⟩ := hn2.node hk2
            have hod2 := (own_ok (hn2.each _ (List.getElem_mem hk2)).d).1
            rw [hq2'] at d0 d1 d2 d3 d4 hod2
            rw [hkids] at hod2 d3
            rw [hA] at hod2 d3
            obtain ⟨db', doff', hA', _, hdc'⟩ := hod2.int hkd
            cases hA'
            refine ⟨d0, d1, d2, d3, d4, ?_⟩
            rw [hdc', List.getD_eq_getElem?_getD, List.getElem?_eq_getElem hkd]
            rfl
          generalize kids.getD kd 0 = kp at nk hsk hnodes
          have hdl3 : db < wc.heap.size := by omega
          have k0 : (0 : Int) ≤ (kd : Int) := by omega
          have k1 : (kd : Int) < (kids.length : Int) := by omega
          have hnt3 := hideC HS3.out.mem.nt
          have hbs : base ≤ wc.heap.size := Nat.le_trans hB HS3.out.mem.kept.size
          clear HW HC HO HGB hod hdc hA hf1 HS2 HNT hkids
          go_upto_region 8 with fail
          go_region_held3 (fun w' => w'.cell? ⟨w.heap.size, 0, none⟩ = some (.slice (some ⟨g, 0, none⟩) qs.length C) ∧ w'.cell? ⟨w.heap.size, 1, none⟩ = some (.int .i64 r) ∧ w'.cell? ⟨g, k * 5, none⟩ = some (.bool q.leaf) ∧ w'.cell? ⟨g, k * 5 + 1, none⟩ = some (.slice q.eA q.ents.length q.eC) ∧ w'.cell? ⟨g, k * 5 + 2, none⟩ = some (.slice q.kA q.keys.length q.kC) ∧ w'.cell? ⟨g, k * 5 + 3, none⟩ = some (.slice (some ⟨db, doff, none⟩) kids.length q.dC) ∧ w'.cell? ⟨g, k * 5 + 4, none⟩ = some (.slice q.bA q.buf.length q.bC) ∧ w'.cell? ⟨w.heap.size + 1, 0, none⟩ = some (.int .i64 x.key) ∧ w'.cell? ⟨w.heap.size + 1, 1, none⟩ = some (.int .i64 x.c) ∧ w'.cell? ⟨w.heap.size + 1, 2, none⟩ = some (.int .i64 x.s) ∧ w'.cell? ⟨w.heap.size + 1, 3, none⟩ = some (.int .i64 x.lo) ∧ w'.cell? ⟨w.heap.size + 1, 4, none⟩ = some (.int .i64 x.hi) ∧ w'.cell? ⟨w.heap.size + 1, 5, none⟩ = some (.int .i64 x.t) ∧ w'.cell? ⟨w.heap.size + 1, 6, none⟩ = some (.int .i64 x.l) ∧ w'.cell? ⟨db, doff + kd, none⟩ = some (.int .i64 kp)) (go_keep) (first
            | (go_at_call 46; refine (hki.out _ (hnt3.out.below ((Below.refl _ _).drew) (Nat.le_refl _))).mono ?_; rintro e w2 ⟨rfl, hb2'⟩; have hbw2 : Below wc.heap.size wc w2 := (Below.refl _ _).drew.trans hb2'; have HS4 := hideC (HS3.out.next hbw2); have z := fun b o (hb : b < wc.heap.size) => hbw2.cell (p := ⟨b, o, none⟩) hb; have z0 := (z _ 0 hbl3).trans b0; have z1 := (z _ 1 hbl3).trans b1; have z2 := (z g (k * 5) hge).trans m0; have z3 := (z g (k * 5 + 1) hge).trans m1; have z4 := (z g (k * 5 + 2) hge).trans m2; have z5 := (z g (k * 5 + 3) hge).trans m3; have z6 := (z g (k * 5 + 4) hge).trans m4; have z7 := (z _ 0 hxl3).trans y0; have z8 := (z _ 1 hxl3).trans y1; have z9 := (z _ 2 hxl3).trans y2; have za := (z _ 3 hxl3).trans y3; have zb := (z _ 4 hxl3).trans y4; have zc := (z _ 5 hxl3).trans y5; have zd := (z _ 6 hxl3).trans y6; have ze := (z db (doff + kd) hdl3).trans nk; clear z)
            | (go_at_call 29; refine (hsk.out _ HS4.out.mem.nt (Nat.le_trans hB HS4.out.mem.kept.size)).mono ?_; rintro e w3 ⟨rfl, qs2, hm2, hf2, hq2⟩; have HS5 := hideC (HS4.out.step hm2); have HR := hideC (And.intro (HS4.out.mem.trans hm2) hf2); have v := hnodes.out w3 qs2 hm2.nt hq2; obtain ⟨v0, v1, v2, v3, v4, v5⟩ := v; have u0 : w3.cell? ⟨w.heap.size, 0, none⟩ = some (.slice (some ⟨g, 0, none⟩) qs.length C) := HS5.out.bt.cell 0; have u1 : w3.cell? ⟨w.heap.size, 1, none⟩ = some (.int .i64 r) := HS5.out.bt.cell 1; have u2 := fun j => HS5.out.bx.cell j; simp only [En.vals] at u2; clear hm2 hf2 hq2))
          all_goals
            go_wp2
            go_end0
            exact ⟨rfl, _, HR.out⟩

end Go.Proofs.Ytlojfgdpmaigmac

/- tree.flush and tree.sink, at whatever node. -/
namespace Go.Proofs.Ytlojfgdpmaigmac
open Go.RowKit Plain Go.Shelf

/-- The contract of sink, for nodes h above the leaves. -/
def SinkC (T base g C n h : Nat) (r : Int) : Prop :=
  ∀ (qs : List PN) (w : World) (p lo hi : Int) (P : List Int) (x : En), NT base w g C qs → qs.length = n → base ≤ w.heap.size → Sub T 4 (qs.map PN.nd) h p lo hi P → P.Nodup → 0 ≤ lo → hi ≤ 1099511627776 → entB x lo hi = true → cntK x.key (cP (qs.map PN.nd) P) + x.c ≤ 1073741824 → (cP (qs.map PN.nd) P).length + 1 ≤ T →
    Calls Try.prog 29 #[.agg #[.slice (some ⟨g, 0, none⟩) n C, .int .i64 r], .int .i64 p, .agg #[.int .i64 x.key, .int .i64 x.c, .int .i64 x.s, .int .i64 x.lo, .int .i64 x.hi, .int .i64 x.t, .int .i64 x.l]] w
      fun e w' => e = .returned (.tuple #[]) ∧ ∃ qs', SinkMem base w g C qs w' qs' ∧ SinkOk T (qs.map PN.nd) (qs'.map PN.nd) h p lo hi P x ∧ ∀ n : Nat, (n : Int) ∉ P → qs'[n]? = qs[n]?

theorem nthQ {qs : List PN} {k : Nat} (hk : k < qs.length) : nth (qs.map PN.nd) (k : Int) = (qs[k]).nd := by simp [nth, hk]

theorem cP_le {ns : List Nd} {P Q : List Int} (h : ∃ A B, P = A ++ Q ++ B) (k : Int) (hp : Pos (cP ns P)) : cntK k (cP ns Q) ≤ cntK k (cP ns P) ∧ (cP ns Q).length ≤ (cP ns P).length := by
  obtain ⟨A, B, rfl⟩ := h
  rw [cP_append, cP_append] at hp ⊢
  have h1 := cntK_nn (k := k) hp.left.left
  have h2 := cntK_nn (k := k) hp.right
  rw [cntK_append, cntK_append]
  exact ⟨by omega, by simp; omega⟩

theorem set_nd {qs : List PN} {k : Nat} (hk : k < qs.length) (l : List En) (A' : Option Addr) (C' : Nat) : (qs.set k { qs[k] with buf := l, bA := A', bC := C' }).map PN.nd = (qs.map PN.nd).set (k : Int).toNat { nth (qs.map PN.nd) (k : Int) with buf := l } := by
  rw [List.map_set, nthQ hk]
  rfl

/-- What goes on to a kid: of a node whose kids are as they were. -/
theorem kid_call {T base g C n h : Nat} {r : Int} (hS : SinkC T base g C n h r) {qs : List PN} {w : World} {k : Nat} {lo hi : Int} {P : List Int} {x : En} (hT : NT base w g C qs) (hn : qs.length = n) (hB : base ≤ w.heap.size) (hs : Sub T 4 (qs.map PN.nd) (h + 1) (k : Int) lo hi P) (hP : P.Nodup) (hlo : 0 ≤ lo) (hhi : hi ≤ 1099511627776) (hx : entB x lo hi = true) (hc : cntK x.key (cP (qs.map PN.nd) P) + x.c ≤ 1073741824) (hl : (cP (qs.map PN.nd) P).length + 1 ≤ T) :
    Calls Try.prog 29 #[.agg #[.slice (some ⟨g, 0, none⟩) n C, .int .i64 r], .int .i64 ((nth (qs.map PN.nd) (k : Int)).kids.getD (kidI (nth (qs.map PN.nd) (k : Int)).keys x.key) 0), .agg #[.int .i64 x.key, .int .i64 x.c, .int .i64 x.s, .int .i64 x.lo, .int .i64 x.hi, .int .i64 x.t, .int .i64 x.l]] w
      fun e w' => e = .returned (.tuple #[]) ∧ ∃ qs', SinkMem base w g C qs w' qs' ∧ SinkOk T (qs.map PN.nd) (qs'.map PN.nd) (h + 1) (k : Int) lo hi P x ∧ nth (qs'.map PN.nd) (k : Int) = nth (qs.map PN.nd) (k : Int) ∧ (∀ n : Nat, (n : Int) ∉ P → qs'[n]? = qs[n]?) ∧ qs'[k]? = qs[k]? := by
  obtain ⟨⟨hx1, hx2⟩, hxg⟩ := entB_iff.1 hx
  obtain ⟨l, u, Qa, Qd, Qb, c1, hPe, c3, c4, c5, c6, c7, c8, c9, c10⟩ := Sub_pick hs hP hx1 hx2
  have hsub : ∃ A B, P = A ++ Qd ++ B := ⟨(k : Int) :: Qa, Qb, by rw [hPe]; simp⟩
  obtain ⟨q1, q2⟩ := cP_le hsub x.key (Sub_pos hs)
  refine (hS qs w _ l u Qd x hT hn hB c3 c6 (by omega) (by omega) (entB_iff.2 ⟨⟨c4, c5⟩, hxg⟩) (by omega) (by omega)).mono ?_
  rintro e w' ⟨rfl, qs', hm, hok, hpn⟩
  exact ⟨rfl, qs', hm, kid_sink hs hPe hP c10 hok, hok.same _ c7 (by omega), fun n hn => hpn n (fun e => hn (by rw [hPe]; simp [e])), hpn k c7⟩

theorem down_refl {T h : Nat} {ns : List Nd} {p lo hi : Int} {P : List Int} (hs : Sub T 4 ns (h + 1) p lo hi P) : DownOk T ns ns h p lo hi P [] :=
  ⟨hs, rfl, fun _ _ _ => rfl, by rw [List.nil_append]; exact Eqv.refl (Sub_pos hs), by simp, rfl, rfl⟩

theorem down_sink {T h : Nat} {ns ns1 ns2 : List Nd} {p lo hi : Int} {P : List Int} {x : En} (hd : DownOk T ns ns1 h p lo hi P []) (hk : SinkOk T ns1 ns2 (h + 1) p lo hi P x) : SinkOk T ns ns2 (h + 1) p lo hi P x := by
  have he := hd.eqv
  have hf := hd.few
  have hx : Pos [x] := fun y hy => hk.eqv.posl y (by simp at hy; simp [hy])
  rw [List.nil_append] at he
  refine ⟨hk.sub, hk.len.trans hd.len, fun n h1 h2 => (hk.same n h1 h2).trans (hd.same n h1 h2), (he.app_left hx).trans hk.eqv, ?_⟩
  have := hk.few
  simp at hf
  omega

theorem down_cnt {T h : Nat} {ns ns1 : List Nd} {p lo hi : Int} {P : List Int} {rest : List En} {x : En} (hd : DownOk T ns ns1 h p lo hi P rest) : cntK x.key (cP ns P) = cntK x.key rest + cntK x.key (cP ns1 P) := by
  rw [hd.eqv.cnt, cntK_append]

theorem flush_any {T base g C n h : Nat} {r : Int} (hS : SinkC T base g C n h r) {qs : List PN} {w : World} {k : Nat} {lo hi : Int} {P : List Int} (hT : NT base w g C qs) (hn : qs.length = n) (hB : base ≤ w.heap.size) (hk : k < n) (hs : Sub T 4 (qs.map PN.nd) (h + 1) (k : Int) lo hi P) (hP : P.Nodup) (hh : h + 1 < 12) (hlo : 0 ≤ lo) (hhi : hi ≤ 1099511627776) (hl : (cP (qs.map PN.nd) P).length ≤ T) :
    Calls Try.prog 45 #[.agg #[.slice (some ⟨g, 0, none⟩) n C, .int .i64 r], .int .i64 (k : Int)] w
      fun e w' => e = .returned (.tuple #[]) ∧ ∃ qs', SinkMem base w g C qs w' qs' ∧ DownOk T (qs.map PN.nd) (qs'.map PN.nd) h (k : Int) lo hi P [] ∧ ∀ n : Nat, (n : Int) ∉ P → qs'[n]? = qs[n]? := by
  subst hn
  have hnth := nthQ hk
  have hs0 := hs
  obtain ⟨hr, Q, hPQ, hin⟩ := hs
  rw [hnth] at hin
  have hreach := Sub_reach (h + 1) 12 _ _ _ _ hs0 hh
  have ho := hT.each _ (List.getElem_mem hk)
  have hat := hT.node hk
  have hents : entsB (qs[k]).buf lo hi = true := hin.buf
  have hkl : (qs[k]).keys.length + 1 = (qs[k]).kids.length := hin.keys
  have hk4 : (qs[k]).kids.length ≤ 4 := hin.most
  have hk2 : 2 ≤ (qs[k]).kids.length := hin.two
  have hrise : (qs[k]).keys.Pairwise (· < ·) := (keys_rise (Sub_lt h) hin.keys hin.kids).1
  have hkne : (qs[k]).keys ≠ [] := fun e => by rw [e] at hkl; simp at hkl; omega
  have hks : (qs[k]).keys.Pairwise (· ≤ ·) := hrise.imp fun {a b} h => by omega
  have hkidlt : ∀ x ∈ (qs[k]).buf, kidI (qs[k]).keys x.key < (qs[k]).kids.length := by
    intro x hx
    rw [kidI_eq hrise]
    have hb := (entsB_lt hents).1 x hx
    obtain ⟨_, _, _, _, _, c1, _⟩ := SubK_pick (Sub_lt h) hin.keys hin.kids hb.1 hb.2
    exact c1
  refine flush_core (T := T) (h := h) base g C qs.length qs (qs[k]).kids lo hi P r k (qs[k]).leaf (qs[k]).eA (qs[k]).ents.length (qs[k]).eC (qs[k]).kA (qs[k]).keys.length (qs[k]).kC (qs[k]).dA (qs[k]).kids.length (qs[k]).dC (qs[k]).bA (qs[k]).bC (qs[k]).buf (fun key => kidI (qs[k]).keys key) (fun key => stB (qs.map PN.nd) (k : Int) key) w hT.glt.2 hk hat.c0 hat.c1 hat.c2 hat.c3 hat.c4 (own_ok ho.b).1 hin.few ?_ ?_ ?_ rfl (by rw [hPQ]; simp) hB hT ?_ ?_ ?_ hkidlt ?_
  · exact fun W hW x hx => stuck_any (some ⟨g, 0, none⟩) C r (k : Int) x.key qs W ((hT.below hW (Nat.le_refl _)).nodes) hreach (by have := (entsB_lt hents).1 x hx; omega) _ rfl
  · exact fun W hW x => kidOf_any (qs[k]) x.key W ((own_ok ho.k).1.up hW) hkne ho.kz hks
  · exact fun x hx => Nat.lt_of_lt_of_le (hkidlt x hx) hk4
  · exact ⟨qs[k], List.getElem?_eq_getElem hk, rfl, rfl⟩
  · intro f
    have := down_start hs0 hP f
    rw [hnth] at this ⊢
    exact this
  · intro ns' rest hd
    rw [hd.kids, hnth]
    rfl
  · intro qs' wr x rest hT' hn' hB' hd hxb hst
    have hx : entB x lo hi = true := entB_iff.2 ⟨(entsB_lt hents).1 x hxb, entsB_good hents x hxb⟩
    have hmost : cntK x.key (cP (qs.map PN.nd) P) ≤ 1073741824 := by
      obtain ⟨a, b⟩ := known_cnt (k := x.key) hs0 hh rfl
      have h0 : ((Wl (qs.map PN.nd) x.key (x.key + 1) 12 (k : Int)).foldl stepK (zro, 0)).2 = 0 := by simpa [stB] using hst
      rw [← b h0]
      exact inv_most a h0
    have hc := down_cnt (x := x) hd
    have hposr : Pos rest := fun y hy => hd.eqv.posm y (by simp [hy])
    have hc2 := cntK_nn (k := x.key) hposr
    rw [cntK, if_pos rfl] at hc
    have hf := hd.few
    simp only [List.length_cons] at hf
    have hcall := kid_call hS hT' hn' hB' hd.sub hP hlo hhi hx (by omega) (by omega)
    rw [hd.keys, hd.kids, hnth] at hcall
    refine hcall.mono ?_
    rintro e w' ⟨rfl, qs'', hm, hok, hsame, hpn, _⟩
    exact ⟨rfl, qs'', hm, down_step hd hok (by rw [hsame]) (by rw [hsame]), hpn⟩

theorem sink_all {T base g C n : Nat} {r : Int} (hz : T * 56 ≤ 140737488351232) : ∀ h, h < 12 → SinkC T base g C n h r
  | 0, _ => by
    intro qs w p lo hi P x hT hn hB hs hP hlo hhi hx hc hl
    subst hn
    have hr := hs.1
    obtain ⟨k, rfl⟩ : ∃ k : Nat, p = k := ⟨p.toNat, by omega⟩
    have hk : k < qs.length := by have := hr.2.1; simp at this; omega
    have hnth := nthQ hk
    have hlf := hs.2.2
    rw [hnth] at hlf
    have hle : (qs[k]).ents.length + 1 ≤ T := by
      obtain ⟨_, rfl, _⟩ := hs
      have e : cP (qs.map PN.nd) [(k : Int)] = (qs[k]).buf ++ (qs[k]).ents := by simp [cP, cont, hnth, PN.nd]
      rw [e] at hl
      simp at hl
      omega
    refine (sink_leaf base g C qs r k (qs[k]) x w hT hk rfl hlf.leaf (entsB_lt hlf.ents).2 (by omega) hB).mono ?_
    rintro e w' ⟨A', C', rfl, hm⟩
    refine ⟨rfl, _, hm, ?_, fun n hn => List.getElem?_set_ne (fun e => hn ?_)⟩
    · have := leaf_sink hs hx hc hl
      rw [hnth] at this
      rw [List.map_set]
      exact this
    · rw [hs.2.1, e]
      simp
  | h + 1, hh => by
    intro qs w p lo hi P x hT hn hB hs hP hlo hhi hx hc hl
    have ih := sink_all (base := base) (g := g) (C := C) (n := n) (r := r) hz h (by omega)
    subst hn
    have hr := hs.1
    obtain ⟨k, rfl⟩ : ∃ k : Nat, p = k := ⟨p.toNat, by omega⟩
    have hk : k < qs.length := by have := hr.2.1; simp at this; omega
    have hnth := nthQ hk
    have hin : InnOk 4 (Sub T 4 (qs.map PN.nd) h) (qs[k]).nd lo hi P.tail := by
      obtain ⟨_, Q, rfl, hin⟩ := hs
      rw [hnth] at hin
      exact hin
    have hrise : (qs[k]).keys.Pairwise (· < ·) := (keys_rise (Sub_lt h) hin.keys hin.kids).1
    obtain ⟨⟨hx1, hx2⟩, hxg⟩ := entB_iff.1 hx
    have hkd : kidI (qs[k]).keys x.key < (qs[k]).kids.length := by
      rw [kidI_eq hrise]
      obtain ⟨_, _, _, _, _, c1, _⟩ := SubK_pick (Sub_lt h) hin.keys hin.kids hx1 hx2
      exact c1
    have hcnt : ∀ {ns1 : List Nd}, DownOk T (qs.map PN.nd) ns1 h (k : Int) lo hi P [] → cntK x.key (cP ns1 P) + x.c ≤ 1073741824 ∧ (cP ns1 P).length + 1 ≤ T := fun {ns1} hd => by
      have h1 := down_cnt (x := x) hd
      have h2 := hd.few
      simp only [cntK, List.length_nil] at h1 h2
      exact ⟨by omega, by omega⟩
    have hnode : ∀ {qs1 : List PN} (_ : DownOk T (qs.map PN.nd) (qs1.map PN.nd) h (k : Int) lo hi P []) (h1 : k < qs1.length), InnOk 4 (Sub T 4 (qs1.map PN.nd) h) (qs1[k]).nd lo hi P.tail ∧ (qs1[k]).keys = (qs[k]).keys ∧ (qs1[k]).kids = (qs[k]).kids := fun {qs1} hd h1 => by
      have e := nthQ h1
      refine ⟨?_, ?_, ?_⟩
      · obtain ⟨_, Q, rfl, hin2⟩ := hd.sub
        rw [e] at hin2
        exact hin2
      · have := hd.keys; rw [e, hnth] at this; exact this
      · have := hd.kids; rw [e, hnth] at this; exact this
    refine sink_inner base g C qs r k x w (fun qs1 => DownOk T (qs.map PN.nd) (qs1.map PN.nd) h (k : Int) lo hi P [] ∧ ∀ n : Nat, (n : Int) ∉ P → qs1[n]? = qs[n]?) (fun qs' => SinkOk T (qs.map PN.nd) (qs'.map PN.nd) (h + 1) (k : Int) lo hi P x ∧ ∀ n : Nat, (n : Int) ∉ P → qs'[n]? = qs[n]?) (qs[k]).kids (kidI (qs[k]).keys x.key) hT hk hin.leaf hB hkd ⟨down_refl hs, fun _ _ => rfl⟩ ?_ ?_ ?_ ?_ ?_
    · intro qs1 _ ⟨hd, _⟩ h1
      obtain ⟨a, b, c⟩ := hnode hd h1
      exact ⟨(entsB_lt a.buf).2, a.few, c⟩
    · intro W hW hBW
      exact flush_any ih hW rfl hBW hk hs hP hh hlo hhi (by omega)
    · intro qs1 hl1 ⟨hd, hpn⟩ h1 A' C' hw
      obtain ⟨a, b⟩ := hcnt hd
      have hw' : hasK (nth (qs1.map PN.nd) (k : Int)).buf x.key = true ∨ (nth (qs1.map PN.nd) (k : Int)).buf.length < 8 := by
        rw [nthQ h1]
        have : hasK (qs1[k]).buf x.key = true ∨ (qs1[k]).buf.length < 8 := by simpa using hw
        exact this
      have := down_sink hd (buf_sink hd.sub hP hx a hw')
      refine ⟨?_, fun n hn => (List.getElem?_set_ne (fun e => hn ?_)).trans (hpn n hn)⟩
      · rw [set_nd h1]
        rw [nthQ h1] at this ⊢
        exact this
      · obtain ⟨_, Q, hPQ, _⟩ := hs
        rw [hPQ, e]
        simp
    · intro qs1 W hl1 ⟨hd, _⟩ h1 hW
      obtain ⟨a, b, c⟩ := hnode hd h1
      have hr1 : (qs1[k]).keys.Pairwise (· < ·) := by rw [b]; exact hrise
      have hkl : (qs1[k]).keys.length + 1 = (qs1[k]).kids.length := a.keys
      have hk2 : 2 ≤ (qs1[k]).kids.length := a.two
      have ho := hW.each _ (List.getElem_mem h1)
      have := kidOf_any (qs1[k]) x.key W (own_ok ho.k).1 (fun e => by rw [e] at hkl; simp at hkl; omega) ho.kz (hr1.imp fun {a b} h => by omega)
      rw [b] at this
      rw [b]
      exact this
    · intro qs1 W hl1 ⟨hd, hpn⟩ hW hBW
      have h1 : k < qs1.length := by omega
      obtain ⟨a, b⟩ := hcnt hd
      have hcall := kid_call ih hW hl1 hBW hd.sub hP hlo hhi hx a b
      rw [hd.keys, hd.kids, hnth] at hcall
      refine hcall.mono ?_
      rintro e w' ⟨rfl, qs2, hm, hok, _, hpn2, hkk⟩
      exact ⟨rfl, qs2, hm, ⟨down_sink hd hok, fun n hn => (hpn2 n hn).trans (hpn n hn)⟩, hkk⟩

end Go.Proofs.Ytlojfgdpmaigmac

/- A node of a tree in memory of one's own adopts the siblings of a kid. -/
namespace Go.Proofs.Ytlojfgdpmaigmac
open Go.RowKit Plain

theorem own_split {w : World} {base g C n : Nat} {e : TypeId} {size : Nat} {vs : List Value} (h : w.ownsRow base e size (.slice (some ⟨g, 0, none⟩) n C) n vs) : ∃ cur : List Value, RowL w g e cur ∧ cur.length = C * size ∧ cur.take (n * size) = vs ∧ n ≤ C ∧ C ≤ maxLen ∧ base ≤ g := by
  rcases h.2 with ⟨hv, _⟩ | ⟨g', cap, cur, hv, hb, hg, hl, hm, hs, ht⟩
  · cases hv
  · cases hv
    exact ⟨cur.toList, by unfold RowL; rw [hg], by simpa using hs, ht, hl, hm, hb⟩

theorem own_glue {w : World} {base g C n : Nat} {e : TypeId} {size : Nat} {vs cur : List Value} (hr : RowL w g e cur) (hl : cur.length = C * size) (ht : cur.take (n * size) = vs) (hn : n ≤ C) (hm : C ≤ maxLen) (hb : base ≤ g) (hv : vs.length = n * size) : w.ownsRow base e size (.slice (some ⟨g, 0, none⟩) n C) n vs :=
  ⟨hv, .inr ⟨g, C, cur.toArray, rfl, hb, hr, hn, hm, by simpa using hl, by simpa using ht⟩⟩

theorem keysAt_all (keys : List Int) (i : Nat) (more : List (Int × Int)) : keysAt keys i more more.length = keys.take i ++ more.map (·.1) ++ keys.drop i := by unfold keysAt; rw [List.take_length]
theorem kidsAt_all (kids : List Int) (i : Nat) (more : List (Int × Int)) : kidsAt kids i more more.length = kids.take (i + 1) ++ more.map (·.2) ++ kids.drop (i + 1) := by unfold kidsAt; rw [List.take_length]

theorem nodup_swap2 {B : Nat} {E K D K' D' X : List Nat} (h : (E ++ (K ++ (D ++ X))).Nodup) (hK : K'.Nodup) (hD : D'.Nodup) (hKD : ∀ b ∈ K', b ∉ D') (hk : ∀ b ∈ K', b ∈ K ∨ B ≤ b) (hd : ∀ b ∈ D', b ∈ D ∨ B ≤ b) (hlt : ∀ b ∈ E ++ (K ++ (D ++ X)), b < B) : (E ++ (K' ++ (D' ++ X))).Nodup := by
  simp only [List.nodup_append, List.mem_append] at h hlt ⊢
  obtain ⟨hE, ⟨_, ⟨_, hX, hDX⟩, hKDX⟩, hEK⟩ := h
  refine ⟨hE, ⟨hK, ⟨hD, hX, fun a ha b hb e => ?_⟩, fun a ha b hb e => ?_⟩, fun a ha b hb e => ?_⟩
  · rcases hd a ha with q | q
    · exact hDX a q b hb e
    · have := hlt b (.inr (.inr (.inr hb))); omega
  · rcases hb with hb | hb
    · exact hKD a ha (e ▸ hb)
    · rcases hk a ha with q | q
      · exact hKDX a q b (.inr hb) e
      · have := hlt b (.inr (.inr (.inr hb))); omega
  · rcases hb with hb | hb | hb
    · rcases hk b hb with q | q
      · exact hEK a ha b (.inl q) e
      · have := hlt a (.inl ha); omega
    · rcases hd b hb with q | q
      · exact hEK a ha b (.inr (.inl q)) e
      · have := hlt a (.inl ha); omega
    · exact hEK a ha b (.inr (.inr hb)) e

theorem adoptT (base tb g C : Nat) (qs : List PN) (root : Int) (k i : Nat) (mA : Option Addr) (mC : Nat) (more : List (Int × Int)) (w : World) (hT : TB base w tb g C qs root) (hk : k < qs.length) (hi : i < (qs[k]).kids.length) (hkl : (qs[k]).keys.length + 1 = (qs[k]).kids.length) (hB : base ≤ w.heap.size) (hm : RowAt w.heap.size w mA (flatS more)) (hmb : ∀ a, mA = some a → a.block ∉ feet g qs) (hz : ((qs[k]).kids.length + more.length + 1) * 8 ≤ 140737488351232) :
    Calls Try.prog 48 #[.pointer (some ⟨g, k * 5, none⟩), .int .i64 (i : Int), .slice mA more.length mC] w
      fun e w' => e = .returned (.tuple #[]) ∧ ∃ qs', TB base w' tb g C qs' root ∧ qs'.map PN.nd = adoptAt (qs.map PN.nd) (k : Int) i more ∧ qs'.length = qs.length ∧ Kept (feet g qs) w w' ∧ ∀ b ∈ feet g qs', b ∈ feet g qs ∨ w.heap.size ≤ b := by
  obtain ⟨b1, b2, b3, b4⟩ := hT.nt.blocks_nodup hk
  have ho := hT.nt.each _ (List.getElem_mem hk)
  have hlt := ho.lt
  have hfl := hT.nt.lt
  have hx := nth_map hk
  obtain ⟨cur, hrow, hcl, hct, hnC, hCm, hbg⟩ := own_split hT.nt.own
  obtain ⟨q, hq⟩ : ∃ q, qs[k] = q := ⟨_, rfl⟩
  have hcell : ∀ j, j < 5 → ∀ u, q.vals[j]? = some u → cur[k * 5 + j]? = some u := fun j hj u hu => by
    have := flatN_get qs k j hk hj
    rw [← hct, List.getElem?_take, if_pos (by omega), hq] at this
    rw [this]; exact hu
  rw [hq] at b1 b2 b3 b4 ho hlt hi hkl hz hx
  have hbe := blocks_eq q
  have hset2 : cur.set (k * 5 + 2) (.slice q.kA q.keys.length q.kC) = cur := by
    have h := hcell 2 (by decide) _ rfl
    obtain ⟨h1, h2⟩ := List.getElem?_eq_some_iff.1 h
    rw [← h2, List.set_getElem_self]
  have hset3 : cur.set (k * 5 + 3) (.slice q.dA q.kids.length q.dC) = cur := by
    have h := hcell 3 (by decide) _ rfl
    obtain ⟨h1, h2⟩ := List.getElem?_eq_some_iff.1 h
    rw [← h2, List.set_getElem_self]
  have hgk : g ∉ obk q.kA := fun e => b3 (by rw [hbe]; simp [e])
  have hgd : g ∉ obk q.dA := fun e => b3 (by rw [hbe]; simp [e])
  have hkd : ∀ b ∈ obk q.kA, b ∉ obk q.dA := fun b h1 h2 => by
    rw [hbe] at b1
    simp only [List.nodup_append, List.mem_append] at b1
    exact b1.2.1.2.2 b h1 b (.inl h2) rfl
  have hA : AdAt base w g (k * 5) 62 cur q.kA q.dA w q.kA q.kC q.keys q.dA q.dC q.kids :=
    ⟨by rw [hset2, hset3]; exact hrow, ho.k, ho.d, Kept.refl _ _, fun _ h => .inl h, fun _ h => .inl h, hkd, hgk, hgd⟩
  refine (adopt_any base g (k * 5) 62 cur q.kA q.kC q.keys q.dA q.dC q.kids i mA mC more w hA (by rw [hcl]; omega) hB hm (fun a ha => ?_) (by omega) (by omega) (by omega) hz).mono ?_
  · have := hmb a ha
    intro e
    simp only [List.cons_append, List.mem_cons, List.mem_append] at e
    rcases e with e | e | e
    · exact this (e ▸ List.mem_cons_self)
    · exact this (b2 _ (by rw [hbe]; simp [e]))
    · exact this (b2 _ (by rw [hbe]; simp [e]))
  · rintro e w' ⟨rfl, kA', kC', dA', dC', hA'⟩
    rw [keysAt_all, kidsAt_all] at hA'
    have hkl' : (q.keys.take i ++ more.map (·.1) ++ q.keys.drop i).length = q.keys.length + more.length := by simp; omega
    have hdl' : (q.kids.take (i + 1) ++ more.map (·.2) ++ q.kids.drop (i + 1)).length = q.kids.length + more.length := by simp; omega
    generalize hK : q.keys.take i ++ more.map (·.1) ++ q.keys.drop i = keys' at hA' hkl'
    generalize hD : q.kids.take (i + 1) ++ more.map (·.2) ++ q.kids.drop (i + 1) = kids' at hA' hdl'
    obtain ⟨p, hp⟩ : ∃ p : PN, p = { q with keys := keys', kA := kA', kC := kC', kids := kids', dA := dA', dC := dC' } := ⟨_, rfl⟩
    have hpb : p.blocks = obk q.eA ++ (obk kA' ++ (obk dA' ++ obk q.bA)) := by rw [blocks_eq, hp]
    have hblk : ∀ b ∈ p.blocks, b ∈ q.blocks ∨ w.heap.size ≤ b := by
      intro b hb
      rw [hpb] at hb
      rw [hbe]
      simp only [List.mem_append] at hb ⊢
      rcases hb with e | e | e | e
      · exact .inl (.inl e)
      · rcases hA'.lk b e with e | e
        · exact .inl (.inr (.inl e))
        · exact .inr e
      · rcases hA'.ld b e with e | e
        · exact .inl (.inr (.inr (.inl e)))
        · exact .inr e
      · exact .inl (.inr (.inr (.inr e)))
    have hnd : p.blocks.Nodup := by
      rw [hpb]
      rw [hbe] at b1 hlt
      exact nodup_swap2 b1 (obk_nodup _) (obk_nodup _) hA'.ne hA'.lk hA'.ld (fun b hb => (hlt b hb).2)
    obtain ⟨f1, f2⟩ := feet_turn (p := p) (B := w.heap.size) hk hT.nt.apart hnd (fun b hb => (hfl b hb).2) (by rw [hq]; exact hblk)
    have hfar : ∀ b, b ∈ feet g qs → b ≠ g → b ∉ obk q.kA → b ∉ obk q.dA → w'.heap[b]? = w.heap[b]? := fun b h1 h2 h3 h4 => hA'.kept.block b (hfl b h1).2 (by simp [h2, h3, h4])
    have hkept : Kept (feet g qs) w w' := hA'.kept.mono fun b hb => by
      simp only [List.cons_append, List.mem_cons, List.mem_append] at hb
      rcases hb with rfl | e | e
      · exact List.mem_cons_self
      · exact b2 _ (by rw [hbe]; simp [e])
      · exact b2 _ (by rw [hbe]; simp [e])
    have hgn : ∀ b ∈ q.blocks, b ≠ g := fun b hb e => b3 (e ▸ hb)
    refine ⟨rfl, qs.set k p, ⟨⟨?_, fun s hs => ?_, f1, by simpa using hT.nt.z⟩, ?_, ?_, hT.hb⟩, ?_, by simp, hkept, f2⟩
    · have e1 : p.vals = (q.vals.set 2 (.slice kA' keys'.length kC')).set 3 (.slice dA' kids'.length dC') := by rw [hp]; rfl
      have e2 : flatN (qs.set k p) = ((flatN qs).set (k * 5 + 2) (.slice kA' keys'.length kC')).set (k * 5 + 3) (.slice dA' kids'.length dC') := by
        obtain ⟨p1, hp1⟩ : ∃ p1 : PN, p1 = { q with keys := keys', kA := kA', kC := kC' } := ⟨_, rfl⟩
        have s1 := flatN_setF qs k 2 (.slice kA' keys'.length kC') p1 hk (by decide) (by rw [hq, hp1]; rfl)
        have s2 := flatN_setF (qs.set k p1) k 3 (.slice dA' kids'.length dC') p (by simpa using hk) (by decide) (by rw [List.getElem_set_self, hp, hp1]; rfl)
        rw [s1, s2, List.set_set]
      rw [e2, List.length_set]
      refine own_glue hA'.row (by simp [hcl]) ?_ hnC hCm hbg (by simp [flatN_length])
      rw [List.take_set, List.take_set, hct]
    · rw [(set_split qs k p hk).2] at hs
      have hs' : s ∈ qs.take k ++ qs.drop (k + 1) ∨ s = p := by
        simp only [List.mem_append, List.mem_cons] at hs ⊢
        rcases hs with e | e | e
        · exact .inl (.inl e)
        · exact .inr e
        · exact .inl (.inr e)
      rcases hs' with hs' | rfl
      · have hsm : s ∈ qs := by
          rcases List.mem_append.1 hs' with e | e
          · exact List.mem_of_mem_take e
          · exact List.mem_of_mem_drop e
        refine (hT.nt.each s hsm).of_blocks fun b hbs => ?_
        have hbf : b ∈ feet g qs := List.mem_cons_of_mem _ (List.mem_flatMap.2 ⟨s, hsm, hbs⟩)
        have hbg' : b ≠ g := fun e => by
          have ha := hT.nt.apart
          rw [feet, List.nodup_cons] at ha
          exact ha.1 (List.mem_flatMap.2 ⟨s, hsm, e ▸ hbs⟩)
        have hbq := b4 s hs' b hbs
        rw [hbe] at hbq
        simp only [List.mem_append, not_or] at hbq
        exact hfar b hbf hbg' hbq.2.1 hbq.2.2.1
      · have hrest : ∀ b, b ∈ obk q.eA ∨ b ∈ obk q.bA → w'.heap[b]? = w.heap[b]? := fun b hb => by
          have hbq : b ∈ q.blocks := by rw [hbe]; rcases hb with e | e <;> simp [e]
          rw [hbe] at b1
          simp only [List.nodup_append, List.mem_append] at b1
          refine hfar b (b2 b hbq) (hgn b hbq) (fun e => ?_) (fun e => ?_)
          · rcases hb with q1 | q1
            · exact b1.2.2 b q1 b (.inl e) rfl
            · exact b1.2.1.2.2 b e b (.inr q1) rfl
          · rcases hb with q1 | q1
            · exact b1.2.2 b q1 b (.inr (.inl e)) rfl
            · exact b1.2.1.2.1.2.2 b e b q1 rfl
        rw [hp]
        exact ⟨own_of_block ho.e fun b hb => hrest b (.inl (obk_of hb)), hA'.ok, hA'.od, own_of_block ho.b fun b hb => hrest b (.inr (obk_of hb)), ho.ez, by show keys'.length * 8 ≤ _; omega, by show kids'.length * 8 ≤ _; omega, ho.bz⟩
    · rw [List.length_set]
      exact hkept.row hT.box (fun e => hT.ne e)
    · intro e
      rcases f2 _ e with e | e
      · exact hT.ne e
      · have := hT.box.lt; omega
    · rw [List.map_set]
      unfold adoptAt
      rw [hx]
      show (qs.map PN.nd).set k p.nd = (qs.map PN.nd).set ((k : Int).toNat) (adoptN q.nd i more)
      congr 1
      rw [hp]
      unfold adoptN PN.nd
      simp only
      rw [hK, hD]

end Go.Proofs.Ytlojfgdpmaigmac

/- The walk of splitAll. -/
namespace Go.Proofs.Ytlojfgdpmaigmac
open Go.RowKit Plain

theorem own_base' {w : World} {base base' : Nat} {e : TypeId} {size n : Nat} {v : Value} {vs : List Value} (h : w.ownsRow base e size v n vs) (hb : base' ≤ base) : w.ownsRow base' e size v n vs := by
  refine ⟨h.1, ?_⟩
  rcases h.2 with q | ⟨g, cap, cur, h1, h2, rest⟩
  · exact .inl q
  · exact .inr ⟨g, cap, cur, h1, Nat.le_trans hb h2, rest⟩

theorem splitN_len (ns : List Nd) (p : Int) : ns.length ≤ (splitN ns p).1.length := by
  unfold splitN
  split
  · exact Nat.le_refl _
  · simp

theorem kidsN_len {rec : List Nd → Int → List Nd × List (Int × Int)} (hr : ∀ ns p, ns.length ≤ (rec ns p).1.length) (p : Int) : ∀ (i : Nat) (ns : List Nd), ns.length ≤ (kidsN rec p i ns).length
  | 0, _ => Nat.le_refl _
  | i + 1, ns => by
    rw [kidsN]
    refine Nat.le_trans ?_ (kidsN_len hr p i _)
    simpa [adoptAt] using hr ns _

theorem splitAllN_len : ∀ (h : Nat) (ns : List Nd) (p : Int), ns.length ≤ (splitAllN h ns p).1.length
  | 0, ns, p => splitN_len ns p
  | h + 1, ns, p => Nat.le_trans (kidsN_len (splitAllN_len h) p _ ns) (splitN_len _ p)

/-- Where the loop of splitAll begins a round: kids from i on have their siblings. -/
structure SaAt (mL : Nat) (base : Nat) (w wr : World) (tb g : Nat) (qs : List PN) (root : Int) (h k : Nat) (lo hi : Int) (P : List Int) (i : Nat) (g' C' : Nat) (qs' : List PN) : Prop where
  tree : TB base wr tb g' C' qs' root
  kept : Kept (tb :: feet g qs) w wr
  old : ∀ b ∈ feet g' qs', b ∈ feet g qs ∨ w.heap.size ≤ b
  ok : KidsOk mL (qs.map PN.nd) (qs'.map PN.nd) h (k : Int) lo hi P (nth (qs.map PN.nd) (k : Int)) i
  fin : kidsN (splitAllN h) (k : Int) i (qs'.map PN.nd) = kidsN (splitAllN h) (k : Int) (nth (qs.map PN.nd) (k : Int)).kids.length (qs.map PN.nd)

theorem SubK_len {g : Rel} (hg : ∀ d lo hi Q, g d lo hi Q → Q ≠ []) : ∀ {L : List (Int × Int)} {lo : Int} {Q : List Int}, SubK g lo L Q → L.length ≤ Q.length
  | [], _, _, _ => Nat.zero_le _
  | (d, u) :: r, lo, Q, h => by
    obtain ⟨Q1, Q2, rfl, h1, h2⟩ := h
    have a := hg _ _ _ _ h1
    have b := SubK_len hg h2
    have c : 1 ≤ Q1.length := by cases Q1 with | nil => exact absurd rfl a | cons => simp
    simp
    omega

theorem Sub_ne {mL mK : Nat} {ns : List Nd} : ∀ (h : Nat) (d lo hi : Int) (Q : List Int), Sub mL mK ns h d lo hi Q → Q ≠ []
  | 0, _, _, _, _, h => by rw [h.2.1]; simp
  | _ + 1, _, _, _, _, h => by obtain ⟨_, Q, rfl, _⟩ := h; simp

/-- The node, where the loop stands. -/
theorem SaAt.node {mL base : Nat} {w wr : World} {tb g : Nat} {qs : List PN} {root : Int} {h k : Nat} {lo hi : Int} {P : List Int} {i g' C' : Nat} {qs' : List PN} (H : SaAt mL base w wr tb g qs root h k lo hi P i g' C' qs') (hk : k < qs.length) (hP : P.Nodup) (hPr : ∀ n ∈ P, 0 ≤ n ∧ n < ((qs.map PN.nd).length : Int)) :
    ∃ h' : k < qs'.length, (qs'[k]).keys.length + 1 = (qs'[k]).kids.length ∧ (nth (qs.map PN.nd) (k : Int)).kids.length ≤ (qs'[k]).kids.length ∧ (qs'[k]).kids.length ≤ qs'.length := by
  have hle := H.ok.le
  simp only [List.length_map] at hle
  have hk' : k < qs'.length := by omega
  obtain ⟨kids, keys, T, Q1, Q2, hn, hkl, hle2, htk, hU, s1, s2, hpm⟩ := H.ok.at'
  rw [nth_map hk'] at hn
  have e1 : (qs'[k]).kids = kids := congrArg Nd.kids hn
  have e2 : (qs'[k]).keys = keys := congrArg Nd.keys hn
  refine ⟨hk', by rw [e1, e2]; exact hkl, by rw [e1]; exact hle2, ?_⟩
  rw [e1]
  have l1 := SubK_len (Sub_ne h) s1
  have l2 := SubK_len (Sub_ne h) s2
  have l3 : (ups kids keys hi).length = kids.length := by simp [ups]; omega
  rw [hU] at l3
  have l4 := hpm.length_eq
  have l5 : P.length ≤ qs.length := by
    have := nodup_le P (placesF 0 qs.length) hP fun n hn => by
      have := hPr n hn
      simp at this
      exact placesF_mem.2 ⟨by omega, by omega⟩
    rwa [placesF_length] at this
  simp only [List.length_append, List.length_cons, placesF_length, List.length_map] at l3 l4
  omega

set_option maxRecDepth 20000 in
set_option maxHeartbeats 4000000 in
theorem splitAll_step {mL h : Nat} (base tb g C : Nat) (qs : List PN) (root : Int) (k : Nat) (lo hi : Int) (P : List Int) (N : Nat) (w : World) (hT : TB base w tb g C qs root) (hk : k < qs.length) (hB : base ≤ w.heap.size) (hN : N ≤ 999999) (hkn : (nth (qs.map PN.nd) (k : Int)).kids.length ≤ N) (HS0 : Hid (SaAt mL base w w tb g qs root h k lo hi P (nth (qs.map PN.nd) (k : Int)).kids.length g C qs))
    (HNO : Hid (∀ wr i g' C' qs', SaAt mL base w wr tb g qs root h k lo hi P i g' C' qs' → i ≤ (nth (qs.map PN.nd) (k : Int)).kids.length ∧ ∃ h' : k < qs'.length, (qs'[k]).keys.length + 1 = (qs'[k]).kids.length ∧ (nth (qs.map PN.nd) (k : Int)).kids.length ≤ (qs'[k]).kids.length ∧ (qs'[k]).kids.length ≤ N))
    (HRC : Hid (∀ wr i g' C' qs' (_ : SaAt mL base w wr tb g qs root h k lo hi P (i + 1) g' C' qs') (h' : k < qs'.length), Calls Try.prog 47 #[.pointer (some ⟨tb, 0, none⟩), .int .i64 ((qs'[k]).kids.getD i 0)] wr fun e w' => ∃ vm g2 C2 qs2, e = .returned vm ∧ GrowTo base wr tb g' qs' root (splitAllN h (qs'.map PN.nd) ((qs'[k]).kids.getD i 0)).1 (splitAllN h (qs'.map PN.nd) ((qs'[k]).kids.getD i 0)).2 w' vm g2 C2 qs2 ∧ (splitAllN h (qs'.map PN.nd) ((qs'[k]).kids.getD i 0)).2.length ≤ N ∧ ∃ h2 : k < qs2.length, (qs2[k]).nd = (qs'[k]).nd))
    (HNX : Hid (∀ (wr w3 : World) (i g' C' : Nat) (qs' : List PN) (g2 C2 : Nat) (qs2 qs3 : List PN) (h' : k < qs'.length), SaAt mL base w wr tb g qs root h k lo hi P (i + 1) g' C' qs' → qs2.map PN.nd = (splitAllN h (qs'.map PN.nd) ((qs'[k]).kids.getD i 0)).1 → qs3.map PN.nd = adoptAt (qs2.map PN.nd) (k : Int) i (splitAllN h (qs'.map PN.nd) ((qs'[k]).kids.getD i 0)).2 → TB base w3 tb g2 C2 qs3 root → Kept (tb :: feet g qs) w w3 → (∀ b ∈ feet g2 qs3, b ∈ feet g qs ∨ w.heap.size ≤ b) → SaAt mL base w w3 tb g qs root h k lo hi P i g2 C2 qs3))
    (HSP : Hid (∀ wr g' C' qs', SaAt mL base w wr tb g qs root h k lo hi P 0 g' C' qs' → Calls Try.prog 50 #[.pointer (some ⟨tb, 0, none⟩), .int .i64 (k : Int)] wr fun e w' => ∃ vm g2 C2 qs2, e = .returned vm ∧ GrowTo base w tb g qs root (splitAllN (h + 1) (qs.map PN.nd) k).1 (splitAllN (h + 1) (qs.map PN.nd) k).2 w' vm g2 C2 qs2)) :
    Calls Try.prog 47 #[.pointer (some ⟨tb, 0, none⟩), .int .i64 (k : Int)] w
      fun e w' => ∃ vm g' C' qs', e = .returned vm ∧ GrowTo base w tb g qs root (splitAllN (h + 1) (qs.map PN.nd) k).1 (splitAllN (h + 1) (qs.map PN.nd) k).2 w' vm g' C' qs' := by
  have hat := hT.nt.node hk
  have n3 := hat.c3
  have c0 := hT.box.cell 0
  simp only [List.getElem?_cons_zero] at c0
  have i0 : (0 : Int) ≤ (k : Int) := by omega
  have i1 : (k : Int) < (qs.length : Int) := by omega
  have hkk : (qs[k]).kids.length = (nth (qs.map PN.nd) (k : Int)).kids.length := by rw [nth_map hk]; rfl
  rw [hkk] at n3
  generalize (nth (qs.map PN.nd) (k : Int)).kids.length = m at HS0 HNO n3 hkn
  have hw : IntKind.i64.wrap ((m : Int) - 1) = (m : Int) - 1 := by rw [IntKind.wrap_i64]; omega
  clear hat hkk
  go_enter Try.func47, Try.ntmps47
  go_wp2_with fail
  go_loopw [5] (fun vi wr => ∃ (i g' C' : Nat) (qs' : List PN), vi = .int .i64 ((i : Int) - 1) ∧ Hid (SaAt mL base w wr tb g qs root h k lo hi P i g' C' qs')) (fun vi _ => (intOf vi + 1).toNat)
  case atStart => exact ⟨m, g, C, qs, rfl, HS0⟩
  case round =>
    obtain ⟨i, g', C', qs', rfl, HS⟩ := hrel
    obtain ⟨him, hk', hkl, hkm, hkN⟩ := HNO.out _ _ _ _ _ HS.out
    cases i with
    | zero =>
      have hneg : ((0 : Nat) : Int) - 1 = -1 := by omega
      rw [hneg]
      have hsp := hideC (HSP.out _ _ _ _ HS.out)
      go_wp2_with (go_at_call 50; refine hsp.out.mono ?_; rintro e w' ⟨vm, g2, C2, qs2, rfl, hs⟩)
      go_ret
      exact ⟨vm, g2, C2, qs2, rfl, hs⟩
    | succ i =>
      have hcast : ((i + 1 : Nat) : Int) - 1 = (i : Int) := by omega
      rw [hcast]
      have hil : i < (qs'[k]).kids.length := by omega
      have a0 := HS.out.tree.box.cell 0
      simp only [List.getElem?_cons_zero] at a0
      have hat := HS.out.tree.nt.node hk'
      have a3 := hat.c3
      obtain ⟨db, doff, hA, hdl, hdc⟩ := (own_ok (HS.out.tree.nt.each _ (List.getElem_mem hk')).d).1.int hil
      rw [hA] at a3
      have ak : wr.cell? ⟨db, doff + i, none⟩ = some (.int .i64 ((qs'[k]).kids.getD i 0)) := by
        rw [hdc, List.getD_eq_getElem?_getD, List.getElem?_eq_getElem hil]
        rfl
      have j0 : (0 : Int) ≤ (i : Int) := by omega
      have j1 : (i : Int) < ((qs'[k]).kids.length : Int) := by omega
      have j2 : (k : Int) < (qs'.length : Int) := by omega
      have hrc := hideC (HRC.out wr i g' C' qs' HS.out hk')
      have hnx := hideC fun w3 g2 C2 qs2 qs3 => HNX.out wr w3 i g' C' qs' g2 C2 qs2 qs3 hk' HS.out
      have hwi : IntKind.i64.wrap ((i : Int) - 1) = (i : Int) - 1 := by rw [IntKind.wrap_i64]; omega
      generalize (splitAllN h (qs'.map PN.nd) ((qs'[k]).kids.getD i 0)).1 = R1 at hrc hnx
      generalize (splitAllN h (qs'.map PN.nd) ((qs'[k]).kids.getD i 0)).2 = R2 at hrc hnx
      generalize (qs'[k]).kids.getD i 0 = kp at ak hrc
      have HND := hideC (show (qs'[k]).nd.kids.length ≤ N ∧ (qs'[k]).nd.keys.length + 1 = (qs'[k]).nd.kids.length ∧ i < (qs'[k]).nd.kids.length from ⟨hkN, hkl, hil⟩)
      generalize (qs'[k]).nd = nd at HND hrc
      generalize (qs'[k]).kids.length = kn at a3 j1
      generalize (qs'[k]).dC = dC at a3
      clear hat hA hdc hkl hkm hkN hil HRC HNX HSP HNO HS0 n3 c0 hw him
      go_wp2_with (first
        | (go_at_call 47; refine hrc.out.mono ?_; rintro e w2 ⟨vm, g2, C2, qs2, rfl, hg2, hmN, hk2, hnd2⟩; obtain ⟨mA, mC, hvm, -, -, -, hmr⟩ := own_row hg2.more; subst hvm; have d0 := hg2.tree.box.cell 0; simp only [List.getElem?_cons_zero] at d0; have HG2 := hideC hg2; have e2 : (k : Int) < (qs2.length : Int) := (by omega); have HND2 := hideC hnd2; have HMR := hideC hmr; clear hg2 hnd2 hmr)
        | (go_at_call 48; refine (adoptT base tb g2 C2 qs2 root k i mA mC R2 w2 HG2.out.tree hk2 ?_ ?_ ?_ HMR.out ?_ ?_).mono ?_; (have := HND.out.2.2; rw [← HND2.out] at this; exact this); (have := HND.out.2.1; rw [← HND2.out] at this; exact this); (exact Nat.le_trans hB (Nat.le_trans HS.out.kept.size HG2.out.kept.size)); (exact fun a ha e => HG2.out.apart a.block (by rw [ha]; rfl) (List.mem_cons_of_mem _ e)); (have := HND.out.1; rw [← HND2.out] at this; have : (qs2[k]).kids.length ≤ N := this; omega); rintro e w3 ⟨rfl, qs3, hT3, hn3, hl3, hkp3, hf3⟩; have HR := hideC (And.intro hT3 (And.intro hn3 (And.intro hkp3 hf3))); clear hT3 hn3 hl3 hkp3 hf3))
      obtain ⟨hT3, hn3, hkp3, hf3⟩ := HR.out
      have o2 : ∀ b ∈ feet g2 qs2, b ∈ feet g qs ∨ w.heap.size ≤ b := fun b hb => by
        rcases HG2.out.old b hb with e | e
        · exact HS.out.old b e
        · exact .inr (Nat.le_trans HS.out.kept.size e)
      have k2 : Kept (tb :: feet g qs) w w2 := HS.out.kept.step HG2.out.kept fun b hb => by
        rcases List.mem_cons.1 hb with rfl | hb
        · exact .inl List.mem_cons_self
        · rcases HS.out.old b hb with e | e
          · exact .inl (List.mem_cons_of_mem _ e)
          · exact .inr e
      have k3 : Kept (tb :: feet g qs) w w3 := k2.step hkp3 fun b hb => by
        rcases o2 b hb with e | e
        · exact .inl (List.mem_cons_of_mem _ e)
        · exact .inr e
      have o3 : ∀ b ∈ feet g2 qs3, b ∈ feet g qs ∨ w.heap.size ≤ b := fun b hb => by
        rcases hf3 b hb with e | e
        · exact o2 b e
        · exact .inr (Nat.le_trans k2.size e)
      exact ⟨⟨i, g2, C2, qs3, rfl, hnx.out w3 g2 C2 qs2 qs3 HG2.out.nds hn3 hT3 k3 o3⟩, by simp [intOf]⟩

theorem parts_few (ns : List Nd) (p : Int) (hm : partsN (nth ns p) ≤ 1 ∨ mostN (nth ns p) < sizeN (nth ns p)) : ns.length + partsN (nth ns p) ≤ (splitN ns p).1.length + 1 := by
  have hl := splitN_len ns p
  rcases hm with h | h
  · omega
  · unfold splitN
    rw [if_neg (by omega)]
    simp only [List.length_append, List.length_set, List.length_tail, partsL_length]
    have : (cutsN (nth ns p)).length = partsN (nth ns p) := cutsF_length _ _ _ _
    omega

theorem parts_one (x : Nd) : partsN x ≤ 1 ∨ mostN x < sizeN x := by
  by_cases h : mostN x < sizeN x
  · exact .inr h
  · left
    unfold partsN
    have := mostN_pos x
    have h2 : sizeN x + mostN x - 1 < 2 * mostN x := by omega
    have := Nat.div_lt_of_lt_mul (by rw [Nat.mul_comm]; exact h2 : sizeN x + mostN x - 1 < mostN x * 2)
    omega

theorem KidsOk.kid {mL : Nat} {ns0 ns : List Nd} {h : Nat} {p lo hi : Int} {P : List Int} {x : Nd} {i : Nat} (hx : x.keys.length + 1 = x.kids.length) (hP : P.Nodup) (hPr : ∀ n ∈ P, 0 ≤ n ∧ n < ns0.length) (hK : KidsOk mL ns0 ns h p lo hi P x (i + 1)) :
    ∃ lo' u Qd, Sub mL 4 ns h ((nth ns p).kids.getD i 0) lo' u Qd ∧ Qd.Nodup ∧ p ∉ Qd := by
  obtain ⟨kids, keys, T, Q1, Q2, hn, hkl, hle, htk, hU, s1, s2, hpm⟩ := hK.at'
  have hix : i < x.kids.length := hK.len
  have hik : i < kids.length := by omega
  have hd : (nth ns p).kids.getD i 0 = x.kids[i] := by
    have e : kids[i] = x.kids[i] := by
      have h1 : (kids.take (i + 1))[i]? = (x.kids.take (i + 1))[i]? := by rw [htk]
      rw [List.getElem?_take, List.getElem?_take, if_pos (by omega), if_pos (by omega), List.getElem?_eq_getElem hik, List.getElem?_eq_getElem hix] at h1
      simpa using h1
    rw [hn]
    simp [hik, e]
  rw [take_succ_ups hx hix, SubK_append] at s1
  obtain ⟨Qa, Qd, rfl, s1a, Qd', Qe, rfl, s1d, hQe⟩ := s1
  cases hQe
  rw [List.append_nil] at hpm
  have hnd : (p :: (Qa ++ Qd' ++ Q2)).Nodup := hpm.nodup_iff.2 (List.nodup_append.2 ⟨hP, placesF_nodup _ _, fun a ha b hb e => by
    have h1 := (hPr a ha).2
    have h2 := (placesF_mem.1 hb).1
    omega⟩)
  rw [List.nodup_cons, List.nodup_append, List.nodup_append] at hnd
  obtain ⟨hpn, ⟨na, nd', nad⟩, n2, nad2⟩ := hnd
  rw [hd]
  exact ⟨_, _, Qd', s1d, nd', fun e => hpn (by simp [e])⟩

theorem KidsOk.top {mL : Nat} {ns0 ns : List Nd} {h : Nat} {p lo hi : Int} {P Q : List Int} {x : Nd} (hin : InnOk 4 (Sub mL 4 ns0 h) x lo hi Q) (hp : 0 ≤ p) (hp1 : p < ns0.length) (hl : lo < hi) (hK : KidsOk mL ns0 ns h p lo hi P x 0) : ∃ m Q2, Top 6 m ns (h + 1) p lo hi (p :: Q2) := by
  obtain ⟨kids, keys, T, Q1, Q2, hn, hkl, hle, -, hU, s1, s2, hpm⟩ := hK.at'
  have hle1 := hK.le
  have htwo := hin.two
  cases s1
  rw [List.take_zero] at hU s2
  rw [List.nil_append] at hU
  refine ⟨kids.length, Q2, ⟨hp, by omega, hl⟩, Q2, rfl, ?_⟩
  rw [hn]
  exact ⟨hin.leaf, hin.ents, by show 2 ≤ kids.length; omega, Nat.le_refl _, hkl, hin.few, hin.buf, by show SubK _ lo (ups kids keys hi) Q2; rw [hU]; exact s2⟩

/-- All nodes that hold too much are split: in memory as in plain terms. -/
theorem splitAll_any {mL : Nat} (hmL : mL ≤ 999999) (base tb : Nat) (root : Int) : ∀ (h g C : Nat) (qs : List PN) (k : Nat) (lo hi : Int) (P : List Int) (w : World), TB base w tb g C qs root → k < qs.length → Sub mL 4 (qs.map PN.nd) h (k : Int) lo hi P → P.Nodup → base ≤ w.heap.size → (splitAllN h (qs.map PN.nd) (k : Int)).1.length ≤ 900000 →
    Calls Try.prog 47 #[.pointer (some ⟨tb, 0, none⟩), .int .i64 (k : Int)] w
      fun e w' => ∃ vm g' C' qs', e = .returned vm ∧ GrowTo base w tb g qs root (splitAllN h (qs.map PN.nd) (k : Int)).1 (splitAllN h (qs.map PN.nd) (k : Int)).2 w' vm g' C' qs'
  | 0, g, C, qs, k, lo, hi, P, w, hT, hk, hs, hP, hB, hN => by
    have hx := nth_map hk
    have hkids : (qs[k]).kids = [] := by
      have := hs.2.2.kids
      rw [hx] at this
      exact this
    have hsz : sizeN (nth (qs.map PN.nd) (k : Int)) ≤ 1000000 := by
      have h1 := hs.2.2
      unfold sizeN
      rw [if_pos h1.leaf]
      have := h1.most
      omega
    have hpre := Top_pre (mL := mL) (mK := 4) (h := 0) (show Top mL 4 (qs.map PN.nd) 0 (k : Int) lo hi P from hs) hsz
    have hf := parts_few (qs.map PN.nd) (k : Int) (parts_one _)
    change (splitN (qs.map PN.nd) (k : Int)).1.length ≤ 900000 at hN
    rw [hx] at hpre hf
    simp only [List.length_map] at hf
    refine (splitAll_leaf base tb g C qs root k w hT hk hpre hB (by omega) hkids).mono ?_
    rintro e w' ⟨vm, g', C', qs', rfl, hs'⟩
    exact ⟨vm, g', C', qs', rfl, hs'.grow⟩
  | h + 1, g, C, qs, k, lo, hi, P, w, hT, hk, hs, hP, hB, hN => by
    have hx := nth_map hk
    have hPr := Sub_range _ _ _ _ _ hs
    have hs0 := hs
    obtain ⟨hr, Q, hPQ, hin⟩ := hs
    have hul : (ups (nth (qs.map PN.nd) (k : Int)).kids (nth (qs.map PN.nd) (k : Int)).keys hi).take (nth (qs.map PN.nd) (k : Int)).kids.length = ups (nth (qs.map PN.nd) (k : Int)).kids (nth (qs.map PN.nd) (k : Int)).keys hi := List.take_of_length_le (by simp [ups]; omega)
    have hK : KidsOk mL (qs.map PN.nd) (qs.map PN.nd) h (k : Int) lo hi P (nth (qs.map PN.nd) (k : Int)) (nth (qs.map PN.nd) (k : Int)).kids.length := by
      refine ⟨Nat.le_refl _, ⟨(nth (qs.map PN.nd) (k : Int)).kids, (nth (qs.map PN.nd) (k : Int)).keys, [], Q, [], rfl, hin.keys, Nat.le_refl _, rfl, ?_, ?_, rfl, ?_⟩, Nat.le_refl _, fun _ _ _ _ => rfl, List.Perm.refl _⟩
      · rw [hul, List.append_nil]
      · rw [hul]; exact hin.kids
      · rw [hPQ]; simp [placesF]
    have hkP : (k : Int) ∈ P := by rw [hPQ]; simp
    have hfin : ∀ {wr : World} {i g' C' : Nat} {qs' : List PN}, SaAt mL base w wr tb g qs root h k lo hi P i g' C' qs' → (kidsN (splitAllN h) (k : Int) i (qs'.map PN.nd)).length ≤ 900000 := fun {wr i g' C' qs'} H => by
      rw [H.fin]
      exact Nat.le_trans (splitN_len _ (k : Int)) hN
    have hqs : ∀ {wr : World} {i g' C' : Nat} {qs' : List PN}, SaAt mL base w wr tb g qs root h k lo hi P i g' C' qs' → qs'.length ≤ 900000 := fun {wr i g' C' qs'} H => by
      have := kidsN_len (splitAllN_len h) (k : Int) i (qs'.map PN.nd)
      have := hfin H
      simp only [List.length_map] at *
      omega
    have hSN : SaAt mL base w w tb g qs root h k lo hi P (nth (qs.map PN.nd) (k : Int)).kids.length g C qs := ⟨hT, Kept.refl _ _, fun b hb => .inl hb, hK, rfl⟩
    have hk4 : (nth (qs.map PN.nd) (k : Int)).kids.length ≤ 4 := hin.most
    -- a kid, and its siblings
    have hkidok : ∀ {wr : World} {i g' C' : Nat} {qs' : List PN} (H : SaAt mL base w wr tb g qs root h k lo hi P (i + 1) g' C' qs') (h' : k < qs'.length), ∃ lo' u Qd, Sub mL 4 (qs'.map PN.nd) h ((qs'[k]).kids.getD i 0) lo' u Qd ∧ Qd.Nodup ∧ (k : Int) ∉ Qd := fun {wr i g' C' qs'} H h' => by
      have := H.ok.kid hin.keys hP hPr
      rw [nth_map h'] at this
      exact this
    refine splitAll_step (mL := mL) (h := h) base tb g C qs root k lo hi P 999999 w hT hk hB (by omega) (by omega) hSN ?_ ?_ ?_ ?_
    · intro wr i g' C' qs' H
      obtain ⟨h', a, b, c⟩ := H.node hk hP hPr
      exact ⟨H.ok.len, h', a, b, by have := hqs H; omega⟩
    · intro wr i g' C' qs' H h'
      obtain ⟨lo', u, Qd, hsd, hnd, hkd⟩ := hkidok H h'
      have hrd := Sub_range _ _ _ _ _ hsd
      have hok := splitAll_ok h _ _ _ _ _ hsd hnd
      have hd : 0 ≤ (qs'[k]).kids.getD i 0 ∧ (qs'[k]).kids.getD i 0 < ((qs'.map PN.nd).length : Int) := by
        cases h with
        | zero => exact ⟨hsd.1.1, hsd.1.2.1⟩
        | succ h => exact ⟨hsd.1.1, hsd.1.2.1⟩
      obtain ⟨d, hdd⟩ : ∃ d : Nat, (qs'[k]).kids.getD i 0 = d := ⟨((qs'[k]).kids.getD i 0).toNat, by omega⟩
      rw [hdd] at hsd hok hd ⊢
      have hlen : (splitAllN h (qs'.map PN.nd) (d : Int)).1.length ≤ 900000 := by
        have h1 := hfin H
        rw [kidsN, nth_map h'] at h1
        have h2 := kidsN_len (splitAllN_len h) (k : Int) i (adoptAt (splitAllN h (qs'.map PN.nd) ((qs'[k]).nd.kids.getD i 0)).1 (k : Int) i (splitAllN h (qs'.map PN.nd) ((qs'[k]).nd.kids.getD i 0)).2)
        have e : (qs'[k]).nd.kids.getD i 0 = d := hdd
        rw [e] at h1 h2
        simp only [adoptAt, List.length_set] at h1 h2
        omega
      refine (splitAll_any hmL base tb root h g' C' qs' d lo' u Qd wr H.tree (by simp at hd; omega) hsd hnd (Nat.le_trans hB H.kept.size) hlen).mono ?_
      rintro e w' ⟨vm, g2, C2, qs2, rfl, hG⟩
      have hle := hok.le
      have hfew := hok.few
      have hq2 : qs2.length = (splitAllN h (qs'.map PN.nd) (d : Int)).1.length := by rw [← hG.nds]; simp
      simp only [List.length_map] at hle hfew
      have hk2 : k < qs2.length := by omega
      refine ⟨vm, g2, C2, qs2, rfl, hG, by omega, hk2, ?_⟩
      have hsame := hok.same (k : Int) hkd (by omega) (by simp; omega)
      rw [← hG.nds, nth_map hk2, nth_map h'] at hsame
      exact hsame
    · intro wr w3 i g' C' qs' g2 C2 qs2 qs3 h' H hn2 hn3 hT3 hkp3 ho3
      refine ⟨hT3, hkp3, ho3, ?_, ?_⟩
      · rw [hn3, hn2]
        have e := nth_map h'
        have := kids_step (R := splitAllN h (qs'.map PN.nd) ((qs'[k]).kids.getD i 0)) hin.keys hr.1 hr.2.1 hkP hP hPr H.ok (fun l u Qd a b => by
          rw [e] at a ⊢
          exact splitAll_ok h _ _ _ _ _ a b)
        exact this
      · rw [hn3, hn2, ← H.fin, kidsN, nth_map h']
        rfl
    · intro wr g' C' qs' H
      obtain ⟨h', a, b, c⟩ := H.node hk hP hPr
      have hx' := nth_map h'
      have hke : qs'.map PN.nd = kidsN (splitAllN h) (k : Int) (nth (qs.map PN.nd) (k : Int)).kids.length (qs.map PN.nd) := H.fin
      have hlen := hfin H
      have hsz : sizeN (nth (qs'.map PN.nd) (k : Int)) ≤ 1000000 := by
        obtain ⟨kids, keys, T, Q1, Q2, hn, _⟩ := H.ok.at'
        unfold sizeN
        rw [hn, if_neg (by show ¬ (nth (qs.map PN.nd) (k : Int)).leaf = true; rw [hin.leaf]; decide)]
        rw [hx'] at hn
        have : (qs'[k]).kids = kids := congrArg Nd.kids hn
        show kids.length ≤ _
        rw [← this]
        have := hqs H
        omega
      have hpre : SplitPre (nth (qs'.map PN.nd) (k : Int)) := by
        obtain ⟨m, Q2, ht⟩ := H.ok.top hin hr.1 hr.2.1 hr.2.2
        exact Top_pre ht hsz
      have hf := parts_few (qs'.map PN.nd) (k : Int) (parts_one _)
      have hN' : (splitN (qs'.map PN.nd) (k : Int)).1.length ≤ 900000 := by rw [hke]; exact hN
      rw [hx'] at hpre hf
      simp only [List.length_map] at hf
      refine (split_any base tb g' C' qs' root k wr H.tree h' hpre (Nat.le_trans hB H.kept.size) (by omega)).mono ?_
      rintro e w' ⟨vm, g2, C2, qs2, rfl, hS⟩
      have hG := hS.grow
      rw [hke] at hG
      refine ⟨vm, g2, C2, qs2, rfl, ⟨hG.tree, hG.nds, own_base' hG.more H.kept.size, hG.apart, H.kept.step hG.kept fun b hb => ?_, fun b hb => ?_⟩⟩
      · rcases List.mem_cons.1 hb with rfl | hb
        · exact .inl List.mem_cons_self
        · rcases H.old b hb with e | e
          · exact .inl (List.mem_cons_of_mem _ e)
          · exact .inr e
      · rcases hG.old b hb with e | e
        · exact H.old b e
        · exact .inr (Nat.le_trans H.kept.size e)

end Go.Proofs.Ytlojfgdpmaigmac

/- Put: an entry goes down from the root, then the tree grows. -/
namespace Go.Proofs.Ytlojfgdpmaigmac
open Go.RowKit Plain Go.Shelf

/-- An entry has come into a tree; its leaves may hold too much. -/
structure SunkOk (ns ns1 : List Nd) (root : Int) (x : En) : Prop where
  sub : ∃ T h P, T ≤ 99999 ∧ h < 12 ∧ Sub T 4 ns1 h root 0 1099511627776 P ∧ P.Perm (placesF 0 ns1.length)
  eqv : Eqv (x :: ns.flatMap cont) (ns1.flatMap cont)
  few : (ns1.flatMap cont).length ≤ (ns.flatMap cont).length + 1
  len : ns1.length = ns.length

theorem cont_few {ns : List Nd} {root : Int} (h : treeC ns root = 0) : (ns.flatMap cont).length ≤ 14 * ns.length ∧ ns.length ≤ 2000 ∧ Pos (ns.flatMap cont) := by
  obtain ⟨h1, h2⟩ := tree_each h
  refine ⟨?_, h1, fun y hy => ?_⟩
  · have : ∀ l : List Nd, (∀ x ∈ l, NodeOk x) → (l.flatMap cont).length ≤ 14 * l.length := by
      intro l
      induction l with
      | nil => simp
      | cons x r ih =>
        intro hl
        have a := ih fun y hy => hl y (List.mem_cons_of_mem _ hy)
        obtain ⟨b1, b2, _⟩ := hl x List.mem_cons_self
        rw [List.flatMap_cons]
        simp only [List.length_append, List.length_cons, cont]
        omega
    refine this ns fun x hx => ?_
    obtain ⟨i, hi, rfl⟩ := List.getElem_of_mem hx
    exact h2 i hi
  · obtain ⟨x, hx, hy⟩ := List.mem_flatMap.1 hy
    obtain ⟨i, hi, rfl⟩ := List.getElem_of_mem hx
    obtain ⟨_, _, g1, g2⟩ := h2 i hi
    rcases List.mem_append.1 hy with hy | hy
    · exact (good_iff.1 (g2 y hy)).1.1
    · exact (good_iff.1 (g1 y hy)).1.1

theorem height_lt {T h : Nat} {ns : List Nd} {root lo hi : Int} {P : List Int} (hs : Sub T 4 ns h root lo hi P) (hp : P.Perm (placesF 0 ns.length)) (hz : ns.length ≤ 2000) : h < 12 := by
  have h1 := Sub_size h _ _ _ _ hs
  rw [placesF_len hp] at h1
  apply Classical.byContradiction
  intro e
  have : 2 ^ 13 ≤ 2 ^ (h + 1) := Nat.pow_le_pow_right (by decide) (by omega)
  omega

theorem sinkRoot_any (base g C : Nat) (qs : List PN) (r root : Int) (x : En) (w : World) (hT : NT base w g C qs) (hB : base ≤ w.heap.size) (hc : treeC (qs.map PN.nd) root = 0) (hx : entB x 0 1099511627776 = true) (hcnt : cntK x.key ((qs.map PN.nd).flatMap cont) + x.c ≤ 1073741824) :
    Calls Try.prog 29 #[.agg #[.slice (some ⟨g, 0, none⟩) qs.length C, .int .i64 r], .int .i64 root, .agg #[.int .i64 x.key, .int .i64 x.c, .int .i64 x.s, .int .i64 x.lo, .int .i64 x.hi, .int .i64 x.t, .int .i64 x.l]] w
      fun e w' => e = .returned (.tuple #[]) ∧ ∃ qs', SinkMem base w g C qs w' qs' ∧ SunkOk (qs.map PN.nd) (qs'.map PN.nd) root x := by
  obtain ⟨f1, f2, f3⟩ := cont_few hc
  rcases treeC_sub hc with ⟨h, P, hs, hp⟩ | ⟨he, rfl⟩
  · have hh := height_lt hs hp f2
    have hall := cP_all hp
    have hs' := Sub_up (show 6 ≤ 99999 by omega) h _ _ _ _ hs
    have hnd : P.Nodup := hp.nodup_iff.2 (placesF_nodup _ _)
    have hlen := hall.length_eq
    refine (sink_all (T := 99999) (base := base) (g := g) (C := C) (n := qs.length) (r := r) (by omega) h hh qs w root 0 1099511627776 P x hT rfl hB hs' hnd (by decide) (by decide) hx (by rw [cntK_perm hall]; exact hcnt) (by omega)).mono ?_
    rintro e w' ⟨rfl, qs', hm, hok, _⟩
    have hl' := hok.len
    have hp' : P.Perm (placesF 0 (qs'.map PN.nd).length) := by rw [hl']; exact hp
    have hall' := cP_all hp'
    refine ⟨rfl, qs', hm, ⟨99999, h, P, Nat.le_refl _, hh, hok.sub, hp'⟩, ?_, ?_, hl'⟩
    · refine (Eqv.of_perm (hall.symm.cons x) ?_).trans (hok.eqv.trans (Eqv.of_perm hall' hok.eqv.posm))
      intro y hy
      rcases List.mem_cons.1 hy with rfl | hy
      · exact hok.eqv.posl _ List.mem_cons_self
      · exact f3 y hy
    · have := hok.few
      have := hall'.length_eq
      omega
  · obtain ⟨q, rfl⟩ : ∃ q, qs = [q] := List.length_eq_one_iff.1 (by have := congrArg List.length he; simpa using this)
    have hq : q.nd = leafOf [] := by simpa using he
    have hq1 : q.leaf = true := congrArg Nd.leaf hq
    have hq2 : q.ents = [] := congrArg Nd.ents hq
    obtain ⟨⟨hx1, hx2⟩, hxg⟩ := entB_iff.1 hx
    have hwe : withE q.ents x = [x] := by rw [hq2]; simp [withE, hasK, lowN]
    refine (sink_leaf base g C [q] r 0 q x w hT (by simp) rfl hq1 (by rw [hq2]; exact List.Pairwise.nil) (by rw [hq2]; decide) hB).mono ?_
    rintro e w' ⟨A', C', rfl, hm⟩
    rw [hwe] at hm
    have hnd : [{ q with ents := [x], eA := A', eC := C' }].map PN.nd = [leafOf [x]] := by
      have : ({ q with ents := [x], eA := A', eC := C' } : PN).nd = { q.nd with ents := [x] } := rfl
      simp [this, hq, leafOf]
    refine ⟨rfl, [{ q with ents := [x], eA := A', eC := C' }], hm, ?_⟩
    rw [hnd, he]
    refine ⟨⟨1, 0, [0], by decide, by decide, ⟨⟨by decide, by simp, by decide⟩, rfl, ⟨rfl, rfl, rfl, rfl, by simp [nth, leafOf], by simp [nth, leafOf], ?_⟩⟩, List.Perm.refl _⟩, ?_, by simp [cont, leafOf], rfl⟩
    · show entsB [x] 0 1099511627776 = true
      simp only [entsB, Bool.and_true]
      exact hx
    · have hpx : Pos [x] := fun y hy => by
        obtain rfl : y = x := by simpa using hy
        exact (good_iff.1 hxg).1.1
      have : (x :: ([leafOf []] : List Nd).flatMap cont) = [x] := by simp [cont, leafOf]
      rw [this]
      have : (([leafOf [x]] : List Nd).flatMap cont) = [x] := by simp [cont, leafOf]
      rw [this]
      exact Eqv.refl hpx

/-- What Put answers, from a tree that an entry has come into. -/
structure PutOk (ns ns2 : List Nd) (root2 : Int) (x : En) : Prop where
  fine : ns2.length ≤ 2000 → treeC ns2 root2 = 0
  eqv : Eqv (x :: ns.flatMap cont) (ns2.flatMap cont)
  few : 3 * (ns2.length + 1) ≤ 20 * ns.length + 1

theorem growRoot_any (base g C : Nat) (qs : List PN) (ns : List Nd) (root : Int) (x : En) (w : World) (hT : NT base w g C qs) (hB : base ≤ w.heap.size) (hf : (ns.flatMap cont).length ≤ 14 * ns.length) (hz : ns.length ≤ 2000) (hs : SunkOk ns (qs.map PN.nd) root x) :
    Calls Try.prog 30 #[.agg #[.slice (some ⟨g, 0, none⟩) qs.length C, .int .i64 root]] w
      fun e w' => ∃ ns2 root2, PutOk ns ns2 root2 x ∧ Kept (feet g qs) w w' ∧ ((2000 < ns2.length ∧ e = .returned (.tuple #[.agg #[.slice none 0 0, .int .i64 0], .int .i64 1])) ∨
        (ns2.length ≤ 2000 ∧ ∃ g' C' qs', e = .returned (.tuple #[.agg #[.slice (some ⟨g', 0, none⟩) qs'.length C', .int .i64 root2], .int .i64 0]) ∧ NT base w' g' C' qs' ∧ qs'.map PN.nd = ns2 ∧ ∀ b ∈ feet g' qs', b ∈ feet g qs ∨ w.heap.size ≤ b)) := by
  obtain ⟨T, h, P, hT9, hh, hsub, hp⟩ := hs.sub
  have hr := Sub_nodup_ne hsub
  obtain ⟨k, rfl⟩ : ∃ k : Nat, root = k := ⟨root.toNat, by omega⟩
  have hk : k < qs.length := by have := hr.2; simp at this; omega
  have hnd : P.Nodup := hp.nodup_iff.2 (placesF_nodup _ _)
  have hg := grown_ok hsub hp
  have hwc := wts_cont (qs.map PN.nd)
  have h1 := hg.few
  have h2 := hg.part
  have h3 := hs.few
  have h4 := hs.len
  have hcon : Hid (∀ (W : World) (tb : Nat), TB base W tb g C qs (k : Int) → base ≤ W.heap.size → Calls Try.prog 47 #[.pointer (some ⟨tb, 0, none⟩), .int .i64 (k : Int)] W fun e w' => ∃ vm g' C' qs', e = .returned vm ∧ GrowTo base W tb g qs (k : Int) (splitAllN h (qs.map PN.nd) (k : Int)).1 (splitAllN h (qs.map PN.nd) (k : Int)).2 w' vm g' C' qs') :=
    fun W tb hTB hBW => splitAll_any (mL := T) (by omega) base tb (k : Int) h g C qs k 0 1099511627776 P W hTB hk hsub hnd hBW (by omega)
  refine (grow_any base g C qs k _ _ h (growAll h (qs.map PN.nd) (k : Int)) w hT hB hcon (.inr hg.row) (by omega) rfl).mono ?_
  rintro e w' ⟨hk', hres⟩
  refine ⟨(growAll h (qs.map PN.nd) (k : Int)).1, (growAll h (qs.map PN.nd) (k : Int)).2, ⟨hg.fine, hs.eqv.trans (Eqv.of_perm hg.cont.symm hs.eqv.posm), by omega⟩, hk', hres⟩

end Go.Proofs.Ytlojfgdpmaigmac

/- The walk of Of of package tree. -/
namespace Go.Proofs.Ytlojfgdpmaigmac
open Go.RowKit Plain

set_option maxHeartbeats 1000000 in
theorem checkEntry_any (key c s lo hi t l : Int) (w : World) :
    Calls Try.prog 28 #[.int .i64 key, .agg #[.int .i64 c, .int .i64 s, .int .i64 lo, .int .i64 hi, .int .i64 t, .int .i64 l]] w fun e w' => e = .returned (.int .i64 (entC ⟨key, c, s, lo, hi, t, l⟩)) ∧ Below w.heap.size w w' := by
  by_cases h1 : inB key 0 1099511627775 = true
  · by_cases h3 : c = 0
    · have E : Hid (entC ⟨key, c, s, lo, hi, t, l⟩ = 2) := by show _ = _; simp [entC, h3]
      subst h3
      go_enter Try.func28, Try.ntmps28
      go_wp2_with (first | (go_at_call 17; refine (kibO_any _ _).mono ?_; rintro e w1 ⟨rfl, h5⟩; subst w1))
      go_ret
      exact ⟨ret_int E.out.symm, (Below.refl _ _).alloc (Nat.le_refl _) _⟩
    · have h3' : (c == 0) = false := by simpa using h3
      have E : Hid (entC ⟨key, c, s, lo, hi, t, l⟩ = checkC c s lo hi t l) := by show _ = _; simp [entC, h1, h3]
      clear h3
      go_enter Try.func28, Try.ntmps28
      go_wp2_with (first | (go_at_call 17; refine (kibO_any _ _).mono ?_; rintro e w1 ⟨rfl, h5⟩; subst w1) | (go_at_call 31; refine (check_any _ _ _ _ _ _ _).mono ?_; rintro e w1 ⟨rfl, hb1⟩))
      go_ret
      exact ⟨ret_int E.out.symm, nextB ((Below.refl _ _).alloc (Nat.le_refl _) _) (Nat.le_refl _) hb1⟩
  · have h1' : inB key 0 1099511627775 = false := by simpa using h1
    have E : Hid (entC ⟨key, c, s, lo, hi, t, l⟩ = 2) := by show _ = _; simp [entC, h1]
    clear h1
    go_enter Try.func28, Try.ntmps28
    go_wp2_with (first | (go_at_call 17; refine (kibO_any _ _).mono ?_; rintro e w1 ⟨rfl, h5⟩; subst w1))
    go_ret
    exact ⟨ret_int E.out.symm, (Below.refl _ _).alloc (Nat.le_refl _) _⟩

set_option maxHeartbeats 400000 in
theorem newT_any (w : World) : Calls Try.prog 13 #[] w fun e w' => ∃ g, e = .returned (.agg #[.slice (some ⟨g, 0, none⟩) 1 1, .int .i64 0]) ∧ w.heap.size ≤ g ∧ RowL w' g 62 [.bool true, .slice none 0 0, .slice none 0 0, .slice none 0 0, .slice none 0 0] ∧ Below w.heap.size w w' := by
  go_enter Try.func13, Try.ntmps13
  go_wp2
  refine bodyPost_ret (v := .agg #[.slice (some ⟨w.heap.size + 1, 0, none⟩) 1 1, .int .i64 0]) (by simp [results, Try.results13, go_sem]) rfl ⟨w.heap.size + 1, rfl, by omega, ?_, two_below _ _ _⟩
  have h := rowL_alloc (w.alloc (.cells #[.slice (some ⟨w.heap.size + 1, 0, none⟩) 1 1, .int .i64 0] 26)) [.bool true, .slice none 0 0, .slice none 0 0, .slice none 0 0, .slice none 0 0] 62
  rwa [show (w.alloc (.cells #[.slice (some ⟨w.heap.size + 1, 0, none⟩) 1 1, .int .i64 0] 26)).heap.size = w.heap.size + 1 by simp] at h

theorem grow_z (base g C : Nat) (qs : List PN) (k : Nat) (z : Int) (n : Nat) (hz : Hid (z = (k : Int))) (hn : Hid (qs.length = n)) (ns1 : List Nd) (more1 : List (Int × Int)) (h1 : Nat) (R : List Nd × Int) (w : World) (hN : NT base w g C qs) (hB : base ≤ w.heap.size)
    (hcon : Hid (∀ (W : World) (tb : Nat), TB base W tb g C qs (k : Int) → base ≤ W.heap.size → Calls Try.prog 47 #[.pointer (some ⟨tb, 0, none⟩), .int .i64 (k : Int)] W fun e w' => ∃ vm g' C' qs', e = .returned vm ∧ GrowTo base W tb g qs (k : Int) ns1 more1 w' vm g' C' qs'))
    (hrow : more1 = [] ∨ RowOk ns1 h1 (k : Int) more1) (hfew : ns1.length + more1.length ≤ 999999) (hR : growN more1.length ns1 (k : Int) more1 = R) :
    Calls Try.prog 30 #[.agg #[.slice (some ⟨g, 0, none⟩) n C, .int .i64 z]] w
      fun e w' => Kept (feet g qs) w w' ∧ ((2000 < R.1.length ∧ e = .returned (.tuple #[.agg #[.slice none 0 0, .int .i64 0], .int .i64 1])) ∨
        (R.1.length ≤ 2000 ∧ ∃ g' C' qs', e = .returned (.tuple #[.agg #[.slice (some ⟨g', 0, none⟩) qs'.length C', .int .i64 R.2], .int .i64 0]) ∧ NT base w' g' C' qs' ∧ qs'.map PN.nd = R.1 ∧ ∀ b ∈ feet g' qs', b ∈ feet g qs ∨ w.heap.size ≤ b)) := by
  have e1 : z = (k : Int) := hz.out
  have e2 : qs.length = n := hn.out
  subst e1 e2
  exact grow_any base g C qs k ns1 more1 h1 R w hN hB hcon hrow hfew hR

/-- The variable in which the answer will lie. -/
structure ResAt (w wr : World) : Prop where
  row : RowL wr w.heap.size 26 [.slice none 0 0, .int .i64 0]

theorem ResAt.cells {w wr : World} (h : ResAt w wr) : wr.cell? ⟨w.heap.size, 0, none⟩ = some (.slice none 0 0) ∧ wr.cell? ⟨w.heap.size, 1, none⟩ = some (.int .i64 0) ∧ (∀ j, wr.frozen? ⟨w.heap.size, j, none⟩ = false) ∧ w.heap.size < wr.heap.size :=
  ⟨h.row.cell 0, h.row.cell 1, h.row.frozen, h.row.lt⟩

theorem of_next {w wr w1 : World} {o : Obj} {n : Nat} (hb : Below w.heap.size w wr) (hr : ResAt w wr) (hb1 : Below ((wr.alloc o).drewN n).heap.size ((wr.alloc o).drewN n) w1) : Below w.heap.size w w1 ∧ ResAt w w1 := by
  have h1 : Below wr.heap.size wr w1 := nextB (below_drewN ((Below.refl _ _).alloc (Nat.le_refl _) _) _) (Nat.le_refl _) hb1
  exact ⟨nextB hb (Nat.le_refl _) h1, ⟨hr.row.below h1 hr.row.lt⟩⟩

theorem of_res {w wr : World} (hr : ResAt w wr) : (∀ (o : Obj) (n : Nat), ((wr.alloc o).drewN n).cell? ⟨w.heap.size, 0, none⟩ = some (.slice none 0 0)) ∧ ∀ (o : Obj) (n : Nat), ((wr.alloc o).drewN n).cell? ⟨w.heap.size, 1, none⟩ = some (.int .i64 0) := by
  have hb : ∀ (o : Obj) (n : Nat), Below wr.heap.size wr ((wr.alloc o).drewN n) := fun o n => below_drewN ((Below.refl _ _).alloc (Nat.le_refl _) _) _
  exact ⟨fun o n => ((hb o n).cell (p := ⟨w.heap.size, 0, none⟩) hr.row.lt).trans (hr.row.cell 0), fun o n => ((hb o n).cell (p := ⟨w.heap.size, 1, none⟩) hr.row.lt).trans (hr.row.cell 1)⟩

/-- What Of may answer. -/
def OfP (xs : List En) (w : World) (e : Ending) (w' : World) : Prop :=
  Below w.heap.size w w' ∧
  ((∃ c : Int, c ≠ 0 ∧ e = .returned (.tuple #[.agg #[.slice none 0 0, .int .i64 0], .int .i64 c]) ∧ (c = faultE xs ∨ (faultE xs = 0 ∧ c = 1 ∧ 2900 < xs.length))) ∨
   (faultE xs = 0 ∧ ∃ g C' qs root, e = .returned (.tuple #[.agg #[.slice (some ⟨g, 0, none⟩) qs.length C', .int .i64 root], .int .i64 0]) ∧ NodesAt w'.heap.size w' (some ⟨g, 0, none⟩) qs ∧ treeC (qs.map PN.nd) root = 0 ∧ ((qs.map PN.nd).flatMap cont).Perm xs))

def leafPN (A : Option Addr) (C : Nat) (xs : List En) : PN := ⟨true, A, C, xs, none, 0, [], none, 0, [], none, 0, []⟩

theorem of_mem {w wr w1 w2 : World} {g C2 : Nat} {A2 : Option Addr} {xs : List En} {o : Obj} (hb : Below w.heap.size w wr) (hr : ResAt w wr) (hg : wr.heap.size ≤ g) (hrow : RowL w1 g 62 [.bool true, .slice none 0 0, .slice none 0 0, .slice none 0 0, .slice none 0 0]) (hb1 : Below wr.heap.size wr w1)
    (hb2 : Below ((w1.alloc o).drew).heap.size ((w1.alloc o).drew) w2) (o2 : w2.ownsRow ((w1.alloc o).drew).heap.size 53 7 (.slice A2 xs.length C2) xs.length (flatE xs)) (hz : xs.length * 56 ≤ 140737488351232) :
    NT (w.heap.size + 1) (w2.setCell ⟨g, 1, none⟩ (.slice A2 xs.length C2)) g 1 [leafPN A2 C2 xs] ∧ Below w.heap.size w (w2.setCell ⟨g, 1, none⟩ (.slice A2 xs.length C2)) ∧ ResAt w (w2.setCell ⟨g, 1, none⟩ (.slice A2 xs.length C2)) ∧ w.heap.size < g := by
  have hgl := hrow.lt
  have hwg : w.heap.size < g := Nat.lt_of_lt_of_le hr.row.lt hg
  have h12 : Below w1.heap.size w1 w2 := nextB ((Below.refl _ _).alloc (Nat.le_refl _) _).drew (Nat.le_refl _) hb2
  have hw2 : Below w.heap.size w w2 := nextB (nextB hb (Nat.le_refl _) hb1) (Nat.le_refl _) h12
  have hrow2 := hrow.below h12 hgl
  have hrow3 : RowL (w2.setCell ⟨g, 1, none⟩ (.slice A2 xs.length C2)) g 62 (flatN [leafPN A2 C2 xs]) := hrow2.set 1 (.slice A2 xs.length C2)
  have hge : ∀ b, (Value.slice A2 xs.length C2).ownBlock = some b → w1.heap.size < b := fun b hb => by
    have := (o2.lt b hb).1
    simp only [World.size_drew, World.size_alloc] at this
    omega
  have hob : ∀ b, b ≠ g → (w2.setCell ⟨g, 1, none⟩ (.slice A2 xs.length C2)).heap[b]? = w2.heap[b]? := fun b hb => Below.heap_setCell _ _ _ _ hb
  refine ⟨⟨⟨rfl, .inr ⟨g, 1, (flatN [leafPN A2 C2 xs]).toArray, rfl, hwg, hrow3, Nat.le_refl _, by decide, rfl, rfl⟩⟩, ?_, ?_, by show 1 * 104 ≤ _; decide⟩, hw2.setCell (p := ⟨g, 1, none⟩) (Nat.le_of_lt hwg) _, ⟨?_⟩, hwg⟩
  · intro q hq
    obtain rfl : q = leafPN A2 C2 xs := by simpa using hq
    refine ⟨?_, World.ownsRow_nil _ _ _ _, World.ownsRow_nil _ _ _ _, World.ownsRow_nil _ _ _ _, hz, by show 0 * 8 ≤ _; decide, by show 0 * 8 ≤ _; decide, by show 0 * 56 ≤ _; decide⟩
    have hs := hw2.size
    refine own_of_block (own_mono o2 ?_) fun b hb => hob b (by have := hge b hb; omega)
    simp only [World.size_drew, World.size_alloc]
    have := hb1.size
    have := hb.size
    omega
  · unfold feet PN.blocks leafPN
    cases A2 with
    | none => simp
    | some a =>
      have := hge a.block rfl
      simp
      omega
  · have hrl := hr.row.lt
    have h1 := hb1.size
    have r1 := hr.row.below hb1 hrl
    exact (r1.below h12 (by omega)).of_block (hob _ (by omega))

theorem leaf_pre {xs : List En} (h : faultE xs = 0) (hz : xs.length ≤ 12000) : SplitPre (leafOf xs) := by
  by_cases hne : xs = []
  · subst hne
    exact ⟨by decide, fun h => absurd h (by decide)⟩
  · have := Top_pre (leaf_top h hne)
    rw [nth_leaf] at this
    exact this (by rw [(leaf_size xs).1]; omega)

theorem of_con {base g C2 : Nat} {A2 : Option Addr} {xs : List En} (h : faultE xs = 0) (hz : xs.length ≤ 12000) : ∀ (W : World) (tb : Nat), TB base W tb g 1 [leafPN A2 C2 xs] ((0 : Nat) : Int) → base ≤ W.heap.size → Calls Try.prog 47 #[.pointer (some ⟨tb, 0, none⟩), .int .i64 ((0 : Nat) : Int)] W
    fun e w' => ∃ vm g' C' qs', e = .returned vm ∧ GrowTo base W tb g [leafPN A2 C2 xs] ((0 : Nat) : Int) (splitN [leafOf xs] 0).1 (splitN [leafOf xs] 0).2 w' vm g' C' qs' := by
  intro W tb hT hB
  have hp := (leaf_size xs).2.2
  refine (splitAll_leaf base tb g 1 [leafPN A2 C2 xs] ((0 : Nat) : Int) 0 W hT (by simp) (leaf_pre h hz) hB ?_ rfl).mono ?_
  · show (1 + partsN (leafOf xs) + 1) * 104 ≤ 140737488351232
    rw [hp]
    exact Nat.le_trans (Nat.mul_le_mul_right 104 (show _ ≤ 10000 by omega)) (by decide)
  · rintro e w' ⟨vm, g', C', qs', rfl, hs⟩
    exact ⟨vm, g', C', qs', rfl, hs.grow⟩

theorem of_few {xs : List En} (hz : xs.length ≤ 12000) : (splitN [leafOf xs] 0).1.length + (splitN [leafOf xs] 0).2.length ≤ 999999 := by
  have := leaf_split xs
  omega

theorem of_res4 {w W3 w4 : World} {g C2 : Nat} {A2 : Option Addr} {xs : List En} (h : NT (w.heap.size + 1) W3 g 1 [leafPN A2 C2 xs] ∧ Below w.heap.size w W3 ∧ ResAt w W3 ∧ w.heap.size < g) (hk : Kept (feet g [leafPN A2 C2 xs]) W3 w4) : Below w.heap.size w w4 ∧ ResAt w w4 := by
  obtain ⟨hN, hb, hr, _⟩ := h
  have hb4 : Below w.heap.size W3 w4 := hk.below hb.size (fun x hx => by have := (hN.lt x hx).1; omega)
  refine ⟨hb.trans hb4, ⟨hk.row hr.row ?_⟩⟩
  intro e
  have := (hN.lt _ e).1
  omega

theorem of_many {xs : List En} (h : faultE xs = 0) (hb : 2000 < (ofN xs).1.length) : 2900 < xs.length := by
  have := ofN_len xs h
  omega

theorem of_nodes {w w4 : World} {g C : Nat} {qs : List PN} (hN : NT (w.heap.size + 1) w4 g C qs) (v0 v1 : Value) : NodesAt ((w4.setCell ⟨w.heap.size, 0, none⟩ v0).setCell ⟨w.heap.size, 1, none⟩ v1).heap.size ((w4.setCell ⟨w.heap.size, 0, none⟩ v0).setCell ⟨w.heap.size, 1, none⟩ v1) (some ⟨g, 0, none⟩) qs := by
  have h : NT (w.heap.size + 1) ((w4.setCell ⟨w.heap.size, 0, none⟩ v0).setCell ⟨w.heap.size, 1, none⟩ v1) g C qs := hN.of_blocks fun b hb => by
    have hne : b ≠ w.heap.size := by have := (hN.lt b hb).1; omega
    exact (Below.heap_setCell _ _ _ _ hne).trans (Below.heap_setCell _ _ _ _ hne)
  exact h.nodes

end Go.Proofs.Ytlojfgdpmaigmac

/- The walk of Put. -/
namespace Go.Proofs.Ytlojfgdpmaigmac
open Go.RowKit Plain Go.Shelf

/-- On the way: the boxes of the tree, of what is put, and of the answer. -/
structure PuA (w wr : World) (A : Option Addr) (n C : Nat) (root : Int) (r : Ru) : Prop where
  below : Below w.heap.size w wr
  bt : RowL wr w.heap.size 26 [.slice A n C, .int .i64 root]
  br : RowL wr (w.heap.size + 1) 31 (ruV r)
  bo : RowL wr (w.heap.size + 2) 26 [.slice none 0 0, .int .i64 0]

theorem PuA.next {w wr w' : World} {A : Option Addr} {n C : Nat} {root : Int} {r : Ru} (h : PuA w wr A n C root r) (hb : Below wr.heap.size wr w') : PuA w w' A n C root r :=
  ⟨nextB h.below (Nat.le_refl _) hb, h.bt.below hb h.bt.lt, h.br.below hb h.br.lt, h.bo.below hb h.bo.lt⟩

theorem PuA.start (w : World) (A : Option Addr) (n C : Nat) (root : Int) (r : Ru) : PuA w (((w.alloc (.cells #[.slice A n C, .int .i64 root] 26)).alloc (.cells (ruV r).toArray 31)).alloc (.cells #[.slice none 0 0, .int .i64 0] 26)) A n C root r := by
  have s1 : (w.alloc (.cells #[.slice A n C, .int .i64 root] 26)).heap.size = w.heap.size + 1 := by simp
  have s2 : ((w.alloc (.cells #[.slice A n C, .int .i64 root] 26)).alloc (.cells (ruV r).toArray 31)).heap.size = w.heap.size + 2 := by simp
  have r0 : RowL (w.alloc (.cells #[.slice A n C, .int .i64 root] 26)) w.heap.size 26 [.slice A n C, .int .i64 root] := rowL_alloc w _ _
  have r1 := rowL_alloc (w.alloc (.cells #[.slice A n C, .int .i64 root] 26)) (ruV r) 31
  rw [s1] at r1
  have r2 := rowL_alloc ((w.alloc (.cells #[.slice A n C, .int .i64 root] 26)).alloc (.cells (ruV r).toArray 31)) [.slice none 0 0, .int .i64 0] 26
  rw [s2] at r2
  refine ⟨(((Below.refl _ _).alloc (Nat.le_refl _) _).alloc (by omega) _).alloc (by omega) _, ?_, ?_, r2⟩
  · exact (r0.of_block (Below.heap_alloc _ _ _ (by omega))).of_block (Below.heap_alloc _ _ _ (by omega))
  · exact r1.of_block (Below.heap_alloc _ _ _ (by omega))

theorem OwnTree.nt {base : Nat} {w : World} {g : Nat} {qs : List PN} (h : OwnTree base w g qs) (hn : qs.length ≤ maxLen) : NT base w g qs.length qs :=
  ⟨own_glue h.row (by rw [flatN_length]) (by rw [List.take_of_length_le (by rw [flatN_length]; omega)]) (Nat.le_refl _) hn h.hbase (flatN_length qs), h.each, h.apart, h.z⟩

theorem PuA.kept {w wr w' : World} {A : Option Addr} {n C : Nat} {root : Int} {r : Ru} {ex : List Nat} (h : PuA w wr A n C root r) (hk : Kept ex wr w') (hx : ∀ b ∈ ex, w.heap.size + 3 ≤ b) : PuA w w' A n C root r := by
  have hl := h.bo.lt
  have hb : ∀ i, i < w.heap.size + 3 → w'.heap[i]? = wr.heap[i]? := fun i hi => hk.block i (by omega) (fun e => by have := hx i e; omega)
  exact ⟨⟨hk.os.trans h.below.os, hk.tape.trans h.below.tape, hk.output.trans h.below.output, Nat.le_trans h.below.size hk.size, fun i hi => (hb i (by omega)).trans (h.below.block i hi)⟩, h.bt.of_block (hb _ (by omega)), h.br.of_block (hb _ (by omega)), h.bo.of_block (hb _ (by omega))⟩

theorem own_low {w : World} {base base' : Nat} {e : TypeId} {size n : Nat} {v : Value} {vs : List Value} (h : w.ownsRow base e size v n vs) (hb : base' ≤ base) : w.ownsRow base' e size v n vs := own_base' h hb

theorem NT.low {base base' g C : Nat} {w : World} {qs : List PN} (h : NT base w g C qs) (hb : base' ≤ base) : NT base' w g C qs :=
  ⟨own_low h.own hb, fun q hq => ⟨own_low (h.each q hq).e hb, own_low (h.each q hq).k hb, own_low (h.each q hq).d hb, own_low (h.each q hq).b hb, (h.each q hq).ez, (h.each q hq).kz, (h.each q hq).dz, (h.each q hq).bz⟩, h.apart, h.z⟩

/-- What Put answers where all is well. -/
structure PutTo (ns : List Nd) (x : En) (w : World) (e : Ending) (w' : World) : Prop where
  res : ∃ ns2 root2, PutOk ns ns2 root2 x ∧ Below w.heap.size w w' ∧ ((2000 < ns2.length ∧ e = .returned (.tuple #[.agg #[.slice none 0 0, .int .i64 0], .int .i64 1])) ∨
        (ns2.length ≤ 2000 ∧ ∃ g' C' qs', e = .returned (.tuple #[.agg #[.slice (some ⟨g', 0, none⟩) qs'.length C', .int .i64 root2], .int .i64 0]) ∧ NT w.heap.size w' g' C' qs' ∧ qs'.map PN.nd = ns2))

theorem put_nt {base base' : Nat} {w : World} {g n : Nat} {qs : List PN} (h : OwnTree base w g qs) (hn : qs.length = n) (hz : n * 104 ≤ 140737488351232) (hb : base' ≤ base) : NT base' w g n qs := by
  subst hn
  exact (h.nt (by unfold maxLen; omega)).low hb

set_option maxRecDepth 20000 in
set_option maxHeartbeats 4000000 in
theorem put_ok (A : Option Addr) (C : Nat) (root key : Int) (r : Ru) (ps : List PN) (s : Ru × Int) (w : World) (hN : NodesAt w.heap.size w A ps) (hwf : ∀ p ∈ ps, p.wf) (hc : treeC (ps.map PN.nd) root = 0) (he : entC (mkE key r) = 0) (hk : 0 ≤ key ∧ key ≤ 1099511627775) (hs : (Wl (ps.map PN.nd) key (key + 1) 12 root).foldl stepK (zro, 0) = s) (hs2 : s.2 = 0) (hm : (mrg s.1 r).2 = 0) (hx : entB (mkE key r) 0 1099511627776 = true) (hcnt : cntK key ((ps.map PN.nd).flatMap cont) + r.c ≤ 1073741824) :
    Calls Try.prog 15 #[.agg #[.slice A ps.length C, .int .i64 root], .int .i64 key, .agg #[.int .i64 r.c, .int .i64 r.s, .int .i64 r.lo, .int .i64 r.hi, .int .i64 r.t, .int .i64 r.l]] w (PutTo (ps.map PN.nd) (mkE key r) w) := by
  have hreach : Reach (ps.map PN.nd) 12 root := by
    obtain ⟨q, hW⟩ := treeC_W hc
    exact W_reach _ _ _ _ _ _ hW
  have con1 := hideC fun W (hW : Below w.heap.size w W) => checkT_any A C root ps W (hN.up hW) hwf
  have con2 := hideC fun W => checkEntry_any key r.c r.s r.lo r.hi r.t r.l W
  have con3 := hideC fun W (hW : Below w.heap.size w W) => knownAt_any A C root root key ps W (hN.up hW) hreach hk s hs
  have con4 := hideC fun W => merge_any s.1 r W
  have con5 := hideC fun W (hW : Below w.heap.size w W) => copy_any A C root ps W (hN.up hW)
  rw [hc] at con1
  rw [show entC ⟨key, r.c, r.s, r.lo, r.hi, r.t, r.l⟩ = 0 from he] at con2
  rw [hs2] at con3
  rw [hm] at con4
  generalize (mrg s.1 r).1 = m1 at con4
  generalize s.1 = s1 at con3 con4
  obtain ⟨f1, f2, -⟩ := cont_few hc
  simp only [List.length_map] at f1 f2
  have con6 : Hid (∀ (W : World) (g : Nat) (qs : List PN), NT (w.heap.size + 3) W g ps.length qs → qs.map PN.nd = ps.map PN.nd → qs.length = ps.length → w.heap.size + 3 ≤ W.heap.size → Calls Try.prog 29 #[.agg #[.slice (some ⟨g, 0, none⟩) ps.length ps.length, .int .i64 root], .int .i64 root, .agg #[.int .i64 key, .int .i64 r.c, .int .i64 r.s, .int .i64 r.lo, .int .i64 r.hi, .int .i64 r.t, .int .i64 r.l]] W
      fun e w' => e = .returned (.tuple #[]) ∧ ∃ qs1, SinkMem (w.heap.size + 3) W g ps.length qs w' qs1 ∧ SunkOk (ps.map PN.nd) (qs1.map PN.nd) root (mkE key r)) := fun W g qs h1 h2 h3 h4 => by
    have := sinkRoot_any (w.heap.size + 3) g ps.length qs root root (mkE key r) W h1 h4 (by rw [h2]; exact hc) hx (by rw [h2]; exact hcnt)
    rw [h2, h3] at this
    exact this
  have con7 : Hid (∀ (W : World) (g : Nat) (qs1 : List PN), NT (w.heap.size + 3) W g ps.length qs1 → qs1.length = ps.length → w.heap.size + 3 ≤ W.heap.size → SunkOk (ps.map PN.nd) (qs1.map PN.nd) root (mkE key r) → Calls Try.prog 30 #[.agg #[.slice (some ⟨g, 0, none⟩) ps.length ps.length, .int .i64 root]] W
      fun e w' => ∃ ns2 root2, PutOk (ps.map PN.nd) ns2 root2 (mkE key r) ∧ Kept (feet g qs1) W w' ∧ ((2000 < ns2.length ∧ e = .returned (.tuple #[.agg #[.slice none 0 0, .int .i64 0], .int .i64 1])) ∨ (ns2.length ≤ 2000 ∧ ∃ g' C' qs', e = .returned (.tuple #[.agg #[.slice (some ⟨g', 0, none⟩) qs'.length C', .int .i64 root2], .int .i64 0]) ∧ NT (w.heap.size + 3) w' g' C' qs' ∧ qs'.map PN.nd = ns2 ∧ ∀ b ∈ feet g' qs', b ∈ feet g qs1 ∨ W.heap.size ≤ b))) := fun W g qs1 h1 h2 h3 h4 => by
    have := growRoot_any (w.heap.size + 3) g ps.length qs1 (ps.map PN.nd) root (mkE key r) W h1 h3 (by simpa using f1) (by simpa using f2) h4
    rw [h2] at this
    exact this
  have HS := hideC (PuA.start w A ps.length C root r)
  clear hs hs2 hm he hreach hc hcnt hx hwf f1 f2
  go_enter Try.func15, Try.ntmps15
  go_wp2_with (first
    | (go_at_call 9; refine (con1.out _ HS.out.below).mono ?_; rintro e w1 ⟨rfl, hb1⟩; have H1 := hideC (HS.out.next hb1); have r1 := fun j => H1.out.br.cell j; simp only [ruV] at r1; clear hb1)
    | (go_at_call 28; refine (con2.out _).mono ?_; rintro e w2 ⟨rfl, hb2⟩; have H2 := hideC (H1.out.next hb2); have t0 : w2.cell? ⟨w.heap.size, 0, none⟩ = some (.slice A ps.length C) := H2.out.bt.cell 0; have t1 : w2.cell? ⟨w.heap.size, 1, none⟩ = some (.int .i64 root) := H2.out.bt.cell 1; clear hb2 r1)
    | (go_at_call 18; refine (con3.out _ H2.out.below).mono ?_; rintro e w3 ⟨rfl, hb3⟩; have H3 := hideC (H2.out.next hb3); have r3 := fun j => H3.out.br.cell j; simp only [ruV] at r3; have l3 := H3.out.br.lt; clear hb3 t0 t1)
    | (go_at_call 16; refine (con4.out _).mono ?_; rintro e w4 ⟨rfl, hb4⟩; have H4 := hideC ((H3.out.next ((Below.refl _ _).alloc (Nat.le_refl _) _)).next hb4); have t4 : w4.cell? ⟨w.heap.size, 0, none⟩ = some (.slice A ps.length C) := H4.out.bt.cell 0; have t5 : w4.cell? ⟨w.heap.size, 1, none⟩ = some (.int .i64 root) := H4.out.bt.cell 1; have l4 := H4.out.bt.lt; clear hb4 r3)
    | (go_at_call 10; refine (con5.out _ (H4.out.next ((Below.refl _ _).alloc (Nat.le_refl _) _)).below).mono ?_; rintro e w5 ⟨g, qs, rfl, hot, hqs, hb5⟩; have H5 := hideC ((H4.out.next ((Below.refl _ _).alloc (Nat.le_refl _) _)).next hb5); have hlq : qs.length = ps.length := (by have := congrArg List.length hqs; simpa using this); have HNT5 := hideC (put_nt hot hlq hN.z (Nat.le_trans H4.out.bo.lt (by simp))); have HQS := hideC hqs; have r5 := fun j => H5.out.br.cell j; simp only [ruV] at r5; have l5 := H5.out.br.lt; have l6 := H5.out.bo.lt; clear hb5 hot hqs t4 t5)
    | (go_at_call 29; refine (con6.out _ g qs (HNT5.out.below ((Below.refl _ _).alloc (Nat.le_refl _) _) (Nat.le_refl _)) HQS.out hlq (by simp; omega)).mono ?_; rintro e w6 ⟨rfl, qs1, hm6, hok6⟩; have H6 := hideC ((H5.out.next ((Below.refl _ _).alloc (Nat.le_refl _) _)).kept hm6.kept (fun b hb => (HNT5.out.lt b hb).1)); have hcb := hm6.kept.row (rowL_alloc w5 [.slice (some ⟨g, 0, none⟩) ps.length ps.length, .int .i64 root] 26) (fun e => by have := (HNT5.out.lt _ e).2; omega); have c0 : w6.cell? ⟨w5.heap.size, 0, none⟩ = some (.slice (some ⟨g, 0, none⟩) ps.length ps.length) := hcb.cell 0; have c1 : w6.cell? ⟨w5.heap.size, 1, none⟩ = some (.int .i64 root) := hcb.cell 1; have HM6 := hideC (And.intro hm6 hok6); have l7 := H6.out.bo.lt; clear hcb hm6 hok6 r5)
    | (go_at_call 30; refine (con7.out _ g qs1 HM6.out.1.nt (HM6.out.1.len.trans hlq) (by omega) HM6.out.2).mono ?_; rintro e w7 ⟨ns2, root2, hpo, hkp, hres⟩; have H7 := hideC (H6.out.kept hkp (fun b hb => (HM6.out.1.nt.lt b hb).1)); have HPO := hideC hpo; have o0 : w7.cell? ⟨w.heap.size + 1 + 1, 0, none⟩ = some (.slice none 0 0) := H7.out.bo.cell 0; have o1 : w7.cell? ⟨w.heap.size + 1 + 1, 1, none⟩ = some (.int .i64 0) := H7.out.bo.cell 1; have of : ∀ j, w7.frozen? ⟨w.heap.size + 1 + 1, j, none⟩ = false := fun j => H7.out.bo.frozen j; clear hpo hkp; rcases hres with ⟨hgt, rfl⟩ | ⟨hle, g2, C2, qs2, rfl, hn2, hq2, hf2⟩))
  · refine bodyPost_ret (v := .tuple #[.agg #[.slice none 0 0, .int .i64 0], .int .i64 1]) (by simp [results, Try.results15, go_sem, o0, o1]) rfl ⟨ns2, root2, HPO.out, ?_, .inl ⟨hgt, rfl⟩⟩
    exact (H7.out.below.setCell (by show w.heap.size ≤ w.heap.size + 1 + 1; omega) _).setCell (by show w.heap.size ≤ w.heap.size + 1 + 1; omega) _
  · refine bodyPost_ret (v := .tuple #[.agg #[.slice (some ⟨g2, 0, none⟩) qs2.length C2, .int .i64 root2], .int .i64 0]) (by simp [results, Try.results15, go_sem, o0, o1]) rfl ⟨ns2, root2, HPO.out, ?_, .inr ⟨hle, g2, C2, qs2, rfl, ?_, hq2⟩⟩
    · exact (H7.out.below.setCell (by show w.heap.size ≤ w.heap.size + 1 + 1; omega) _).setCell (by show w.heap.size ≤ w.heap.size + 1 + 1; omega) _
    · refine (hn2.low (by omega)).of_blocks fun b hb => ?_
      have hb1 := (hn2.lt b hb).1
      have hne : b ≠ w.heap.size + 1 + 1 := by omega
      rw [Below.heap_setCell _ _ _ _ (show b ≠ _ from hne), Below.heap_setCell _ _ _ _ (show b ≠ _ from hne)]

end Go.Proofs.Ytlojfgdpmaigmac
