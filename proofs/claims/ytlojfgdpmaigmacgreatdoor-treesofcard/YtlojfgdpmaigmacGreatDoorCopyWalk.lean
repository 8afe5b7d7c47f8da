/- Copy of package tree. -/
import Derived.Test.YtlojfgdpmaigmacGreatDoorP08
import Derived.Deep.DeepCutAuto
namespace Go.Proofs.YtlojfgdpmaigmacGreatDoor
open Go.RowKit

/-- What stands where the loop begins: the copy c, its nodes g. -/
structure CopyAt (w wc : World) (A : Option Addr) (C : Nat) (r : Int) (n c g : Nat) (ls : List PN) : Prop where
  bel : Below w.heap.size w wc
  src : RowL wc w.heap.size 26 [.slice A n C, .int .i64 r]
  res : RowL wc (w.heap.size + 1) 26 [.slice none 0 0, .int .i64 0]
  cur : RowL wc c 26 [.slice (some ⟨g, 0, none⟩) n n, .int .i64 r]
  row : RowL wc g 84 (flatN ls)
  hc : w.heap.size + 1 < c
  hg : w.heap.size + 1 < g
  ne : c ≠ g

theorem four (w : World) (o1 o2 o3 o4 : Obj) : ((((w.alloc o1).alloc o2).alloc o3).alloc o4).heap[w.heap.size]? = some o1 ∧ ((((w.alloc o1).alloc o2).alloc o3).alloc o4).heap[w.heap.size + 1]? = some o2 ∧
    ((((w.alloc o1).alloc o2).alloc o3).alloc o4).heap[w.heap.size + 1 + 1]? = some o3 ∧ ((((w.alloc o1).alloc o2).alloc o3).alloc o4).heap[w.heap.size + 1 + 1 + 1]? = some o4 := by
  have s1 : (w.alloc o1).heap.size = w.heap.size + 1 := by simp
  have s2 : ((w.alloc o1).alloc o2).heap.size = w.heap.size + 1 + 1 := by simp
  have s3 : (((w.alloc o1).alloc o2).alloc o3).heap.size = w.heap.size + 1 + 1 + 1 := by simp
  refine ⟨?_, ?_, ?_, ?_⟩
  · rw [Below.heap_alloc _ _ _ (by omega), Below.heap_alloc _ _ _ (by omega), Below.heap_alloc _ _ _ (by omega)]; exact heap_alloc_new w _
  · rw [Below.heap_alloc _ _ _ (by omega), Below.heap_alloc _ _ _ (by omega), ← s1]; exact heap_alloc_new _ _
  · rw [Below.heap_alloc _ _ _ (by omega), ← s2]; exact heap_alloc_new _ _
  · rw [← s3]; exact heap_alloc_new _ _

theorem four_below (w : World) (o1 o2 o3 o4 : Obj) : Below w.heap.size w (((((w.alloc o1).alloc o2).alloc o3).alloc o4).drew) :=
  (((((Below.refl _ _).alloc (Nat.le_refl _) _).alloc (by simp) _).alloc (by simp; omega) _).alloc (by simp; omega) _).drew

theorem copyAt_a (w : World) (A : Option Addr) (C : Nat) (r : Int) (n : Nat) :
    CopyAt w (((((w.alloc (.cells #[.slice A n C, .int .i64 r] 26)).alloc (.cells #[.slice none 0 0, .int .i64 0] 26)).alloc (.cells (madeN n) 84)).alloc (.cells #[.slice (some ⟨w.heap.size + 1 + 1, 0, none⟩) n n, .int .i64 r] 26)).drew) A C r n (w.heap.size + 1 + 1 + 1) (w.heap.size + 1 + 1) (List.replicate n PN.zero) := by
  obtain ⟨h1, h2, h3, h4⟩ := four w (.cells #[.slice A n C, .int .i64 r] 26) (.cells #[.slice none 0 0, .int .i64 0] 26) (.cells (madeN n) 84) (.cells #[.slice (some ⟨w.heap.size + 1 + 1, 0, none⟩) n n, .int .i64 r] 26)
  rw [madeN_eq] at *
  exact ⟨four_below _ _ _ _ _, h1, h2, h4, h3, by omega, by omega, by omega⟩

theorem copyAt_b (w : World) (A : Option Addr) (C : Nat) (r : Int) (n : Nat) :
    CopyAt w (((((w.alloc (.cells #[.slice A n C, .int .i64 r] 26)).alloc (.cells #[.slice none 0 0, .int .i64 0] 26)).alloc (.cells #[.slice (some ⟨w.heap.size + 1 + 1 + 1, 0, none⟩) n n, .int .i64 r] 26)).alloc (.cells (madeN n) 84)).drew) A C r n (w.heap.size + 1 + 1) (w.heap.size + 1 + 1 + 1) (List.replicate n PN.zero) := by
  obtain ⟨h1, h2, h3, h4⟩ := four w (.cells #[.slice A n C, .int .i64 r] 26) (.cells #[.slice none 0 0, .int .i64 0] 26) (.cells #[.slice (some ⟨w.heap.size + 1 + 1 + 1, 0, none⟩) n n, .int .i64 r] 26) (.cells (madeN n) 84)
  rw [madeN_eq] at *
  exact ⟨four_below _ _ _ _ _, h1, h2, h3, h4, by omega, by omega, by omega⟩

theorem own_next {w1 w4 : World} {base : Nat} {e : TypeId} {size n : Nat} {v : Value} {vs : List Value} (o : w1.ownsRow base e size v n vs) (hb : Below w1.heap.size w1 w4) : w4.ownsRow base e size v n vs :=
  own_of_block o fun k hk => hb.block k (o.lt k hk).2

theorem copyAt_step {w wr w4 W : World} {A : Option Addr} {C : Nat} {r : Int} {n c g : Nat} {ls ls' : List PN} (h : CopyAt w wr A C r n c g ls) (hb : Below wr.heap.size wr w4) {j0 j1 j2 j3 j4 : Nat} {v0 v1 v2 v3 v4 : Value}
    (hW : W = ((((w4.setCell ⟨g, j0, none⟩ v0).setCell ⟨g, j1, none⟩ v1).setCell ⟨g, j2, none⟩ v2).setCell ⟨g, j3, none⟩ v3).setCell ⟨g, j4, none⟩ v4) (hrow : RowL W g 84 (flatN ls')) : CopyAt w W A C r n c g ls' := by
  have hother : ∀ b, b ≠ g → W.heap[b]? = w4.heap[b]? := by
    intro b hbg
    subst hW
    simp only [Below.heap_setCell _ _ _ _ (show b ≠ (⟨g, _, none⟩ : Addr).block from hbg)]
  have keep : ∀ {b : Nat} {t : TypeId} {vs : List Value}, RowL wr b t vs → b ≠ g → RowL W b t vs := fun hr hbg => (hr.below hb hr.lt).of_block (hother _ hbg)
  have hg := h.hg
  refine ⟨?_, keep h.src (by omega), keep h.res (by omega), keep h.cur h.ne, hrow, h.hc, h.hg, h.ne⟩
  have b4 : Below w.heap.size w w4 := nextB h.bel (Nat.le_refl _) hb
  subst hW
  exact ((((b4.setCell (p := ⟨g, j0, none⟩) (by show _ ≤ g; omega) _).setCell (p := ⟨g, j1, none⟩) (by show _ ≤ g; omega) _).setCell (p := ⟨g, j2, none⟩) (by show _ ≤ g; omega) _).setCell (p := ⟨g, j3, none⟩) (by show _ ≤ g; omega) _).setCell (p := ⟨g, j4, none⟩) (by show _ ≤ g; omega) _

theorem copy_end {w wr : World} {A : Option Addr} {C : Nat} {r : Int} {n c g : Nat} {qs : List PN} (h : CopyAt w wr A C r n c g qs) (hown : ∀ x ∈ qs, x.own (w.heap.size + 2) wr) (hnd : (g :: qs.flatMap PN.blocks).Nodup) (hz : qs.length * 104 ≤ 140737488351232) (v0 v1 : Value) :
    OwnTree w.heap.size ((wr.setCell ⟨w.heap.size + 1, 0, none⟩ v0).setCell ⟨w.heap.size + 1, 1, none⟩ v1) g qs ∧ Below w.heap.size w ((wr.setCell ⟨w.heap.size + 1, 0, none⟩ v0).setCell ⟨w.heap.size + 1, 1, none⟩ v1) := by
  have hother : ∀ b, b ≠ w.heap.size + 1 → ((wr.setCell ⟨w.heap.size + 1, 0, none⟩ v0).setCell ⟨w.heap.size + 1, 1, none⟩ v1).heap[b]? = wr.heap[b]? := by
    intro b hbg
    simp only [Below.heap_setCell _ _ _ _ (show b ≠ (⟨w.heap.size + 1, _, none⟩ : Addr).block from hbg)]
  have hg := h.hg
  refine ⟨⟨h.row.of_block (hother _ (by omega)), by omega, fun q hq => ?_, hnd, hz⟩, ?_⟩
  · have h1 := (hown q hq).of_blocks (w' := (wr.setCell ⟨w.heap.size + 1, 0, none⟩ v0).setCell ⟨w.heap.size + 1, 1, none⟩ v1) fun b hb => hother b (by have := (hown q hq).lt b hb; omega)
    exact ⟨own_mono h1.e (by omega), own_mono h1.k (by omega), own_mono h1.d (by omega), own_mono h1.b (by omega), h1.ez, h1.kz, h1.dz, h1.bz⟩
  · exact (h.bel.setCell (p := ⟨w.heap.size + 1, 0, none⟩) (by show _ ≤ w.heap.size + 1; omega) _).setCell (p := ⟨w.heap.size + 1, 1, none⟩) (by show _ ≤ w.heap.size + 1; omega) _

set_option maxHeartbeats 4000000 in
theorem copy_any (A : Option Addr) (C : Nat) (r : Int) (ps : List PN) (w : World) (h : NodesAt w.heap.size w A ps) :
    Calls Tryz.prog 31 #[.agg #[.slice A ps.length C, .int .i64 r]] w
      fun e w' => ∃ g qs, e = .returned (.agg #[.slice (some ⟨g, 0, none⟩) ps.length ps.length, .int .i64 r]) ∧ OwnTree w.heap.size w' g qs ∧ qs.map PN.nd = ps.map PN.nd ∧ Below w.heap.size w w' := by
  have hz := h.z
  have hmk := run_makeN ps.length hz
  go_enter Tryz.func31, Tryz.ntmps31
  go_upto_region 1 with fail
  go_cut [3] (fun v wc => ∃ c g, v = .pointer (some ⟨c, 0, none⟩) ∧ CopyAt w wc A C r ps.length c g (List.replicate ps.length PN.zero))
  case first =>
    go_region
    all_goals go_wp2
    · go_meet
      case rel => exact ⟨_, _, rfl, copyAt_a w A C r ps.length⟩
    · go_meet
      case rel => exact ⟨_, _, rfl, copyAt_b w A C r ps.length⟩
  case rest =>
    obtain ⟨c, g, rfl, hcut⟩ := hcut
    have s0 := hcut.src.cell 0
    have s1 := hcut.src.cell 1
    simp only [List.getElem?_cons_zero, List.getElem?_cons_succ] at s0 s1
    go_wp2_with fail
    go_loopw [16] (fun i wr => ∃ k qs, k ≤ ps.length ∧ i = .int .i64 (k : Nat) ∧ qs.length = k ∧ CopyAt w wr A C r ps.length c g (qs ++ List.replicate (ps.length - k) PN.zero) ∧ (∀ x ∈ qs, x.own (w.heap.size + 2) wr) ∧ (g :: qs.flatMap PN.blocks).Nodup ∧ qs.map PN.nd = (ps.take k).map PN.nd) (fun i _ => ps.length - (intOf i).toNat)
    case atStart => exact ⟨0, [], Nat.zero_le _, rfl, rfl, by simpa using hcut, by simp, by simp, by simp⟩
    case round =>
      obtain ⟨k, qs, hk, rfl, hql, hat, hown, hnd, hmap⟩ := hrel
      by_cases hlt : k < ps.length
      · have hN := h.below hat.bel (Nat.le_refl _)
        obtain ⟨b, o, rfl, hbl, c0, c1, c2, c3, c4⟩ := hN.row.pn hlt
        have ok := hN.each k hlt
        have hnk : (ps.take (k + 1)).map PN.nd = (ps.take k).map PN.nd ++ [(ps[k]).nd] := by rw [List.take_succ_eq_append_getElem hlt, List.map_append]; rfl
        have HM : Hid (qs.map PN.nd = (ps.take k).map PN.nd ∧ (ps.take (k + 1)).map PN.nd = (ps.take k).map PN.nd ++ [(ps[k]).nd]) := ⟨hmap, hnk⟩
        clear hN hmap hnk hcut s0 s1
        generalize ps[k] = p at *
        obtain ⟨leaf, eA, eC, ents, kA, kC, keys, dA, dC, kids, bA, bC, buf⟩ := p
        simp only at c0 c1 c2 c3 c4
        obtain ⟨e1, k1, t1, f1, en, kn, dn, fn, ez, kz, dz, fz⟩ := ok
        simp only at e1 k1 t1 f1 en kn dn fn ez kz dz fz
        have cc := hat.cur.cell 0
        simp only [List.getElem?_cons_zero] at cc
        have hcl := hat.cur.lt
        have hgl := hat.row.lt
        have hle : w.heap.size ≤ wr.heap.size := hat.bel.size
        have hbr : b < wr.heap.size := by omega
        have HQ : Hid (qs.length = k) := hql
        clear hql
        have gf := hat.row.frozen
        have gcl : ∀ j, j < 5 → ∃ v, wr.cell? ⟨g, k * 5 + j, none⟩ = some v := by
          intro j hj
          have hl := flatN_length (qs ++ List.replicate (ps.length - k) PN.zero)
          rw [hat.row.cell]
          simp only [List.length_append, List.length_replicate] at hl
          have := HQ.out
          exact ⟨_, List.getElem?_eq_getElem (by omega)⟩
        obtain ⟨x0, g0⟩ := gcl 0 (by decide)
        obtain ⟨x1, g1⟩ := gcl 1 (by decide)
        obtain ⟨x2, g2⟩ := gcl 2 (by decide)
        obtain ⟨x3, g3⟩ := gcl 3 (by decide)
        obtain ⟨x4, g4⟩ := gcl 4 (by decide)
        rw [Nat.add_zero] at g0
        have i0 : (0 : Int) ≤ (k : Int) := by omega
        have i1 : (k : Int) < (ps.length : Int) := by omega
        clear gcl
        have hcl1 : c < wr.heap.size + 1 := by omega
        have n1 : ¬ c = g := hat.ne
        have n2 : ¬ wr.heap.size = g := by omega
        have KS : ∀ (W : World) (b o j : Nat) (v : Value), ¬ b = g → (W.setCell ⟨g, j, none⟩ v).cell? ⟨b, o, none⟩ = W.cell? ⟨b, o, none⟩ := fun W b o j v hb => World.cell?_setCell_far _ _ _ _ (fun e => hb e.symm)
        go_wp2_with fail
        go_region_held3 (fun w' => w'.cell? ⟨c, 0, none⟩ = some (.slice (some ⟨g, 0, none⟩) ps.length ps.length) ∧ w'.cell? ⟨wr.heap.size, 0, none⟩ = some (.bool leaf) ∧ w'.cell? ⟨wr.heap.size, 1, none⟩ = some (.slice eA ents.length eC) ∧ w'.cell? ⟨wr.heap.size, 2, none⟩ = some (.slice kA keys.length kC) ∧ w'.cell? ⟨wr.heap.size, 3, none⟩ = some (.slice dA kids.length dC) ∧ w'.cell? ⟨wr.heap.size, 4, none⟩ = some (.slice bA buf.length bC)) (go_keep)
          (first
            | (go_at_call_of 39 eA; refine (freshE_any _ _ _ _ (e1.go (((Below.refl _ _).alloc (Nat.le_refl _) _).drew) hle (Nat.le_refl _)) en ez).mono ?_; rintro e w1 ⟨v1, rfl, o1, hb1⟩; obtain ⟨A1, C1, rfl, -⟩ := own_row o1; have G1 : Below wr.heap.size wr w1 := nextB (((Below.refl _ _).alloc (Nat.le_refl _) _).drew) (Nat.le_refl _) hb1; have T1 := (bcells (hb1.mono (show wr.heap.size + 1 ≤ _ by simp))).1; have Z1 : wr.heap.size + 1 ≤ w1.heap.size := Nat.le_trans (by simp) hb1.size)
            | (go_at_call_of 65 kA; refine (freshI_any _ _ _ _ (k1.go G1 hle (Nat.le_refl _)) kn kz).mono ?_; rintro e w2 ⟨v2, rfl, o2, hb2⟩; obtain ⟨A2, C2, rfl, -⟩ := own_row o2; have G2 : Below wr.heap.size wr w2 := nextB G1 (Nat.le_refl _) hb2; have T2 := (bcells (hb2.mono (show wr.heap.size + 1 ≤ _ by exact Z1))).1; have Z2 : wr.heap.size + 1 ≤ w2.heap.size := Nat.le_trans (Z1) hb2.size)
            | (go_at_call_of 65 dA; refine (freshI_any _ _ _ _ (t1.go G2 hle (Nat.le_refl _)) dn dz).mono ?_; rintro e w3 ⟨v3, rfl, o3, hb3⟩; obtain ⟨A3, C3, rfl, -⟩ := own_row o3; have G3 : Below wr.heap.size wr w3 := nextB G2 (Nat.le_refl _) hb3; have T3 := (bcells (hb3.mono (show wr.heap.size + 1 ≤ _ by exact Z2))).1; have Z3 : wr.heap.size + 1 ≤ w3.heap.size := Nat.le_trans (Z2) hb3.size)
            | (go_at_call_of 39 bA; refine (freshE_any _ _ _ _ (f1.go G3 hle (Nat.le_refl _)) fn fz).mono ?_; rintro e w4 ⟨v4, rfl, o4, hb4⟩; obtain ⟨A4, C4, rfl, -⟩ := own_row o4; have G4 : Below wr.heap.size wr w4 := nextB G3 (Nat.le_refl _) hb4; have T4 := (bcells (hb4.mono (show wr.heap.size + 1 ≤ _ by exact Z3))).1; have Z4 : wr.heap.size + 1 ≤ w4.heap.size := Nat.le_trans (Z3) hb4.size; have Y0 : w4.cell? ⟨g, k * 5, none⟩ = some x0 := (G4.cell (p := ⟨g, k * 5, none⟩) hgl).trans g0; have Y1 : w4.cell? ⟨g, k * 5 + 1, none⟩ = some x1 := (G4.cell (p := ⟨g, k * 5 + 1, none⟩) hgl).trans g1; have Y2 : w4.cell? ⟨g, k * 5 + 2, none⟩ = some x2 := (G4.cell (p := ⟨g, k * 5 + 2, none⟩) hgl).trans g2; have Y3 : w4.cell? ⟨g, k * 5 + 3, none⟩ = some x3 := (G4.cell (p := ⟨g, k * 5 + 3, none⟩) hgl).trans g3; have Y4 : w4.cell? ⟨g, k * 5 + 4, none⟩ = some x4 := (G4.cell (p := ⟨g, k * 5 + 4, none⟩) hgl).trans g4; have YF : ∀ j, w4.frozen? ⟨g, j, none⟩ = false := fun j => (G4.frozen (p := ⟨g, j, none⟩) hgl).trans (gf j)))
        have hql := HQ.out
        obtain ⟨hm1, hm2⟩ := HM.out
        clear HM HQ
        subst hql
        have hrow' : RowL wr g 84 (flatN (qs ++ PN.zero :: List.replicate (ps.length - (qs.length + 1)) PN.zero)) := by
          have := hat.row
          rwa [show ps.length - qs.length = (ps.length - (qs.length + 1)) + 1 by omega, List.replicate_succ] at this
        have hb34 : Below w2.heap.size w2 w4 := nextB hb3 (Nat.le_refl _) hb4
        have hb234 : Below w1.heap.size w1 w4 := nextB hb2 (Nat.le_refl _) hb34
        have sz0 : wr.heap.size ≤ w1.heap.size := by omega
        have q1 : w4.ownsRow wr.heap.size _ _ _ _ _ := own_mono (own_next o1 hb234) (by simp)
        have q2 : w4.ownsRow wr.heap.size _ _ _ _ _ := own_mono (own_next o2 hb34) (by omega)
        have q3 : w4.ownsRow wr.heap.size _ _ _ _ _ := own_mono (own_next o3 hb4) (by omega)
        have q4 : w4.ownsRow wr.heap.size _ _ _ _ _ := own_mono o4 (by omega)
        have hq : PN.own wr.heap.size w4 ⟨leaf, A1, C1, ents, A2, C2, keys, A3, C3, kids, A4, C4, buf⟩ := ⟨q1, q2, q3, q4, ez, kz, dz, fz⟩
        have hqn : (PN.mk leaf A1 C1 ents A2 C2 keys A3 C3 kids A4 C4 buf).blocks.Nodup :=
          blocks_nodup (s1 := w1.heap.size) (s2 := w2.heap.size) (s3 := w3.heap.size) (fun x hx => (own_lt o1 x hx).2) (fun x hx => own_lt o2 x hx) (fun x hx => own_lt o3 x hx) (fun x hx => (own_lt o4 x hx).1) hb2.size hb3.size
        have hgb : w.heap.size + 2 ≤ g := by have := hat.hg; omega
        have R := copy_step hrow' hgb hown hnd G4 hq hqn _ rfl
        have R' := copyAt_step hat G4 rfl R.1
        have Rm : (qs ++ [PN.mk leaf A1 C1 ents A2 C2 keys A3 C3 kids A4 C4 buf]).map PN.nd = (ps.take (qs.length + 1)).map PN.nd := by
          rw [hm2, List.map_append, hm1]; rfl
        have RR : Hid _ := And.intro R (And.intro R' Rm)
        clear R R' Rm hrow' hq hqn q1 q2 q3 q4 o1 o2 o3 o4 hown hnd hat hm1 hm2 T1 T2 T3 T4 KS
        go_wp2
        go_roundw
        case rel =>
          go_light
          obtain ⟨⟨_, R2, R3⟩, R', Rm⟩ := RR.out
          exact ⟨qs.length + 1, qs ++ [PN.mk leaf A1 C1 ents A2 C2 keys A3 C3 kids A4 C4 buf], by omega, by go_num, by simp, by simpa using R', R2, R3, Rm⟩
        case measure => simp [intOf]; omega
      · obtain rfl : k = ps.length := by omega
        have hcur0 := hat.cur.cell 0
        have hcur1 := hat.cur.cell 1
        have hres0 := hat.res.cell 0
        have hres1 := hat.res.cell 1
        have hresf := hat.res.frozen
        simp only [List.getElem?_cons_zero, List.getElem?_cons_succ] at hcur0 hcur1 hres0 hres1
        have HQ : Hid (qs.length = ps.length ∧ qs.map PN.nd = (ps.take ps.length).map PN.nd) := ⟨hql, hmap⟩
        clear hql hmap
        have hcl := hat.cur.lt
        have hgl := hat.row.lt
        go_wp2
        obtain ⟨hq1, hq2⟩ := HQ.out
        rw [List.take_length] at hq2
        rw [Nat.sub_self, List.replicate_zero, List.append_nil] at hat
        have hE := copy_end hat hown hnd (by rw [hq1]; exact hz) (.slice (some ⟨g, 0, none⟩) ps.length ps.length) (.int .i64 r)
        exact bodyPost_ret (v := .agg #[.slice (some ⟨g, 0, none⟩) ps.length ps.length, .int .i64 r]) (by simp [results, Tryz.results31, go_sem, hres0, hres1]) rfl ⟨g, qs, rfl, hE.1, hq2, hE.2⟩

end Go.Proofs.YtlojfgdpmaigmacGreatDoor
