/- For every list of raw things and any three numbers, a range of what a tree knows is what of all that it knows is within it, and two that lie side by side are one. No condition beside the table of sizes, which is tied to the program's text. -/
import Derived.Test.YtlojfgdpmaigmacGreatDoorTreeAid
import Derived.Test.YtlojfgdpmaigmacGreatDoorP43
import Derived.Test.YtlojfgdpmaigmacGreatDoorSort3
import Derived.Test.YtlojfgdpmaigmacGreatDoorP46
import Derived.Test.YtlojfgdpmaigmacGreatDoorP51
import Derived.Test.YtlojfgdpmaigmacGreatDoorLaidSz
import Derived.ChangeMaps5
import Derived.Deep.RegionHeld3
import Derived.BigQuiet
import Derived.Deep.Upon
namespace Go.Proofs.YtlojfgdpmaigmacGreatDoor
open Go.ChangeShapes Go.WideShapes Go.ChangeAt Go.RowKit Plain Go.Shelf

theorem range_two {l : List En} (h : l.Pairwise fun a b => a.key < b.key) {a b c : Int} (h1 : a ≤ b) (h2 : b ≤ c) : l.filter (inR a b) ++ l.filter (inR b c) = l.filter (inR a c) := by
  induction l with
  | nil => rfl
  | cons x r ih =>
    obtain ⟨hx, hr⟩ := List.pairwise_cons.1 h
    have ihr := ih hr
    have iR : ∀ (u v : Int) (y : En), inR u v y = true ↔ u ≤ y.key ∧ y.key < v := fun u v y => by simp [inR]
    by_cases c1 : inR a b x = true
    · have c2 : ¬ inR b c x = true := fun e => by have := (iR _ _ _).1 e; have := (iR _ _ _).1 c1; omega
      have c3 : inR a c x = true := (iR _ _ _).2 (by have := (iR _ _ _).1 c1; omega)
      rw [List.filter_cons_of_pos c1, List.filter_cons_of_neg c2, List.filter_cons_of_pos c3, List.cons_append, ihr]
    · by_cases c2 : inR b c x = true
      · have c3 : inR a c x = true := (iR _ _ _).2 (by have := (iR _ _ _).1 c2; omega)
        have hnil : r.filter (inR a b) = [] := by
          rw [List.filter_eq_nil_iff]
          intro y hy e
          have := hx y hy
          have := (iR _ _ _).1 e
          have := (iR _ _ _).1 c2
          omega
        rw [List.filter_cons_of_neg c1, List.filter_cons_of_pos c2, List.filter_cons_of_pos c3, hnil, List.nil_append, ← ihr, hnil, List.nil_append]
      · have c3 : ¬ inR a c x = true := fun e => by
          have q := (iR _ _ _).1 e
          by_cases hb : x.key < b
          · exact c1 ((iR _ _ _).2 ⟨q.1, hb⟩)
          · exact c2 ((iR _ _ _).2 ⟨by omega, q.2⟩)
        rw [List.filter_cons_of_neg c1, List.filter_cons_of_neg c2, List.filter_cons_of_neg c3, ihr]

theorem range_none (l : List En) {a c : Int} (h : a ≤ c) : l.filter (inR c a) = [] := by
  rw [List.filter_eq_nil_iff]
  intro y _ e
  have : c ≤ y.key ∧ y.key < a := by simpa [inR] using e
  omega

/-- On the way: the tree in its box, and the three numbers in theirs. -/
structure TrA (w wr : World) (tb nb g C : Nat) (qs : List PN) (root m0 m1 m2 : Int) : Prop where
  below : Below w.heap.size w wr
  bt : RowL wr tb 26 [.slice (some ⟨g, 0, none⟩) qs.length C, .int .i64 root]
  nt : NodesAt wr.heap.size wr (some ⟨g, 0, none⟩) qs
  c0 : wr.cell? ⟨nb, 0, none⟩ = some (.int .i64 m0)
  c1 : wr.cell? ⟨nb, 1, none⟩ = some (.int .i64 m1)
  c2 : wr.cell? ⟨nb, 2, none⟩ = some (.int .i64 m2)
  ln : nb < wr.heap.size

theorem TrA.next {w wr w' : World} {tb nb g C : Nat} {qs : List PN} {root m0 m1 m2 : Int} (h : TrA w wr tb nb g C qs root m0 m1 m2) (hb : Below wr.heap.size wr w') : TrA w w' tb nb g C qs root m0 m1 m2 :=
  ⟨nextB h.below (Nat.le_refl _) hb, h.bt.below hb h.bt.lt, h.nt.up hb, (hb.cell (p := ⟨nb, 0, none⟩) h.ln).trans h.c0, (hb.cell (p := ⟨nb, 1, none⟩) h.ln).trans h.c1, (hb.cell (p := ⟨nb, 2, none⟩) h.ln).trans h.c2, Nat.lt_of_lt_of_le h.ln hb.size⟩

theorem TrA.start {w w2 w3 : World} {g C : Nat} {qs : List PN} {root m0 m1 m2 : Int} {o2 : Obj} (hw : Below w.heap.size w w2) (hN : NodesAt w2.heap.size w2 (some ⟨g, 0, none⟩) qs) (hb : Below (w2.heap.size + 1) ((w2.alloc (.cells #[.slice (some ⟨g, 0, none⟩) qs.length C, .int .i64 root] 26)).alloc o2) w3)
    (c0 : w3.cell? ⟨w2.heap.size + 1, 0, none⟩ = some (.int .i64 m0)) (c1 : w3.cell? ⟨w2.heap.size + 1, 1, none⟩ = some (.int .i64 m1)) (c2 : w3.cell? ⟨w2.heap.size + 1, 2, none⟩ = some (.int .i64 m2)) (hl : w2.heap.size + 1 < w3.heap.size) : TrA w w3 w2.heap.size (w2.heap.size + 1) g C qs root m0 m1 m2 := by
  have b2 : Below w2.heap.size w2 w3 := (((Below.refl w2.heap.size w2).alloc (Nat.le_refl _) _).alloc (by simp) _).trans (hb.mono (by omega))
  have r0 := rowL_alloc w2 [.slice (some ⟨g, 0, none⟩) qs.length C, .int .i64 root] 26
  have r1 := r0.of_block (Below.heap_alloc (w2.alloc (.cells #[.slice (some ⟨g, 0, none⟩) qs.length C, .int .i64 root] 26)) o2 _ r0.lt)
  exact ⟨nextB hw (Nat.le_refl _) b2, r1.below hb (by omega), hN.up b2, c0, c1, c2, hl⟩

theorem rangeNums (w2 : World) (o : Obj) (n0 n1 n2 : Int) : RowL ((w2.alloc o).alloc (.cells #[.int .i64 n0, .int .i64 n1, .int .i64 n2] 3)) (w2.heap.size + 1) 3 [.int .i64 n0, .int .i64 n1, .int .i64 n2] := by
  have h := rowL_alloc (w2.alloc o) [.int .i64 n0, .int .i64 n1, .int .i64 n2] 3
  simpa using h

theorem append_rows {W : World} {base : Nat} {AX AY : Option Addr} {CX CY : Nat} {LX LY : List En} (hX : W.ownsRow base 40 7 (.slice AX LX.length CX) LX.length (flatE LX)) (hY : RowAt W.heap.size W AY (flatE LY)) (hAY : AY = none → CY = 0) (hn : LX.length + LY.length ≤ 1000) (hb : base ≤ W.heap.size) (ty : TypeId) :
    ∃ (A : Option Addr) (C : Nat) (w' : World), (Builtin.append_ #[33, 33] ty #[.slice AX LX.length CX, .slice AY LY.length CY]).run Tryz.prog W = .ok (.slice A (LX.length + LY.length) C) w' ∧ w'.ownsRow base 40 7 (.slice A (LX.length + LY.length) C) (LX.length + LY.length) (flatE LX ++ flatE LY) ∧ W.grownBy w' (Value.slice AX LX.length CX).ownBlock := by
  obtain ⟨i0, hi0, hz0, hz1, hz2⟩ := info_parts infoE
  cases LY with
  | nil =>
    obtain ⟨A1, C1, he, -, hle, -⟩ := own_row hX
    cases he
    refine ⟨AX, CX, W, ?_, by simpa [flatE] using hX, World.grownBy.refl _ _⟩
    have hs : Src Tryz.prog i0.size 33 (.slice AY 0 CY) 0 [] W := by
      cases AY with
      | none => exact Src.ofNil W Tryz.underlying33 CY
      | some a => exact Src.ofSlice W Tryz.underlying33 a 0 CY [] (by simp) (fun j u h => by simp at h) (fun u h => by simp at h)
    exact run_append_nothing W 33 33 ty 40 i0 Tryz.underlying33 hi0 AX LX.length CX hle _ hs
  | cons y r =>
    rcases hY with hY | ⟨b, o, rfl, hlt, hc⟩
    · have := congrArg List.length hY
      rw [flatE_length] at this
      simp at this
    · obtain ⟨g, cap, w', hr, h1, h2, -⟩ := run_append_lies (P := Tryz.prog) (w := W) 33 ty base 40 i0 _ 7 56 Tryz.underlying33 hi0 hz0 hz1 hz2 rfl (by decide) (.slice AX LX.length CX) LX.length (flatE LX) hX ⟨b, o, none⟩ (y :: r).length CY (flatE (y :: r)) (flatE_length _) (fun j u h => by rw [Addr.add_lit]; exact hc j u h) (flatE_one _) (by simp) (by unfold maxLen; omega) (by omega) hb W.heap.size rfl
      exact ⟨_, cap, w', hr, h1, h2⟩

theorem wpList_append_run {ops : Array Oper} {rest : List Oper} {op : Oper} {a : Act} {Q : Exit → Act → World → Prop} (hg : Region.wanted op (yielded ops a.tmps) = true) (s x : Operand) (t : TypeId)
    (ho : op.op = .call { callee := .builtin .append, args := #[s, x], argTypes := #[t, t] }) {v y v' : Value} {W w' : World} (hs : a.eval s = v) (hx : a.eval x = y) (hr : (Builtin.append_ #[t, t] op.type #[v, y]).run Tryz.prog W = .ok v' w')
    (h : wpList Tryz.prog ops Q rest (a.put op.dst v') w') : wpList Tryz.prog ops Q (op :: rest) a W := by
  show if _ then _ else _
  rw [if_pos hg]
  left
  unfold Oper.wp execOp
  simp only [ho, resolve, invoke, builtin, Sem.run_bind, Sem.run_pure, Result.andThen_ok, List.map_toArray, List.map_cons, List.map_nil, hs, hx, hr]
  exact h

set_option maxRecDepth 20000 in
set_option maxHeartbeats 4000000 in
theorem treesRange_walk (A : Option Addr) (C : Nat) (xs : List Rw) (a b c : Int) (w : World) (hZ : SzAt w) (hA : RowAt w.heap.size w A (flatR xs)) (_ : xs.length * 32 ≤ 140737488351232) (hwf : ∀ x ∈ xs, x.wf) (wa : (Lit.int .i64 a).wf = true) (wb : (Lit.int .i64 b).wf = true) (wc : (Lit.int .i64 c).wf = true) :
    Calls Tryz.prog 3 #[.slice A xs.length C, .int .i64 a, .int .i64 b, .int .i64 c] w fun e w' => e = .returned (.bool true) ∧ Below w.heap.size w w' := by
  have TT := hideC (tells_any w hZ)
  have KT := hideC fun W (hW : RowAt W.heap.size W A (flatR xs)) => ktree_key A C xs 120 W hW hwf (by decide) (by decide)
  have HA := hideC hA
  have ba := i64_wf wa
  have bb := i64_wf wb
  have bc := i64_wf wc
  have PA := hideC fun W => picked_any a 130 W ba.1 ba.2 (by decide) (by decide)
  have PB := hideC fun W => picked_any b 130 W bb.1 bb.2 (by decide) (by decide)
  have PC := hideC fun W => picked_any c 130 W bc.1 bc.2 (by decide) (by decide)
  have qa := pick_bd a (show (0 : Int) < 130 by decide)
  have qb := pick_bd b (show (0 : Int) < 130 by decide)
  have qc := pick_bd c (show (0 : Int) < 130 by decide)
  obtain ⟨n0, hn0⟩ : ∃ n0, pick a 130 = n0 := ⟨_, rfl⟩
  obtain ⟨n1, hn1⟩ : ∃ n1, pick b 130 = n1 := ⟨_, rfl⟩
  obtain ⟨n2, hn2⟩ : ∃ n2, pick c 130 = n2 := ⟨_, rfl⟩
  rw [hn0] at PA qa
  rw [hn1] at PB qb
  rw [hn2] at PC qc
  have QQ := hideC (And.intro qa (And.intro qb qc))
  clear hn0 hn1 hn2 hZ hA hwf ba bb bc wa wb wc qa qb qc
  go_enter Tryz.func3, Tryz.ntmps3
  have P0 : True := trivial
  go_upto_region 6 with (first
    | (go_at_call 7; refine TT.out.mono ?_; rintro e w1 ⟨rfl, hb1⟩; have HB1 := hideC hb1; clear hb1)
    | (go_at_call 8; refine (KT.out _ (HA.out.up HB1.out)).mono ?_; rintro e w2 ⟨g, C2, qs, root, mb, n, l, rfl, hn2, hk2, hm2, hb2, hkey⟩; have HB2 := hideC (nextB HB1.out (Nat.le_refl _) hb2); have RG := hideC fun (W : World) lo hi hW => all_rg g C2 root lo hi qs l W hW hk2; have HN2 := hideC hn2; have hl2 := keys_few (many := 120) hk2.inc hkey; have HI := hideC hk2.inc; clear hn2 hk2 hm2 hb2 hkey)
    | (go_at_call 9; have kk := P2; clear kk; refine (PC.out _).mono ?_; rintro e wz ⟨rfl, hwz⟩; subst wz)
    | (go_at_call 9; have kk := P1; clear kk; refine (PB.out _).mono ?_; rintro e wy ⟨rfl, hwy⟩; subst wy; have P2 : True := trivial)
    | (go_at_call 9; have kk := P0; clear kk; refine (PA.out _).mono ?_; rintro e wx ⟨rfl, hwx⟩; subst wx; have P1 : True := trivial)
    | (go_at_call 10; refine (sort3 (w2.heap.size + 1) n0 n1 n2 _ 3 (rangeNums _ _ _ _ _)).mono ?_; rintro e w3 ⟨rfl, ⟨m0, m1, m2, h01, h12, hP, k0, k1, k2⟩, hlt3, hb3⟩; have TA := hideC (TrA.start HB2.out HN2.out hb3 k0 k1 k2 hlt3); have HM := hideC (And.intro h01 h12); clear k0 k1 k2 hb3 hP h01 h12))
  have t0 := TA.out.bt.cell 0
  have t1 := TA.out.bt.cell 1
  simp only [List.getElem?_cons_zero, List.getElem?_cons_succ] at t0 t1
  have j0 := TA.out.c0
  have j1 := TA.out.c1
  have j2 := TA.out.c2
  have l0 := TA.out.bt.lt
  have l1 := TA.out.ln
  go_cut [12, 13] (fun va vb wc => vb = .int .i64 0 ∧ (∃ (A : Option Addr) (C : Nat), va = .slice A (l.filter (inR m0 m1)).length C ∧ (A = none → C = 0) ∧ RowAt wc.heap.size wc A (flatE (l.filter (inR m0 m1))) ∧ wc.ownsRow w3.heap.size 40 7 (.slice A (l.filter (inR m0 m1)).length C) (l.filter (inR m0 m1)).length (flatE (l.filter (inR m0 m1)))) ∧ Below w3.heap.size w3 wc)
  case first =>
    go_region_held3 (fun w' => w'.cell? ⟨w2.heap.size, 0, none⟩ = some (.slice (some ⟨g, 0, none⟩) qs.length C2) ∧ w'.cell? ⟨w2.heap.size, 1, none⟩ = some (.int .i64 root) ∧ w'.cell? ⟨w2.heap.size + 1, 0, none⟩ = some (.int .i64 m0) ∧ w'.cell? ⟨w2.heap.size + 1, 1, none⟩ = some (.int .i64 m1)) (go_keep)
      (first
        | (go_at_call 11; refine (RG.out _ _ _ (TA.out.nt.up ((Below.refl _ _).drew))).mono ?_; rintro e w4 ⟨⟨A4, C4, rfl, hn4, hr4, ho4⟩, hb4⟩; have T4 := (bcells (hb4.mono (show w3.heap.size ≤ _ by simp))).1; have HB4 := hideC (((Below.refl w3.heap.size w3).drew).trans (hb4.mono (by simp))); have HA4 := hideC (And.intro hn4 (And.intro hr4 ho4)); clear hb4 hn4 hr4 ho4))
    go_wp2
    go_meet
    case rel => exact ⟨rfl, ⟨A4, C4, rfl, HA4.out.1, HA4.out.2.1, HA4.out.2.2⟩, HB4.out⟩
  case rest =>
    obtain ⟨rfl, ⟨AX, CX, rfl, hnX, hrX, hoX⟩, hcut⟩ := hcut
    obtain ⟨wX, hq⟩ : ∃ wq, wq = wc := ⟨_, rfl⟩
    subst hq
    have zX := hideC hcut.size
    have TX := hideC (TA.out.next hcut)
    have HX := hideC (And.intro hnX (And.intro hrX hoX))
    have LXo := hideC hoX.lt
    clear hnX hrX hoX hcut t0 t1 j0 j1 j2 l0 l1
    go_upto_region 7 with fail
    have t0 := TX.out.bt.cell 0
    have t1 := TX.out.bt.cell 1
    simp only [List.getElem?_cons_zero, List.getElem?_cons_succ] at t0 t1
    have j0 := TX.out.c0
    have j1 := TX.out.c1
    have j2 := TX.out.c2
    have l0 := TX.out.bt.lt
    have l1 := TX.out.ln
    go_cut [14, 15] (fun va vb wc => vb = .int .i64 0 ∧ (∃ (A : Option Addr) (C : Nat), va = .slice A (l.filter (inR m1 m2)).length C ∧ (A = none → C = 0) ∧ RowAt wc.heap.size wc A (flatE (l.filter (inR m1 m2))) ∧ wc.ownsRow wX.heap.size 40 7 (.slice A (l.filter (inR m1 m2)).length C) (l.filter (inR m1 m2)).length (flatE (l.filter (inR m1 m2)))) ∧ Below wX.heap.size wX wc)
    case first =>
      go_region_held3 (fun w' => w'.cell? ⟨w2.heap.size, 0, none⟩ = some (.slice (some ⟨g, 0, none⟩) qs.length C2) ∧ w'.cell? ⟨w2.heap.size, 1, none⟩ = some (.int .i64 root) ∧ w'.cell? ⟨w2.heap.size + 1, 1, none⟩ = some (.int .i64 m1) ∧ w'.cell? ⟨w2.heap.size + 1, 2, none⟩ = some (.int .i64 m2)) (go_keep)
        (first
          | (go_at_call 11; refine (RG.out _ _ _ (TX.out.nt.up ((Below.refl _ _).drew))).mono ?_; rintro e w4 ⟨⟨A4, C4, rfl, hn4, hr4, ho4⟩, hb4⟩; have T4 := (bcells (hb4.mono (show wX.heap.size ≤ _ by simp))).1; have HB4 := hideC (((Below.refl wX.heap.size wX).drew).trans (hb4.mono (by simp))); have HA4 := hideC (And.intro hn4 (And.intro hr4 ho4)); clear hb4 hn4 hr4 ho4))
      go_wp2
      go_meet
      case rel => exact ⟨rfl, ⟨A4, C4, rfl, HA4.out.1, HA4.out.2.1, HA4.out.2.2⟩, HB4.out⟩
    case rest =>
      obtain ⟨rfl, ⟨AY, CY, rfl, hnY, hrY, hoY⟩, hcut⟩ := hcut
      obtain ⟨wY, hq⟩ : ∃ wq, wq = wc := ⟨_, rfl⟩
      subst hq
      have zY := hideC hcut.size
      have TY := hideC (TX.out.next hcut)
      have HY := hideC (And.intro hnY (And.intro hrY hoY))
      have HX := hideC (And.intro HX.out.1 (And.intro (HX.out.2.1.up hcut) (own_next HX.out.2.2 hcut)))
      clear hnY hrY hoY hcut t0 t1 j0 j1 j2 l0 l1
      go_upto_region 8 with fail
      have t0 := TY.out.bt.cell 0
      have t1 := TY.out.bt.cell 1
      simp only [List.getElem?_cons_zero, List.getElem?_cons_succ] at t0 t1
      have j0 := TY.out.c0
      have j1 := TY.out.c1
      have j2 := TY.out.c2
      have l0 := TY.out.bt.lt
      have l1 := TY.out.ln
      go_cut [16, 17] (fun va vb wc => vb = .int .i64 0 ∧ (∃ (A : Option Addr) (C : Nat), va = .slice A (l.filter (inR m0 m2)).length C ∧ (A = none → C = 0) ∧ RowAt wc.heap.size wc A (flatE (l.filter (inR m0 m2))) ∧ wc.ownsRow wY.heap.size 40 7 (.slice A (l.filter (inR m0 m2)).length C) (l.filter (inR m0 m2)).length (flatE (l.filter (inR m0 m2)))) ∧ Below wY.heap.size wY wc)
      case first =>
        go_region_held3 (fun w' => w'.cell? ⟨w2.heap.size, 0, none⟩ = some (.slice (some ⟨g, 0, none⟩) qs.length C2) ∧ w'.cell? ⟨w2.heap.size, 1, none⟩ = some (.int .i64 root) ∧ w'.cell? ⟨w2.heap.size + 1, 0, none⟩ = some (.int .i64 m0) ∧ w'.cell? ⟨w2.heap.size + 1, 2, none⟩ = some (.int .i64 m2)) (go_keep)
          (first
            | (go_at_call 11; refine (RG.out _ _ _ (TY.out.nt.up ((Below.refl _ _).drew))).mono ?_; rintro e w4 ⟨⟨A4, C4, rfl, hn4, hr4, ho4⟩, hb4⟩; have T4 := (bcells (hb4.mono (show wY.heap.size ≤ _ by simp))).1; have HB4 := hideC (((Below.refl wY.heap.size wY).drew).trans (hb4.mono (by simp))); have HA4 := hideC (And.intro hn4 (And.intro hr4 ho4)); clear hb4 hn4 hr4 ho4))
        go_wp2
        go_meet
        case rel => exact ⟨rfl, ⟨A4, C4, rfl, HA4.out.1, HA4.out.2.1, HA4.out.2.2⟩, HB4.out⟩
      case rest =>
        obtain ⟨rfl, ⟨AZ, CZ, rfl, hnZ, hrZ, hoZ⟩, hcut⟩ := hcut
        obtain ⟨wZ, hq⟩ : ∃ wq, wq = wc := ⟨_, rfl⟩
        subst hq
        have zZ := hideC hcut.size
        have TZ := hideC (TY.out.next hcut)
        have HZ := hideC (And.intro hnZ (And.intro hrZ hoZ))
        have HX := hideC (And.intro HX.out.1 (And.intro (HX.out.2.1.up hcut) (own_next HX.out.2.2 hcut)))
        have HY := hideC (And.intro HY.out.1 (And.intro (HY.out.2.1.up hcut) (own_next HY.out.2.2 hcut)))
        clear hnZ hrZ hoZ hcut t0 t1 j0 j1 j2 l0 l1
        go_upto_region 9 with fail
        have t0 := TZ.out.bt.cell 0
        have t1 := TZ.out.bt.cell 1
        simp only [List.getElem?_cons_zero, List.getElem?_cons_succ] at t0 t1
        have j0 := TZ.out.c0
        have j1 := TZ.out.c1
        have j2 := TZ.out.c2
        have l0 := TZ.out.bt.lt
        have l1 := TZ.out.ln
        go_cut [18, 19] (fun va vb wc => vb = .int .i64 0 ∧ (∃ (A : Option Addr) (C : Nat), va = .slice A (l.filter (inR m2 m0)).length C ∧ (A = none → C = 0) ∧ RowAt wc.heap.size wc A (flatE (l.filter (inR m2 m0))) ∧ wc.ownsRow wZ.heap.size 40 7 (.slice A (l.filter (inR m2 m0)).length C) (l.filter (inR m2 m0)).length (flatE (l.filter (inR m2 m0)))) ∧ Below wZ.heap.size wZ wc)
        case first =>
          go_region_held3 (fun w' => w'.cell? ⟨w2.heap.size, 0, none⟩ = some (.slice (some ⟨g, 0, none⟩) qs.length C2) ∧ w'.cell? ⟨w2.heap.size, 1, none⟩ = some (.int .i64 root) ∧ w'.cell? ⟨w2.heap.size + 1, 2, none⟩ = some (.int .i64 m2) ∧ w'.cell? ⟨w2.heap.size + 1, 0, none⟩ = some (.int .i64 m0)) (go_keep)
            (first
              | (go_at_call 11; refine (RG.out _ _ _ (TZ.out.nt.up ((Below.refl _ _).drew))).mono ?_; rintro e w4 ⟨⟨A4, C4, rfl, hn4, hr4, ho4⟩, hb4⟩; have T4 := (bcells (hb4.mono (show wZ.heap.size ≤ _ by simp))).1; have HB4 := hideC (((Below.refl wZ.heap.size wZ).drew).trans (hb4.mono (by simp))); have HA4 := hideC (And.intro hn4 (And.intro hr4 ho4)); clear hb4 hn4 hr4 ho4))
          go_wp2
          go_meet
          case rel => exact ⟨rfl, ⟨A4, C4, rfl, HA4.out.1, HA4.out.2.1, HA4.out.2.2⟩, HB4.out⟩
        case rest =>
          obtain ⟨rfl, ⟨AN, CN, rfl, hnN, hrN, hoN⟩, hcut⟩ := hcut
          obtain ⟨wN, hq⟩ : ∃ wq, wq = wc := ⟨_, rfl⟩
          subst hq
          have zN := hideC hcut.size
          have TN := hideC (TZ.out.next hcut)
          have HN := hideC (And.intro hnN (And.intro hrN hoN))
          have HX := hideC (And.intro HX.out.1 (And.intro (HX.out.2.1.up hcut) (own_next HX.out.2.2 hcut)))
          have HY := hideC (And.intro HY.out.1 (And.intro (HY.out.2.1.up hcut) (own_next HY.out.2.2 hcut)))
          have HZ := hideC (And.intro HZ.out.1 (And.intro (HZ.out.2.1.up hcut) (own_next HZ.out.2.2 hcut)))
          clear hnN hrN hoN hcut t0 t1 j0 j1 j2 l0 l1
          have e2 := range_two (l := l) HI.out HM.out.1 HM.out.2
          have e0 := range_none l (Int.le_trans HM.out.1 HM.out.2)
          rw [e0] at HN
          have hmz : ∀ y ∈ l.filter (inR m0 m2), m0 ≤ y.key ∧ y.key < m2 := fun y hy => by
            have h := (List.mem_filter.1 hy).2
            simpa [inR] using h
          have hz2 : (l.filter (inR m0 m2)).length ≤ l.length := List.length_filter_le _ _
          obtain ⟨LX, hLX⟩ : ∃ L, l.filter (inR m0 m1) = L := ⟨_, rfl⟩
          obtain ⟨LY, hLY⟩ : ∃ L, l.filter (inR m1 m2) = L := ⟨_, rfl⟩
          obtain ⟨LZ, hLZ⟩ : ∃ L, l.filter (inR m0 m2) = L := ⟨_, rfl⟩
          rw [hLX, hLY, hLZ] at e2
          rw [hLX] at HX LXo
          rw [hLY] at HY
          rw [hLZ] at HZ hmz hz2
          rw [hLX, hLY, hLZ, e0]
          have E2 := hideC e2
          have MZ := hideC hmz
          clear hLX hLY hLZ e0 e2 hmz
          go_wp2_with fail
          go_loopw [84] (fun vi wr => ∃ i : Nat, i ≤ LZ.length ∧ vi = .int .i64 (i : Int) ∧ Below wN.heap.size wN wr) (fun vi _ => LZ.length - (intOf vi).toNat)
          case atStart => exact ⟨0, Nat.zero_le _, rfl, Below.refl _ _⟩
          case round =>
            obtain ⟨i, hi, rfl, hbr⟩ := hrel
            have HBr := hideC hbr
            have TR := hideC (TN.out.next hbr)
            by_cases hlt : i < LZ.length
            · obtain ⟨rb, ro, rfl, hrl, c0, c1, c2, c3, c4, c5, c6⟩ := (HZ.out.2.1.below hbr (Nat.le_refl _)).en hlt
              have hyM := MZ.out _ (List.getElem_mem hlt)
              obtain ⟨y, hy⟩ : ∃ y, LZ[i] = y := ⟨_, rfl⟩
              rw [hy] at c0 c1 c2 c3 c4 c5 c6 hyM
              have g1 : ¬ y.key < m0 := by omega
              have g2 : ¬ m2 ≤ y.key := by omega
              have i0 : (0 : Int) ≤ (i : Int) := by omega
              have i1 : (i : Int) < (LZ.length : Int) := by omega
              clear hy hyM
              go_upto_region 13 with fail
              have XD := hideC (rowL_alloc wr [.int .i64 y.key, .int .i64 y.c, .int .i64 y.s, .int .i64 y.lo, .int .i64 y.hi, .int .i64 y.t, .int .i64 y.l] 40)
              have BD := hideC ((Below.refl wr.heap.size wr).alloc (Nat.le_refl _) (.cells #[.int .i64 y.key, .int .i64 y.c, .int .i64 y.s, .int .i64 y.lo, .int .i64 y.hi, .int .i64 y.t, .int .i64 y.l] 40))
              obtain ⟨wd, hwd⟩ : ∃ wd, wd = wr.alloc (.cells #[.int .i64 y.key, .int .i64 y.c, .int .i64 y.s, .int .i64 y.lo, .int .i64 y.hi, .int .i64 y.t, .int .i64 y.l] 40) := ⟨_, rfl⟩
              rw [← hwd] at XD BD ⊢
              clear hwd
              have d0 := XD.out.cell 0
              simp only [List.getElem?_cons_zero] at d0
              have TD := hideC (TR.out.next BD.out)
              have j0 := TD.out.c0
              have j2 := TD.out.c2
              clear c0 c1 c2 c3 c4 c5 c6
              go_quiet (fail)
              go_wp2
              go_roundw
              case rel =>
                go_light
                exact ⟨i + 1, by omega, by go_num, nextB hbr (Nat.le_refl _) (below_drewN BD.out _)⟩
              case measure => simp [intOf]; omega
            · obtain rfl : i = LZ.length := by omega
              have hni : ¬ ((LZ.length : Int) < (LZ.length : Int)) := by omega
              have OX := hideC (own_next HX.out.2.2 hbr)
              have RZ := hideC (own_next HZ.out.2.2 hbr)
              have s0 := TA.out.below.size
              have sX := zX.out
              have sY := zY.out
              have sZ := zZ.out
              have sN := zN.out
              have sR := hbr.size
              have eL := congrArg List.length E2.out
              rw [List.length_append] at eL
              obtain ⟨A9, C9, w9, hr9, ho9, hg9⟩ := append_rows (ty := 33) OX.out (HY.out.2.1.below hbr (Nat.le_refl _) |>.mono hbr.size) HY.out.1 (by omega) (by omega)
              have HR9 := hideC hr9
              have HO9 := hideC ho9
              have B9 : Hid (Below w.heap.size w w9) := TR.out.below.grown hg9 (by omega) fun k hk => by
                have := (OX.out.lt k hk).1
                omega
              have RZ9 : Hid (RowAt w9.heap.size w9 AZ (flatE LZ)) := by
                have h := own_of_block RZ.out (w' := w9) fun k hk => hg9.block k (RZ.out.lt k hk).2 fun e => by
                  have q1 := (RZ.out.lt k hk).1
                  have q2 := (LXo.out k e.symm).2
                  omega
                obtain ⟨A1, C1, he, -, -, -, hrow⟩ := own_row h
                cases he
                exact hrow
              have EQ : Hid (Calls Tryz.prog 12 #[.slice A9 (LX.length + LY.length) C9, .slice AZ LZ.length CZ] w9 fun e w' => e = .returned (.bool true) ∧ Below w9.heap.size w9 w') := by
                obtain ⟨A1, C1, he, -, -, -, hrow⟩ := own_row ho9
                cases he
                rw [← flatE_append] at hrow
                have h := equalE_any A9 AZ C9 CZ (LX ++ LY) LZ w9 hrow RZ9.out (by rw [List.length_append]; omega) (by omega)
                rw [List.length_append, show decide (LX ++ LY = LZ) = true by simpa using E2.out] at h
                exact h
              clear hr9 ho9 hg9 sX sY sZ sN sR s0 eL
              go_wp2_with (first
                | (at_builtin; refine wpList_append_run (v := .slice AX LX.length CX) (y := .slice AY LY.length CY) (by rfl) (.tmp 118) (.tmp 119) 33 rfl rfl rfl HR9.out ?_)
                | (go_at_call 12; refine EQ.out.mono ?_; rintro e w10 ⟨rfl, hb10⟩; have HB10 := hideC hb10; clear hb10))
              go_ret
              exact ⟨rfl, nextB B9.out (Nat.le_refl _) HB10.out⟩
set_option maxRecDepth 100000 in
theorem treesRange_lifted (os : Os) (started : os.Started) (H : Type) (enc : TypeId × Value → H) :
    ReturnsInHanded {} Tryz.checked os 3 .any (fun w args => (Rows.treesRangeSpec.pre enc Tryz.prog Tryz.f3 [] false w args ∧ laidMetH Tryz.prog laidSz w) ∧ sizedMet enc Tryz.prog Tryz.f3 (OpenSpec.ofChange Rows.treesRangeSpec) false w args)
      (Rows.treesRangeSpec.post enc Tryz.prog Tryz.f3 false true false false) := by
  refine returnsInHanded_of_change_and (C := Tryz.checked) (X := fun w _ => laidMetH Tryz.prog laidSz w) (fun _ _ _ hh h => h.of_heap hh) own started (by kernel_rfl) Tryz.func3
    (ChangeSpec.witness_at (enc := enc) (C := Tryz.checked) (os := os) (X := fun w _ => laidMetH Tryz.prog laidSz w) false (World.laidAll Tryz.prog os laidSz) #[.slice none 0 0, .int .i64 0, .int .i64 0, .int .i64 0] 8 (World.laidAll_os _ _ _) (by kernel_rfl) (by kernel_rfl) (by kernel_rfl) (by kernel_rfl) (by kernel_rfl)
      (by rw [MakeChecks.laidMetH_plain _ _ _ (by kernel_rfl)]; exact laidMet_laidAll _ (by kernel_rfl) (by kernel_rfl))) ?_
  intro W base args ds gs before hval0 hW _ hsz0 hL _
  have hval : ∀ (j : Nat) t v, Tryz.f3.params[j]? = some t → args[j]? = some v → Value.okWide Tryz.prog W .any base t v := hval0
  have hW' := hW
  obtain ⟨p, q, hA0, hV, rfl, hfz, hnd⟩ := hW
  have hA : DataW.TrodAll enc Tryz.prog W 0 (fun _ => true) true Tryz.f3.params.toList args.toList ds p := hA0
  have hsz : (DataW.weightsEach Tryz.prog (Tryz.f3.params.toList ++ Rows.treesRangeSpec.plain.varTypes Tryz.prog) (ds ++ gs)).all (· ≤ reachBytes) = true := hsz0
  rw [Tryz.params3] at hA hval hsz
  obtain ⟨v0, vs0, d0, ds0, p0, q0, hargs, rfl, rfl, h0, r0⟩ := trodAll_cons hA
  obtain ⟨v1, vs1, d1, ds1, p1, q1, rfl, rfl, rfl, h1, r1⟩ := trodAll_cons r0
  obtain ⟨v2, vs2, d2, ds2, p2, q2, rfl, rfl, rfl, h2, r2⟩ := trodAll_cons r1
  obtain ⟨v3, vs3, d3, ds3, p3, q3, rfl, rfl, rfl, h3, r3⟩ := trodAll_cons r2
  obtain ⟨rfl, rfl, rfl⟩ := trodAll_nil r3
  obtain rfl : args = #[v0, v1, v2, v3] := by cases args; simp_all
  obtain ⟨rfl, rfl⟩ := trodVars_none hV
  have k0 := h0
  have lt0 : ∀ x ∈ p0, x.block < W.heap.size := by obtain ⟨m, hm⟩ := k0; exact DataW.trod_lt m _ _ _ hm
  obtain ⟨A0, C0, xs0, rfl, hR0, hz0, hw0⟩ := open_rawsArg (hval 0 22 v0 rfl rfl) h0 (fun n hn => by
    have := List.all_eq_true.1 hsz n (DataW.weights_mem_each (j := 0) (t := 22) rfl rfl n hn)
    exact of_decide_eq_true this)
  have k1 := h1
  have lt1 : ∀ x ∈ p1, x.block < W.heap.size := by obtain ⟨m, hm⟩ := k1; exact DataW.trod_lt m _ _ _ hm
  obtain ⟨a1, rfl, w1⟩ : ∃ n : Int, v1 = .int .i64 n ∧ (Lit.int .i64 n).wf = true := by
    obtain ⟨n, h, _, _, w⟩ := open_int Tryz.underlying3 (hval 1 3 v1 rfl rfl) h1; exact ⟨n, h, w⟩
  have k2 := h2
  have lt2 : ∀ x ∈ p2, x.block < W.heap.size := by obtain ⟨m, hm⟩ := k2; exact DataW.trod_lt m _ _ _ hm
  obtain ⟨a2, rfl, w2⟩ : ∃ n : Int, v2 = .int .i64 n ∧ (Lit.int .i64 n).wf = true := by
    obtain ⟨n, h, _, _, w⟩ := open_int Tryz.underlying3 (hval 2 3 v2 rfl rfl) h2; exact ⟨n, h, w⟩
  have k3 := h3
  have lt3 : ∀ x ∈ p3, x.block < W.heap.size := by obtain ⟨m, hm⟩ := k3; exact DataW.trod_lt m _ _ _ hm
  obtain ⟨a3, rfl, w3⟩ : ∃ n : Int, v3 = .int .i64 n ∧ (Lit.int .i64 n).wf = true := by
    obtain ⟨n, h, _, _, w⟩ := open_int Tryz.underlying3 (hval 3 3 v3 rfl rfl) h3; exact ⟨n, h, w⟩
  clear hA0 hval0 hsz0
  refine (treesRange_walk A0 C0 xs0 a1 a2 a3 W (szAt_of hL) hR0 hz0 hw0 w1 w2 w3).mono fun e W' ⟨he, bel⟩ => ?_
  subst he
  exact ⟨_, rfl, _, _, _, [], _, [], hW', trodAll_mk1 (shut_bool Tryz.underlying4 _), (trodAll_cons_mk (Below.trod laidOut (by kernel_rfl) (of_decide_eq_true (by kernel_rfl)) k0 bel lt0) (trodAll_cons_mk (Below.trod laidOut (by kernel_rfl) (of_decide_eq_true (by kernel_rfl)) k1 bel lt1) (trodAll_cons_mk (Below.trod laidOut (by kernel_rfl) (of_decide_eq_true (by kernel_rfl)) k2 bel lt2) (trodAll_cons_mk (Below.trod laidOut (by kernel_rfl) (of_decide_eq_true (by kernel_rfl)) k3 bel lt3) trodAll_mk0)))), rfl, bel.frame _, fun h => by cases h⟩

theorem treesRange_holds : Rows.TreesRangeSaid :=
  OpenClaim.holds_of_wide 3 Tryz.f3 rfl rfl rfl rfl rfl rfl rfl ⟨rfl, rfl, rfl, rfl, rfl⟩ rfl rfl rfl rfl rfl (by kernel_rfl) Tryz.func3 (by kernel_rfl)
    (of_decide_eq_true (by kernel_rfl)) (by unfold Func.isWrapper; first | (rw [if_pos (by decide +kernel)]; kernel_rfl) | (rw [if_neg (by decide +kernel)]; exact ⟨rfl, rfl⟩))
    (fun os started H enc _ => treesRange_lifted os started H enc)

theorem treesRangeCard_holds : Rows.TreesRangeCardSaid :=
  Claim7.holds_tied_plain_at .later [] [.data] true (true, "1cef10210324de520e3d696ebb71de6e12924da4b5318bc055a49091c079c855") false treesRange_holds (fun _ h => by cases h) (by kernel_rfl) (fun _ h => by cases h) treesRange_row_tie rfl ⟨rfl, rfl⟩ (by kernel_rfl) rfl
    (fun f fn hf hfn => by
      obtain rfl : f = 3 := Option.some.inj ((show Tryz.prog.funcNamed "winnower/winnowerkeep.TreesRange" = some 3 by kernel_rfl).symm.trans hf) |>.symm
      obtain rfl : fn = Tryz.f3 := (Option.some.inj (Tryz.func3.symm.trans hfn)).symm
      exact ⟨by kernel_rfl, fun j t ht => by
        rw [Tryz.params3] at ht
        have hm : t ∈ [22, 3, 3, 3] := by simpa using Array.mem_of_getElem? ht
        have hall : ([22, 3, 3, 3].all fun u => !Tryz.prog.wantsStandIn u) = true := by kernel_rfl
        exact (show Tryz.prog.wantsStandIn t = false by simpa using List.all_eq_true.1 hall t hm)⟩)
    (by kernel_rfl)
#print axioms treesRangeCard_holds
end Go.Proofs.YtlojfgdpmaigmacGreatDoor
