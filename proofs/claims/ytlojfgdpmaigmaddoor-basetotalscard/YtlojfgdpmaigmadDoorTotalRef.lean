/- The document's total. -/
import Derived.Test.YtlojfgdpmaigmadDoorMergeAll
import Derived.Test.YtlojfgdpmaigmadDoorRowsRef
namespace Go.Proofs.YtlojfgdpmaigmadDoor
open Go.RowKit Plain

/-- The load of what is known so far: by a name (its region stores there in the end). -/
def ldTot : Op := .load 38 (.tmp 13)
theorem ldTot_fold : Op.load 38 (.tmp 13) = ldTot := rfl
theorem ldTot_open : ldTot = Op.load 38 (.tmp 13) := rfl
attribute [local go_sem] ldTot_open

theorem regionT_fold {P : Program} {id : Nat} {ops ops' : Array Oper} {Q : Exit → Act → World → Prop} {a : Act} {w : World} (h : ops = ops') (k : (Code.region id ops' true).wp P Q a w) : (Code.region id ops true).wp P Q a w := h ▸ k

structure ToA (w wr : World) (A : Option Addr) (C : Nat) (ss : List ByteArray) (t0 t1 t2 : TR) (f : Int) (ob : Nat) (r : Ru) : Prop where
  below : Below w.heap.size w wr
  bx : RowL wr w.heap.size 28 (baseV A C ss t0 t1 t2 f)
  res : RowL wr (w.heap.size + 1) 38 (ruV zro)
  out : RowL wr ob 38 (ruV r)
  ge : w.heap.size + 2 ≤ ob

theorem ToA.next {w wr w' : World} {A : Option Addr} {C : Nat} {ss : List ByteArray} {t0 t1 t2 : TR} {f : Int} {ob : Nat} {r : Ru} (h : ToA w wr A C ss t0 t1 t2 f ob r) (hb : Below wr.heap.size wr w') : ToA w w' A C ss t0 t1 t2 f ob r :=
  ⟨nextB h.below (Nat.le_refl _) hb, h.bx.below hb h.bx.lt, h.res.below hb h.res.lt, h.out.below hb h.out.lt, h.ge⟩

theorem ToA.start {w w2 : World} {A : Option Addr} {C : Nat} {ss : List ByteArray} {t0 t1 t2 : TR} {f : Int} (hb : Below w.heap.size w w2) (hx : RowL w2 w.heap.size 28 (baseV A C ss t0 t1 t2 f)) (hr : RowL w2 (w.heap.size + 1) 38 (ruV zro)) :
    ToA w (w2.alloc (.cells #[.int .i64 0, .int .i64 0, .int .i64 0, .int .i64 0, .int .i64 0, .int .i64 0] 38)) A C ss t0 t1 t2 f w2.heap.size zro := by
  have b1 : Below w2.heap.size w2 (w2.alloc (.cells #[.int .i64 0, .int .i64 0, .int .i64 0, .int .i64 0, .int .i64 0, .int .i64 0] 38)) := (Below.refl _ _).alloc (Nat.le_refl _) _
  have hl := hr.lt
  exact ⟨nextB hb (Nat.le_refl _) b1, hx.below b1 hx.lt, hr.below b1 hr.lt, rowL_alloc w2 (ruV zro) 38, by omega⟩

theorem ToA.turn {w wr : World} {A : Option Addr} {C : Nat} {ss : List ByteArray} {t0 t1 t2 : TR} {f : Int} {ob : Nat} {r r' : Ru} (h : ToA w wr A C ss t0 t1 t2 f ob r) : ToA w (setB6 wr ob r') A C ss t0 t1 t2 f ob r' := by
  have hg := h.ge
  exact ⟨setB6_below h.below (by omega) _, h.bx.of_block (setB6_block _ _ _ _ _ _ _ _ (by omega)), h.res.of_block (setB6_block _ _ _ _ _ _ _ _ (by omega)), (((((h.out.set 0 _).set 1 _).set 2 _).set 3 _).set 4 _).set 5 _, hg⟩

theorem tot_selT {l : List En} {i : Nat} {p a b : Int} (h : i < l.length) : tot ((l.take (i + 1)).filter (selB p a b)) = if selB p a b l[i] = true then stepK (tot ((l.take i).filter (selB p a b))) l[i] else tot ((l.take i).filter (selB p a b)) := by
  rw [List.take_succ_eq_append_getElem h, List.filter_append]
  by_cases hs : selB p a b l[i] = true
  · rw [if_pos hs]
    have : [l[i]].filter (selB p a b) = [l[i]] := by simp [hs]
    rw [this]
    unfold tot
    rw [List.foldl_append]
    rfl
  · rw [if_neg hs]
    have : [l[i]].filter (selB p a b) = [] := by simp [hs]
    rw [this, List.append_nil]

theorem tot_endF {l : List En} {i : Nat} {p a b : Int} (h : (tot ((l.take i).filter (selB p a b))).2 ≠ 0) : tot (l.filter (selB p a b)) = tot ((l.take i).filter (selB p a b)) := by
  have e : l.filter (selB p a b) = (l.take i).filter (selB p a b) ++ (l.drop i).filter (selB p a b) := by rw [← List.filter_append, List.take_append_drop]
  have : tot (l.filter (selB p a b)) = ((l.drop i).filter (selB p a b)).foldl stepK (tot ((l.take i).filter (selB p a b))) := by
    unfold tot
    rw [← List.foldl_append, ← e]
  rw [this]
  exact totS_stuck _ _ h

set_option maxRecDepth 20000 in
set_option maxHeartbeats 4000000 in
theorem totalOf_ok (A : Option Addr) (C : Nat) (ss : List ByteArray) (t0 t1 t2 : TR) (f : Int) (x : ByteArray) (a b p : Int) (L : List En) (w : World) (hS : StrsAt w.heap.size w A ss) (h0 : t0.ok w) (h1 : t1.ok w) (h2 : t2.ok w)
    (hB : baseB ss f (t0.ps.map PN.nd) t0.r (t1.ps.map PN.nd) t1.r (t2.ps.map PN.nd) t2.r = true) (hx : Lib.idxOfS ss x = p) (hp : 0 ≤ p) (hsp : spanB a b = true) (hbk : bookP (t0.ps.map PN.nd) t0.r ss.length f = some L)
    (hlen : L.length ≤ 28000) (hkL : ∀ y ∈ L, 0 ≤ y.key ∧ y.key < 1099511627776) (hg : ∀ y ∈ L, Good y.ru) :
    Calls Tryd.prog 12 #[.agg (baseV A C ss t0 t1 t2 f).toArray, .string x, .int .i64 a, .int .i64 b] w (MaTo (tot (L.filter (selB p a b))) w) := by
  obtain ⟨ha, hab, hb⟩ := spanB_iff.1 hsp
  have b2 : ∀ o1 o2 : Obj, Below w.heap.size w ((w.alloc o1).alloc o2) := fun o1 o2 => ((Below.refl _ _).alloc (Nat.le_refl _) _).alloc (by simp) _
  have con1 : Hid (∀ W, Below w.heap.size w W → Calls Tryd.prog 29 #[.agg (baseV A C ss t0 t1 t2 f).toArray, .string x] W fun e w' => e = .returned (.int .i64 0) ∧ Below W.heap.size W w') := fun W hW => by
    have c := seriesFault_any A C ss t0 t1 t2 f x W (hS.up hW) ⟨h0.1.up hW, h0.2.1, h0.2.2⟩ ⟨h1.1.up hW, h1.2.1, h1.2.2⟩ ⟨h2.1.up hW, h2.2.1, h2.2.2⟩ true hB
    rw [hx] at c
    have hn : ¬ p < 0 := by omega
    simp only [if_true, hn, if_false] at c
    exact c
  have con2 := hideB fun W => in_any a 0 b W
  rw [show inB a 0 b = true from (inB_iff _ _ _).2 ⟨ha, hab⟩] at con2
  have con3 : Hid (∀ W, Below w.heap.size w W → Calls Tryd.prog 19 #[.agg (baseV A C ss t0 t1 t2 f).toArray] W fun e w' => Below W.heap.size W w' ∧ ∃ v, e = .returned (.tuple #[v, .bool true]) ∧ w'.ownsRow W.heap.size 61 7 v L.length (flatE L)) := fun W hW =>
    book_any A C ss t0 t1 t2 f W (h0.1.up hW) _ (fun e w' q1 q2 _ => ⟨q1, q2 L hbk⟩)
  have n1 : Hid (∀ (W : World), StrsAt W.heap.size W A ss → Calls Tryd.prog 30 #[.slice A ss.length C, .string x] W fun e w' => e = .returned (.int .i64 p) ∧ ∃ m, w' = W.drewN m) := fun W hW => by
    have c := placeR_any A C ss x W hW
    rw [hx] at c
    exact c.mono fun _ _ ⟨q1, q2⟩ => ⟨q1, 0, by rw [q2]; rfl⟩
  have RX' := hideB fun o2 : Obj => (rowL_alloc w (baseV A C ss t0 t1 t2 f) 28).of_block (Below.heap_alloc (w.alloc (.cells (baseV A C ss t0 t1 t2 f).toArray 28)) o2 w.heap.size (by simp))
  have RZ' : Hid (∀ o1 : Obj, RowL ((w.alloc o1).alloc (.cells (ruV zro).toArray 38)) (w.heap.size + 1) 38 (ruV zro)) := fun o1 => by
    have k := rowL_alloc (w.alloc o1) (ruV zro) 38
    simpa using k
  have B2' := hideB b2
  have hS' := hideB hS
  obtain ⟨s, hs⟩ : ∃ s, tot (L.filter (selB p a b)) = s := ⟨_, rfl⟩
  rw [hs]
  have HSS := hideB hs
  clear hbk hB h0 h1 h2 hx hS b2 hs
  obtain ⟨A0, C0, p0, r0⟩ := t0
  obtain ⟨A1, C1, p1, r1⟩ := t1
  obtain ⟨A2, C2, p2, r2⟩ := t2
  simp only [baseV] at con1 con3 ⊢
  have hmx : ¬ (1048575 < b) := by omega
  go_enter Tryd.func12, Tryd.ntmps12
  go_wp2_with (first
    | (go_at_call 29; refine (con1.out _ (B2'.out _ _)).mono ?_; rintro e w1 ⟨rfl, hb1⟩; have X1 := hideB ((RX'.out _).below hb1 (RX'.out _).lt); have Z1 := hideB ((RZ'.out _).below hb1 (RZ'.out _).lt); have BB1 := hideB (nextB (B2'.out _ _) (Nat.le_refl _) hb1); have y1 := fun j => X1.out.cell j; simp only [baseV] at y1; clear hb1)
    | (go_at_call 17; refine (con2.out _).mono ?_; rintro e wx ⟨rfl, hwx⟩; subst wx)
    | (go_at_call 19; refine (con3.out _ BB1.out).mono ?_; rintro e w2 ⟨hb2, v2, rfl, ho2⟩; obtain ⟨VA, VC, rfl, -, -, -, hr2⟩ := own_row ho2; have X2 := hideB (X1.out.below hb2 X1.out.lt); have Z2 := hideB (Z1.out.below hb2 Z1.out.lt); have BB2 := hideB (nextB BB1.out (Nat.le_refl _) hb2); clear hb2 ho2))
  have T0 := hideB (ToA.start BB2.out X2.out Z2.out)
  have hS2 := hideB (hS'.out.up BB2.out)
  clear X1 Z1 BB1 y1 con1 con2 con3 RX' RZ' B2' X2 Z2
  go_loopw [10, 14] (fun ve vi wr => ∃ (i : Nat) (r : Ru), i ≤ L.length ∧ ve = .int .i64 0 ∧ vi = .int .i64 i ∧ Hid (tot ((L.take i).filter (selB p a b)) = (r, 0)) ∧ ToA w wr A C ss ⟨A0, C0, p0, r0⟩ ⟨A1, C1, p1, r1⟩ ⟨A2, C2, p2, r2⟩ f w2.heap.size r ∧ Below w2.heap.size w2 wr) (fun _ vi _ => L.length - (intOf vi).toNat)
  case atStart => exact ⟨0, zro, Nat.zero_le _, rfl, rfl, (by show _ = _; rfl), T0.out, (Below.refl _ _).alloc (Nat.le_refl _) _⟩
  case round =>
    obtain ⟨i, r, hi, rfl, rfl, HT, hat, hbr⟩ := hrel
    have hszr := hbr.size
    have HA := hideB hat
    have rb : wr.cell? ⟨w.heap.size, 0, none⟩ = some (.slice A ss.length C) := hat.bx.cell 0
    have lo := hat.out.lt
    clear hat T0
    by_cases hlt : i < L.length
    · obtain ⟨bb, oo, rfl, hbl, c0, c1, c2, c3, c4, c5, c6⟩ := (hr2.below hbr (Nat.le_refl _)).en hlt
      have hky := hkL _ (List.getElem_mem hlt)
      have hgy := hg _ (List.getElem_mem hlt)
      have HN := hideB (tot_selT (p := p) (a := a) (b := b) hlt)
      obtain ⟨y, hy⟩ : ∃ y, L[i] = y := ⟨_, rfl⟩
      rw [hy] at c0 c1 c2 c3 c4 c5 c6 hky HN hgy
      clear hy
      have lbx : bb < wr.heap.size := by omega
      have q0 : (0 : Int) ≤ (i : Int) := by omega
      have q1 : (i : Int) < (L.length : Int) := by omega
      have n2 : Hid (∀ W : World, Calls Tryd.prog 17 #[.int .i64 (y.key % 1048576), .int .i64 a, .int .i64 b] W fun e w' => e = .returned (.bool (inB (y.key % 1048576) a b)) ∧ ∃ m, w' = W.drewN m) := fun W => (in_any (y.key % 1048576) a b W).mono fun _ _ ⟨q1, q2⟩ => ⟨q1, 0, by rw [q2]; rfl⟩
      have hSr := hideB fun m => (hS2.out.up hbr).up (below_drewN (Below.refl _ wr) m)
      by_cases k1 : y.key / 1048576 = p
      · have k1' : (y.key / 1048576 == p) = true := by simpa using k1
        cases k2 : inB (y.key % 1048576) a b with
        | false =>
          have hsel : selB p a b y = false := by
            have q := k2
            simp only [selB, kp, kt, k1, decide_true, Bool.true_and]
            exact q
          rw [k2] at n2
          have H1 : Hid (tot ((L.take (i + 1)).filter (selB p a b)) = (r, 0)) := by
            show _ = _
            rw [HN.out, hsel]
            exact HT.out
          clear HN HT hsel
          go_wp2_with fail
          go_quiet (first | (refine Calls.quiet_of (n1.out _ (hSr.out _))) | (refine Calls.quiet_of (n2.out _)))
          go_wp2_with fail
          go_roundw
          case rel =>
            go_light
            exact ⟨i + 1, r, by omega, rfl, by go_num, H1, HA.out.next (below_drewN (Below.refl _ _) _), below_drewN hbr _⟩
          case measure => simp [intOf]; omega
        | true =>
          have hsel : selB p a b y = true := by
            have q := k2
            simp only [selB, kp, kt, k1, decide_true, Bool.true_and]
            exact q
          rw [k2] at n2
          obtain ⟨m1, mc, hm⟩ : ∃ m1 mc, mrg r y.ru = (m1, mc) := ⟨_, _, rfl⟩
          have con := hideB fun W => rmerge_any r y.ru W
          rw [hm] at con
          simp only at con
          have HM : Hid (tot ((L.take (i + 1)).filter (selB p a b)) = (m1, mc)) := by
            show _ = _
            rw [HN.out, hsel, if_pos rfl, HT.out, ← hm]
            rfl
          clear HN HT hsel hm
          go_wp2_with fail
          go_quiet (first | (refine Calls.quiet_of (n1.out _ (hSr.out _))) | (refine Calls.quiet_of (n2.out _)))
          have hbd := below_drewN hbr nq
          have HAd := hideB (HA.out.next (below_drewN (Below.refl _ wr) nq))
          have d1 : (wr.drewN nq).cell? ⟨bb, oo + i * 7 + 1, none⟩ = some (.int .i64 y.c) := c1
          have d2 : (wr.drewN nq).cell? ⟨bb, oo + i * 7 + 2, none⟩ = some (.int .i64 y.s) := c2
          have d3 : (wr.drewN nq).cell? ⟨bb, oo + i * 7 + 3, none⟩ = some (.int .i64 y.lo) := c3
          have d4 : (wr.drewN nq).cell? ⟨bb, oo + i * 7 + 4, none⟩ = some (.int .i64 y.hi) := c4
          have d5 : (wr.drewN nq).cell? ⟨bb, oo + i * 7 + 5, none⟩ = some (.int .i64 y.t) := c5
          have d6 : (wr.drewN nq).cell? ⟨bb, oo + i * 7 + 6, none⟩ = some (.int .i64 y.l) := c6
          have hds : (wr.drewN nq).heap.size = wr.heap.size := rfl
          clear c0 c1 c2 c3 c4 c5 c6 hSr n2 k1' HA rb
          go_wp2_with fail
          generalize wr.drewN nq = wd at *
          have t1 := fun j => HAd.out.out.cell j
          simp only [ruV] at t1
          have KS : ∀ (W : World) (j k : Nat) (v : Value), (W.setCell ⟨w2.heap.size, j, none⟩ v).cell? ⟨bb, k, none⟩ = W.cell? ⟨bb, k, none⟩ := fun W j k v => World.cell?_setCell_far _ _ _ _ (fun e => by have e' : bb = w2.heap.size := e.symm; omega)
          refine regionT_fold (by simp only [ldTot_fold]; rfl) ?_
          go_region_held3 (fun w' => w'.cell? ⟨bb, oo + i * 7 + 1, none⟩ = some (.int .i64 y.c) ∧ w'.cell? ⟨bb, oo + i * 7 + 2, none⟩ = some (.int .i64 y.s) ∧ w'.cell? ⟨bb, oo + i * 7 + 3, none⟩ = some (.int .i64 y.lo) ∧ w'.cell? ⟨bb, oo + i * 7 + 4, none⟩ = some (.int .i64 y.hi) ∧ w'.cell? ⟨bb, oo + i * 7 + 5, none⟩ = some (.int .i64 y.t) ∧ w'.cell? ⟨bb, oo + i * 7 + 6, none⟩ = some (.int .i64 y.l)) (go_keep)
            (first
              | (go_at_call 34; refine (con.out _).mono ?_; rintro e w5 ⟨rfl, hb5⟩; have H5 := hideB ((HAd.out.next ((Below.refl _ _).drew)).next hb5); have HB5 := hideB (nextB (hbd.drew) (by omega) hb5); have T5 := (bcells hb5).1; have t5 := fun j => H5.out.out.cell j; simp only [ruV] at t5; have f5 := fun j => H5.out.out.frozen j; have l5 := H5.out.out.lt; clear hb5))
          by_cases he : mc = 0
          · subst he
            clear t1 T5 KS con
            go_wp2_with fail
            go_roundw
            case rel =>
              go_light
              exact ⟨i + 1, m1, by omega, rfl, by go_num, HM, H5.out.turn, setB6_below HB5.out (Nat.le_refl _) m1⟩
            case measure => simp [intOf]; omega
          · have hne : (mc != 0) = true := by simpa using he
            have HZ : Hid (s = (zro, mc)) := by
              show _ = _
              rw [← HSS.out]
              have e1 : (tot ((L.take (i + 1)).filter (selB p a b))).2 ≠ 0 := by rw [HM.out]; exact he
              have e2 := tot_endF e1
              rw [HM.out] at e2
              rcases tot_rel (fun y hy => hg y (List.mem_filter.1 hy).1 : ∀ y ∈ L.filter (selB p a b), Good y.ru) with ⟨r', h'⟩ | h'
              · rw [h'] at e2
                exact absurd (Prod.mk.inj e2).2.symm he
              · rw [h'] at e2
                rw [h', (Prod.mk.inj e2).2]
            have H6 := hideB (H5.out.turn (r' := m1))
            unfold setB6 at H6
            clear HM he t1 t5 f5 l5 T5 KS con d1 d2 d3 d4 d5 d6 H5 HB5
            go_upto_region 14 with fail
            generalize (((((w5.setCell ⟨w2.heap.size, 0, none⟩ (.int .i64 m1.c)).setCell ⟨w2.heap.size, 1, none⟩ (.int .i64 m1.s)).setCell ⟨w2.heap.size, 2, none⟩ (.int .i64 m1.lo)).setCell ⟨w2.heap.size, 3, none⟩ (.int .i64 m1.hi)).setCell ⟨w2.heap.size, 4, none⟩ (.int .i64 m1.t)).setCell ⟨w2.heap.size, 5, none⟩ (.int .i64 m1.l) = w6 at *
            have s6 := fun j => H6.out.res.cell j
            have f6 := fun j => H6.out.res.frozen j
            simp only [ruV, zro] at s6
            iterate 20 go_step
            refine bodyPost_ret (v := .tuple #[.agg #[.int .i64 0, .int .i64 0, .int .i64 0, .int .i64 0, .int .i64 0, .int .i64 0], .int .i64 mc]) (by simp [results, Tryd.results12, go_sem, s6]) rfl (maZ HZ.out ?_)
            exact setB6_below H6.out.below (Nat.le_succ _) zro
      · have k1' : (y.key / 1048576 == p) = false := by simpa using k1
        have hsel : selB p a b y = false := by simp [selB, kp, k1]
        have H1 : Hid (tot ((L.take (i + 1)).filter (selB p a b)) = (r, 0)) := by
          show _ = _
          rw [HN.out, hsel]
          exact HT.out
        clear HN HT hsel
        go_wp2_with fail
        go_quiet (first | (refine Calls.quiet_of (n1.out _ (hSr.out _))) | (refine Calls.quiet_of (n2.out _)))
        go_wp2_with fail
        go_roundw
        case rel =>
          go_light
          exact ⟨i + 1, r, by omega, rfl, by go_num, H1, HA.out.next (below_drewN (Below.refl _ _) _), below_drewN hbr _⟩
        case measure => simp [intOf]; omega
    · obtain rfl : i = L.length := by omega
      have hni : ¬ ((L.length : Int) < (L.length : Int)) := by omega
      have HT' : Hid (s = (r, 0)) := by
        have e := HT.out
        rw [List.take_length, HSS.out] at e
        exact e
      have t1 := fun j => HA.out.out.cell j
      have s1 := fun j => HA.out.res.cell j
      have f1 := fun j => HA.out.res.frozen j
      simp only [ruV, zro] at t1 s1
      clear HT
      go_wp2_with fail
      exact bodyPost_ret (v := .tuple #[.agg #[.int .i64 r.c, .int .i64 r.s, .int .i64 r.lo, .int .i64 r.hi, .int .i64 r.t, .int .i64 r.l], .int .i64 0]) (by simp [results, Tryd.results12, go_sem, s1]) rfl (maTo HT'.out (setB6_below HA.out.below (Nat.le_succ _) r))

end Go.Proofs.YtlojfgdpmaigmadDoor
