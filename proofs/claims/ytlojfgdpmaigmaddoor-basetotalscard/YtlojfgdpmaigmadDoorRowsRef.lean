/- The document's rows. -/
import Derived.Test.YtlojfgdpmaigmadDoorP42
import Derived.BigQuiet
namespace Go.Proofs.YtlojfgdpmaigmadDoor
open Go.RowKit Plain

theorem newsR3 (w : World) (x : En) (t : TypeId) : ∀ j u, (flatE [x])[j]? = some u → (w.alloc (.cells #[.int .i64 x.key, .int .i64 x.c, .int .i64 x.s, .int .i64 x.lo, .int .i64 x.hi, .int .i64 x.t, .int .i64 x.l] t)).drew.cell? (Addr.add ⟨w.heap.size, 0, none⟩ j) = some u := by
  have h : RowL (w.alloc (.cells #[.int .i64 x.key, .int .i64 x.c, .int .i64 x.s, .int .i64 x.lo, .int .i64 x.hi, .int .i64 x.t, .int .i64 x.l] t)).drew w.heap.size t x.vals := rowL_alloc w x.vals t
  exact newsR h

theorem take_sel {l : List En} {i : Nat} {p a b : Int} (h : i < l.length) : rowsL p a b (l.take (i + 1)) = rowsL p a b (l.take i) ++ (if selB p a b l[i] = true then [rowE l[i]] else []) := by
  unfold rowsL
  rw [List.take_succ_eq_append_getElem h, List.filter_append, List.map_append]
  congr 1
  by_cases hs : selB p a b l[i] = true
  · simp [hs]
  · simp [hs]

theorem sel_len (p a b : Int) (l : List En) (i : Nat) : (rowsL p a b (l.take i)).length ≤ i := by
  unfold rowsL
  have := List.length_filter_le (selB p a b) (l.take i)
  simp only [List.length_map]
  have := List.length_take_le i l
  omega

def RowsRes (M : List En) (w : World) (e : Ending) (w' : World) : Prop :=
  (M.length ≤ 500 → RowsTo M w e w') ∧ (500 < M.length → e = .returned (.tuple #[.slice none 0 0, .int .i64 1]) ∧ Below w.heap.size w w')

theorem spanB_iff {a b : Int} : spanB a b = true ↔ 0 ≤ a ∧ a ≤ b ∧ b ≤ 1048575 := by simp [spanB]

set_option maxRecDepth 20000 in
set_option maxHeartbeats 4000000 in
theorem rowsOf_ok (A : Option Addr) (C : Nat) (ss : List ByteArray) (t0 t1 t2 : TR) (f : Int) (x : ByteArray) (size a b p : Int) (L0 L : List En) (w : World) (hS : StrsAt w.heap.size w A ss) (h0 : t0.ok w) (h1 : t1.ok w) (h2 : t2.ok w)
    (hB : baseB ss f (t0.ps.map PN.nd) t0.r (t1.ps.map PN.nd) t1.r (t2.ps.map PN.nd) t2.r = true) (hx : Lib.idxOfS ss x = p) (hp : 0 ≤ p) (hs : size = 1 ∨ size = 60 ∨ size = 3600) (hsp : spanB a b = true) (hbk : bookP (t0.ps.map PN.nd) t0.r ss.length f = some L0) (hrl : rollP size L0 = some L)
    (hlen : L.length ≤ 28000) (hkL : ∀ y ∈ L, 0 ≤ y.key ∧ y.key < 1099511627776) (hz0 : L0.length ≤ 28000) (hg0 : ∀ y ∈ L0, Good y.ru) (hk0 : ∀ y ∈ L0, 0 ≤ y.key ∧ y.key < 1099511627776) :
    Calls Tryd.prog 9 #[.agg (baseV A C ss t0 t1 t2 f).toArray, .string x, .int .i64 size, .int .i64 a, .int .i64 b] w
      (RowsRes (L.filter (selB p a b)) w) := by
  have b0 : ∀ o : Obj, Below w.heap.size w (w.alloc o) := fun o => (Below.refl _ _).alloc (Nat.le_refl _) o
  obtain ⟨ha, hab, hb⟩ := spanB_iff.1 hsp
  obtain ⟨j0, hi0, hz0', hz1, hz2⟩ := info_parts infoRow
  have con1 : Hid (∀ W, Below w.heap.size w W → Calls Tryd.prog 29 #[.agg (baseV A C ss t0 t1 t2 f).toArray, .string x] W fun e w' => e = .returned (.int .i64 0) ∧ Below W.heap.size W w') := fun W hW => by
    have c := seriesFault_any A C ss t0 t1 t2 f x W (hS.up hW) ⟨h0.1.up hW, h0.2.1, h0.2.2⟩ ⟨h1.1.up hW, h1.2.1, h1.2.2⟩ ⟨h2.1.up hW, h2.2.1, h2.2.2⟩ true hB
    rw [hx] at c
    have hn : ¬ p < 0 := by omega
    simp only [if_true, hn, if_false] at c
    exact c
  have con2 := hideB fun W => in_any a 0 b W
  rw [show inB a 0 b = true from (inB_iff _ _ _).2 ⟨ha, hab⟩] at con2
  have con3 : Hid (∀ W, Below w.heap.size w W → Calls Tryd.prog 19 #[.agg (baseV A C ss t0 t1 t2 f).toArray] W fun e w' => Below W.heap.size W w' ∧ ∃ v, e = .returned (.tuple #[v, .bool true]) ∧ w'.ownsRow W.heap.size 61 7 v L0.length (flatE L0)) := fun W hW =>
    book_any A C ss t0 t1 t2 f W (h0.1.up hW) _ (fun e w' q1 q2 _ => ⟨q1, q2 L0 hbk⟩)
  have con4 : Hid (∀ (VA : Option Addr) (VC : Nat) (W : World), RowAt W.heap.size W VA (flatE L0) → Calls Tryd.prog 20 #[.slice VA L0.length VC, .int .i64 size] W fun e w' => Below W.heap.size W w' ∧ ∃ v, e = .returned (.tuple #[v, .bool true]) ∧ w'.ownsRow W.heap.size 61 7 v L.length (flatE L)) := fun VA VC W hr =>
    rolled_any VA VC L0 size hs W hr hz0 hg0 hk0 _ (fun e w' q1 q2 _ => ⟨q1, q2 L hrl⟩)
  have n1 : Hid (∀ (W : World), StrsAt W.heap.size W A ss → Calls Tryd.prog 30 #[.slice A ss.length C, .string x] W fun e w' => e = .returned (.int .i64 p) ∧ ∃ m, w' = W.drewN m) := fun W hW => by
    have c := placeR_any A C ss x W hW
    rw [hx] at c
    exact c.mono fun _ _ ⟨q1, q2⟩ => ⟨q1, 0, by rw [q2]; rfl⟩
  have hk1 : (size != 1 && (size != 60 && size != 3600)) = false := by rcases hs with rfl | rfl | rfl <;> rfl
  clear hbk hrl hB h0 h1 h2 hx hz0 hg0 hk0
  obtain ⟨A0, C0, p0, r0⟩ := t0
  obtain ⟨A1, C1, p1, r1⟩ := t1
  obtain ⟨A2, C2, p2, r2⟩ := t2
  simp only [baseV] at *
  have hmx : ¬ (1048575 < b) := by omega
  rcases hs with rfl | rfl | rfl
  all_goals
    go_enter Tryd.func9, Tryd.ntmps9
    go_wp2_with (first
      | (go_at_call 29; refine (con1.out _ (b0 _)).mono ?_; rintro e w1 ⟨rfl, hb1⟩; have hw1 : Below w.heap.size w w1 := nextB (b0 _) (Nat.le_refl _) hb1; have yy := (bcells hb1).1; have z1 := sz1 hb1; have RB1 := hideB ((rowL_alloc w [.slice A ss.length C, .slice A0 p0.length C0, .int .i64 r0, .slice A1 p1.length C1, .int .i64 r1, .slice A2 p2.length C2, .int .i64 r2, .int .i64 f] 28).below hb1 (by simp)))
      | (go_at_call 17; refine (con2.out _).mono ?_; rintro e wx ⟨rfl, hwx⟩; subst wx)
      | (go_at_call 19; refine (con3.out _ hw1).mono ?_; rintro e w2 ⟨hb2, v2, rfl, ho2⟩; obtain ⟨VA, VC, rfl, -, -, -, hr2⟩ := own_row ho2; have hw2 : Below w.heap.size w w2 := nextB hw1 (Nat.le_refl _) hb2; have RB2 := hideB (RB1.out.below hb2 RB1.out.lt); clear hb2 ho2)
      | (go_at_call 20; refine (con4.out VA VC _ hr2).mono ?_; rintro e w3 ⟨hb3, v3, rfl, ho3⟩; obtain ⟨XA, XC, rfl, -, -, -, hr3⟩ := own_row ho3; have hw3 : Below w.heap.size w w3 := nextB hw2 (Nat.le_refl _) hb3; have RB3 := hideB (RB2.out.below hb3 RB2.out.lt); clear hb3 ho3))
    clear con1 con2 con3 con4 yy z1 hb1
    have hS3 := hideB (hS.up hw3)
    go_loopw [15, 16] (fun vo vi wr => ∃ i : Nat, i ≤ L.length ∧ vi = .int .i64 i ∧ wr.ownsRow w3.heap.size 63 7 vo (rowsL p a b (L.take i)).length (flatE (rowsL p a b (L.take i))) ∧ Below w3.heap.size w3 wr) (fun _ vi _ => L.length - (intOf vi).toNat)
    case atStart => exact ⟨0, Nat.zero_le _, rfl, World.ownsRow_nil _ _ _ _, Below.refl _ _⟩
    case round =>
      obtain ⟨i, hi, rfl, hown, hbr⟩ := hrel
      have hszr := hbr.size
      have hsl := sel_len p a b L i
      obtain ⟨zn, hzn⟩ : ∃ zn, (rowsL p a b (L.take i)).length = zn := ⟨_, rfl⟩
      rw [hzn] at hown hsl
      obtain ⟨A4, C4, rfl, -⟩ := own_row hown
      have HO := hideB hown
      have HN := hideB hzn
      have hov : Hid (∀ q, (Value.slice A4 zn C4).ownBlock = some q → w3.heap.size ≤ q ∧ q < wr.heap.size) := ownR_lt hown
      clear hown hzn
      by_cases hlt : i < L.length
      · obtain ⟨bb, oo, rfl, hbl, c0, c1, c2, c3, c4, c5, c6⟩ := (hr3.below hbr (Nat.le_refl _)).en hlt
        have hky := hkL _ (List.getElem_mem hlt)
        have HT := hideB (take_sel (p := p) (a := a) (b := b) hlt)
        obtain ⟨y, hy⟩ : ∃ y, L[i] = y := ⟨_, rfl⟩
        rw [hy] at c0 c1 c2 c3 c4 c5 c6 hky HT
        clear hy
        have lbx : bb < wr.heap.size := by omega
        have q0 : (0 : Int) ≤ (i : Int) := by omega
        have q1 : (i : Int) < (L.length : Int) := by omega
        have rb := (RB3.out.below hbr RB3.out.lt).cell 0
        simp only [List.getElem?_cons_zero] at rb
        have n2 : Hid (∀ W : World, Calls Tryd.prog 17 #[.int .i64 (y.key % 1048576), .int .i64 a, .int .i64 b] W fun e w' => e = .returned (.bool (inB (y.key % 1048576) a b)) ∧ ∃ m, w' = W.drewN m) := fun W => (in_any (y.key % 1048576) a b W).mono fun _ _ ⟨q1, q2⟩ => ⟨q1, 0, by rw [q2]; rfl⟩
        have hSr := hideB fun m => (hS3.out.up hbr).up (below_drewN (Below.refl _ wr) m)
        by_cases k1 : y.key / 1048576 = p
        · have k1' : (y.key / 1048576 == p) = true := by simpa using k1
          cases k2 : inB (y.key % 1048576) a b with
          | false =>
            have hsel : selB p a b y = false := by
              have q := k2
              simp only [selB, kp, kt, k1, decide_true, Bool.true_and]
              exact q
            rw [k2] at n2
            have H1 : Hid (rowsL p a b (L.take (i + 1)) = rowsL p a b (L.take i)) := by
              show _ = _
              rw [HT.out, hsel]
              simp
            clear HT hsel
            go_wp2_with fail
            go_quiet (first | (refine Calls.quiet_of (n1.out _ (hSr.out _))) | (refine Calls.quiet_of (n2.out _)))
            go_wp2_with fail
            go_roundw
            case rel =>
              go_light
              exact ⟨i + 1, by omega, by go_num, by rw [H1.out, HN.out]; exact own_of_block HO.out (fun _ _ => rfl), below_drewN hbr _⟩
            case measure => simp [intOf]; omega
          | true =>
            have hsel : selB p a b y = true := by
              have q := k2
              simp only [selB, kp, kt, k1, decide_true, Bool.true_and]
              exact q
            rw [k2] at n2
            have H1 : Hid (rowsL p a b (L.take (i + 1)) = rowsL p a b (L.take i) ++ [rowE y]) := by
              show _ = _
              rw [HT.out, hsel]
              simp
            clear HT hsel
            go_wp2_with fail
            go_quiet (first | (refine Calls.quiet_of (n1.out _ (hSr.out _))) | (refine Calls.quiet_of (n2.out _)))
            have hbd := below_drewN hbr nq
            have HOd : Hid ((wr.drewN nq).ownsRow w3.heap.size 63 7 (.slice A4 zn C4) zn (flatE (rowsL p a b (L.take i)))) := own_of_block HO.out (fun _ _ => rfl)
            have d0 : (wr.drewN nq).cell? ⟨bb, oo + i * 7, none⟩ = some (.int .i64 y.key) := c0
            have d1 : (wr.drewN nq).cell? ⟨bb, oo + i * 7 + 1, none⟩ = some (.int .i64 y.c) := c1
            have d2 : (wr.drewN nq).cell? ⟨bb, oo + i * 7 + 2, none⟩ = some (.int .i64 y.s) := c2
            have d3 : (wr.drewN nq).cell? ⟨bb, oo + i * 7 + 3, none⟩ = some (.int .i64 y.lo) := c3
            have d4 : (wr.drewN nq).cell? ⟨bb, oo + i * 7 + 4, none⟩ = some (.int .i64 y.hi) := c4
            have d5 : (wr.drewN nq).cell? ⟨bb, oo + i * 7 + 5, none⟩ = some (.int .i64 y.t) := c5
            have d6 : (wr.drewN nq).cell? ⟨bb, oo + i * 7 + 6, none⟩ = some (.int .i64 y.l) := c6
            have hds : (wr.drewN nq).heap.size = wr.heap.size := rfl
            have htm : y.key.tmod 1048576 = y.key % 1048576 := Int.tmod_eq_emod_of_nonneg hky.1
            clear c0 c1 c2 c3 c4 c5 c6 hSr n2 k1' HO
            go_wp2_with fail
            generalize wr.drewN nq = wd at *
            go_region_held3 (fun w' => w'.cell? ⟨bb, oo + i * 7, none⟩ = some (.int .i64 y.key) ∧ w'.cell? ⟨bb, oo + i * 7 + 1, none⟩ = some (.int .i64 y.c) ∧ w'.cell? ⟨bb, oo + i * 7 + 2, none⟩ = some (.int .i64 y.s) ∧ w'.cell? ⟨bb, oo + i * 7 + 3, none⟩ = some (.int .i64 y.lo) ∧ w'.cell? ⟨bb, oo + i * 7 + 4, none⟩ = some (.int .i64 y.hi) ∧ w'.cell? ⟨bb, oo + i * 7 + 5, none⟩ = some (.int .i64 y.t) ∧ w'.cell? ⟨bb, oo + i * 7 + 6, none⟩ = some (.int .i64 y.l)) (go_keep)
              (first
                | (refine step_append_lies _ rfl (.tmp 88) (.tmp 101) 32 rfl w3.heap.size 63 j0 _ 7 56 Tryd.underlying32 hi0 hz0' hz1 hz2 rfl (by decide) (.slice A4 zn C4) zn (flatE (rowsL p a b (L.take i))) (by simp [Act.eval]) (ownR_next HOd.out (((Below.refl _ _).alloc (Nat.le_refl _) _).drew)) ⟨wd.heap.size, 0, none⟩ 1 1 (flatE [rowE y]) (by simp [Act.eval]) rfl (newsR3 wd (rowE y) _) (flatE_one _) (by decide) (by unfold maxLen; omega) (by omega) (by simp; omega) (wd.heap.size + 1) (by simp) ?_; intro g' C' w5 hown5 hgrow5 hat5 hlt5; have CF : ∀ j, w5.cell? ⟨bb, j, none⟩ = wd.cell? ⟨bb, j, none⟩ := (fun j => (hgrow5.cell_far ⟨bb, j, none⟩ (by show bb < _; simp; omega) (fun e => by have := (hov.out bb e.symm).1; omega)).trans (((Below.refl wd.heap.size wd).alloc (Nat.le_refl _) _).drew.cell (p := ⟨bb, j, none⟩) (by show bb < wd.heap.size; omega))); have HR := hideB (And.intro hown5 (((hbd.alloc (by omega) _).drew).grown hgrow5 (by simp; omega) (fun q hq => (hov.out q hq).1))); clear hown5 hgrow5 hat5))
            all_goals
              obtain ⟨R1, R2⟩ := HR.out
              have e1 : zn + 1 = (rowsL p a b (L.take (i + 1))).length := by rw [H1.out, List.length_append, HN.out]; rfl
              have e2 : flatE (rowsL p a b (L.take i)) ++ flatE [rowE y] = flatE (rowsL p a b (L.take (i + 1))) := by rw [H1.out, flatE_append]
              rw [e2] at R1
              have E1 := hideB e1
              have RR := hideB (And.intro R1 R2)
              clear R1 R2 HR CF H1 HOd hov e1 e2 d0 d1 d2 d3 d4 d5 d6
              go_wp2
              go_roundw
              case rel =>
                go_light
                exact ⟨i + 1, by omega, by go_num, by rw [← E1.out]; exact RR.out.1, RR.out.2⟩
              case measure => simp [intOf]; omega
        · have k1' : (y.key / 1048576 == p) = false := by simpa using k1
          have hsel : selB p a b y = false := by simp [selB, kp, k1]
          have H1 : Hid (rowsL p a b (L.take (i + 1)) = rowsL p a b (L.take i)) := by
            show _ = _
            rw [HT.out, hsel]
            simp
          clear HT hsel
          go_wp2_with fail
          go_quiet (first | (refine Calls.quiet_of (n1.out _ (hSr.out _))) | (refine Calls.quiet_of (n2.out _)))
          go_wp2_with fail
          go_roundw
          case rel =>
            go_light
            exact ⟨i + 1, by omega, by go_num, by rw [H1.out, HN.out]; exact own_of_block HO.out (fun _ _ => rfl), below_drewN hbr _⟩
          case measure => simp [intOf]; omega
      · obtain rfl : i = L.length := by omega
        have hni : ¬ ((L.length : Int) < (L.length : Int)) := by omega
        have R1 := HO.out
        rw [List.take_length] at R1
        have HZ : Hid (zn = (L.filter (selB p a b)).length) := by
          show _ = _
          rw [← HN.out, List.take_length]
          simp [rowsL]
        have HR := hideB R1
        by_cases hbig : 500 < zn
        · have hbig' : (500 : Int) < (zn : Int) := by omega
          clear R1 HO HN hov
          go_wp2_with fail
          go_ret2
          exact ⟨fun h => by have := HZ.out; omega, fun _ => ⟨rfl, nextB hw3 (Nat.le_refl _) hbr⟩⟩
        · have hbig' : ¬ (500 : Int) < (zn : Int) := by omega
          clear R1 HO HN hov
          go_wp2_with fail
          go_ret2
          exact ⟨fun _ => ⟨nextB hw3 (Nat.le_refl _) hbr, _, rfl, by rw [← HZ.out]; exact own_mono HR.out hw3.size⟩, fun h => by have := HZ.out; omega⟩

end Go.Proofs.YtlojfgdpmaigmadDoor
