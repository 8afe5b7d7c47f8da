/- Rows of a series: in plain terms. -/
import Derived.Test.YtlojfgdpmaigmaeGreatDoorP39
import Derived.Test.YtlojfgdpmaigmaeGreatDoorP43
import Derived.Deep.RegionHeld3
import Derived.Deep.AppendLies
import Derived.BigQuiet
namespace Go.Proofs.YtlojfgdpmaigmaeGreatDoor
open Go.RowKit Plain

/-- Of a series, from a time on, up to another one. -/
def selB (p a b : Int) (x : En) : Bool := decide (kp x = p) && (decide (a ≤ kt x) && decide (kt x ≤ b))
def rowE (x : En) : En := { x with key := kt x }
def rowsL (p a b : Int) (l : List En) : List En := (l.filter (selB p a b)).map rowE

/-- What a base that may be knows, tree by tree. -/
structure BaseL (ss : List ByteArray) (f : Int) (n0 : List Nd) (r0 : Int) (n1 : List Nd) (r1 : Int) (n2 : List Nd) (r2 : Int) (L0 L1 L2 : List En) : Prop where
  few : ss.length ≤ 16
  book : bookP n0 r0 ss.length f = some L0
  a0 : allP n0 r0 0 1099511627776 = (0, L0)
  a1 : allP n1 r1 0 1099511627776 = (0, L1)
  a2 : allP n2 r2 0 1099511627776 = (0, L2)
  p0 : rollP 1 L0 = some L0
  p1 : rollP 60 L0 = some L1
  p2 : rollP 3600 L0 = some L2

theorem step_some {size : Int} {l : List En} {ns : List Nd} {r : Int} (h : stepB size l ns r = true) : ∃ M, rollP size l = some M ∧ allP ns r 0 1099511627776 = (0, M) := by
  unfold stepB at h
  cases hr : rollP size l with
  | none => rw [hr] at h; cases h
  | some W =>
    rw [hr] at h
    simp only [Bool.and_eq_true, decide_eq_true_eq] at h
    exact ⟨W, rfl, Prod.ext h.1 h.2.symm⟩

theorem baseL {ss : List ByteArray} {f : Int} {n0 : List Nd} {r0 : Int} {n1 : List Nd} {r1 : Int} {n2 : List Nd} {r2 : Int} (h : baseB ss f n0 r0 n1 r1 n2 r2 = true) : ∃ L0 L1 L2, BaseL ss f n0 r0 n1 r1 n2 r2 L0 L1 L2 := by
  unfold baseB at h
  simp only [Bool.and_eq_true, decide_eq_true_eq] at h
  obtain ⟨h1, _, _, _, h2⟩ := h
  unfold treesB at h2
  cases hb : bookP n0 r0 ss.length f with
  | none => rw [hb] at h2; cases h2
  | some l =>
    rw [hb] at h2
    simp only [Bool.and_eq_true] at h2
    obtain ⟨s0, s1, s2⟩ := h2
    obtain ⟨b1, b2, _⟩ := book_some hb
    obtain ⟨M1, q1, q2⟩ := step_some s1
    obtain ⟨M2, q3, q4⟩ := step_some s2
    have hp := (allP_facts (ns := n0) (r := r0) (low := 0) (high := 1099511627776)).1
    rw [b2] at hp
    exact ⟨l, M1, M2, h1, hb, Prod.ext b1 b2, q2, q4, roll_one hp, q1, q3⟩

theorem range_sel {p a b : Int} (ha : 0 ≤ a) (hb : b ≤ 1048575) {x : En} : inR (p * 1048576 + a) (p * 1048576 + b + 1) x = selB p a b x := by
  rw [Bool.eq_iff_iff]
  simp only [inR, selB, Bool.and_eq_true, decide_eq_true_eq]
  simp only [kp, kt]
  constructor
  · rintro ⟨h1, h2⟩
    have h3 : x.key / 1048576 = p := by omega
    exact ⟨h3, by omega, by omega⟩
  · rintro ⟨h1, h2, h3⟩
    exact ⟨by omega, by omega⟩

theorem allP_sel {ns : List Nd} {r p a b : Int} {L : List En} (h : allP ns r 0 1099511627776 = (0, L)) (ha : 0 ≤ a) (hb : b ≤ 1048575) : allP ns r (p * 1048576 + a) (p * 1048576 + b + 1) = (0, L.filter (selB p a b)) := by
  rw [allP_range (by rw [h]), h]
  exact Prod.ext rfl (List.filter_congr fun x _ => range_sel ha hb)

end Go.Proofs.YtlojfgdpmaigmaeGreatDoor

/- base.known: what a tree knows of a series, from a time on, up to another one. -/
namespace Go.Proofs.YtlojfgdpmaigmaeGreatDoor
open Go.RowKit Plain

set_option maxRecDepth 20000 in
set_option maxHeartbeats 1000000 in
theorem known_any (A : Option Addr) (C : Nat) (r p a b : Int) (ps : List PN) (L : List En) (w : World) (hN : NodesAt w.heap.size w A ps) (hwf : ∀ q ∈ ps, q.wf) (hp : 0 ≤ p ∧ p < 16) (ha : 0 ≤ a) (hab : a ≤ b) (hb : b ≤ 1048575) (hL : allP (ps.map PN.nd) r 0 1099511627776 = (0, L)) :
    Calls Tryz.prog 36 #[.agg #[.slice A ps.length C, .int .i64 r], .int .i64 p, .int .i64 a, .int .i64 b] w
      fun e w' => Below w.heap.size w w' ∧ ∃ v, e = .returned (.tuple #[v, .int .i64 0]) ∧ w'.ownsRow w.heap.size 73 7 v (L.filter (selB p a b)).length (flatE (L.filter (selB p a b))) := by
  have b0 : ∀ o : Obj, Below w.heap.size w (w.alloc o) := fun o => (Below.refl _ _).alloc (Nat.le_refl _) o
  have con := hideB fun W hN => all_any A C r (p * 1048576 + a) (p * 1048576 + b + 1) ps W hN hwf
  rw [allP_sel hL ha hb] at con
  simp only at con
  generalize L.filter (selB p a b) = M at con ⊢
  obtain ⟨k1, hk1⟩ : ∃ k1, p * 1048576 + a = k1 := ⟨_, rfl⟩
  obtain ⟨k2, hk2⟩ : ∃ k2, p * 1048576 + b = k2 := ⟨_, rfl⟩
  have c1 := hideB fun W => keyOf_any p a W (by omega) (by omega)
  have c2 := hideB fun W => keyOf_any p b W (by omega) (by omega)
  rw [hk1] at c1
  rw [hk2] at c2
  rw [hk1, hk2] at con
  have hw : IntKind.i64.wrap (k2 + 1) = k2 + 1 := by rw [IntKind.wrap_i64]; omega
  clear hL hwf
  go_enter Tryz.func36, Tryz.ntmps36
  go_wp2_with fail
  go_region_held3 (fun w' => w'.cell? ⟨w.heap.size, 0, none⟩ = some (.slice A ps.length C) ∧ w'.cell? ⟨w.heap.size, 1, none⟩ = some (.int .i64 r)) (go_keep)
    (first
      | (go_at_call 63; refine (con.out _ (hN.up ((b0 _).drew))).mono ?_; rintro e w1 ⟨hb1, v1, rfl, ho1⟩; have T1 := (bcells (hb1.mono (show w.heap.size + 1 ≤ _ by simp))).1; have HB := hideB hb1; have HO := hideB ho1)
      | (go_at_call 52; have kk := K1; clear kk; refine (c2.out _).mono ?_; rintro e wx ⟨rfl, hwx⟩; subst wx)
      | (go_at_call 52; refine (c1.out _).mono ?_; rintro e wx ⟨rfl, hwx⟩; subst wx; have K1 : True := trivial))
  go_wp2
  go_ret2
  exact ⟨nextB ((b0 _).drew) (Nat.le_refl _) HB.out, v1, rfl, own_mono HO.out (by simp)⟩

end Go.Proofs.YtlojfgdpmaigmaeGreatDoor

/- base.Rows: the program's rows. -/
namespace Go.Proofs.YtlojfgdpmaigmaeGreatDoor
open Go.RowKit Plain

theorem infoRow : (Tryz.prog.info? 57).map (fun i => (i.zero, i.size, i.bytes)) = some (some (.agg #[.int .i64 0, .int .i64 0, .int .i64 0, .int .i64 0, .int .i64 0, .int .i64 0, .int .i64 0]), 7, 56) := by kernel_rfl

theorem newsR {w : World} {vb : Nat} {t : TypeId} {x : En} (hv : RowL w vb t x.vals) : ∀ j u, (flatE [x])[j]? = some u → w.cell? (Addr.add ⟨vb, 0, none⟩ j) = some u := by
  intro j u hu
  rw [WideShapes.add_plain, Nat.zero_add, hv.cell]
  simpa [flatE] using hu

/-- What Rows answers where nothing is refused. -/
def RowsTo (M : List En) (w : World) (e : Ending) (w' : World) : Prop :=
  Below w.heap.size w w' ∧ ∃ v, e = .returned (.tuple #[v, .int .i64 0]) ∧ w'.ownsRow w.heap.size 57 7 v M.length (flatE (M.map rowE))

theorem ownR_next {w1 w4 : World} {base : Nat} {e : TypeId} {size n : Nat} {v : Value} {vs : List Value} (o : w1.ownsRow base e size v n vs) (hb : Below w1.heap.size w1 w4) : w4.ownsRow base e size v n vs :=
  own_of_block o fun k hk => hb.block k (o.lt k hk).2

theorem ownR_lt {w : World} {base : Nat} {e : TypeId} {size n C : Nat} {A : Option Addr} {vs : List Value} (h : w.ownsRow base e size (.slice A n C) n vs) : ∀ k, (Value.slice A n C).ownBlock = some k → base ≤ k ∧ k < w.heap.size := fun k hk => h.lt k hk

theorem newsR2 (w : World) (x : En) (o1 : Obj) (t : TypeId) : ∀ j u, (flatE [x])[j]? = some u → ((w.alloc o1).drew.alloc (.cells #[.int .i64 x.key, .int .i64 x.c, .int .i64 x.s, .int .i64 x.lo, .int .i64 x.hi, .int .i64 x.t, .int .i64 x.l] t)).cell? (Addr.add ⟨w.heap.size + 1, 0, none⟩ j) = some u := by
  have h := rowL_alloc (w.alloc o1).drew x.vals t
  have e : (w.alloc o1).drew.heap.size = w.heap.size + 1 := by simp
  rw [e] at h
  exact newsR h

theorem take_row {M : List En} {i : Nat} (h : i < M.length) : flatE ((M.take (i + 1)).map rowE) = flatE ((M.take i).map rowE) ++ flatE [rowE M[i]] := by
  rw [List.take_succ_eq_append_getElem h, List.map_append, flatE_append]
  rfl

set_option maxRecDepth 20000 in
set_option maxHeartbeats 2000000 in
theorem rows_big0 (A : Option Addr) (C : Nat) (ss : List ByteArray) (t0 t1 t2 : TR) (f : Int) (x : ByteArray) (a b p : Int) (M : List En) (w : World) (hZ : SzAt w) (hC : ss.length ≤ C) (hS : StrsAt w.heap.size w A ss) (h0 : t0.ok w) (h1 : t1.ok w) (h2 : t2.ok w)
    (hB : baseB ss f (t0.ps.map PN.nd) t0.r (t1.ps.map PN.nd) t1.r (t2.ps.map PN.nd) t2.r = true) (hx : Lib.idxOfS ss x = p) (hp : 0 ≤ p) (hp2 : p < 16) (ha : 0 ≤ a) (hab : a ≤ b) (hb : b ≤ 1048575) (L : List En) (hL : allP (t0.ps.map PN.nd) t0.r 0 1099511627776 = (0, L)) (hM : L.filter (selB p a b) = M) (hl : 500 < M.length) :
    Calls Tryz.prog 20 #[.agg (baseV A C ss t0 t1 t2 f).toArray, .string x, .int .i64 1, .int .i64 a, .int .i64 b] w fun e w' => e = .returned (.tuple #[.slice none 0 0, .int .i64 1]) ∧ Below w.heap.size w w' := by
  have b0 : ∀ o : Obj, Below w.heap.size w (w.alloc o) := fun o => (Below.refl _ _).alloc (Nat.le_refl _) o
  have okup : ∀ (t : TR) (w' : World), Below w.heap.size w w' → t.ok w → t.ok w' := fun t w' hb ht => ⟨ht.1.up hb, ht.2.1, ht.2.2⟩
  have con1 : Hid (∀ W, Below w.heap.size w W → Calls Tryz.prog 32 #[.agg (baseV A C ss t0 t1 t2 f).toArray, .string x] W fun e w' => e = .returned (.tuple #[.int .i64 p, .int .i64 0]) ∧ Below W.heap.size W w') := fun W hW => by
    have c := series_any A C ss t0 t1 t2 f x W (hZ.below hW) hC (hS.up hW) (okup t0 W hW h0) (okup t1 W hW h1) (okup t2 W hW h2) true hB
    rw [hx] at c
    have hn : ¬ p < 0 := by omega
    simp only [if_true, hn, if_false] at c
    exact c
  have con2 : Hid (∀ W, Below w.heap.size w W → Calls Tryz.prog 45 #[.int .i64 1] W fun e w' => e = .returned (.tuple #[.int .i64 0, .bool true]) ∧ w' = W) := fun W hW => stepOf_any 1 W (hZ.below hW)
  have con3 := hideB fun W => span_any a b W
  rw [show spanB a b = true by simp [spanB, ha, hab, hb]] at con3
  have con4 := hideB fun W (hW : Below w.heap.size w W) => known_any t0.A t0.C t0.r p a b t0.ps L W (h0.1.up hW) h0.2.1 ⟨hp, hp2⟩ ha hab hb hL
  rw [hM] at con4
  clear okup hB hx hZ hC hS h0 h1 h2 hL hM
  obtain ⟨A0, C0, p0, r0⟩ := t0
  obtain ⟨A1, C1, p1, r1⟩ := t1
  obtain ⟨A2, C2, p2, r2⟩ := t2
  simp only [baseV] at *
  have hl' : (500 : Int) < (M.length : Int) := by omega
  go_enter Tryz.func20, Tryz.ntmps20
  go_wp2_with (first
    | (go_at_call 32; refine (con1.out _ (b0 _)).mono ?_; rintro e w1 ⟨rfl, hb1⟩; have hw1 : Below w.heap.size w w1 := nextB (b0 _) (Nat.le_refl _) hb1; have yy := (bcells hb1).1; have z1 := sz1 hb1)
    | (go_at_call 45; refine (con2.out _ hw1).mono ?_; rintro e wx ⟨rfl, hwx⟩; subst wx)
    | (go_at_call 33; refine (con3.out _).mono ?_; rintro e wx ⟨rfl, hwx⟩; subst wx)
    | (go_at_call 36; refine (con4.out _ hw1).mono ?_; rintro e w2 ⟨hb2, v2, rfl, ho2⟩; obtain ⟨VA, VC, rfl, -, -, -, hr2⟩ := own_row ho2; have hw2 : Below w.heap.size w w2 := nextB hw1 (Nat.le_refl _) hb2; clear hb2 ho2))
  go_ret2
  exact ⟨rfl, hw2⟩

set_option maxRecDepth 20000 in
set_option maxHeartbeats 2000000 in
theorem rows_ok0 (A : Option Addr) (C : Nat) (ss : List ByteArray) (t0 t1 t2 : TR) (f : Int) (x : ByteArray) (a b p : Int) (M : List En) (w : World) (hZ : SzAt w) (hC : ss.length ≤ C) (hS : StrsAt w.heap.size w A ss) (h0 : t0.ok w) (h1 : t1.ok w) (h2 : t2.ok w)
    (hB : baseB ss f (t0.ps.map PN.nd) t0.r (t1.ps.map PN.nd) t1.r (t2.ps.map PN.nd) t2.r = true) (hx : Lib.idxOfS ss x = p) (hp : 0 ≤ p) (hp2 : p < 16) (ha : 0 ≤ a) (hab : a ≤ b) (hb : b ≤ 1048575) (L : List En) (hL : allP (t0.ps.map PN.nd) t0.r 0 1099511627776 = (0, L)) (hM : L.filter (selB p a b) = M) (hk : ∀ y ∈ M, 0 ≤ y.key ∧ y.key < 1099511627776) (hl : M.length ≤ 500) :
    Calls Tryz.prog 20 #[.agg (baseV A C ss t0 t1 t2 f).toArray, .string x, .int .i64 1, .int .i64 a, .int .i64 b] w (RowsTo M w) := by
  have b0 : ∀ o : Obj, Below w.heap.size w (w.alloc o) := fun o => (Below.refl _ _).alloc (Nat.le_refl _) o
  have okup : ∀ (t : TR) (w' : World), Below w.heap.size w w' → t.ok w → t.ok w' := fun t w' hb ht => ⟨ht.1.up hb, ht.2.1, ht.2.2⟩
  have con1 : Hid (∀ W, Below w.heap.size w W → Calls Tryz.prog 32 #[.agg (baseV A C ss t0 t1 t2 f).toArray, .string x] W fun e w' => e = .returned (.tuple #[.int .i64 p, .int .i64 0]) ∧ Below W.heap.size W w') := fun W hW => by
    have c := series_any A C ss t0 t1 t2 f x W (hZ.below hW) hC (hS.up hW) (okup t0 W hW h0) (okup t1 W hW h1) (okup t2 W hW h2) true hB
    rw [hx] at c
    have hn : ¬ p < 0 := by omega
    simp only [if_true, hn, if_false] at c
    exact c
  have con2 : Hid (∀ W, Below w.heap.size w W → Calls Tryz.prog 45 #[.int .i64 1] W fun e w' => e = .returned (.tuple #[.int .i64 0, .bool true]) ∧ w' = W) := fun W hW => stepOf_any 1 W (hZ.below hW)
  have con3 := hideB fun W => span_any a b W
  rw [show spanB a b = true by simp [spanB, ha, hab, hb]] at con3
  have con4 := hideB fun W (hW : Below w.heap.size w W) => known_any t0.A t0.C t0.r p a b t0.ps L W (h0.1.up hW) h0.2.1 ⟨hp, hp2⟩ ha hab hb hL
  rw [hM] at con4
  clear okup hB hx hZ hC hS h0 h1 h2 hL hM
  obtain ⟨A0, C0, p0, r0⟩ := t0
  obtain ⟨A1, C1, p1, r1⟩ := t1
  obtain ⟨A2, C2, p2, r2⟩ := t2
  simp only [baseV] at *
  obtain ⟨j0, hi0, hz0, hz1, hz2⟩ := info_parts infoRow
  have hl' : ¬ ((500 : Int) < (M.length : Int)) := by omega
  go_enter Tryz.func20, Tryz.ntmps20
  go_wp2_with (first
    | (go_at_call 32; refine (con1.out _ (b0 _)).mono ?_; rintro e w1 ⟨rfl, hb1⟩; have hw1 : Below w.heap.size w w1 := nextB (b0 _) (Nat.le_refl _) hb1; have yy := (bcells hb1).1; have z1 := sz1 hb1)
    | (go_at_call 45; refine (con2.out _ hw1).mono ?_; rintro e wx ⟨rfl, hwx⟩; subst wx)
    | (go_at_call 33; refine (con3.out _).mono ?_; rintro e wx ⟨rfl, hwx⟩; subst wx)
    | (go_at_call 36; refine (con4.out _ hw1).mono ?_; rintro e w2 ⟨hb2, v2, rfl, ho2⟩; obtain ⟨VA, VC, rfl, -, -, -, hr2⟩ := own_row ho2; have hw2 : Below w.heap.size w w2 := nextB hw1 (Nat.le_refl _) hb2; clear hb2 ho2))
  clear con1 con2 con3 con4 hw1 yy z1
  go_loopw [17, 59] (fun vo vi wr => ∃ i : Nat, i ≤ M.length ∧ vi = .int .i64 i ∧ wr.ownsRow w2.heap.size 57 7 vo i (flatE ((M.take i).map rowE)) ∧ Below w2.heap.size w2 wr) (fun _ vi _ => M.length - (intOf vi).toNat)
  case atStart => exact ⟨0, Nat.zero_le _, rfl, World.ownsRow_nil _ _ _ _, Below.refl _ _⟩
  case round =>
    obtain ⟨i, hi, rfl, hown, hbr⟩ := hrel
    have hszr := hbr.size
    obtain ⟨A3, C3, rfl, -⟩ := own_row hown
    have HO := hideB hown
    have hov : Hid (∀ q, (Value.slice A3 i C3).ownBlock = some q → w2.heap.size ≤ q ∧ q < wr.heap.size) := ownR_lt hown
    clear hown
    by_cases hlt : i < M.length
    · obtain ⟨bb, oo, rfl, hbl, c0, c1, c2, c3, c4, c5, c6⟩ := (hr2.below hbr (Nat.le_refl _)).en hlt
      have hky := hk _ (List.getElem_mem hlt)
      have HT := hideB (take_row hlt)
      obtain ⟨y, hy⟩ : ∃ y, M[i] = y := ⟨_, rfl⟩
      rw [hy] at c0 c1 c2 c3 c4 c5 c6 hky HT
      clear hy
      have lbx : bb < wr.heap.size := by omega
      have q0 : (0 : Int) ≤ (i : Int) := by omega
      have q1 : (i : Int) < (M.length : Int) := by omega
      go_wp2_with fail
      go_region_held3 (fun w' => w'.cell? ⟨wr.heap.size, 0, none⟩ = some (.int .i64 y.key) ∧ w'.cell? ⟨wr.heap.size, 1, none⟩ = some (.int .i64 y.c) ∧ w'.cell? ⟨wr.heap.size, 2, none⟩ = some (.int .i64 y.s) ∧ w'.cell? ⟨wr.heap.size, 3, none⟩ = some (.int .i64 y.lo) ∧ w'.cell? ⟨wr.heap.size, 4, none⟩ = some (.int .i64 y.hi) ∧ w'.cell? ⟨wr.heap.size, 5, none⟩ = some (.int .i64 y.t) ∧ w'.cell? ⟨wr.heap.size, 6, none⟩ = some (.int .i64 y.l)) (go_keep)
        (first
          | (go_at_call 46; refine (timeOf_any y.key _ hky).mono ?_; rintro e wx ⟨rfl, hwx⟩; subst wx)
          | (refine step_append_lies _ rfl (.tmp 63) (.tmp 70) 53 rfl w2.heap.size 57 j0 _ 7 56 Tryz.underlying53 hi0 hz0 hz1 hz2 rfl (by decide) (.slice A3 i C3) i (flatE ((M.take i).map rowE)) (by simp [Act.eval]) (ownR_next HO.out ((((Below.refl _ _).alloc (Nat.le_refl _) _).drew).alloc (by simp) _)) ⟨wr.heap.size + 1, 0, none⟩ 1 1 (flatE [rowE y]) (by simp [Act.eval]) rfl (newsR2 wr (rowE y) _ _) (flatE_one _) (by decide) (by unfold maxLen; omega) (by omega) (by simp; omega) (wr.heap.size + 2) (by simp) ?_; intro g' C' w5 hown5 hgrow5 hat5 hlt5; have CF : ∀ j, w5.cell? ⟨wr.heap.size, j, none⟩ = (wr.alloc (.cells #[.int .i64 y.key, .int .i64 y.c, .int .i64 y.s, .int .i64 y.lo, .int .i64 y.hi, .int .i64 y.t, .int .i64 y.l] 73)).cell? ⟨wr.heap.size, j, none⟩ := (fun j => (hgrow5.cell_far ⟨wr.heap.size, j, none⟩ (by show wr.heap.size < _; simp; omega) (fun e => by have := (hov.out wr.heap.size e.symm).2; omega)).trans (((Below.refl (wr.heap.size + 1) (wr.alloc (.cells #[.int .i64 y.key, .int .i64 y.c, .int .i64 y.s, .int .i64 y.lo, .int .i64 y.hi, .int .i64 y.t, .int .i64 y.l] 73))).drew.alloc (by simp) _).cell (p := ⟨wr.heap.size, j, none⟩) (by show wr.heap.size < wr.heap.size + 1; omega))); have HR := hideB (And.intro hown5 (((hbr.alloc hszr _).drew.alloc (by simp; omega) _).grown hgrow5 (by simp; omega) (fun q hq => (hov.out q hq).1))); clear hown5 hgrow5 hat5))
      all_goals
        obtain ⟨R1, R2⟩ := HR.out
        rw [← HT.out] at R1
        have RR := hideB (And.intro R1 R2)
        clear R1 R2 HR CF HT HO hov
        go_wp2
        go_roundw
        case rel =>
          go_light
          exact ⟨i + 1, by omega, by go_num, RR.out.1, RR.out.2⟩
        case measure => simp [intOf]; omega
    · obtain rfl : i = M.length := by omega
      have hni : ¬ ((M.length : Int) < (M.length : Int)) := by omega
      have R1 := HO.out
      rw [List.take_length] at R1
      go_wp2_with fail
      go_ret2
      exact ⟨nextB hw2 (Nat.le_refl _) hbr, _, rfl, own_mono R1 hw2.size⟩

set_option maxRecDepth 20000 in
set_option maxHeartbeats 2000000 in
theorem rows_ok1 (A : Option Addr) (C : Nat) (ss : List ByteArray) (t0 t1 t2 : TR) (f : Int) (x : ByteArray) (a b p : Int) (M : List En) (w : World) (hZ : SzAt w) (hC : ss.length ≤ C) (hS : StrsAt w.heap.size w A ss) (h0 : t0.ok w) (h1 : t1.ok w) (h2 : t2.ok w)
    (hB : baseB ss f (t0.ps.map PN.nd) t0.r (t1.ps.map PN.nd) t1.r (t2.ps.map PN.nd) t2.r = true) (hx : Lib.idxOfS ss x = p) (hp : 0 ≤ p) (hp2 : p < 16) (ha : 0 ≤ a) (hab : a ≤ b) (hb : b ≤ 1048575) (L : List En) (hL : allP (t1.ps.map PN.nd) t1.r 0 1099511627776 = (0, L)) (hM : L.filter (selB p a b) = M) (hk : ∀ y ∈ M, 0 ≤ y.key ∧ y.key < 1099511627776) (hl : M.length ≤ 500) :
    Calls Tryz.prog 20 #[.agg (baseV A C ss t0 t1 t2 f).toArray, .string x, .int .i64 60, .int .i64 a, .int .i64 b] w (RowsTo M w) := by
  have b0 : ∀ o : Obj, Below w.heap.size w (w.alloc o) := fun o => (Below.refl _ _).alloc (Nat.le_refl _) o
  have okup : ∀ (t : TR) (w' : World), Below w.heap.size w w' → t.ok w → t.ok w' := fun t w' hb ht => ⟨ht.1.up hb, ht.2.1, ht.2.2⟩
  have con1 : Hid (∀ W, Below w.heap.size w W → Calls Tryz.prog 32 #[.agg (baseV A C ss t0 t1 t2 f).toArray, .string x] W fun e w' => e = .returned (.tuple #[.int .i64 p, .int .i64 0]) ∧ Below W.heap.size W w') := fun W hW => by
    have c := series_any A C ss t0 t1 t2 f x W (hZ.below hW) hC (hS.up hW) (okup t0 W hW h0) (okup t1 W hW h1) (okup t2 W hW h2) true hB
    rw [hx] at c
    have hn : ¬ p < 0 := by omega
    simp only [if_true, hn, if_false] at c
    exact c
  have con2 : Hid (∀ W, Below w.heap.size w W → Calls Tryz.prog 45 #[.int .i64 60] W fun e w' => e = .returned (.tuple #[.int .i64 1, .bool true]) ∧ w' = W) := fun W hW => stepOf_any 60 W (hZ.below hW)
  have con3 := hideB fun W => span_any a b W
  rw [show spanB a b = true by simp [spanB, ha, hab, hb]] at con3
  have con4 := hideB fun W (hW : Below w.heap.size w W) => known_any t1.A t1.C t1.r p a b t1.ps L W (h1.1.up hW) h1.2.1 ⟨hp, hp2⟩ ha hab hb hL
  rw [hM] at con4
  clear okup hB hx hZ hC hS h0 h1 h2 hL hM
  obtain ⟨A0, C0, p0, r0⟩ := t0
  obtain ⟨A1, C1, p1, r1⟩ := t1
  obtain ⟨A2, C2, p2, r2⟩ := t2
  simp only [baseV] at *
  obtain ⟨j0, hi0, hz0, hz1, hz2⟩ := info_parts infoRow
  have hl' : ¬ ((500 : Int) < (M.length : Int)) := by omega
  go_enter Tryz.func20, Tryz.ntmps20
  go_wp2_with (first
    | (go_at_call 32; refine (con1.out _ (b0 _)).mono ?_; rintro e w1 ⟨rfl, hb1⟩; have hw1 : Below w.heap.size w w1 := nextB (b0 _) (Nat.le_refl _) hb1; have yy := (bcells hb1).1; have z1 := sz1 hb1)
    | (go_at_call 45; refine (con2.out _ hw1).mono ?_; rintro e wx ⟨rfl, hwx⟩; subst wx)
    | (go_at_call 33; refine (con3.out _).mono ?_; rintro e wx ⟨rfl, hwx⟩; subst wx)
    | (go_at_call 36; refine (con4.out _ hw1).mono ?_; rintro e w2 ⟨hb2, v2, rfl, ho2⟩; obtain ⟨VA, VC, rfl, -, -, -, hr2⟩ := own_row ho2; have hw2 : Below w.heap.size w w2 := nextB hw1 (Nat.le_refl _) hb2; clear hb2 ho2))
  clear con1 con2 con3 con4 hw1 yy z1
  go_loopw [17, 59] (fun vo vi wr => ∃ i : Nat, i ≤ M.length ∧ vi = .int .i64 i ∧ wr.ownsRow w2.heap.size 57 7 vo i (flatE ((M.take i).map rowE)) ∧ Below w2.heap.size w2 wr) (fun _ vi _ => M.length - (intOf vi).toNat)
  case atStart => exact ⟨0, Nat.zero_le _, rfl, World.ownsRow_nil _ _ _ _, Below.refl _ _⟩
  case round =>
    obtain ⟨i, hi, rfl, hown, hbr⟩ := hrel
    have hszr := hbr.size
    obtain ⟨A3, C3, rfl, -⟩ := own_row hown
    have HO := hideB hown
    have hov : Hid (∀ q, (Value.slice A3 i C3).ownBlock = some q → w2.heap.size ≤ q ∧ q < wr.heap.size) := ownR_lt hown
    clear hown
    by_cases hlt : i < M.length
    · obtain ⟨bb, oo, rfl, hbl, c0, c1, c2, c3, c4, c5, c6⟩ := (hr2.below hbr (Nat.le_refl _)).en hlt
      have hky := hk _ (List.getElem_mem hlt)
      have HT := hideB (take_row hlt)
      obtain ⟨y, hy⟩ : ∃ y, M[i] = y := ⟨_, rfl⟩
      rw [hy] at c0 c1 c2 c3 c4 c5 c6 hky HT
      clear hy
      have lbx : bb < wr.heap.size := by omega
      have q0 : (0 : Int) ≤ (i : Int) := by omega
      have q1 : (i : Int) < (M.length : Int) := by omega
      go_wp2_with fail
      go_region_held3 (fun w' => w'.cell? ⟨wr.heap.size, 0, none⟩ = some (.int .i64 y.key) ∧ w'.cell? ⟨wr.heap.size, 1, none⟩ = some (.int .i64 y.c) ∧ w'.cell? ⟨wr.heap.size, 2, none⟩ = some (.int .i64 y.s) ∧ w'.cell? ⟨wr.heap.size, 3, none⟩ = some (.int .i64 y.lo) ∧ w'.cell? ⟨wr.heap.size, 4, none⟩ = some (.int .i64 y.hi) ∧ w'.cell? ⟨wr.heap.size, 5, none⟩ = some (.int .i64 y.t) ∧ w'.cell? ⟨wr.heap.size, 6, none⟩ = some (.int .i64 y.l)) (go_keep)
        (first
          | (go_at_call 46; refine (timeOf_any y.key _ hky).mono ?_; rintro e wx ⟨rfl, hwx⟩; subst wx)
          | (refine step_append_lies _ rfl (.tmp 63) (.tmp 70) 53 rfl w2.heap.size 57 j0 _ 7 56 Tryz.underlying53 hi0 hz0 hz1 hz2 rfl (by decide) (.slice A3 i C3) i (flatE ((M.take i).map rowE)) (by simp [Act.eval]) (ownR_next HO.out ((((Below.refl _ _).alloc (Nat.le_refl _) _).drew).alloc (by simp) _)) ⟨wr.heap.size + 1, 0, none⟩ 1 1 (flatE [rowE y]) (by simp [Act.eval]) rfl (newsR2 wr (rowE y) _ _) (flatE_one _) (by decide) (by unfold maxLen; omega) (by omega) (by simp; omega) (wr.heap.size + 2) (by simp) ?_; intro g' C' w5 hown5 hgrow5 hat5 hlt5; have CF : ∀ j, w5.cell? ⟨wr.heap.size, j, none⟩ = (wr.alloc (.cells #[.int .i64 y.key, .int .i64 y.c, .int .i64 y.s, .int .i64 y.lo, .int .i64 y.hi, .int .i64 y.t, .int .i64 y.l] 73)).cell? ⟨wr.heap.size, j, none⟩ := (fun j => (hgrow5.cell_far ⟨wr.heap.size, j, none⟩ (by show wr.heap.size < _; simp; omega) (fun e => by have := (hov.out wr.heap.size e.symm).2; omega)).trans (((Below.refl (wr.heap.size + 1) (wr.alloc (.cells #[.int .i64 y.key, .int .i64 y.c, .int .i64 y.s, .int .i64 y.lo, .int .i64 y.hi, .int .i64 y.t, .int .i64 y.l] 73))).drew.alloc (by simp) _).cell (p := ⟨wr.heap.size, j, none⟩) (by show wr.heap.size < wr.heap.size + 1; omega))); have HR := hideB (And.intro hown5 (((hbr.alloc hszr _).drew.alloc (by simp; omega) _).grown hgrow5 (by simp; omega) (fun q hq => (hov.out q hq).1))); clear hown5 hgrow5 hat5))
      all_goals
        obtain ⟨R1, R2⟩ := HR.out
        rw [← HT.out] at R1
        have RR := hideB (And.intro R1 R2)
        clear R1 R2 HR CF HT HO hov
        go_wp2
        go_roundw
        case rel =>
          go_light
          exact ⟨i + 1, by omega, by go_num, RR.out.1, RR.out.2⟩
        case measure => simp [intOf]; omega
    · obtain rfl : i = M.length := by omega
      have hni : ¬ ((M.length : Int) < (M.length : Int)) := by omega
      have R1 := HO.out
      rw [List.take_length] at R1
      go_wp2_with fail
      go_ret2
      exact ⟨nextB hw2 (Nat.le_refl _) hbr, _, rfl, own_mono R1 hw2.size⟩

set_option maxRecDepth 20000 in
set_option maxHeartbeats 2000000 in
theorem rows_ok2 (A : Option Addr) (C : Nat) (ss : List ByteArray) (t0 t1 t2 : TR) (f : Int) (x : ByteArray) (a b p : Int) (M : List En) (w : World) (hZ : SzAt w) (hC : ss.length ≤ C) (hS : StrsAt w.heap.size w A ss) (h0 : t0.ok w) (h1 : t1.ok w) (h2 : t2.ok w)
    (hB : baseB ss f (t0.ps.map PN.nd) t0.r (t1.ps.map PN.nd) t1.r (t2.ps.map PN.nd) t2.r = true) (hx : Lib.idxOfS ss x = p) (hp : 0 ≤ p) (hp2 : p < 16) (ha : 0 ≤ a) (hab : a ≤ b) (hb : b ≤ 1048575) (L : List En) (hL : allP (t2.ps.map PN.nd) t2.r 0 1099511627776 = (0, L)) (hM : L.filter (selB p a b) = M) (hk : ∀ y ∈ M, 0 ≤ y.key ∧ y.key < 1099511627776) (hl : M.length ≤ 500) :
    Calls Tryz.prog 20 #[.agg (baseV A C ss t0 t1 t2 f).toArray, .string x, .int .i64 3600, .int .i64 a, .int .i64 b] w (RowsTo M w) := by
  have b0 : ∀ o : Obj, Below w.heap.size w (w.alloc o) := fun o => (Below.refl _ _).alloc (Nat.le_refl _) o
  have okup : ∀ (t : TR) (w' : World), Below w.heap.size w w' → t.ok w → t.ok w' := fun t w' hb ht => ⟨ht.1.up hb, ht.2.1, ht.2.2⟩
  have con1 : Hid (∀ W, Below w.heap.size w W → Calls Tryz.prog 32 #[.agg (baseV A C ss t0 t1 t2 f).toArray, .string x] W fun e w' => e = .returned (.tuple #[.int .i64 p, .int .i64 0]) ∧ Below W.heap.size W w') := fun W hW => by
    have c := series_any A C ss t0 t1 t2 f x W (hZ.below hW) hC (hS.up hW) (okup t0 W hW h0) (okup t1 W hW h1) (okup t2 W hW h2) true hB
    rw [hx] at c
    have hn : ¬ p < 0 := by omega
    simp only [if_true, hn, if_false] at c
    exact c
  have con2 : Hid (∀ W, Below w.heap.size w W → Calls Tryz.prog 45 #[.int .i64 3600] W fun e w' => e = .returned (.tuple #[.int .i64 2, .bool true]) ∧ w' = W) := fun W hW => stepOf_any 3600 W (hZ.below hW)
  have con3 := hideB fun W => span_any a b W
  rw [show spanB a b = true by simp [spanB, ha, hab, hb]] at con3
  have con4 := hideB fun W (hW : Below w.heap.size w W) => known_any t2.A t2.C t2.r p a b t2.ps L W (h2.1.up hW) h2.2.1 ⟨hp, hp2⟩ ha hab hb hL
  rw [hM] at con4
  clear okup hB hx hZ hC hS h0 h1 h2 hL hM
  obtain ⟨A0, C0, p0, r0⟩ := t0
  obtain ⟨A1, C1, p1, r1⟩ := t1
  obtain ⟨A2, C2, p2, r2⟩ := t2
  simp only [baseV] at *
  obtain ⟨j0, hi0, hz0, hz1, hz2⟩ := info_parts infoRow
  have hl' : ¬ ((500 : Int) < (M.length : Int)) := by omega
  go_enter Tryz.func20, Tryz.ntmps20
  go_wp2_with (first
    | (go_at_call 32; refine (con1.out _ (b0 _)).mono ?_; rintro e w1 ⟨rfl, hb1⟩; have hw1 : Below w.heap.size w w1 := nextB (b0 _) (Nat.le_refl _) hb1; have yy := (bcells hb1).1; have z1 := sz1 hb1)
    | (go_at_call 45; refine (con2.out _ hw1).mono ?_; rintro e wx ⟨rfl, hwx⟩; subst wx)
    | (go_at_call 33; refine (con3.out _).mono ?_; rintro e wx ⟨rfl, hwx⟩; subst wx)
    | (go_at_call 36; refine (con4.out _ hw1).mono ?_; rintro e w2 ⟨hb2, v2, rfl, ho2⟩; obtain ⟨VA, VC, rfl, -, -, -, hr2⟩ := own_row ho2; have hw2 : Below w.heap.size w w2 := nextB hw1 (Nat.le_refl _) hb2; clear hb2 ho2))
  clear con1 con2 con3 con4 hw1 yy z1
  go_loopw [17, 59] (fun vo vi wr => ∃ i : Nat, i ≤ M.length ∧ vi = .int .i64 i ∧ wr.ownsRow w2.heap.size 57 7 vo i (flatE ((M.take i).map rowE)) ∧ Below w2.heap.size w2 wr) (fun _ vi _ => M.length - (intOf vi).toNat)
  case atStart => exact ⟨0, Nat.zero_le _, rfl, World.ownsRow_nil _ _ _ _, Below.refl _ _⟩
  case round =>
    obtain ⟨i, hi, rfl, hown, hbr⟩ := hrel
    have hszr := hbr.size
    obtain ⟨A3, C3, rfl, -⟩ := own_row hown
    have HO := hideB hown
    have hov : Hid (∀ q, (Value.slice A3 i C3).ownBlock = some q → w2.heap.size ≤ q ∧ q < wr.heap.size) := ownR_lt hown
    clear hown
    by_cases hlt : i < M.length
    · obtain ⟨bb, oo, rfl, hbl, c0, c1, c2, c3, c4, c5, c6⟩ := (hr2.below hbr (Nat.le_refl _)).en hlt
      have hky := hk _ (List.getElem_mem hlt)
      have HT := hideB (take_row hlt)
      obtain ⟨y, hy⟩ : ∃ y, M[i] = y := ⟨_, rfl⟩
      rw [hy] at c0 c1 c2 c3 c4 c5 c6 hky HT
      clear hy
      have lbx : bb < wr.heap.size := by omega
      have q0 : (0 : Int) ≤ (i : Int) := by omega
      have q1 : (i : Int) < (M.length : Int) := by omega
      go_wp2_with fail
      go_region_held3 (fun w' => w'.cell? ⟨wr.heap.size, 0, none⟩ = some (.int .i64 y.key) ∧ w'.cell? ⟨wr.heap.size, 1, none⟩ = some (.int .i64 y.c) ∧ w'.cell? ⟨wr.heap.size, 2, none⟩ = some (.int .i64 y.s) ∧ w'.cell? ⟨wr.heap.size, 3, none⟩ = some (.int .i64 y.lo) ∧ w'.cell? ⟨wr.heap.size, 4, none⟩ = some (.int .i64 y.hi) ∧ w'.cell? ⟨wr.heap.size, 5, none⟩ = some (.int .i64 y.t) ∧ w'.cell? ⟨wr.heap.size, 6, none⟩ = some (.int .i64 y.l)) (go_keep)
        (first
          | (go_at_call 46; refine (timeOf_any y.key _ hky).mono ?_; rintro e wx ⟨rfl, hwx⟩; subst wx)
          | (refine step_append_lies _ rfl (.tmp 63) (.tmp 70) 53 rfl w2.heap.size 57 j0 _ 7 56 Tryz.underlying53 hi0 hz0 hz1 hz2 rfl (by decide) (.slice A3 i C3) i (flatE ((M.take i).map rowE)) (by simp [Act.eval]) (ownR_next HO.out ((((Below.refl _ _).alloc (Nat.le_refl _) _).drew).alloc (by simp) _)) ⟨wr.heap.size + 1, 0, none⟩ 1 1 (flatE [rowE y]) (by simp [Act.eval]) rfl (newsR2 wr (rowE y) _ _) (flatE_one _) (by decide) (by unfold maxLen; omega) (by omega) (by simp; omega) (wr.heap.size + 2) (by simp) ?_; intro g' C' w5 hown5 hgrow5 hat5 hlt5; have CF : ∀ j, w5.cell? ⟨wr.heap.size, j, none⟩ = (wr.alloc (.cells #[.int .i64 y.key, .int .i64 y.c, .int .i64 y.s, .int .i64 y.lo, .int .i64 y.hi, .int .i64 y.t, .int .i64 y.l] 73)).cell? ⟨wr.heap.size, j, none⟩ := (fun j => (hgrow5.cell_far ⟨wr.heap.size, j, none⟩ (by show wr.heap.size < _; simp; omega) (fun e => by have := (hov.out wr.heap.size e.symm).2; omega)).trans (((Below.refl (wr.heap.size + 1) (wr.alloc (.cells #[.int .i64 y.key, .int .i64 y.c, .int .i64 y.s, .int .i64 y.lo, .int .i64 y.hi, .int .i64 y.t, .int .i64 y.l] 73))).drew.alloc (by simp) _).cell (p := ⟨wr.heap.size, j, none⟩) (by show wr.heap.size < wr.heap.size + 1; omega))); have HR := hideB (And.intro hown5 (((hbr.alloc hszr _).drew.alloc (by simp; omega) _).grown hgrow5 (by simp; omega) (fun q hq => (hov.out q hq).1))); clear hown5 hgrow5 hat5))
      all_goals
        obtain ⟨R1, R2⟩ := HR.out
        rw [← HT.out] at R1
        have RR := hideB (And.intro R1 R2)
        clear R1 R2 HR CF HT HO hov
        go_wp2
        go_roundw
        case rel =>
          go_light
          exact ⟨i + 1, by omega, by go_num, RR.out.1, RR.out.2⟩
        case measure => simp [intOf]; omega
    · obtain rfl : i = M.length := by omega
      have hni : ¬ ((M.length : Int) < (M.length : Int)) := by omega
      have R1 := HO.out
      rw [List.take_length] at R1
      go_wp2_with fail
      go_ret2
      exact ⟨nextB hw2 (Nat.le_refl _) hbr, _, rfl, own_mono R1 hw2.size⟩

end Go.Proofs.YtlojfgdpmaigmaeGreatDoor

/- The document's rows. -/
namespace Go.Proofs.YtlojfgdpmaigmaeGreatDoor
open Go.RowKit Plain

end Go.Proofs.YtlojfgdpmaigmaeGreatDoor

/- Rows: what is refused, by the program and by the document. -/
namespace Go.Proofs.YtlojfgdpmaigmaeGreatDoor
open Go.RowKit Plain

set_option maxRecDepth 20000 in
set_option maxHeartbeats 2000000 in
theorem rows_c (A : Option Addr) (C : Nat) (ss : List ByteArray) (t0 t1 t2 : TR) (f : Int) (x : ByteArray) (size a b c : Int) (w : World) (q : Int) (hc : (c != 0) = true) (con1 : Hid (∀ W, Below w.heap.size w W → Calls Tryz.prog 32 #[.agg (baseV A C ss t0 t1 t2 f).toArray, .string x] W fun e w' => e = .returned (.tuple #[.int .i64 q, .int .i64 c]) ∧ Below W.heap.size W w')) :
    Calls Tryz.prog 20 #[.agg (baseV A C ss t0 t1 t2 f).toArray, .string x, .int .i64 size, .int .i64 a, .int .i64 b] w fun e w' => e = .returned (.tuple #[.slice none 0 0, .int .i64 c]) ∧ Below w.heap.size w w' := by
  have b0 : ∀ o : Obj, Below w.heap.size w (w.alloc o) := fun o => (Below.refl _ _).alloc (Nat.le_refl _) o
  obtain ⟨A0, C0, p0, r0⟩ := t0
  obtain ⟨A1, C1, p1, r1⟩ := t1
  obtain ⟨A2, C2, p2, r2⟩ := t2
  simp only [baseV] at *
  go_enter Tryz.func20, Tryz.ntmps20
  go_wp2_with (first
    | (go_at_call 32; refine (con1.out _ (b0 _)).mono ?_; rintro e w1 ⟨rfl, hb1⟩; have hw1 : Below w.heap.size w w1 := nextB (b0 _) (Nat.le_refl _) hb1))
  go_ret2
  exact ⟨rfl, hw1⟩

end Go.Proofs.YtlojfgdpmaigmaeGreatDoor
