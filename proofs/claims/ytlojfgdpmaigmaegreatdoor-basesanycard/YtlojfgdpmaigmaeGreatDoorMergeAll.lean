/- base.mergeAll: what all entries come to. -/
import Derived.Test.YtlojfgdpmaigmaeGreatDoorP44
import Derived.Test.YtlojfgdpmaigmaeGreatDoorP45
namespace Go.Proofs.YtlojfgdpmaigmaeGreatDoor
open Go.RowKit Plain

theorem totS_stuck : ∀ (l : List En) (s : Ru × Int), s.2 ≠ 0 → l.foldl stepK s = s
  | [], _, _ => rfl
  | x :: r, s, h => by
    have e : stepK s x = s := by unfold stepK; rw [if_neg h]
    rw [List.foldl_cons, e]
    exact totS_stuck r s h

theorem tot_rel {l : List En} (hg : ∀ y ∈ l, Good y.ru) : (∃ r, tot l = (r, 0)) ∨ tot l = (zro, 1) := by
  have h := relO_fold (key := 0) (l.map z0) (some []) (zro, 0) (.inl ⟨rfl, rfl⟩) (fun x hx => by
    obtain ⟨y, hy, rfl⟩ := List.mem_map.1 hx
    exact ⟨rfl, hg y hy⟩)
  rw [tot_z0] at h
  rcases h with ⟨_, h⟩ | ⟨y, _, _, _, h⟩ | ⟨_, h⟩
  · exact .inl ⟨_, h⟩
  · exact .inl ⟨_, h⟩
  · exact .inr h

theorem tot_take {l : List En} {i : Nat} (h : i < l.length) : tot (l.take (i + 1)) = stepK (tot (l.take i)) l[i] := by
  unfold tot
  rw [List.take_succ_eq_append_getElem h, List.foldl_append]
  rfl

theorem tot_end {l : List En} {i : Nat} (h : (tot (l.take i)).2 ≠ 0) : tot l = tot (l.take i) := by
  have e : l = l.take i ++ l.drop i := (List.take_append_drop i l).symm
  have : tot l = (l.drop i).foldl stepK (tot (l.take i)) := by
    unfold tot
    rw [← List.foldl_append, List.take_append_drop]
  rw [this]
  exact totS_stuck _ _ h

structure MaA (w wr : World) (r : Ru) : Prop where
  below : Below w.heap.size w wr
  res : RowL wr w.heap.size 45 (ruV zro)
  tot : RowL wr (w.heap.size + 1) 45 (ruV r)

theorem MaA.next {w wr w' : World} {r : Ru} (h : MaA w wr r) (hb : Below wr.heap.size wr w') : MaA w w' r :=
  ⟨nextB h.below (Nat.le_refl _) hb, h.res.below hb h.res.lt, h.tot.below hb h.tot.lt⟩

theorem MaA.start (w : World) : MaA w ((w.alloc (.cells #[.int .i64 0, .int .i64 0, .int .i64 0, .int .i64 0, .int .i64 0, .int .i64 0] 45)).alloc (.cells #[.int .i64 0, .int .i64 0, .int .i64 0, .int .i64 0, .int .i64 0, .int .i64 0] 45)) zro := by
  have s1 : (w.alloc (.cells #[.int .i64 0, .int .i64 0, .int .i64 0, .int .i64 0, .int .i64 0, .int .i64 0] 45)).heap.size = w.heap.size + 1 := by simp
  have r0 : RowL (w.alloc (.cells #[.int .i64 0, .int .i64 0, .int .i64 0, .int .i64 0, .int .i64 0, .int .i64 0] 45)) w.heap.size 45 (ruV zro) := rowL_alloc w _ _
  have r1 := rowL_alloc (w.alloc (.cells #[.int .i64 0, .int .i64 0, .int .i64 0, .int .i64 0, .int .i64 0, .int .i64 0] 45)) (ruV zro) 45
  rw [s1] at r1
  exact ⟨((Below.refl _ _).alloc (Nat.le_refl _) _).alloc (by omega) _, r0.of_block (Below.heap_alloc _ _ _ (by omega)), r1⟩

theorem setB6_block (w : World) (g : Nat) (a b c d e f : Value) {k : Nat} (hk : k ≠ g) : ((((((w.setCell ⟨g, 0, none⟩ a).setCell ⟨g, 1, none⟩ b).setCell ⟨g, 2, none⟩ c).setCell ⟨g, 3, none⟩ d).setCell ⟨g, 4, none⟩ e).setCell ⟨g, 5, none⟩ f).heap[k]? = w.heap[k]? := by
  simp only [Below.heap_setCell _ _ _ _ (show k ≠ (⟨g, _, none⟩ : Addr).block from hk)]

def setB6 (w : World) (g : Nat) (r : Ru) : World := (((((w.setCell ⟨g, 0, none⟩ (.int .i64 r.c)).setCell ⟨g, 1, none⟩ (.int .i64 r.s)).setCell ⟨g, 2, none⟩ (.int .i64 r.lo)).setCell ⟨g, 3, none⟩ (.int .i64 r.hi)).setCell ⟨g, 4, none⟩ (.int .i64 r.t)).setCell ⟨g, 5, none⟩ (.int .i64 r.l)

theorem setB6_below {B : Nat} {w wr : World} (h : Below B w wr) {g : Nat} (hg : B ≤ g) (r : Ru) : Below B w (setB6 wr g r) :=
  (((((h.setCell (p := ⟨g, 0, none⟩) hg _).setCell (p := ⟨g, 1, none⟩) hg _).setCell (p := ⟨g, 2, none⟩) hg _).setCell (p := ⟨g, 3, none⟩) hg _).setCell (p := ⟨g, 4, none⟩) hg _).setCell (p := ⟨g, 5, none⟩) hg _

theorem MaA.turn {w wr : World} {r r' : Ru} (h : MaA w wr r) : MaA w (setB6 wr (w.heap.size + 1) r') r' :=
  ⟨setB6_below h.below (by omega) _, h.res.of_block (setB6_block _ _ _ _ _ _ _ _ (by omega)), (((((h.tot.set 0 _).set 1 _).set 2 _).set 3 _).set 4 _).set 5 _⟩

/-- What mergeAll answers. -/
def MaTo (s : Ru × Int) (w : World) (e : Ending) (w' : World) : Prop :=
  e = .returned (.tuple #[.agg #[.int .i64 s.1.c, .int .i64 s.1.s, .int .i64 s.1.lo, .int .i64 s.1.hi, .int .i64 s.1.t, .int .i64 s.1.l], .int .i64 s.2]) ∧ Below w.heap.size w w'

theorem maTo {S : Ru × Int} {r : Ru} {c : Int} {w w' : World} (h : S = (r, c)) (hb : Below w.heap.size w w') : MaTo S w (.returned (.tuple #[.agg #[.int .i64 r.c, .int .i64 r.s, .int .i64 r.lo, .int .i64 r.hi, .int .i64 r.t, .int .i64 r.l], .int .i64 c])) w' := by
  subst h
  exact ⟨rfl, hb⟩

theorem maZ {S : Ru × Int} {c : Int} {w w' : World} (h : S = (zro, c)) (hb : Below w.heap.size w w') : MaTo S w (.returned (.tuple #[.agg #[.int .i64 0, .int .i64 0, .int .i64 0, .int .i64 0, .int .i64 0, .int .i64 0], .int .i64 c])) w' := maTo h hb

set_option maxRecDepth 20000 in
set_option maxHeartbeats 2000000 in
theorem mergeAll_any (A : Option Addr) (C : Nat) (L : List En) (w : World) (h : RowAt w.heap.size w A (flatE L)) (hz : L.length ≤ 1000000) (hg : ∀ y ∈ L, Good y.ru) :
    Calls Tryz.prog 37 #[.slice A L.length C] w (MaTo (tot L) w) := by
  have HS := hideB (MaA.start w)
  obtain ⟨S, hS⟩ : ∃ S, tot L = S := ⟨_, rfl⟩
  rw [hS]
  have HSS := hideB hS
  clear hS
  go_enter Tryz.func37, Tryz.ntmps37
  go_wp2_with fail
  go_loopw [11] (fun vi wr => ∃ (i : Nat) (r : Ru), i ≤ L.length ∧ vi = .int .i64 i ∧ Hid (tot (L.take i) = (r, 0)) ∧ MaA w wr r) (fun vi _ => L.length - (intOf vi).toNat)
  case atStart => exact ⟨0, zro, Nat.zero_le _, rfl, (by show _ = _; rfl), HS.out⟩
  case round =>
    obtain ⟨i, r, hi, rfl, HT, hat⟩ := hrel
    have hsz := hat.below.size
    have lt1 := hat.tot.lt
    clear HS
    by_cases hlt : i < L.length
    · obtain ⟨b, o, rfl, hbl, c0, c1, c2, c3, c4, c5, c6⟩ := (h.below hat.below (Nat.le_refl _)).en hlt
      have hgi := hg _ (List.getElem_mem hlt)
      have HN := hideB (tot_take hlt)
      obtain ⟨x, hx⟩ : ∃ x, L[i] = x := ⟨_, rfl⟩
      rw [hx] at c0 c1 c2 c3 c4 c5 c6 hgi HN
      clear hx
      have lb : b < wr.heap.size := by omega
      have q0 : (0 : Int) ≤ (i : Int) := by omega
      have q1 : (i : Int) < (L.length : Int) := by omega
      have t1 := fun j => hat.tot.cell j
      simp only [ruV] at t1
      obtain ⟨m1, mc, hm⟩ : ∃ m1 mc, mrg r x.ru = (m1, mc) := ⟨_, _, rfl⟩
      have con := hideB fun W => merge_any r x.ru W
      rw [hm] at con
      simp only at con
      have HM : Hid (tot (L.take (i + 1)) = (m1, mc)) := by
        show _ = _
        rw [HN.out, HT.out, ← hm]
        rfl
      have HA := hideB hat
      clear hat HN hm
      by_cases he : mc = 0
      · subst he
        have HM0 := HM
        clear HM
        go_wp2_with (first | (go_at_call 40; refine (con.out _).mono ?_; rintro e w5 ⟨rfl, hb5⟩; have H5 := hideB ((HA.out.next ((Below.refl _ _).alloc (Nat.le_refl _) _)).next hb5); have t5 := fun j => H5.out.tot.cell j; simp only [ruV] at t5; have f5 := fun j => H5.out.tot.frozen j; have l5 := H5.out.tot.lt; clear hb5 t1))
        go_roundw
        case rel =>
          go_light
          exact ⟨i + 1, m1, by omega, by go_num, HM0, H5.out.turn.next ((Below.refl _ _).alloc (Nat.le_refl _) _)⟩
        case measure => simp [intOf]; omega
      · have hne : (mc != 0) = true := by simpa using he
        have HZ : Hid (S = (zro, mc)) := by
          show _ = _
          rw [← HSS.out]
          have e1 : (tot (L.take (i + 1))).2 ≠ 0 := by rw [HM.out]; exact he
          have e2 := tot_end e1
          rw [HM.out] at e2
          rcases tot_rel hg with ⟨r', h'⟩ | h'
          · rw [h'] at e2
            exact absurd (Prod.mk.inj e2).2.symm he
          · rw [h'] at e2
            rw [h', (Prod.mk.inj e2).2]
        clear HM he
        go_upto_region 7 with (first | (go_at_call 40; refine (con.out _).mono ?_; rintro e w5 ⟨rfl, hb5⟩; have H5 := hideB ((HA.out.next ((Below.refl _ _).alloc (Nat.le_refl _) _)).next hb5); have s5 := fun j => H5.out.res.cell j; simp only [ruV, zro] at s5; have f5 := fun j => H5.out.res.frozen j; have l5 := H5.out.res.lt; clear hb5 t1))
        iterate 20 go_step
        refine bodyPost_ret (v := .tuple #[.agg #[.int .i64 0, .int .i64 0, .int .i64 0, .int .i64 0, .int .i64 0, .int .i64 0], .int .i64 mc]) (by simp [results, Tryz.results37, go_sem, s5, l5]) rfl (maZ HZ.out ?_)
        exact (setB6_below H5.out.below (Nat.le_refl _) zro).alloc (by have := H5.out.below.size; simp [setB6]; omega) _
    · obtain rfl : i = L.length := by omega
      have hni : ¬ ((L.length : Int) < (L.length : Int)) := by omega
      have HT' : Hid (S = (r, 0)) := by
        have e := HT.out
        rw [List.take_length, HSS.out] at e
        exact e
      have t1 := fun j => hat.tot.cell j
      have s1 := fun j => hat.res.cell j
      have f1 := fun j => hat.res.frozen j
      simp only [ruV, zro] at t1 s1
      have HA := hideB hat
      clear hat HT
      go_wp2_with fail
      exact bodyPost_ret (v := .tuple #[.agg #[.int .i64 r.c, .int .i64 r.s, .int .i64 r.lo, .int .i64 r.hi, .int .i64 r.t, .int .i64 r.l], .int .i64 0]) (by simp [results, Tryz.results37, go_sem, s1]) rfl (maTo HT'.out (setB6_below HA.out.below (Nat.le_refl _) r))

end Go.Proofs.YtlojfgdpmaigmaeGreatDoor
