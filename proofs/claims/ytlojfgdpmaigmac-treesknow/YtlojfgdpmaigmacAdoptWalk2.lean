/- The walk of adopt. -/
import Derived.Test.YtlojfgdpmaigmacP24
import Derived.Deep.DeepCutAuto
namespace Go.Proofs.Ytlojfgdpmaigmac
open Go.RowKit Plain

theorem AdAt.cells {base : Nat} {w : World} {nb no : Nat} {t : TypeId} {vs : List Value} {kA0 dA0 : Option Addr} {wr : World} {kA : Option Addr} {kC : Nat} {keys : List Int} {dA : Option Addr} {dC : Nat} {kids : List Int} (h : AdAt base w nb no t vs kA0 dA0 wr kA kC keys dA dC kids) (hl : no + 3 < vs.length) :
    wr.cell? ⟨nb, no + 2, none⟩ = some (.slice kA keys.length kC) ∧ wr.cell? ⟨nb, no + 3, none⟩ = some (.slice dA kids.length dC) := by
  constructor
  · rw [h.row.cell, List.getElem?_set_ne (by omega), List.getElem?_set_self (by omega)]
  · rw [h.row.cell, List.getElem?_set_self (by simp; omega)]

theorem sib_row {base : Nat} {w : World} {nb no : Nat} {t t1 t2 : TypeId} {vs l1 : List Value} {kA0 dA0 : Option Addr} {wr w2 : World} {kA : Option Addr} {kC : Nat} {keys : List Int} {dA : Option Addr} {dC : Nat} {kids : List Int} {o2 v : Value} (h : AdAt base w nb no t vs kA0 dA0 wr kA kC keys dA dC kids)
    (hk : Kept (obk kA) ((wr.alloc (.cells l1.toArray t1)).drew.alloc (.cells #[o2] t2)) w2) : RowL (w2.setCell ⟨nb, no + 2, none⟩ v) wr.heap.size t1 l1 := by
  have r1 : RowL ((wr.alloc (.cells l1.toArray t1)).drew.alloc (.cells #[o2] t2)) wr.heap.size t1 l1 := (rowL_alloc wr l1 t1).of_block (Below.heap_alloc _ _ _ (by simp))
  have r2 := hk.row r1 (fun e => by have := h.lt.1 _ e; omega)
  exact r2.of_block (Below.heap_setCell _ _ _ _ (by have := h.row.lt; show wr.heap.size ≠ nb; omega))

set_option maxRecDepth 20000 in
set_option maxHeartbeats 4000000 in
theorem adopt_any (base nb no : Nat) (t : TypeId) (vs : List Value) (kA : Option Addr) (kC : Nat) (keys : List Int) (dA : Option Addr) (dC : Nat) (kids : List Int) (i : Nat) (mA : Option Addr) (mC : Nat) (more : List (Int × Int)) (w : World)
    (hA : AdAt base w nb no t vs kA dA w kA kC keys dA dC kids) (hvl : no + 3 < vs.length) (hB : base ≤ w.heap.size) (hm : RowAt w.heap.size w mA (flatS more)) (hmb : ∀ a, mA = some a → a.block ∉ nb :: obk kA ++ obk dA)
    (hi : i ≤ keys.length) (hi' : i + 1 ≤ kids.length) (hkz : (keys.length + more.length + 1) * 8 ≤ 140737488351232) (hdz : (kids.length + more.length + 1) * 8 ≤ 140737488351232) :
    Calls Try.prog 48 #[.pointer (some ⟨nb, no, none⟩), .int .i64 (i : Int), .slice mA more.length mC] w
      fun e w' => e = .returned (.tuple #[]) ∧ ∃ kA' kC' dA' dC', AdAt base w nb no t vs kA dA w' kA' kC' (keysAt keys i more more.length) dA' dC' (kidsAt kids i more more.length) := by
  go_enter Try.func48, Try.ntmps48
  go_wp2_with fail
  go_loopw [10] (fun vi wr => ∃ (k : Nat) (kA' : Option Addr) (kC' : Nat) (dA' : Option Addr) (dC' : Nat), k ≤ more.length ∧ vi = .int .i64 (k : Nat) ∧ AdAt base w nb no t vs kA dA wr kA' kC' (keysAt keys i more k) dA' dC' (kidsAt kids i more k)) (fun vi _ => more.length - (intOf vi).toNat)
  case atStart => exact ⟨0, kA, kC, dA, dC, Nat.zero_le _, rfl, by simpa [keysAt, kidsAt] using hA⟩
  case round =>
    obtain ⟨k, kA', kC', dA', dC', hk, rfl, hat⟩ := hrel
    by_cases hlt : k < more.length
    · obtain ⟨b, o, rfl, hbl, hc⟩ : ∃ b o, mA = some ⟨b, o, none⟩ ∧ b < w.heap.size ∧ ∀ j u, (flatS more)[j]? = some u → w.cell? ⟨b, o + j, none⟩ = some u := by
        rcases hm with h | h
        · have := flatS_length more; rw [h] at this; simp at this; omega
        · exact h
      have hkp := hat.kept.cell (b := b) (hb := hbl) (hx := hmb _ rfl)
      have c0 : wr.cell? ⟨b, o + k * 2, none⟩ = some (.int .i64 more[k].1) := (hkp _).trans (hc _ _ (flatS_get more k hlt).1)
      have c1 : wr.cell? ⟨b, o + k * 2 + 1, none⟩ = some (.int .i64 more[k].2) := by
        have := (hkp _).trans (hc _ _ (flatS_get more k hlt).2)
        rwa [← Nat.add_assoc] at this
      obtain ⟨n0, n1⟩ := hat.cells hvl
      have L1 : Hid _ := keysAt_length (keys := keys) (i := i) (Nat.le_of_lt hlt)
      have L2 : Hid _ := kidsAt_length (kids := kids) (i := i) (Nat.le_of_lt hlt)
      have fz := hat.row.frozen
      have hnl := hat.row.lt
      have hbw : b < wr.heap.size := Nat.lt_of_lt_of_le hbl hat.kept.size
      have HA : Hid _ := hat
      have HK1 : Hid _ := keysAt_succ (keys := keys) hi hlt
      have HK2 : Hid _ := kidsAt_succ (kids := kids) hi' hlt
      have L1s : Hid _ := keysAt_length (keys := keys) (i := i) (more := more) (k := k + 1) hlt
      have L2s : Hid _ := kidsAt_length (kids := kids) (i := i) (more := more) (k := k + 1) hlt
      have hBr : base ≤ wr.heap.size := Nat.le_trans hB hat.kept.size
      clear hat hkp
      generalize more[k].1 = sk at *
      generalize more[k].2 = sp at *
      generalize keysAt keys i more k = ks at *
      generalize kidsAt kids i more k = ds at *
      obtain ⟨ks', hks⟩ : ∃ ks', keysAt keys i more (k + 1) = ks' := ⟨_, rfl⟩
      obtain ⟨ds', hds⟩ : ∃ ds', kidsAt kids i more (k + 1) = ds' := ⟨_, rfl⟩
      rw [hks] at HK1 L1s
      rw [hds] at HK2 L2s
      have HE := hideC (And.intro hks hds)
      clear hks hds
      obtain ⟨p, hp⟩ : ∃ p, p = i + k := ⟨_, rfl⟩
      obtain ⟨p1, hp1⟩ : ∃ p1, p1 = i + k + 1 := ⟨_, rfl⟩
      rw [← hp1] at HK2
      rw [← hp] at HK1
      have x1 : IntKind.i64.wrap ((i : Int) + (k : Int)) = (p : Int) := by rw [IntKind.wrap_i64]; omega
      have x2 : IntKind.i64.wrap ((p : Int) + 1) = (p1 : Int) := by rw [IntKind.wrap_i64]; omega
      have hpl : p ≤ ks.length := by have := L1.out; omega
      have hpl1 : p1 ≤ ds.length := by have := L2.out; omega
      have z1 : (ks.length + 1) * 8 ≤ 140737488351232 := by have := L1.out; omega
      have z2 : (ds.length + 1) * 8 ≤ 140737488351232 := by have := L2.out; omega
      have z3 : Hid (ks'.length = ks.length + 1) := by show _ = _; rw [L1.out, L1s.out]; omega
      have z4 : Hid (ds'.length = ds.length + 1) := by show _ = _; rw [L2.out, L2s.out]; omega
      have HP : Hid (p = i + k ∧ p1 = i + k + 1) := ⟨hp, hp1⟩
      clear hp hp1 L1 L2 L1s L2s
      have hb1 : ∀ o1 o2 : Obj, Below wr.heap.size wr ((wr.alloc o1).drew.alloc o2) := fun o1 o2 => (((Below.refl _ _).alloc (Nat.le_refl _) _).drew).alloc (by simp) _
      have hv1 : ∀ o1 : Obj, RowL ((wr.alloc o1).drew.alloc (.cells #[.int .i64 sk] 3)) (wr.heap.size + 1) 3 [.int .i64 sk] := fun o1 => by
        have h := rowL_alloc (wr.alloc o1).drew [.int .i64 sk] 3
        rwa [show (wr.alloc o1).drew.heap.size = wr.heap.size + 1 by simp] at h
      have hnk1 : wr.heap.size + 1 ∉ obk kA' := fun e => by have := HA.out.lt.1 _ e; omega
      go_upto_region 3 with fail
      go_cut [10] from 10 to 44 (fun v wc => v = .int .i64 (k : Int) ∧ RowL wc wr.heap.size 100 [.int .i64 sk, .int .i64 sp] ∧ ∃ kA2 kC2, AdAt base w nb no t vs kA dA wc kA2 kC2 ks' dA' dC' ds)
      case first =>
        go_region_with (go_at_call 64; refine (insertI_any base kA' kC' (wr.heap.size + 1) 1 ks p sk _ (own_next HA.out.ok (hb1 _ _)) hpl (hv1 _) hnk1 (by simp; omega) z1).mono ?_; rintro e w2 ⟨A2, C2, rfl, hm2⟩; have q2 := hm2.kept.block nb (by simp; omega) HA.out.nk; have c2 : w2.cell? ⟨nb, no + 2, none⟩ = some (.slice kA' ks.length kC') := (World.cell?_of_block (a := ⟨nb, no + 2, none⟩) q2).trans ((hb1 _ _).cell (p := ⟨nb, no + 2, none⟩) hnl |>.trans n0); have f2 : w2.frozen? ⟨nb, no + 2, none⟩ = false := (World.frozen?_of_block (a := ⟨nb, no + 2, none⟩) q2).trans ((hb1 _ _).frozen (p := ⟨nb, no + 2, none⟩) hnl |>.trans (fz _)); have HM := hideC hm2; clear hm2 q2)
        all_goals
          go_wp2
          go_meet
          case rel =>
            have hm2 := HM.out
            rw [HK1.out] at hm2
            exact ⟨rfl, sib_row HA.out hm2.kept, A2, C2, HA.out.putK (hb1 _ _) hm2 z3.out⟩
      case rest =>
        obtain ⟨rfl, hsr, kA2, kC2, hat2⟩ := hcut
        have s0 := hsr.cell 0
        have s1 := hsr.cell 1
        simp only [List.getElem?_cons_zero, List.getElem?_cons_succ] at s0 s1
        obtain ⟨-, m1⟩ := hat2.cells hvl
        have fz2 := hat2.row.frozen
        have hnl2 := hat2.row.lt
        have hsl := hsr.lt
        have hwc := hat2.kept.size
        have HA2 := hideC hat2
        clear hat2 hsr fz hb1 hv1
        have hb1 : ∀ o2 : Obj, Below wc.heap.size wc (wc.drew.alloc o2) := fun o2 => ((Below.refl _ _).drew).alloc (Nat.le_refl _) _
        have hv1 : RowL (wc.drew.alloc (.cells #[.int .i64 sp] 3)) wc.heap.size 3 [.int .i64 sp] := rowL_alloc wc.drew [.int .i64 sp] 3
        have hnk2 : wc.heap.size ∉ obk dA' := fun e => by have := HA2.out.lt.2 _ e; omega
        go_upto_region 4 with fail
        go_region_with (go_at_call 64; refine (insertI_any base dA' dC' wc.heap.size 1 ds p1 sp _ (own_next HA2.out.od (hb1 _)) hpl1 hv1 hnk2 (by simp; omega) z2).mono ?_; rintro e w3 ⟨A3, C3, rfl, hm3⟩; have q2 := hm3.kept.block nb (by simp; omega) HA2.out.nd; have c2 : w3.cell? ⟨nb, no + 3, none⟩ = some (.slice dA' ds.length dC') := (World.cell?_of_block (a := ⟨nb, no + 3, none⟩) q2).trans ((hb1 _).cell (p := ⟨nb, no + 3, none⟩) hnl2 |>.trans m1); have f2 : w3.frozen? ⟨nb, no + 3, none⟩ = false := (World.frozen?_of_block (a := ⟨nb, no + 3, none⟩) q2).trans ((hb1 _).frozen (p := ⟨nb, no + 3, none⟩) hnl2 |>.trans (fz2 _)); have HM := hideC hm3; clear hm3 q2)
        all_goals
          go_wp2
          go_roundw
          case rel =>
            have hm3 := HM.out
            rw [HK2.out] at hm3
            exact ⟨k + 1, kA2, kC2, A3, C3, by omega, by go_num, by rw [HE.out.1, HE.out.2]; exact HA2.out.putD (hb1 _) hm3 z4.out⟩
          case measure => simp [intOf]; omega
    · obtain rfl : k = more.length := by omega
      go_wp2
      go_end0
      exact ⟨rfl, kA', kC', dA', dC', hat⟩

end Go.Proofs.Ytlojfgdpmaigmac
