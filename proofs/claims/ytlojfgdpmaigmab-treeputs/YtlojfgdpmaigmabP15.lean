/- The walk of adopt. -/
import Derived.Test.YtlojfgdpmaigmabP03
import Derived.Deep.DeepCutAuto
import Derived.Test.YtlojfgdpmaigmabP02
namespace Go.Proofs.Ytlojfgdpmaigmab
open Go.RowKit Plain

theorem AdAt.cells {base : Nat} {w : World} {nb no : Nat} {t : TypeId} {vs : List Value} {kA0 dA0 : Option Addr} {wr : World} {kA : Option Addr} {kC : Nat} {keys : List Int} {dA : Option Addr} {dC : Nat} {kids : List Int} (h : AdAt base w nb no t vs kA0 dA0 wr kA kC keys dA dC kids) (hl : no + 3 < vs.length) :
    wr.cell? ⟨nb, no + 2, none⟩ = some (.slice kA keys.length kC) ∧ wr.cell? ⟨nb, no + 3, none⟩ = some (.slice dA kids.length dC) := by
  constructor
  · rw [h.row.cell, List.getElem?_set_ne (by omega), List.getElem?_set_self (by omega)]
  · rw [h.row.cell, List.getElem?_set_self (by simp; omega)]

theorem sib_row {base : Nat} {w : World} {nb no : Nat} {t t1 t2 : TypeId} {vs l1 : List Value} {kA0 dA0 : Option Addr} {wr w2 : World} {kA : Option Addr} {kC : Nat} {keys : List Int} {dA : Option Addr} {dC : Nat} {kids : List Int} {o2 v : Value} (h : AdAt base w nb no t vs kA0 dA0 wr kA kC keys dA dC kids)
    (hk : Kept (obk kA) ((wr.alloc (.cells l1.toArray t1)).drew.alloc (.cells #[o2] t2)) w2) : RowL (w2.setCell ⟨nb, no + 2, none⟩ v) wr.heap.size t1 l1 := by
  have r1 : RowL ((wr.alloc (.cells l1.toArray t1)).drew.alloc (.cells #[o2] t2)) wr.heap.size t1 l1 := (rowL_alloc wr l1 t1).of_block (Below.heap_alloc _ _ _ (by simp))
  have r2 := hk.row r1 (fun e => by have := h.lt.1 _ e; omega)
  exact r2.of_block (Below.heap_setCell _ _ _ _ (by have := h.row.lt; show wr.heap.size ≠ nb; omega))

set_option maxRecDepth 20000 in
set_option maxHeartbeats 4000000 in
theorem adopt_any (base nb no : Nat) (t : TypeId) (vs : List Value) (kA : Option Addr) (kC : Nat) (keys : List Int) (dA : Option Addr) (dC : Nat) (kids : List Int) (i : Nat) (mA : Option Addr) (mC : Nat) (more : List (Int × Int)) (w : World)
    (hA : AdAt base w nb no t vs kA dA w kA kC keys dA dC kids) (hvl : no + 3 < vs.length) (hB : base ≤ w.heap.size) (hm : RowAt w.heap.size w mA (flatS more)) (hmb : ∀ a, mA = some a → a.block ∉ nb :: obk kA ++ obk dA)
    (hi : i ≤ keys.length) (hi' : i + 1 ≤ kids.length) (hkz : (keys.length + more.length + 1) * 8 ≤ 140737488351232) (hdz : (kids.length + more.length + 1) * 8 ≤ 140737488351232) :
    Calls Try.prog 61 #[.pointer (some ⟨nb, no, none⟩), .int .i64 (i : Int), .slice mA more.length mC] w
      fun e w' => e = .returned (.tuple #[]) ∧ ∃ kA' kC' dA' dC', AdAt base w nb no t vs kA dA w' kA' kC' (keysAt keys i more more.length) dA' dC' (kidsAt kids i more more.length) := by
  go_enter Try.func61, Try.ntmps61
  go_wp2_with fail
  go_loopw [10] (fun vi wr => ∃ (k : Nat) (kA' : Option Addr) (kC' : Nat) (dA' : Option Addr) (dC' : Nat), k ≤ more.length ∧ vi = .int .i64 (k : Nat) ∧ AdAt base w nb no t vs kA dA wr kA' kC' (keysAt keys i more k) dA' dC' (kidsAt kids i more k)) (fun vi _ => more.length - (intOf vi).toNat)
  case atStart => exact ⟨0, kA, kC, dA, dC, Nat.zero_le _, rfl, by simpa [keysAt, kidsAt] using hA⟩
  case round =>
    obtain ⟨k, kA', kC', dA', dC', hk, rfl, hat⟩ := hrel
    by_cases hlt : k < more.length
    · obtain ⟨b, o, rfl, hbl, hc⟩ : ∃ b o, mA = some ⟨b, o, none⟩ ∧ b < w.heap.size ∧ ∀ j u, (flatS more)[j]? = some u → w.cell? ⟨b, o + j, none⟩ = some u := by
        rcases hm with h | h
        · have := flatS_length more; rw [h] at this; simp at this; omega
        · exact h
      have hkp := hat.kept.cell (b := b) (hb := hbl) (hx := hmb _ rfl)
      have c0 : wr.cell? ⟨b, o + k * 2, none⟩ = some (.int .i64 more[k].1) := (hkp _).trans (hc _ _ (flatS_get more k hlt).1)
      have c1 : wr.cell? ⟨b, o + k * 2 + 1, none⟩ = some (.int .i64 more[k].2) := by
        have := (hkp _).trans (hc _ _ (flatS_get more k hlt).2)
        rwa [← Nat.add_assoc] at this
      obtain ⟨n0, n1⟩ := hat.cells hvl
      have L1 : Hid _ := keysAt_length (keys := keys) (i := i) (Nat.le_of_lt hlt)
      have L2 : Hid _ := kidsAt_length (kids := kids) (i := i) (Nat.le_of_lt hlt)
      have fz := hat.row.frozen
      have hnl := hat.row.lt
      have hbw : b < wr.heap.size := Nat.lt_of_lt_of_le hbl hat.kept.size
      have HA : Hid _ := hat
      have HK1 : Hid _ := keysAt_succ (keys := keys) hi hlt
      have HK2 : Hid _ := kidsAt_succ (kids := kids) hi' hlt
      have L1s : Hid _ := keysAt_length (keys := keys) (i := i) (more := more) (k := k + 1) hlt
      have L2s : Hid _ := kidsAt_length (kids := kids) (i := i) (more := more) (k := k + 1) hlt
      have hBr : base ≤ wr.heap.size := Nat.le_trans hB hat.kept.size
      clear hat hkp
      generalize more[k].1 = sk at *
      generalize more[k].2 = sp at *
      generalize keysAt keys i more k = ks at *
      generalize kidsAt kids i more k = ds at *
      obtain ⟨ks', hks⟩ : ∃ ks', keysAt keys i more (k + 1) = ks' := ⟨_, rfl⟩
      obtain ⟨ds', hds⟩ : ∃ ds', kidsAt kids i more (k + 1) = ds' := ⟨_, rfl⟩
      rw [hks] at HK1 L1s
      rw [hds] at HK2 L2s
      have HE := hideC (And.intro hks hds)
      clear hks hds
      obtain ⟨p, hp⟩ : ∃ p, p = i + k := ⟨_, rfl⟩
      obtain ⟨p1, hp1⟩ : ∃ p1, p1 = i + k + 1 := ⟨_, rfl⟩
      rw [← hp1] at HK2
      rw [← hp] at HK1
      have x1 : IntKind.i64.wrap ((i : Int) + (k : Int)) = (p : Int) := by rw [IntKind.wrap_i64]; omega
      have x2 : IntKind.i64.wrap ((p : Int) + 1) = (p1 : Int) := by rw [IntKind.wrap_i64]; omega
      have hpl : p ≤ ks.length := by have := L1.out; omega
      have hpl1 : p1 ≤ ds.length := by have := L2.out; omega
      have z1 : (ks.length + 1) * 8 ≤ 140737488351232 := by have := L1.out; omega
      have z2 : (ds.length + 1) * 8 ≤ 140737488351232 := by have := L2.out; omega
      have z3 : Hid (ks'.length = ks.length + 1) := by show _ = _; rw [L1.out, L1s.out]; omega
      have z4 : Hid (ds'.length = ds.length + 1) := by show _ = _; rw [L2.out, L2s.out]; omega
      have HP : Hid (p = i + k ∧ p1 = i + k + 1) := ⟨hp, hp1⟩
      clear hp hp1 L1 L2 L1s L2s
      have hb1 : ∀ o1 o2 : Obj, Below wr.heap.size wr ((wr.alloc o1).drew.alloc o2) := fun o1 o2 => (((Below.refl _ _).alloc (Nat.le_refl _) _).drew).alloc (by simp) _
      have hv1 : ∀ o1 : Obj, RowL ((wr.alloc o1).drew.alloc (.cells #[.int .i64 sk] 3)) (wr.heap.size + 1) 3 [.int .i64 sk] := fun o1 => by
        have h := rowL_alloc (wr.alloc o1).drew [.int .i64 sk] 3
        rwa [show (wr.alloc o1).drew.heap.size = wr.heap.size + 1 by simp] at h
      have hnk1 : wr.heap.size + 1 ∉ obk kA' := fun e => by have := HA.out.lt.1 _ e; omega
      go_upto_region 3 with fail
      go_cut [10] from 10 to 44 (fun v wc => v = .int .i64 (k : Int) ∧ RowL wc wr.heap.size 103 [.int .i64 sk, .int .i64 sp] ∧ ∃ kA2 kC2, AdAt base w nb no t vs kA dA wc kA2 kC2 ks' dA' dC' ds)
      case first =>
        go_region_with (go_at_call 77; refine (insertI_any base kA' kC' (wr.heap.size + 1) 1 ks p sk _ (own_next HA.out.ok (hb1 _ _)) hpl (hv1 _) hnk1 (by simp; omega) z1).mono ?_; rintro e w2 ⟨A2, C2, rfl, hm2⟩; have q2 := hm2.kept.block nb (by simp; omega) HA.out.nk; have c2 : w2.cell? ⟨nb, no + 2, none⟩ = some (.slice kA' ks.length kC') := (World.cell?_of_block (a := ⟨nb, no + 2, none⟩) q2).trans ((hb1 _ _).cell (p := ⟨nb, no + 2, none⟩) hnl |>.trans n0); have f2 : w2.frozen? ⟨nb, no + 2, none⟩ = false := (World.frozen?_of_block (a := ⟨nb, no + 2, none⟩) q2).trans ((hb1 _ _).frozen (p := ⟨nb, no + 2, none⟩) hnl |>.trans (fz _)); have HM := hideC hm2; clear hm2 q2)
        all_goals
          go_wp2
          go_meet
          case rel =>
            have hm2 := HM.out
            rw [HK1.out] at hm2
            exact ⟨rfl, sib_row HA.out hm2.kept, A2, C2, HA.out.putK (hb1 _ _) hm2 z3.out⟩
      case rest =>
        obtain ⟨rfl, hsr, kA2, kC2, hat2⟩ := hcut
        have s0 := hsr.cell 0
        have s1 := hsr.cell 1
        simp only [List.getElem?_cons_zero, List.getElem?_cons_succ] at s0 s1
        obtain ⟨-, m1⟩ := hat2.cells hvl
        have fz2 := hat2.row.frozen
        have hnl2 := hat2.row.lt
        have hsl := hsr.lt
        have hwc := hat2.kept.size
        have HA2 := hideC hat2
        clear hat2 hsr fz hb1 hv1
        have hb1 : ∀ o2 : Obj, Below wc.heap.size wc (wc.drew.alloc o2) := fun o2 => ((Below.refl _ _).drew).alloc (Nat.le_refl _) _
        have hv1 : RowL (wc.drew.alloc (.cells #[.int .i64 sp] 3)) wc.heap.size 3 [.int .i64 sp] := rowL_alloc wc.drew [.int .i64 sp] 3
        have hnk2 : wc.heap.size ∉ obk dA' := fun e => by have := HA2.out.lt.2 _ e; omega
        go_upto_region 4 with fail
        go_region_with (go_at_call 77; refine (insertI_any base dA' dC' wc.heap.size 1 ds p1 sp _ (own_next HA2.out.od (hb1 _)) hpl1 hv1 hnk2 (by simp; omega) z2).mono ?_; rintro e w3 ⟨A3, C3, rfl, hm3⟩; have q2 := hm3.kept.block nb (by simp; omega) HA2.out.nd; have c2 : w3.cell? ⟨nb, no + 3, none⟩ = some (.slice dA' ds.length dC') := (World.cell?_of_block (a := ⟨nb, no + 3, none⟩) q2).trans ((hb1 _).cell (p := ⟨nb, no + 3, none⟩) hnl2 |>.trans m1); have f2 : w3.frozen? ⟨nb, no + 3, none⟩ = false := (World.frozen?_of_block (a := ⟨nb, no + 3, none⟩) q2).trans ((hb1 _).frozen (p := ⟨nb, no + 3, none⟩) hnl2 |>.trans (fz2 _)); have HM := hideC hm3; clear hm3 q2)
        all_goals
          go_wp2
          go_roundw
          case rel =>
            have hm3 := HM.out
            rw [HK2.out] at hm3
            exact ⟨k + 1, kA2, kC2, A3, C3, by omega, by go_num, by rw [HE.out.1, HE.out.2]; exact HA2.out.putD (hb1 _) hm3 z4.out⟩
          case measure => simp [intOf]; omega
    · obtain rfl : k = more.length := by omega
      go_wp2
      go_end0
      exact ⟨rfl, kA', kC', dA', dC', hat⟩

end Go.Proofs.Ytlojfgdpmaigmab

/- The parts of a node, one by one. -/
namespace Go.Proofs.Ytlojfgdpmaigmab
open Go.RowKit Plain

def pc (x : Nd) (s q i : Nat) : Nd := partN x (beg s q i) (beg s q (i + 1))
def pcs (x : Nd) (s q : Nat) : Nat → Nat → List Nd
  | _, 0 => []
  | i, k + 1 => pc x s q i :: pcs x s q (i + 1) k
def sbs (x : Nd) (s q : Nat) : Nat → Nat → Nat → List (Int × Int)
  | _, _, 0 => []
  | N, i, k + 1 => (firstK x (beg s q i), (N : Int)) :: sbs x s q (N + 1) (i + 1) k

theorem pcs_snoc (x : Nd) (s q : Nat) : ∀ (k i : Nat), pcs x s q i (k + 1) = pcs x s q i k ++ [pc x s q (i + k)]
  | 0, i => rfl
  | k + 1, i => by
    rw [pcs, pcs_snoc x s q k (i + 1), pcs, show i + 1 + k = i + (k + 1) by omega]
    rfl
theorem sbs_snoc (x : Nd) (s q : Nat) : ∀ (k N i : Nat), sbs x s q N i (k + 1) = sbs x s q N i k ++ [(firstK x (beg s q (i + k)), ((N + k : Nat) : Int))]
  | 0, N, i => rfl
  | k + 1, N, i => by
    rw [sbs, sbs_snoc x s q k (N + 1) (i + 1), sbs, show i + 1 + k = i + (k + 1) by omega, show N + 1 + k = N + (k + 1) by omega]
    rfl
theorem pcs_length (x : Nd) (s q : Nat) : ∀ (k i : Nat), (pcs x s q i k).length = k
  | 0, _ => rfl
  | k + 1, i => by simp [pcs, pcs_length x s q k (i + 1)]
theorem sbs_length (x : Nd) (s q : Nat) : ∀ (k N i : Nat), (sbs x s q N i k).length = k
  | 0, _, _ => rfl
  | k + 1, N, i => by simp [sbs, sbs_length x s q k (N + 1) (i + 1)]

theorem partsL_pcs (x : Nd) (s q : Nat) : ∀ (k i : Nat), partsL x (beg s q i) (cutsF s q i k) = pcs x s q i k
  | 0, _ => rfl
  | k + 1, i => by rw [cutsF, partsL, partsL_pcs x s q k (i + 1)]; rfl
theorem keysL_sbs (x : Nd) (s q : Nat) : ∀ (k i N : Nat), (keysL x (cutsF s q i (k + 1))).zip (placesF N k) = sbs x s q N (i + 1) k
  | 0, i, N => rfl
  | k + 1, i, N => by
    rw [cutsF, cutsF, keysL, placesF, List.zip_cons_cons, sbs]
    have := keysL_sbs x s q k (i + 1) (N + 1)
    rw [cutsF] at this
    rw [this]

/-- What split leaves, in these terms. -/
theorem splitN_eq {ns : List Nd} {p : Int} {x : Nd} (hx : nth ns p = x) (hs : ¬ sizeN x ≤ mostN x) (hm : 1 ≤ mostN x) :
    splitN ns p = (ns.set p.toNat (pc x (sizeN x) (partsN x) 0) ++ pcs x (sizeN x) (partsN x) 1 (partsN x - 1), sbs x (sizeN x) (partsN x) ns.length 1 (partsN x - 1)) := by
  have hq : 1 ≤ partsN x := by
    unfold partsN
    exact (Nat.le_div_iff_mul_le (by omega)).2 (by omega)
  unfold splitN
  rw [hx, if_neg hs]
  obtain ⟨k, hk⟩ : ∃ k, partsN x = k + 1 := ⟨partsN x - 1, by omega⟩
  have e1 : partsL x 0 (cutsN x) = pcs x (sizeN x) (partsN x) 0 (partsN x) := by
    have := partsL_pcs x (sizeN x) (partsN x) (partsN x) 0
    rw [beg_zero _ _ hq] at this
    exact this
  have e2 : (keysL x (cutsN x)).zip (placesF ns.length (partsN x - 1)) = sbs x (sizeN x) (partsN x) ns.length 1 (partsN x - 1) := by
    have := keysL_sbs x (sizeN x) (partsN x) (partsN x - 1) 0 ns.length
    rw [show partsN x - 1 + 1 = partsN x by omega] at this
    exact this
  rw [e1, e2]
  clear e1 e2 hq
  generalize partsN x = q at hk ⊢
  subst hk
  rfl

set_option maxHeartbeats 400000 in
theorem begin_any (s q i b1 b2 : Nat) (w : World) (c1 : w.cell? ⟨b1, 0, none⟩ = some (.int .i64 (s : Int))) (c2 : w.cell? ⟨b2, 0, none⟩ = some (.int .i64 (q : Int))) (hq : 1 ≤ q) (hq' : q ≤ 1000000) (hs : s ≤ 1000000) (hi : i ≤ 1000000) :
    Calls Try.prog 78 #[.int .i64 (i : Int), .pointer (some ⟨b1, 0, none⟩), .pointer (some ⟨b2, 0, none⟩)] w fun e w' => e = .returned (.int .i64 (beg s q i : Int)) ∧ w' = w := by
  have hm : s * i ≤ 1000000000000 := Nat.le_trans (Nat.mul_le_mul hs hi) (by decide)
  have hc : ((s * i : Nat) : Int) = (s : Int) * (i : Int) := Int.natCast_mul s i
  have hb1 : (0 : Int) ≤ (s : Int) * (i : Int) := Int.mul_nonneg (by omega) (by omega)
  have hb2 : (s : Int) * (i : Int) ≤ 1000000000000 := by omega
  have E : Hid (((s : Int) * (i : Int) + (q : Int) - 1) / (q : Int) = (beg s q i : Int)) := by
    show _ = _
    unfold beg
    have e : (s : Int) * (i : Int) + (q : Int) - 1 = ((s * i + q - 1 : Nat) : Int) := by omega
    rw [e]
    exact (Int.natCast_ediv _ _).symm
  clear hm hc
  go_enter Try.func78, Try.ntmps78
  go_wp2
  go_ret
  exact ⟨ret_int E.out, rfl⟩

end Go.Proofs.Ytlojfgdpmaigmab

/- The walk of split. -/
namespace Go.Proofs.Ytlojfgdpmaigmab
open Go.RowKit Plain

/-- What part asks of a node. -/
def PartPre (x : Nd) (a b : Nat) : Prop :=
  (x.leaf = true ∧ a < b ∧ b ≤ x.ents.length) ∨ (x.leaf = false ∧ x.keys.length + 1 = x.kids.length ∧ a + 2 ≤ b ∧ b ≤ x.kids.length ∧ x.buf.Pairwise (fun x y => x.key < y.key) ∧ waitA x a ≤ waitA x b)

theorem waitA_le (x : Nd) (k : Nat) : waitA x k ≤ x.buf.length := by
  unfold waitA
  split
  · omega
  · split
    · omega
    · exact lowN_le _ _

theorem own_form {w : World} {base : Nat} {e : TypeId} {size n C : Nat} {A : Option Addr} {vs : List Value} (h : w.ownsRow base e size (.slice A n C) n vs) : n ≤ C ∧ (A = none ∧ C = 0 ∧ n = 0 ∨ ∃ g, A = some ⟨g, 0, none⟩) := by
  rcases h.2 with ⟨hv, hn⟩ | ⟨g, cap, cur, hv, hb, hg, hl, _⟩
  · cases hv; exact ⟨by omega, .inl ⟨rfl, rfl, hn⟩⟩
  · simp only [Value.slice.injEq] at hv
    obtain ⟨rfl, -, rfl⟩ := hv
    exact ⟨hl, .inr ⟨g, rfl⟩⟩

abbrev PN.agg (q : PN) : Value := .agg #[.bool q.leaf, .slice q.eA q.ents.length q.eC, .slice q.kA q.keys.length q.kC, .slice q.dA q.kids.length q.dC, .slice q.bA q.buf.length q.bC]

theorem part_any (base : Nat) (p : PN) (a b : Nat) (w : World) (hp : p.own base w) (h : PartPre p.nd a b) :
    Calls Try.prog 79 #[.agg #[.bool p.leaf, .slice p.eA p.ents.length p.eC, .slice p.kA p.keys.length p.kC, .slice p.dA p.kids.length p.dC, .slice p.bA p.buf.length p.bC], .int .i64 (a : Int), .int .i64 (b : Int)] w
      fun e w' => ∃ q : PN, e = .returned (.agg #[.bool q.leaf, .slice q.eA q.ents.length q.eC, .slice q.kA q.keys.length q.kC, .slice q.dA q.kids.length q.dC, .slice q.bA q.buf.length q.bC]) ∧ q.nd = partN p.nd a b ∧ q.own w.heap.size w' ∧ q.blocks.Nodup ∧ Below w.heap.size w w' := by
  have hok := hp.ok
  obtain ⟨leaf, eA, eC, ents, kA, kC, keys, dA, dC, kids, bA, bC, buf⟩ := p
  obtain ⟨oe, okk, od, ob, ez, kz, dz, bz⟩ := hp
  simp only [PN.nd] at *
  rcases h with ⟨hl, h1, h2⟩ | ⟨hl, h1, h2, h3, h4, h5⟩
  · simp only at hl h2
    subst hl
    refine (part_leaf eA eC ents kA kC keys dA dC kids bA bC buf a b w hok.e (own_form oe).1 ez h1 h2).mono ?_
    rintro e w' ⟨A1, C1, rfl, o1, hb⟩
    have hlen : ((ents.drop a).take (b - a)).length = b - a := by simp; omega
    refine ⟨⟨true, A1, C1, (ents.drop a).take (b - a), none, 0, [], none, 0, [], none, 0, []⟩, ?_, ?_, ⟨own_len hlen o1, World.ownsRow_nil _ _ _ _, World.ownsRow_nil _ _ _ _, World.ownsRow_nil _ _ _ _, ?_, by simp, by simp, by simp⟩, ?_, hb⟩
    · simp only [hlen]; rfl
    · simp [partN]
    · show ((ents.drop a).take (b - a)).length * 56 ≤ _
      omega
    · unfold PN.blocks
      cases A1 <;> simp
  · simp only at hl h1 h2 h3 h4 h5
    subst hl
    obtain ⟨k1, k2⟩ := own_form okk
    obtain ⟨d1, d2⟩ := own_form od
    obtain ⟨b1, b2⟩ := own_form ob
    obtain ⟨kg, rfl⟩ : ∃ g, kA = some ⟨g, 0, none⟩ := by rcases k2 with ⟨_, _, k2⟩ | k2; omega; exact k2
    obtain ⟨dg, rfl⟩ : ∃ g, dA = some ⟨g, 0, none⟩ := by rcases d2 with ⟨_, _, d2⟩ | d2; omega; exact d2
    have w2 : waitA ⟨false, ents, keys, kids, buf⟩ b ≤ buf.length := waitA_le ⟨false, ents, keys, kids, buf⟩ b
    have fin : ∀ (c r1 r2 : Nat) (e : Ending) (w' : World), b = c + 1 → waitA ⟨false, ents, keys, kids, buf⟩ a = r1 → waitA ⟨false, ents, keys, kids, buf⟩ b = r2 → (∃ A1 C1 A2 C2 A3 C3, e = .returned (.agg #[.bool false, .slice none 0 0, .slice A1 (c - a) C1, .slice A2 (b - a) C2, .slice A3 (r2 - r1) C3]) ∧
        PN.own w.heap.size w' ⟨false, none, 0, [], A1, C1, (keys.drop a).take (c - a), A2, C2, (kids.drop a).take (b - a), A3, C3, (buf.drop r1).take (r2 - r1)⟩ ∧ (PN.mk false none 0 [] A1 C1 ((keys.drop a).take (c - a)) A2 C2 ((kids.drop a).take (b - a)) A3 C3 ((buf.drop r1).take (r2 - r1))).blocks.Nodup ∧ Below w.heap.size w w') →
        ∃ q : PN, e = .returned (.agg #[.bool q.leaf, .slice q.eA q.ents.length q.eC, .slice q.kA q.keys.length q.kC, .slice q.dA q.kids.length q.dC, .slice q.bA q.buf.length q.bC]) ∧ q.nd = partN ⟨false, ents, keys, kids, buf⟩ a b ∧ q.own w.heap.size w' ∧ q.blocks.Nodup ∧ Below w.heap.size w w' := by
      rintro c r1 r2 e w' hc hr1 hr2 ⟨A1, C1, A2, C2, A3, C3, rfl, ho, hn, hb⟩
      refine ⟨_, ?_, ?_, ho, hn, hb⟩
      · have l1 : ((keys.drop a).take (c - a)).length = c - a := by simp; omega
        have l2 : ((kids.drop a).take (b - a)).length = b - a := by simp; omega
        have l3 : ((buf.drop r1).take (r2 - r1)).length = r2 - r1 := by simp; omega
        simp only [l1, l2, l3]
        rfl
      · simp only [PN.nd, partN, Bool.false_eq_true, if_false, hr1, hr2]
        rw [show b - 1 - a = c - a by omega]
    rcases b2 with ⟨rfl, rfl, b2⟩ | ⟨fg, rfl⟩
    · obtain rfl : buf = [] := List.eq_nil_of_length_eq_zero b2
      have z0 : ∀ k, waitA ⟨false, ents, keys, kids, []⟩ k = 0 := fun k => by have : waitA ⟨false, ents, keys, kids, []⟩ k ≤ 0 := waitA_le ⟨false, ents, keys, kids, []⟩ k; omega
      refine (part_inner_none eA eC ents kg 0 kC keys dg 0 dC kids a b (b - 1) w hok.k hok.d k1 d1 kz dz h1 (show b = b - 1 + 1 by omega) (by omega) (by omega) h3 (z0 a) (z0 b)).mono ?_
      intro e w' hq
      refine fin (b - 1) 0 0 e w' (by omega) (z0 a) (z0 b) ?_
      simpa using hq
    · refine (part_inner_some eA eC ents kg 0 kC keys dg 0 dC kids fg 0 bC buf a b (b - 1) _ _ w hok.k hok.d hok.b k1 d1 b1 kz dz bz h1 (show b = b - 1 + 1 by omega) (by omega) (by omega) h3 h4 rfl rfl h5 w2).mono ?_
      intro e w' hq
      exact fin (b - 1) _ _ e w' (by omega) rfl rfl hq

end Go.Proofs.Ytlojfgdpmaigmab
