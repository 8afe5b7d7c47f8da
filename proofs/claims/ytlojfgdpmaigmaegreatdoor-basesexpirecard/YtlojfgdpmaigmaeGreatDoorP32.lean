/- A node that gets the siblings of one of its kids. -/
import Derived.Test.YtlojfgdpmaigmaeGreatDoorP31
import Derived.Test.YtlojfgdpmaigmaeGreatDoorP30
import Derived.Deep.DeepCutAuto
namespace Go.Proofs.YtlojfgdpmaigmaeGreatDoor
open Go.RowKit Plain

def flatS : List (Int × Int) → List Value
  | [] => []
  | (k, p) :: r => .int .i64 k :: .int .i64 p :: flatS r

theorem flatS_length : ∀ l : List (Int × Int), (flatS l).length = l.length * 2
  | [] => rfl
  | (k, p) :: r => by simp [flatS, flatS_length r]; omega

theorem flatS_get : ∀ (l : List (Int × Int)) (k : Nat) (hk : k < l.length), (flatS l)[k * 2]? = some (.int .i64 l[k].1) ∧ (flatS l)[k * 2 + 1]? = some (.int .i64 l[k].2)
  | (a, b) :: r, 0, _ => ⟨rfl, rfl⟩
  | (a, b) :: r, k + 1, hk => by
    have := flatS_get r k (by simpa using hk)
    simp only [flatS, List.getElem_cons_succ]
    rw [show (k + 1) * 2 = k * 2 + 1 + 1 by omega, show k * 2 + 1 + 1 + 1 = (k * 2 + 1) + 1 + 1 by omega]
    simpa using this

theorem flatS_append : ∀ a b : List (Int × Int), flatS (a ++ b) = flatS a ++ flatS b
  | [], _ => rfl
  | (_, _) :: r, b => by simp [flatS, flatS_append r b]

def adoptN (x : Nd) (i : Nat) (more : List (Int × Int)) : Nd := { x with keys := x.keys.take i ++ more.map (·.1) ++ x.keys.drop i, kids := x.kids.take (i + 1) ++ more.map (·.2) ++ x.kids.drop (i + 1) }

/-- Behind k of the siblings. -/
def keysAt (keys : List Int) (i : Nat) (more : List (Int × Int)) (k : Nat) : List Int := keys.take i ++ (more.take k).map (·.1) ++ keys.drop i
def kidsAt (kids : List Int) (i : Nat) (more : List (Int × Int)) (k : Nat) : List Int := kids.take (i + 1) ++ (more.take k).map (·.2) ++ kids.drop (i + 1)

theorem ins_at (l a : List Int) (z : Int) (i : Nat) (hi : i ≤ l.length) : (l.take i ++ a ++ l.drop i).take (i + a.length) ++ z :: (l.take i ++ a ++ l.drop i).drop (i + a.length) = l.take i ++ (a ++ [z]) ++ l.drop i := by
  have hl : (l.take i ++ a).length = i + a.length := by simp; omega
  rw [← hl, List.take_left, List.drop_left]
  simp

theorem keysAt_succ {keys : List Int} {i k : Nat} {more : List (Int × Int)} (hi : i ≤ keys.length) (hk : k < more.length) : (keysAt keys i more k).take (i + k) ++ more[k].1 :: (keysAt keys i more k).drop (i + k) = keysAt keys i more (k + 1) := by
  have h := ins_at keys ((more.take k).map (·.1)) more[k].1 i hi
  rw [show ((more.take k).map (·.1)).length = k by simp; omega] at h
  unfold keysAt
  rw [h, List.take_succ_eq_append_getElem hk, List.map_append]
  rfl

theorem kidsAt_succ {kids : List Int} {i k : Nat} {more : List (Int × Int)} (hi : i + 1 ≤ kids.length) (hk : k < more.length) : (kidsAt kids i more k).take (i + k + 1) ++ more[k].2 :: (kidsAt kids i more k).drop (i + k + 1) = kidsAt kids i more (k + 1) := by
  have h := ins_at kids ((more.take k).map (·.2)) more[k].2 (i + 1) hi
  rw [show ((more.take k).map (·.2)).length = k by simp; omega] at h
  unfold kidsAt
  rw [show i + k + 1 = i + 1 + k by omega, h, List.take_succ_eq_append_getElem hk, List.map_append]
  rfl

theorem keysAt_length {keys : List Int} {i k : Nat} {more : List (Int × Int)} (hk : k ≤ more.length) : (keysAt keys i more k).length = keys.length + k := by
  simp [keysAt]; omega
theorem kidsAt_length {kids : List Int} {i k : Nat} {more : List (Int × Int)} (hk : k ≤ more.length) : (kidsAt kids i more k).length = kids.length + k := by
  simp [kidsAt]; omega

/-- The node's row of cells, its Keys and Kids apart. -/
structure AdAt (base : Nat) (w : World) (nb no : Nat) (t : TypeId) (vs : List Value) (kA0 dA0 : Option Addr) (wr : World) (kA : Option Addr) (kC : Nat) (keys : List Int) (dA : Option Addr) (dC : Nat) (kids : List Int) : Prop where
  row : RowL wr nb t ((vs.set (no + 2) (.slice kA keys.length kC)).set (no + 3) (.slice dA kids.length dC))
  ok : wr.ownsRow base 3 1 (.slice kA keys.length kC) keys.length (ints keys)
  od : wr.ownsRow base 3 1 (.slice dA kids.length dC) kids.length (ints kids)
  kept : Kept (nb :: obk kA0 ++ obk dA0) w wr
  lk : ∀ k ∈ obk kA, k ∈ obk kA0 ∨ w.heap.size ≤ k
  ld : ∀ k ∈ obk dA, k ∈ obk dA0 ∨ w.heap.size ≤ k
  ne : ∀ k ∈ obk kA, k ∉ obk dA
  nk : nb ∉ obk kA
  nd : nb ∉ obk dA

theorem obk_of {A : Option Addr} {n C k : Nat} (h : (Value.slice A n C).ownBlock = some k) : k ∈ obk A := by
  cases A with
  | none => cases h
  | some a => simpa [obk, Value.ownBlock, eq_comm] using h

theorem AdAt.lt {base : Nat} {w : World} {nb no : Nat} {t : TypeId} {vs : List Value} {kA0 dA0 : Option Addr} {wr : World} {kA : Option Addr} {kC : Nat} {keys : List Int} {dA : Option Addr} {dC : Nat} {kids : List Int} (h : AdAt base w nb no t vs kA0 dA0 wr kA kC keys dA dC kids) :
    (∀ k ∈ obk kA, k < wr.heap.size) ∧ ∀ k ∈ obk dA, k < wr.heap.size := by
  constructor
  · intro k hk
    refine (own_lt h.ok k ?_).2
    simpa [obk] using hk
  · intro k hk
    refine (own_lt h.od k ?_).2
    simpa [obk] using hk

/-- Blocks more; nothing that was is turned. -/
theorem AdAt.below {base : Nat} {w : World} {nb no : Nat} {t : TypeId} {vs : List Value} {kA0 dA0 : Option Addr} {wr w' : World} {kA : Option Addr} {kC : Nat} {keys : List Int} {dA : Option Addr} {dC : Nat} {kids : List Int} (h : AdAt base w nb no t vs kA0 dA0 wr kA kC keys dA dC kids) (hb : Below wr.heap.size wr w') :
    AdAt base w nb no t vs kA0 dA0 w' kA kC keys dA dC kids :=
  ⟨h.row.below hb h.row.lt, own_next h.ok hb, own_next h.od hb, h.kept.trans (Kept.of_below hb), h.lk, h.ld, h.ne, h.nk, h.nd⟩

theorem Kept.step {ex ex2 : List Nat} {w wr w' : World} (h : Kept ex w wr) (k : Kept ex2 wr w') (hs : ∀ b ∈ ex2, b ∈ ex ∨ w.heap.size ≤ b) : Kept ex w w' :=
  ⟨k.os.trans h.os, k.tape.trans h.tape, k.output.trans h.output, Nat.le_trans h.size k.size, fun i hi hx => (k.block i (Nat.lt_of_lt_of_le hi h.size) (fun e => by rcases hs i e with e | e; exact hx e; omega)).trans (h.block i hi hx)⟩

theorem mem_obk {A : Option Addr} {k : Nat} : k ∈ obk A ↔ A.map Addr.block = some k := by simp [obk]

section
variable {base : Nat} {w : World} {nb no : Nat} {t : TypeId} {vs : List Value} {kA0 dA0 : Option Addr} {wr W w1 : World} {kA : Option Addr} {kC : Nat} {keys : List Int} {dA : Option Addr} {dC : Nat} {kids : List Int}

theorem AdAt.putK (h : AdAt base w nb no t vs kA0 dA0 wr kA kC keys dA dC kids) (hW : Below wr.heap.size wr W) {n kC' : Nat} {kA' : Option Addr} {keys' : List Int} (hm : Moved base 3 1 n kA kA' kC' (ints keys') W w1) (hn : keys'.length = n) :
    AdAt base w nb no t vs kA0 dA0 (w1.setCell ⟨nb, no + 2, none⟩ (.slice kA' n kC')) kA' kC' keys' dA dC kids := by
  subst hn
  have H := h.below hW
  have hnl := H.row.lt
  have hws := H.kept.size
  have hlies : ∀ k ∈ obk kA', k ∈ obk kA ∨ W.heap.size ≤ k := by
    intro k hk
    rw [mem_obk] at hk
    rcases hm.lies with e | ⟨k', e, hk'⟩
    · left; rw [mem_obk, ← e]; exact hk
    · rw [e] at hk; cases hk; exact .inr hk'
  have hnk' : nb ∉ obk kA' := fun e => by
    rcases hlies nb e with e | e
    · exact H.nk e
    · omega
  have hrow : RowL w1 nb t ((vs.set (no + 2) (.slice kA keys.length kC)).set (no + 3) (.slice dA kids.length dC)) := H.row.of_block (hm.kept.block nb hnl H.nk)
  have hset : ∀ k, k ≠ nb → (w1.setCell ⟨nb, no + 2, none⟩ (.slice kA' keys'.length kC')).heap[k]? = w1.heap[k]? := fun k hk => Below.heap_setCell _ _ _ _ hk
  refine ⟨?_, ?_, ?_, ?_, ?_, h.ld, ?_, hnk', h.nd⟩
  · have := hrow.set (no + 2) (.slice kA' keys'.length kC')
    rwa [List.set_comm _ _ (by omega), List.set_set] at this
  · exact own_of_block hm.own fun k hk => hset k (fun e => hnk' (e ▸ obk_of hk))
  · refine own_of_block H.od fun k hk => ?_
    have hk' := obk_of hk
    rw [hset k (fun e => H.nd (e ▸ hk'))]
    exact hm.kept.block k (H.lt.2 k hk') (fun e => H.ne k e hk')
  · refine (H.kept.step hm.kept fun k hk => ?_).set (.inl (by simp)) _
    rcases h.lk k hk with e | e
    · exact .inl (by simp [e])
    · exact .inr e
  · intro k hk
    rcases hlies k hk with e | e
    · exact h.lk k e
    · exact .inr (by omega)
  · intro k hk hd
    rcases hlies k hk with e | e
    · exact h.ne k e hd
    · have := H.lt.2 k hd; omega

theorem AdAt.putD (h : AdAt base w nb no t vs kA0 dA0 wr kA kC keys dA dC kids) (hW : Below wr.heap.size wr W) {n dC' : Nat} {dA' : Option Addr} {kids' : List Int} (hm : Moved base 3 1 n dA dA' dC' (ints kids') W w1) (hn : kids'.length = n) :
    AdAt base w nb no t vs kA0 dA0 (w1.setCell ⟨nb, no + 3, none⟩ (.slice dA' n dC')) kA kC keys dA' dC' kids' := by
  subst hn
  have H := h.below hW
  have hnl := H.row.lt
  have hws := H.kept.size
  have hlies : ∀ k ∈ obk dA', k ∈ obk dA ∨ W.heap.size ≤ k := by
    intro k hk
    rw [mem_obk] at hk
    rcases hm.lies with e | ⟨k', e, hk'⟩
    · left; rw [mem_obk, ← e]; exact hk
    · rw [e] at hk; cases hk; exact .inr hk'
  have hnd' : nb ∉ obk dA' := fun e => by
    rcases hlies nb e with e | e
    · exact H.nd e
    · omega
  have hrow : RowL w1 nb t ((vs.set (no + 2) (.slice kA keys.length kC)).set (no + 3) (.slice dA kids.length dC)) := H.row.of_block (hm.kept.block nb hnl H.nd)
  have hset : ∀ k, k ≠ nb → (w1.setCell ⟨nb, no + 3, none⟩ (.slice dA' kids'.length dC')).heap[k]? = w1.heap[k]? := fun k hk => Below.heap_setCell _ _ _ _ hk
  refine ⟨?_, ?_, ?_, ?_, h.lk, ?_, ?_, h.nk, hnd'⟩
  · have := hrow.set (no + 3) (.slice dA' kids'.length dC')
    rwa [List.set_set] at this
  · refine own_of_block H.ok fun k hk => ?_
    have hk' := obk_of hk
    rw [hset k (fun e => H.nk (e ▸ hk'))]
    exact hm.kept.block k (H.lt.1 k hk') (H.ne k hk')
  · exact own_of_block hm.own fun k hk => hset k (fun e => hnd' (e ▸ obk_of hk))
  · refine (H.kept.step hm.kept fun k hk => ?_).set (.inl (by simp)) _
    rcases h.ld k hk with e | e
    · exact .inl (by simp [e])
    · exact .inr e
  · intro k hk
    rcases hlies k hk with e | e
    · exact h.ld k e
    · exact .inr (by omega)
  · intro k hk hd
    rcases hlies k hd with e | e
    · exact h.ne k hk e
    · have := H.lt.1 k hk; omega
end

end Go.Proofs.YtlojfgdpmaigmaeGreatDoor

/- The walk of adopt. -/
namespace Go.Proofs.YtlojfgdpmaigmaeGreatDoor
open Go.RowKit Plain

theorem AdAt.cells {base : Nat} {w : World} {nb no : Nat} {t : TypeId} {vs : List Value} {kA0 dA0 : Option Addr} {wr : World} {kA : Option Addr} {kC : Nat} {keys : List Int} {dA : Option Addr} {dC : Nat} {kids : List Int} (h : AdAt base w nb no t vs kA0 dA0 wr kA kC keys dA dC kids) (hl : no + 3 < vs.length) :
    wr.cell? ⟨nb, no + 2, none⟩ = some (.slice kA keys.length kC) ∧ wr.cell? ⟨nb, no + 3, none⟩ = some (.slice dA kids.length dC) := by
  constructor
  · rw [h.row.cell, List.getElem?_set_ne (by omega), List.getElem?_set_self (by omega)]
  · rw [h.row.cell, List.getElem?_set_self (by simp; omega)]

theorem sib_row {base : Nat} {w : World} {nb no : Nat} {t t1 t2 : TypeId} {vs l1 : List Value} {kA0 dA0 : Option Addr} {wr w2 : World} {kA : Option Addr} {kC : Nat} {keys : List Int} {dA : Option Addr} {dC : Nat} {kids : List Int} {o2 v : Value} (h : AdAt base w nb no t vs kA0 dA0 wr kA kC keys dA dC kids)
    (hk : Kept (obk kA) ((wr.alloc (.cells l1.toArray t1)).drew.alloc (.cells #[o2] t2)) w2) : RowL (w2.setCell ⟨nb, no + 2, none⟩ v) wr.heap.size t1 l1 := by
  have r1 : RowL ((wr.alloc (.cells l1.toArray t1)).drew.alloc (.cells #[o2] t2)) wr.heap.size t1 l1 := (rowL_alloc wr l1 t1).of_block (Below.heap_alloc _ _ _ (by simp))
  have r2 := hk.row r1 (fun e => by have := h.lt.1 _ e; omega)
  exact r2.of_block (Below.heap_setCell _ _ _ _ (by have := h.row.lt; show wr.heap.size ≠ nb; omega))

set_option maxRecDepth 20000 in
set_option maxHeartbeats 4000000 in
theorem adopt_any (base nb no : Nat) (t : TypeId) (vs : List Value) (kA : Option Addr) (kC : Nat) (keys : List Int) (dA : Option Addr) (dC : Nat) (kids : List Int) (i : Nat) (mA : Option Addr) (mC : Nat) (more : List (Int × Int)) (w : World)
    (hA : AdAt base w nb no t vs kA dA w kA kC keys dA dC kids) (hvl : no + 3 < vs.length) (hB : base ≤ w.heap.size) (hm : RowAt w.heap.size w mA (flatS more)) (hmb : ∀ a, mA = some a → a.block ∉ nb :: obk kA ++ obk dA)
    (hi : i ≤ keys.length) (hi' : i + 1 ≤ kids.length) (hkz : (keys.length + more.length + 1) * 8 ≤ 140737488351232) (hdz : (kids.length + more.length + 1) * 8 ≤ 140737488351232) :
    Calls Tryz.prog 103 #[.pointer (some ⟨nb, no, none⟩), .int .i64 (i : Int), .slice mA more.length mC] w
      fun e w' => e = .returned (.tuple #[]) ∧ ∃ kA' kC' dA' dC', AdAt base w nb no t vs kA dA w' kA' kC' (keysAt keys i more more.length) dA' dC' (kidsAt kids i more more.length) := by
  go_enter Tryz.func103, Tryz.ntmps103
  go_wp2_with fail
  go_loopw [10] (fun vi wr => ∃ (k : Nat) (kA' : Option Addr) (kC' : Nat) (dA' : Option Addr) (dC' : Nat), k ≤ more.length ∧ vi = .int .i64 (k : Nat) ∧ AdAt base w nb no t vs kA dA wr kA' kC' (keysAt keys i more k) dA' dC' (kidsAt kids i more k)) (fun vi _ => more.length - (intOf vi).toNat)
  case atStart => exact ⟨0, kA, kC, dA, dC, Nat.zero_le _, rfl, by simpa [keysAt, kidsAt] using hA⟩
  case round =>
    obtain ⟨k, kA', kC', dA', dC', hk, rfl, hat⟩ := hrel
    by_cases hlt : k < more.length
    · obtain ⟨b, o, rfl, hbl, hc⟩ : ∃ b o, mA = some ⟨b, o, none⟩ ∧ b < w.heap.size ∧ ∀ j u, (flatS more)[j]? = some u → w.cell? ⟨b, o + j, none⟩ = some u := by
        rcases hm with h | h
        · have := flatS_length more; rw [h] at this; simp at this; omega
        · exact h
      have hkp := hat.kept.cell (b := b) (hb := hbl) (hx := hmb _ rfl)
      have c0 : wr.cell? ⟨b, o + k * 2, none⟩ = some (.int .i64 more[k].1) := (hkp _).trans (hc _ _ (flatS_get more k hlt).1)
      have c1 : wr.cell? ⟨b, o + k * 2 + 1, none⟩ = some (.int .i64 more[k].2) := by
        have := (hkp _).trans (hc _ _ (flatS_get more k hlt).2)
        rwa [← Nat.add_assoc] at this
      obtain ⟨n0, n1⟩ := hat.cells hvl
      have L1 : Hid _ := keysAt_length (keys := keys) (i := i) (Nat.le_of_lt hlt)
      have L2 : Hid _ := kidsAt_length (kids := kids) (i := i) (Nat.le_of_lt hlt)
      have fz := hat.row.frozen
      have hnl := hat.row.lt
      have hbw : b < wr.heap.size := Nat.lt_of_lt_of_le hbl hat.kept.size
      have HA : Hid _ := hat
      have HK1 : Hid _ := keysAt_succ (keys := keys) hi hlt
      have HK2 : Hid _ := kidsAt_succ (kids := kids) hi' hlt
      have L1s : Hid _ := keysAt_length (keys := keys) (i := i) (more := more) (k := k + 1) hlt
      have L2s : Hid _ := kidsAt_length (kids := kids) (i := i) (more := more) (k := k + 1) hlt
      have hBr : base ≤ wr.heap.size := Nat.le_trans hB hat.kept.size
      clear hat hkp
      generalize more[k].1 = sk at *
      generalize more[k].2 = sp at *
      generalize keysAt keys i more k = ks at *
      generalize kidsAt kids i more k = ds at *
      obtain ⟨ks', hks⟩ : ∃ ks', keysAt keys i more (k + 1) = ks' := ⟨_, rfl⟩
      obtain ⟨ds', hds⟩ : ∃ ds', kidsAt kids i more (k + 1) = ds' := ⟨_, rfl⟩
      rw [hks] at HK1 L1s
      rw [hds] at HK2 L2s
      have HE := hideC (And.intro hks hds)
      clear hks hds
      obtain ⟨p, hp⟩ : ∃ p, p = i + k := ⟨_, rfl⟩
      obtain ⟨p1, hp1⟩ : ∃ p1, p1 = i + k + 1 := ⟨_, rfl⟩
      rw [← hp1] at HK2
      rw [← hp] at HK1
      have x1 : IntKind.i64.wrap ((i : Int) + (k : Int)) = (p : Int) := by rw [IntKind.wrap_i64]; omega
      have x2 : IntKind.i64.wrap ((p : Int) + 1) = (p1 : Int) := by rw [IntKind.wrap_i64]; omega
      have hpl : p ≤ ks.length := by have := L1.out; omega
      have hpl1 : p1 ≤ ds.length := by have := L2.out; omega
      have z1 : (ks.length + 1) * 8 ≤ 140737488351232 := by have := L1.out; omega
      have z2 : (ds.length + 1) * 8 ≤ 140737488351232 := by have := L2.out; omega
      have z3 : Hid (ks'.length = ks.length + 1) := by show _ = _; rw [L1.out, L1s.out]; omega
      have z4 : Hid (ds'.length = ds.length + 1) := by show _ = _; rw [L2.out, L2s.out]; omega
      have HP : Hid (p = i + k ∧ p1 = i + k + 1) := ⟨hp, hp1⟩
      clear hp hp1 L1 L2 L1s L2s
      have hb1 : ∀ o1 o2 : Obj, Below wr.heap.size wr ((wr.alloc o1).drew.alloc o2) := fun o1 o2 => (((Below.refl _ _).alloc (Nat.le_refl _) _).drew).alloc (by simp) _
      have hv1 : ∀ o1 : Obj, RowL ((wr.alloc o1).drew.alloc (.cells #[.int .i64 sk] 3)) (wr.heap.size + 1) 3 [.int .i64 sk] := fun o1 => by
        have h := rowL_alloc (wr.alloc o1).drew [.int .i64 sk] 3
        rwa [show (wr.alloc o1).drew.heap.size = wr.heap.size + 1 by simp] at h
      have hnk1 : wr.heap.size + 1 ∉ obk kA' := fun e => by have := HA.out.lt.1 _ e; omega
      go_upto_region 3 with fail
      go_cut [10] from 10 to 44 (fun v wc => v = .int .i64 (k : Int) ∧ RowL wc wr.heap.size 156 [.int .i64 sk, .int .i64 sp] ∧ ∃ kA2 kC2, AdAt base w nb no t vs kA dA wc kA2 kC2 ks' dA' dC' ds)
      case first =>
        go_region_with (go_at_call 118; refine (insertI_any base kA' kC' (wr.heap.size + 1) 1 ks p sk _ (own_next HA.out.ok (hb1 _ _)) hpl (hv1 _) hnk1 (by simp; omega) z1).mono ?_; rintro e w2 ⟨A2, C2, rfl, hm2⟩; have q2 := hm2.kept.block nb (by simp; omega) HA.out.nk; have c2 : w2.cell? ⟨nb, no + 2, none⟩ = some (.slice kA' ks.length kC') := (World.cell?_of_block (a := ⟨nb, no + 2, none⟩) q2).trans ((hb1 _ _).cell (p := ⟨nb, no + 2, none⟩) hnl |>.trans n0); have f2 : w2.frozen? ⟨nb, no + 2, none⟩ = false := (World.frozen?_of_block (a := ⟨nb, no + 2, none⟩) q2).trans ((hb1 _ _).frozen (p := ⟨nb, no + 2, none⟩) hnl |>.trans (fz _)); have HM := hideC hm2; clear hm2 q2)
        all_goals
          go_wp2
          go_meet
          case rel =>
            have hm2 := HM.out
            rw [HK1.out] at hm2
            exact ⟨rfl, sib_row HA.out hm2.kept, A2, C2, HA.out.putK (hb1 _ _) hm2 z3.out⟩
      case rest =>
        obtain ⟨rfl, hsr, kA2, kC2, hat2⟩ := hcut
        have s0 := hsr.cell 0
        have s1 := hsr.cell 1
        simp only [List.getElem?_cons_zero, List.getElem?_cons_succ] at s0 s1
        obtain ⟨-, m1⟩ := hat2.cells hvl
        have fz2 := hat2.row.frozen
        have hnl2 := hat2.row.lt
        have hsl := hsr.lt
        have hwc := hat2.kept.size
        have HA2 := hideC hat2
        clear hat2 hsr fz hb1 hv1
        have hb1 : ∀ o2 : Obj, Below wc.heap.size wc (wc.drew.alloc o2) := fun o2 => ((Below.refl _ _).drew).alloc (Nat.le_refl _) _
        have hv1 : RowL (wc.drew.alloc (.cells #[.int .i64 sp] 3)) wc.heap.size 3 [.int .i64 sp] := rowL_alloc wc.drew [.int .i64 sp] 3
        have hnk2 : wc.heap.size ∉ obk dA' := fun e => by have := HA2.out.lt.2 _ e; omega
        go_upto_region 4 with fail
        go_region_with (go_at_call 118; refine (insertI_any base dA' dC' wc.heap.size 1 ds p1 sp _ (own_next HA2.out.od (hb1 _)) hpl1 hv1 hnk2 (by simp; omega) z2).mono ?_; rintro e w3 ⟨A3, C3, rfl, hm3⟩; have q2 := hm3.kept.block nb (by simp; omega) HA2.out.nd; have c2 : w3.cell? ⟨nb, no + 3, none⟩ = some (.slice dA' ds.length dC') := (World.cell?_of_block (a := ⟨nb, no + 3, none⟩) q2).trans ((hb1 _).cell (p := ⟨nb, no + 3, none⟩) hnl2 |>.trans m1); have f2 : w3.frozen? ⟨nb, no + 3, none⟩ = false := (World.frozen?_of_block (a := ⟨nb, no + 3, none⟩) q2).trans ((hb1 _).frozen (p := ⟨nb, no + 3, none⟩) hnl2 |>.trans (fz2 _)); have HM := hideC hm3; clear hm3 q2)
        all_goals
          go_wp2
          go_roundw
          case rel =>
            have hm3 := HM.out
            rw [HK2.out] at hm3
            exact ⟨k + 1, kA2, kC2, A3, C3, by omega, by go_num, by rw [HE.out.1, HE.out.2]; exact HA2.out.putD (hb1 _) hm3 z4.out⟩
          case measure => simp [intOf]; omega
    · obtain rfl : k = more.length := by omega
      go_wp2
      go_end0
      exact ⟨rfl, kA', kC', dA', dC', hat⟩

end Go.Proofs.YtlojfgdpmaigmaeGreatDoor
