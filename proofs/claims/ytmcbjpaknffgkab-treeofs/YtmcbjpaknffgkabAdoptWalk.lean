/- A node that gets the siblings of one of its kids. -/
import Derived.Test.YtmcbjpaknffgkabInsertWalk
import Derived.Test.YtmcbjpaknffgkabAddWalk
namespace Go.Proofs.Ytmcbjpaknffgkab
open Go.RowKit Plain

def flatS : List (Int × Int) → List Value
  | [] => []
  | (k, p) :: r => .int .i64 k :: .int .i64 p :: flatS r

theorem flatS_length : ∀ l : List (Int × Int), (flatS l).length = l.length * 2
  | [] => rfl
  | (k, p) :: r => by simp [flatS, flatS_length r]; omega

theorem flatS_get : ∀ (l : List (Int × Int)) (k : Nat) (hk : k < l.length), (flatS l)[k * 2]? = some (.int .i64 l[k].1) ∧ (flatS l)[k * 2 + 1]? = some (.int .i64 l[k].2)
  | (a, b) :: r, 0, _ => ⟨rfl, rfl⟩
  | (a, b) :: r, k + 1, hk => by
    have := flatS_get r k (by simpa using hk)
    simp only [flatS, List.getElem_cons_succ]
    rw [show (k + 1) * 2 = k * 2 + 1 + 1 by omega, show k * 2 + 1 + 1 + 1 = (k * 2 + 1) + 1 + 1 by omega]
    simpa using this

theorem flatS_append : ∀ a b : List (Int × Int), flatS (a ++ b) = flatS a ++ flatS b
  | [], _ => rfl
  | (_, _) :: r, b => by simp [flatS, flatS_append r b]

def adoptN (x : Nd) (i : Nat) (more : List (Int × Int)) : Nd := { x with keys := x.keys.take i ++ more.map (·.1) ++ x.keys.drop i, kids := x.kids.take (i + 1) ++ more.map (·.2) ++ x.kids.drop (i + 1) }

/-- Behind k of the siblings. -/
def keysAt (keys : List Int) (i : Nat) (more : List (Int × Int)) (k : Nat) : List Int := keys.take i ++ (more.take k).map (·.1) ++ keys.drop i
def kidsAt (kids : List Int) (i : Nat) (more : List (Int × Int)) (k : Nat) : List Int := kids.take (i + 1) ++ (more.take k).map (·.2) ++ kids.drop (i + 1)

theorem ins_at (l a : List Int) (z : Int) (i : Nat) (hi : i ≤ l.length) : (l.take i ++ a ++ l.drop i).take (i + a.length) ++ z :: (l.take i ++ a ++ l.drop i).drop (i + a.length) = l.take i ++ (a ++ [z]) ++ l.drop i := by
  have hl : (l.take i ++ a).length = i + a.length := by simp; omega
  rw [← hl, List.take_left, List.drop_left]
  simp

theorem keysAt_succ {keys : List Int} {i k : Nat} {more : List (Int × Int)} (hi : i ≤ keys.length) (hk : k < more.length) : (keysAt keys i more k).take (i + k) ++ more[k].1 :: (keysAt keys i more k).drop (i + k) = keysAt keys i more (k + 1) := by
  have h := ins_at keys ((more.take k).map (·.1)) more[k].1 i hi
  rw [show ((more.take k).map (·.1)).length = k by simp; omega] at h
  unfold keysAt
  rw [h, List.take_succ_eq_append_getElem hk, List.map_append]
  rfl

theorem kidsAt_succ {kids : List Int} {i k : Nat} {more : List (Int × Int)} (hi : i + 1 ≤ kids.length) (hk : k < more.length) : (kidsAt kids i more k).take (i + k + 1) ++ more[k].2 :: (kidsAt kids i more k).drop (i + k + 1) = kidsAt kids i more (k + 1) := by
  have h := ins_at kids ((more.take k).map (·.2)) more[k].2 (i + 1) hi
  rw [show ((more.take k).map (·.2)).length = k by simp; omega] at h
  unfold kidsAt
  rw [show i + k + 1 = i + 1 + k by omega, h, List.take_succ_eq_append_getElem hk, List.map_append]
  rfl

theorem keysAt_length {keys : List Int} {i k : Nat} {more : List (Int × Int)} (hk : k ≤ more.length) : (keysAt keys i more k).length = keys.length + k := by
  simp [keysAt]; omega
theorem kidsAt_length {kids : List Int} {i k : Nat} {more : List (Int × Int)} (hk : k ≤ more.length) : (kidsAt kids i more k).length = kids.length + k := by
  simp [kidsAt]; omega

/-- The node's row of cells, its Keys and Kids apart. -/
structure AdAt (base : Nat) (w : World) (nb no : Nat) (t : TypeId) (vs : List Value) (kA0 dA0 : Option Addr) (wr : World) (kA : Option Addr) (kC : Nat) (keys : List Int) (dA : Option Addr) (dC : Nat) (kids : List Int) : Prop where
  row : RowL wr nb t ((vs.set (no + 2) (.slice kA keys.length kC)).set (no + 3) (.slice dA kids.length dC))
  ok : wr.ownsRow base 3 1 (.slice kA keys.length kC) keys.length (ints keys)
  od : wr.ownsRow base 3 1 (.slice dA kids.length dC) kids.length (ints kids)
  kept : Kept (nb :: obk kA0 ++ obk dA0) w wr
  lk : ∀ k ∈ obk kA, k ∈ obk kA0 ∨ w.heap.size ≤ k
  ld : ∀ k ∈ obk dA, k ∈ obk dA0 ∨ w.heap.size ≤ k
  ne : ∀ k ∈ obk kA, k ∉ obk dA
  nk : nb ∉ obk kA
  nd : nb ∉ obk dA

theorem obk_of {A : Option Addr} {n C k : Nat} (h : (Value.slice A n C).ownBlock = some k) : k ∈ obk A := by
  cases A with
  | none => cases h
  | some a => simpa [obk, Value.ownBlock, eq_comm] using h

theorem AdAt.lt {base : Nat} {w : World} {nb no : Nat} {t : TypeId} {vs : List Value} {kA0 dA0 : Option Addr} {wr : World} {kA : Option Addr} {kC : Nat} {keys : List Int} {dA : Option Addr} {dC : Nat} {kids : List Int} (h : AdAt base w nb no t vs kA0 dA0 wr kA kC keys dA dC kids) :
    (∀ k ∈ obk kA, k < wr.heap.size) ∧ ∀ k ∈ obk dA, k < wr.heap.size := by
  constructor
  · intro k hk
    refine (own_lt h.ok k ?_).2
    simpa [obk] using hk
  · intro k hk
    refine (own_lt h.od k ?_).2
    simpa [obk] using hk

/-- Blocks more; nothing that was is turned. -/
theorem AdAt.below {base : Nat} {w : World} {nb no : Nat} {t : TypeId} {vs : List Value} {kA0 dA0 : Option Addr} {wr w' : World} {kA : Option Addr} {kC : Nat} {keys : List Int} {dA : Option Addr} {dC : Nat} {kids : List Int} (h : AdAt base w nb no t vs kA0 dA0 wr kA kC keys dA dC kids) (hb : Below wr.heap.size wr w') :
    AdAt base w nb no t vs kA0 dA0 w' kA kC keys dA dC kids :=
  ⟨h.row.below hb h.row.lt, own_next h.ok hb, own_next h.od hb, h.kept.trans (Kept.of_below hb), h.lk, h.ld, h.ne, h.nk, h.nd⟩

theorem Kept.step {ex ex2 : List Nat} {w wr w' : World} (h : Kept ex w wr) (k : Kept ex2 wr w') (hs : ∀ b ∈ ex2, b ∈ ex ∨ w.heap.size ≤ b) : Kept ex w w' :=
  ⟨k.os.trans h.os, k.tape.trans h.tape, k.output.trans h.output, Nat.le_trans h.size k.size, fun i hi hx => (k.block i (Nat.lt_of_lt_of_le hi h.size) (fun e => by rcases hs i e with e | e; exact hx e; omega)).trans (h.block i hi hx)⟩

theorem mem_obk {A : Option Addr} {k : Nat} : k ∈ obk A ↔ A.map Addr.block = some k := by simp [obk]

section
variable {base : Nat} {w : World} {nb no : Nat} {t : TypeId} {vs : List Value} {kA0 dA0 : Option Addr} {wr W w1 : World} {kA : Option Addr} {kC : Nat} {keys : List Int} {dA : Option Addr} {dC : Nat} {kids : List Int}

theorem AdAt.putK (h : AdAt base w nb no t vs kA0 dA0 wr kA kC keys dA dC kids) (hW : Below wr.heap.size wr W) {n kC' : Nat} {kA' : Option Addr} {keys' : List Int} (hm : Moved base 3 1 n kA kA' kC' (ints keys') W w1) (hn : keys'.length = n) :
    AdAt base w nb no t vs kA0 dA0 (w1.setCell ⟨nb, no + 2, none⟩ (.slice kA' n kC')) kA' kC' keys' dA dC kids := by
  subst hn
  have H := h.below hW
  have hnl := H.row.lt
  have hws := H.kept.size
  have hlies : ∀ k ∈ obk kA', k ∈ obk kA ∨ W.heap.size ≤ k := by
    intro k hk
    rw [mem_obk] at hk
    rcases hm.lies with e | ⟨k', e, hk'⟩
    · left; rw [mem_obk, ← e]; exact hk
    · rw [e] at hk; cases hk; exact .inr hk'
  have hnk' : nb ∉ obk kA' := fun e => by
    rcases hlies nb e with e | e
    · exact H.nk e
    · omega
  have hrow : RowL w1 nb t ((vs.set (no + 2) (.slice kA keys.length kC)).set (no + 3) (.slice dA kids.length dC)) := H.row.of_block (hm.kept.block nb hnl H.nk)
  have hset : ∀ k, k ≠ nb → (w1.setCell ⟨nb, no + 2, none⟩ (.slice kA' keys'.length kC')).heap[k]? = w1.heap[k]? := fun k hk => Below.heap_setCell _ _ _ _ hk
  refine ⟨?_, ?_, ?_, ?_, ?_, h.ld, ?_, hnk', h.nd⟩
  · have := hrow.set (no + 2) (.slice kA' keys'.length kC')
    rwa [List.set_comm _ _ (by omega), List.set_set] at this
  · exact own_of_block hm.own fun k hk => hset k (fun e => hnk' (e ▸ obk_of hk))
  · refine own_of_block H.od fun k hk => ?_
    have hk' := obk_of hk
    rw [hset k (fun e => H.nd (e ▸ hk'))]
    exact hm.kept.block k (H.lt.2 k hk') (fun e => H.ne k e hk')
  · refine (H.kept.step hm.kept fun k hk => ?_).set (.inl (by simp)) _
    rcases h.lk k hk with e | e
    · exact .inl (by simp [e])
    · exact .inr e
  · intro k hk
    rcases hlies k hk with e | e
    · exact h.lk k e
    · exact .inr (by omega)
  · intro k hk hd
    rcases hlies k hk with e | e
    · exact h.ne k e hd
    · have := H.lt.2 k hd; omega

theorem AdAt.putD (h : AdAt base w nb no t vs kA0 dA0 wr kA kC keys dA dC kids) (hW : Below wr.heap.size wr W) {n dC' : Nat} {dA' : Option Addr} {kids' : List Int} (hm : Moved base 3 1 n dA dA' dC' (ints kids') W w1) (hn : kids'.length = n) :
    AdAt base w nb no t vs kA0 dA0 (w1.setCell ⟨nb, no + 3, none⟩ (.slice dA' n dC')) kA kC keys dA' dC' kids' := by
  subst hn
  have H := h.below hW
  have hnl := H.row.lt
  have hws := H.kept.size
  have hlies : ∀ k ∈ obk dA', k ∈ obk dA ∨ W.heap.size ≤ k := by
    intro k hk
    rw [mem_obk] at hk
    rcases hm.lies with e | ⟨k', e, hk'⟩
    · left; rw [mem_obk, ← e]; exact hk
    · rw [e] at hk; cases hk; exact .inr hk'
  have hnd' : nb ∉ obk dA' := fun e => by
    rcases hlies nb e with e | e
    · exact H.nd e
    · omega
  have hrow : RowL w1 nb t ((vs.set (no + 2) (.slice kA keys.length kC)).set (no + 3) (.slice dA kids.length dC)) := H.row.of_block (hm.kept.block nb hnl H.nd)
  have hset : ∀ k, k ≠ nb → (w1.setCell ⟨nb, no + 3, none⟩ (.slice dA' kids'.length dC')).heap[k]? = w1.heap[k]? := fun k hk => Below.heap_setCell _ _ _ _ hk
  refine ⟨?_, ?_, ?_, ?_, h.lk, ?_, ?_, h.nk, hnd'⟩
  · have := hrow.set (no + 3) (.slice dA' kids'.length dC')
    rwa [List.set_set] at this
  · refine own_of_block H.ok fun k hk => ?_
    have hk' := obk_of hk
    rw [hset k (fun e => H.nk (e ▸ hk'))]
    exact hm.kept.block k (H.lt.1 k hk') (H.ne k hk')
  · exact own_of_block hm.own fun k hk => hset k (fun e => hnd' (e ▸ obk_of hk))
  · refine (H.kept.step hm.kept fun k hk => ?_).set (.inl (by simp)) _
    rcases h.ld k hk with e | e
    · exact .inl (by simp [e])
    · exact .inr e
  · intro k hk
    rcases hlies k hk with e | e
    · exact h.ld k e
    · exact .inr (by omega)
  · intro k hk hd
    rcases hlies k hd with e | e
    · exact h.ne k hk e
    · have := H.lt.1 k hk; omega
end

end Go.Proofs.Ytmcbjpaknffgkab
