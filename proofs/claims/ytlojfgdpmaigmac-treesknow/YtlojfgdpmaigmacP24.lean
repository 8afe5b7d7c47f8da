/- A node that gets the siblings of one of its kids. -/
import Derived.Test.YtlojfgdpmaigmacP23
import Derived.Test.YtlojfgdpmaigmacP22
import Derived.Test.YtlojfgdpmaigmacP10
namespace Go.Proofs.Ytlojfgdpmaigmac
open Go.RowKit Plain

def flatS : List (Int × Int) → List Value
  | [] => []
  | (k, p) :: r => .int .i64 k :: .int .i64 p :: flatS r

theorem flatS_length : ∀ l : List (Int × Int), (flatS l).length = l.length * 2
  | [] => rfl
  | (k, p) :: r => by simp [flatS, flatS_length r]; omega

theorem flatS_get : ∀ (l : List (Int × Int)) (k : Nat) (hk : k < l.length), (flatS l)[k * 2]? = some (.int .i64 l[k].1) ∧ (flatS l)[k * 2 + 1]? = some (.int .i64 l[k].2)
  | (a, b) :: r, 0, _ => ⟨rfl, rfl⟩
  | (a, b) :: r, k + 1, hk => by
    have := flatS_get r k (by simpa using hk)
    simp only [flatS, List.getElem_cons_succ]
    rw [show (k + 1) * 2 = k * 2 + 1 + 1 by omega, show k * 2 + 1 + 1 + 1 = (k * 2 + 1) + 1 + 1 by omega]
    simpa using this

theorem flatS_append : ∀ a b : List (Int × Int), flatS (a ++ b) = flatS a ++ flatS b
  | [], _ => rfl
  | (_, _) :: r, b => by simp [flatS, flatS_append r b]

def adoptN (x : Nd) (i : Nat) (more : List (Int × Int)) : Nd := { x with keys := x.keys.take i ++ more.map (·.1) ++ x.keys.drop i, kids := x.kids.take (i + 1) ++ more.map (·.2) ++ x.kids.drop (i + 1) }

/-- Behind k of the siblings. -/
def keysAt (keys : List Int) (i : Nat) (more : List (Int × Int)) (k : Nat) : List Int := keys.take i ++ (more.take k).map (·.1) ++ keys.drop i
def kidsAt (kids : List Int) (i : Nat) (more : List (Int × Int)) (k : Nat) : List Int := kids.take (i + 1) ++ (more.take k).map (·.2) ++ kids.drop (i + 1)

theorem ins_at (l a : List Int) (z : Int) (i : Nat) (hi : i ≤ l.length) : (l.take i ++ a ++ l.drop i).take (i + a.length) ++ z :: (l.take i ++ a ++ l.drop i).drop (i + a.length) = l.take i ++ (a ++ [z]) ++ l.drop i := by
  have hl : (l.take i ++ a).length = i + a.length := by simp; omega
  rw [← hl, List.take_left, List.drop_left]
  simp

theorem keysAt_succ {keys : List Int} {i k : Nat} {more : List (Int × Int)} (hi : i ≤ keys.length) (hk : k < more.length) : (keysAt keys i more k).take (i + k) ++ more[k].1 :: (keysAt keys i more k).drop (i + k) = keysAt keys i more (k + 1) := by
  have h := ins_at keys ((more.take k).map (·.1)) more[k].1 i hi
  rw [show ((more.take k).map (·.1)).length = k by simp; omega] at h
  unfold keysAt
  rw [h, List.take_succ_eq_append_getElem hk, List.map_append]
  rfl

theorem kidsAt_succ {kids : List Int} {i k : Nat} {more : List (Int × Int)} (hi : i + 1 ≤ kids.length) (hk : k < more.length) : (kidsAt kids i more k).take (i + k + 1) ++ more[k].2 :: (kidsAt kids i more k).drop (i + k + 1) = kidsAt kids i more (k + 1) := by
  have h := ins_at kids ((more.take k).map (·.2)) more[k].2 (i + 1) hi
  rw [show ((more.take k).map (·.2)).length = k by simp; omega] at h
  unfold kidsAt
  rw [show i + k + 1 = i + 1 + k by omega, h, List.take_succ_eq_append_getElem hk, List.map_append]
  rfl

theorem keysAt_length {keys : List Int} {i k : Nat} {more : List (Int × Int)} (hk : k ≤ more.length) : (keysAt keys i more k).length = keys.length + k := by
  simp [keysAt]; omega
theorem kidsAt_length {kids : List Int} {i k : Nat} {more : List (Int × Int)} (hk : k ≤ more.length) : (kidsAt kids i more k).length = kids.length + k := by
  simp [kidsAt]; omega

/-- The node's row of cells, its Keys and Kids apart. -/
structure AdAt (base : Nat) (w : World) (nb no : Nat) (t : TypeId) (vs : List Value) (kA0 dA0 : Option Addr) (wr : World) (kA : Option Addr) (kC : Nat) (keys : List Int) (dA : Option Addr) (dC : Nat) (kids : List Int) : Prop where
  row : RowL wr nb t ((vs.set (no + 2) (.slice kA keys.length kC)).set (no + 3) (.slice dA kids.length dC))
  ok : wr.ownsRow base 3 1 (.slice kA keys.length kC) keys.length (ints keys)
  od : wr.ownsRow base 3 1 (.slice dA kids.length dC) kids.length (ints kids)
  kept : Kept (nb :: obk kA0 ++ obk dA0) w wr
  lk : ∀ k ∈ obk kA, k ∈ obk kA0 ∨ w.heap.size ≤ k
  ld : ∀ k ∈ obk dA, k ∈ obk dA0 ∨ w.heap.size ≤ k
  ne : ∀ k ∈ obk kA, k ∉ obk dA
  nk : nb ∉ obk kA
  nd : nb ∉ obk dA

theorem obk_of {A : Option Addr} {n C k : Nat} (h : (Value.slice A n C).ownBlock = some k) : k ∈ obk A := by
  cases A with
  | none => cases h
  | some a => simpa [obk, Value.ownBlock, eq_comm] using h

theorem AdAt.lt {base : Nat} {w : World} {nb no : Nat} {t : TypeId} {vs : List Value} {kA0 dA0 : Option Addr} {wr : World} {kA : Option Addr} {kC : Nat} {keys : List Int} {dA : Option Addr} {dC : Nat} {kids : List Int} (h : AdAt base w nb no t vs kA0 dA0 wr kA kC keys dA dC kids) :
    (∀ k ∈ obk kA, k < wr.heap.size) ∧ ∀ k ∈ obk dA, k < wr.heap.size := by
  constructor
  · intro k hk
    refine (own_lt h.ok k ?_).2
    simpa [obk] using hk
  · intro k hk
    refine (own_lt h.od k ?_).2
    simpa [obk] using hk

/-- Blocks more; nothing that was is turned. -/
theorem AdAt.below {base : Nat} {w : World} {nb no : Nat} {t : TypeId} {vs : List Value} {kA0 dA0 : Option Addr} {wr w' : World} {kA : Option Addr} {kC : Nat} {keys : List Int} {dA : Option Addr} {dC : Nat} {kids : List Int} (h : AdAt base w nb no t vs kA0 dA0 wr kA kC keys dA dC kids) (hb : Below wr.heap.size wr w') :
    AdAt base w nb no t vs kA0 dA0 w' kA kC keys dA dC kids :=
  ⟨h.row.below hb h.row.lt, own_next h.ok hb, own_next h.od hb, h.kept.trans (Kept.of_below hb), h.lk, h.ld, h.ne, h.nk, h.nd⟩

theorem Kept.step {ex ex2 : List Nat} {w wr w' : World} (h : Kept ex w wr) (k : Kept ex2 wr w') (hs : ∀ b ∈ ex2, b ∈ ex ∨ w.heap.size ≤ b) : Kept ex w w' :=
  ⟨k.os.trans h.os, k.tape.trans h.tape, k.output.trans h.output, Nat.le_trans h.size k.size, fun i hi hx => (k.block i (Nat.lt_of_lt_of_le hi h.size) (fun e => by rcases hs i e with e | e; exact hx e; omega)).trans (h.block i hi hx)⟩

theorem mem_obk {A : Option Addr} {k : Nat} : k ∈ obk A ↔ A.map Addr.block = some k := by simp [obk]

section
variable {base : Nat} {w : World} {nb no : Nat} {t : TypeId} {vs : List Value} {kA0 dA0 : Option Addr} {wr W w1 : World} {kA : Option Addr} {kC : Nat} {keys : List Int} {dA : Option Addr} {dC : Nat} {kids : List Int}

theorem AdAt.putK (h : AdAt base w nb no t vs kA0 dA0 wr kA kC keys dA dC kids) (hW : Below wr.heap.size wr W) {n kC' : Nat} {kA' : Option Addr} {keys' : List Int} (hm : Moved base 3 1 n kA kA' kC' (ints keys') W w1) (hn : keys'.length = n) :
    AdAt base w nb no t vs kA0 dA0 (w1.setCell ⟨nb, no + 2, none⟩ (.slice kA' n kC')) kA' kC' keys' dA dC kids := by
  subst hn
  have H := h.below hW
  have hnl := H.row.lt
  have hws := H.kept.size
  have hlies : ∀ k ∈ obk kA', k ∈ obk kA ∨ W.heap.size ≤ k := by
    intro k hk
    rw [mem_obk] at hk
    rcases hm.lies with e | ⟨k', e, hk'⟩
    · left; rw [mem_obk, ← e]; exact hk
    · rw [e] at hk; cases hk; exact .inr hk'
  have hnk' : nb ∉ obk kA' := fun e => by
    rcases hlies nb e with e | e
    · exact H.nk e
    · omega
  have hrow : RowL w1 nb t ((vs.set (no + 2) (.slice kA keys.length kC)).set (no + 3) (.slice dA kids.length dC)) := H.row.of_block (hm.kept.block nb hnl H.nk)
  have hset : ∀ k, k ≠ nb → (w1.setCell ⟨nb, no + 2, none⟩ (.slice kA' keys'.length kC')).heap[k]? = w1.heap[k]? := fun k hk => Below.heap_setCell _ _ _ _ hk
  refine ⟨?_, ?_, ?_, ?_, ?_, h.ld, ?_, hnk', h.nd⟩
  · have := hrow.set (no + 2) (.slice kA' keys'.length kC')
    rwa [List.set_comm _ _ (by omega), List.set_set] at this
  · exact own_of_block hm.own fun k hk => hset k (fun e => hnk' (e ▸ obk_of hk))
  · refine own_of_block H.od fun k hk => ?_
    have hk' := obk_of hk
    rw [hset k (fun e => H.nd (e ▸ hk'))]
    exact hm.kept.block k (H.lt.2 k hk') (fun e => H.ne k e hk')
  · refine (H.kept.step hm.kept fun k hk => ?_).set (.inl (by simp)) _
    rcases h.lk k hk with e | e
    · exact .inl (by simp [e])
    · exact .inr e
  · intro k hk
    rcases hlies k hk with e | e
    · exact h.lk k e
    · exact .inr (by omega)
  · intro k hk hd
    rcases hlies k hk with e | e
    · exact h.ne k e hd
    · have := H.lt.2 k hd; omega

theorem AdAt.putD (h : AdAt base w nb no t vs kA0 dA0 wr kA kC keys dA dC kids) (hW : Below wr.heap.size wr W) {n dC' : Nat} {dA' : Option Addr} {kids' : List Int} (hm : Moved base 3 1 n dA dA' dC' (ints kids') W w1) (hn : kids'.length = n) :
    AdAt base w nb no t vs kA0 dA0 (w1.setCell ⟨nb, no + 3, none⟩ (.slice dA' n dC')) kA kC keys dA' dC' kids' := by
  subst hn
  have H := h.below hW
  have hnl := H.row.lt
  have hws := H.kept.size
  have hlies : ∀ k ∈ obk dA', k ∈ obk dA ∨ W.heap.size ≤ k := by
    intro k hk
    rw [mem_obk] at hk
    rcases hm.lies with e | ⟨k', e, hk'⟩
    · left; rw [mem_obk, ← e]; exact hk
    · rw [e] at hk; cases hk; exact .inr hk'
  have hnd' : nb ∉ obk dA' := fun e => by
    rcases hlies nb e with e | e
    · exact H.nd e
    · omega
  have hrow : RowL w1 nb t ((vs.set (no + 2) (.slice kA keys.length kC)).set (no + 3) (.slice dA kids.length dC)) := H.row.of_block (hm.kept.block nb hnl H.nd)
  have hset : ∀ k, k ≠ nb → (w1.setCell ⟨nb, no + 3, none⟩ (.slice dA' kids'.length dC')).heap[k]? = w1.heap[k]? := fun k hk => Below.heap_setCell _ _ _ _ hk
  refine ⟨?_, ?_, ?_, ?_, h.lk, ?_, ?_, h.nk, hnd'⟩
  · have := hrow.set (no + 3) (.slice dA' kids'.length dC')
    rwa [List.set_set] at this
  · refine own_of_block H.ok fun k hk => ?_
    have hk' := obk_of hk
    rw [hset k (fun e => H.nk (e ▸ hk'))]
    exact hm.kept.block k (H.lt.1 k hk') (H.ne k hk')
  · exact own_of_block hm.own fun k hk => hset k (fun e => hnd' (e ▸ obk_of hk))
  · refine (H.kept.step hm.kept fun k hk => ?_).set (.inl (by simp)) _
    rcases h.ld k hk with e | e
    · exact .inl (by simp [e])
    · exact .inr e
  · intro k hk
    rcases hlies k hk with e | e
    · exact h.ld k e
    · exact .inr (by omega)
  · intro k hk hd
    rcases hlies k hd with e | e
    · exact h.ne k hk e
    · have := H.lt.1 k hk; omega
end

end Go.Proofs.Ytlojfgdpmaigmac

/- All nodes that hold too much, from the leaves up: in plain terms. -/
namespace Go.Proofs.Ytlojfgdpmaigmac
open Go.RowKit Plain

def adoptAt (ns : List Nd) (p : Int) (i : Nat) (more : List (Int × Int)) : List Nd := ns.set p.toNat (adoptN (nth ns p) i more)

/-- The kids, from the last one on, each with its siblings. -/
def kidsN (rec : List Nd → Int → List Nd × List (Int × Int)) (p : Int) : Nat → List Nd → List Nd
  | 0, ns => ns
  | i + 1, ns => kidsN rec p i (adoptAt (rec ns ((nth ns p).kids.getD i 0)).1 p i (rec ns ((nth ns p).kids.getD i 0)).2)

def splitAllN : Nat → List Nd → Int → List Nd × List (Int × Int)
  | 0, ns, p => splitN ns p
  | h + 1, ns, p => splitN (kidsN (splitAllN h) p (nth ns p).kids.length ns) p

theorem zip_app {α β : Type} {a a' : List α} {b b' : List β} (h : a.length = b.length) : (a ++ a').zip (b ++ b') = a.zip b ++ a'.zip b' := List.zip_append h

/-- A kid's siblings, right behind it. -/
theorem ups_adopt {kids keys places mkeys : List Int} {hi : Int} {i : Nat} (hk : keys.length + 1 = kids.length) (hi' : i < kids.length) (hl : places.length = mkeys.length) :
    ups (kids.take (i + 1) ++ places ++ kids.drop (i + 1)) (keys.take i ++ mkeys ++ keys.drop i) hi = (ups kids keys hi).take i ++ ups (kids[i] :: places) mkeys ((keys ++ [hi])[i]'(by simp; omega)) ++ (ups kids keys hi).drop (i + 1) := by
  unfold ups
  have hlk : i < (keys ++ [hi]).length := by simp; omega
  have e1 : kids.take (i + 1) = kids.take i ++ [kids[i]] := List.take_succ_eq_append_getElem hi'
  have e2 : keys.drop i ++ [hi] = (keys ++ [hi])[i] :: (keys ++ [hi]).drop (i + 1) := by
    rw [← List.drop_eq_getElem_cons hlk, List.drop_append_of_le_length (by omega)]
  have e3 : (keys ++ [hi]).take i = keys.take i := List.take_append_of_le_length (by omega)
  have l1 : (kids.take i).length = (keys.take i).length := by simp; omega
  have a1 : kids.take (i + 1) ++ places ++ kids.drop (i + 1) = kids.take i ++ ((kids[i] :: places) ++ kids.drop (i + 1)) := by rw [e1, List.append_assoc, List.append_assoc]; rfl
  have a2 : keys.take i ++ mkeys ++ keys.drop i ++ [hi] = keys.take i ++ ((mkeys ++ [(keys ++ [hi])[i]]) ++ (keys ++ [hi]).drop (i + 1)) := by
    rw [List.append_assoc, List.append_assoc, e2]
    simp
  rw [a1, a2, zip_app l1, zip_app (by simp [hl]), take_zip', drop_zip', e3, List.append_assoc]

theorem nth_set_self {ns : List Nd} {p : Int} {y : Nd} (h0 : 0 ≤ p) (h1 : p < ns.length) : nth (ns.set p.toNat y) p = y := by
  unfold nth
  rw [List.getD_eq_getElem?_getD, List.getElem?_set_self (by omega)]
  rfl
theorem nth_set_far {ns : List Nd} {p n : Int} {y : Nd} (h0 : 0 ≤ p) (hn : 0 ≤ n) (hne : n ≠ p) : nth (ns.set p.toNat y) n = nth ns n := by
  unfold nth
  rw [List.getD_eq_getElem?_getD, List.getD_eq_getElem?_getD, List.getElem?_set_ne (by omega)]

theorem adopt_cont {ns : List Nd} {p : Int} {i : Nat} {more : List (Int × Int)} (h0 : 0 ≤ p) (h1 : p < ns.length) : ((adoptAt ns p i more).flatMap cont).Perm (ns.flatMap cont) := by
  have hx : ns[p.toNat]'(by omega) = nth ns p := by
    unfold nth
    rw [List.getD_eq_getElem?_getD, List.getElem?_eq_getElem (by omega)]
    rfl
  have := set_cont (ns := ns) (xs := []) (i := p.toNat) (y := adoptN (nth ns p) i more) (by omega) (by rw [hx]; simp [cont, adoptN])
  simpa [adoptAt] using this

/-- What stands behind the kids from i on. -/
structure KidsOk (mL : Nat) (ns0 ns : List Nd) (h : Nat) (p lo hi : Int) (P : List Int) (x : Nd) (i : Nat) : Prop where
  len : i ≤ x.kids.length
  at' : ∃ kids keys : List Int, ∃ T : List (Int × Int), ∃ Q1 Q2 : List Int, nth ns p = { x with kids := kids, keys := keys } ∧ keys.length + 1 = kids.length ∧ x.kids.length ≤ kids.length ∧ kids.take i = x.kids.take i ∧ ups kids keys hi = (ups x.kids x.keys hi).take i ++ T ∧
    SubK (Sub mL 4 ns h) lo ((ups x.kids x.keys hi).take i) Q1 ∧ SubK (Sub 6 4 ns h) (endU lo ((ups x.kids x.keys hi).take i)) T Q2 ∧ (p :: (Q1 ++ Q2)).Perm (P ++ placesF ns0.length (ns.length - ns0.length))
  le : ns0.length ≤ ns.length
  same : ∀ n, n ∉ P → 0 ≤ n → n < ns0.length → nth ns n = nth ns0 n
  cont : (ns.flatMap cont).Perm (ns0.flatMap cont)

theorem take_succ_ups {kids keys : List Int} {hi : Int} {i : Nat} (hk : keys.length + 1 = kids.length) (hi' : i < kids.length) : (ups kids keys hi).take (i + 1) = (ups kids keys hi).take i ++ [(kids[i], (keys ++ [hi])[i]'(by simp; omega))] := by
  have hl : i < (ups kids keys hi).length := by simp [ups]; omega
  rw [List.take_succ_eq_append_getElem hl]
  congr 2
  exact (List.getElem?_eq_some_iff.1 (ups_get hk hi')).2

theorem kids_step {mL : Nat} {ns0 ns : List Nd} {h : Nat} {p lo hi : Int} {P : List Int} {x : Nd} {i : Nat} {R : List Nd × List (Int × Int)} (hx : x.keys.length + 1 = x.kids.length) (hp0 : 0 ≤ p) (hp1 : p < ns0.length) (hpP : p ∈ P) (hP : P.Nodup) (hPr : ∀ n ∈ P, 0 ≤ n ∧ n < ns0.length)
    (hK : KidsOk mL ns0 ns h p lo hi P x (i + 1)) (hR : ∀ lo u Qd, Sub mL 4 ns h ((nth ns p).kids.getD i 0) lo u Qd → Qd.Nodup → SplitOk ns R.1 h ((nth ns p).kids.getD i 0) lo u Qd R.2) :
    KidsOk mL ns0 (adoptAt R.1 p i R.2) h p lo hi P x i := by
  obtain ⟨kids, keys, T, Q1, Q2, hn, hkl, hle, htk, hU, s1, s2, hpm⟩ := hK.at'
  have hix : i < x.kids.length := hK.len
  have hik : i < kids.length := by omega
  have hd : (nth ns p).kids.getD i 0 = x.kids[i] := by
    have e : kids[i] = x.kids[i] := by
      have h1 : (kids.take (i + 1))[i]? = (x.kids.take (i + 1))[i]? := by rw [htk]
      rw [List.getElem?_take, List.getElem?_take, if_pos (by omega), if_pos (by omega), List.getElem?_eq_getElem hik, List.getElem?_eq_getElem hix] at h1
      simpa using h1
    rw [hn]
    simp [hik, e]
  rw [hd] at hR
  rw [take_succ_ups hx hix, SubK_append] at s1
  obtain ⟨Qa, Qd, rfl, s1a, Qd', Qe, rfl, s1d, hQe⟩ := s1
  cases hQe
  rw [List.append_nil] at hpm
  rw [take_succ_ups hx hix, endU_last] at s2
  have hnd : (p :: (Qa ++ Qd' ++ Q2)).Nodup := hpm.nodup_iff.2 (List.nodup_append.2 ⟨hP, placesF_nodup _ _, fun a ha b hb e => by
    have h1 := (hPr a ha).2
    have h2 := (placesF_mem.1 hb).1
    omega⟩)
  have hnd2 := hnd
  rw [List.nodup_cons, List.nodup_append, List.nodup_append] at hnd
  obtain ⟨hpn, ⟨na, nd', nad⟩, n2, nad2⟩ := hnd
  have hs := hR _ _ _ s1d nd'
  obtain ⟨Q', t1, t2⟩ := hs.sub
  have hsle := hs.le
  have hle0 := hK.le
  have hpn' : p ∉ Qd' := fun e => hpn (by simp [e])
  have hpl : p < ns.length := by omega
  have hpR : nth R.1 p = nth ns p := hs.same p hpn' hp0 hpl
  have hpRl : p < R.1.length := by omega
  have hnR : nth (adoptAt R.1 p i R.2) p = adoptN (nth R.1 p) i R.2 := nth_set_self hp0 hpRl
  have hfar : ∀ n, 0 ≤ n → n ≠ p → nth (adoptAt R.1 p i R.2) n = nth R.1 n := fun n h0 hne => nth_set_far hp0 h0 hne
  have hlen : (adoptAt R.1 p i R.2).length = R.1.length := by simp [adoptAt]
  have hr1 := SubK_range s1a
  have hr2 := SubK_range s2
  have hml : (R.2.map (·.2)).length = (R.2.map (·.1)).length := by simp
  refine ⟨by omega, ⟨kids.take (i + 1) ++ R.2.map (·.2) ++ kids.drop (i + 1), keys.take i ++ R.2.map (·.1) ++ keys.drop i, ups (x.kids[i] :: R.2.map (·.2)) (R.2.map (·.1)) ((x.keys ++ [hi])[i]'(by simp; omega)) ++ T, Qa, Q' ++ Q2, ?_, ?_, ?_, ?_, ?_, ?_, ?_, ?_⟩, by omega, ?_, ?_⟩
  · rw [hnR, hpR, hn]
    rfl
  · simp; omega
  · simp; omega
  · rw [List.append_assoc, List.take_append_of_le_length (by simp; omega), List.take_take, Nat.min_eq_left (by omega)]
    have := congrArg (List.take i) htk
    rwa [List.take_take, List.take_take, Nat.min_eq_left (by omega)] at this
  · have hkd : kids[i] = x.kids[i] := by
      have h1 : (kids.take (i + 1))[i]? = (x.kids.take (i + 1))[i]? := by rw [htk]
      rw [List.getElem?_take, List.getElem?_take, if_pos (by omega), if_pos (by omega), List.getElem?_eq_getElem hik, List.getElem?_eq_getElem hix] at h1
      simpa using h1
    have hUi : (ups kids keys hi).take (i + 1) = (ups x.kids x.keys hi).take (i + 1) := by
      rw [hU]
      have hl : ((ups x.kids x.keys hi).take (i + 1)).length = i + 1 := by simp [ups]; omega
      exact List.take_left' hl
    have hTd : (ups kids keys hi).drop (i + 1) = T := by
      rw [hU]
      have hl : ((ups x.kids x.keys hi).take (i + 1)).length = i + 1 := by simp [ups]; omega
      exact List.drop_left' hl
    have hTi : (ups kids keys hi).take i = (ups x.kids x.keys hi).take i := by
      have := congrArg (List.take i) hUi
      rwa [List.take_take, List.take_take, Nat.min_eq_left (by omega)] at this
    have hup : (keys ++ [hi])[i]'(by simp; omega) = (x.keys ++ [hi])[i]'(by simp; omega) := by
      have a := take_succ_ups (hi := hi) hkl hik
      have b := take_succ_ups (hi := hi) hx hix
      rw [hUi, b, hTi] at a
      have := List.append_cancel_left a
      simp at this
      exact this.2.symm
    rw [ups_adopt hkl hik hml, hTd, hTi, hkd, List.append_assoc]
    simp only [hup]
  · refine SubK_imp s1a fun d l u Qq a b => Sub_congr h d l u Qq a fun n hn' => ?_
    have hr := hr1 n (b n hn')
    have hne : n ≠ p := fun e => hpn (by rw [← e]; simp [b n hn'])
    have hnot : n ∉ Qd' := fun e => nad n (b n hn') n e rfl
    exact ⟨(hfar n hr.1 hne).trans (hs.same n hnot hr.1 hr.2), by rw [hlen]; omega⟩
  · rw [SubK_append]
    refine ⟨Q', Q2, rfl, ?_, ?_⟩
    · refine SubK_imp t1 fun d l u Qq a b => Sub_congr h d l u Qq a fun n hn' => ?_
      have hm := t2.mem_iff.1 (b n hn')
      have hr : 0 ≤ n ∧ n < R.1.length := SubK_range t1 n (b n hn')
      have hne : n ≠ p := by
        rintro rfl
        rcases List.mem_append.1 hm with e | e
        · exact hpn' e
        · have := (placesF_mem.1 e).1; omega
      exact ⟨hfar n hr.1 hne, by rw [hlen]; exact hr.2⟩
    · rw [endU_ups (by simp)]
      refine SubK_imp s2 fun d l u Qq a b => Sub_congr h d l u Qq a fun n hn' => ?_
      have hr := hr2 n (b n hn')
      have hne : n ≠ p := fun e => hpn (by rw [← e]; simp [b n hn'])
      have hnot : n ∉ Qd' := fun e => nad2 n (List.mem_append_right _ e) n (b n hn') rfl
      exact ⟨(hfar n hr.1 hne).trans (hs.same n hnot hr.1 hr.2), by rw [hlen]; omega⟩
  · rw [hlen, show R.1.length - ns0.length = (ns.length - ns0.length) + (R.1.length - ns.length) by omega, placesF_append, show ns0.length + (ns.length - ns0.length) = ns.length by omega]
    rw [← List.append_assoc P]
    refine List.Perm.trans ?_ (hpm.append_right _)
    show (p :: (Qa ++ (Q' ++ Q2))).Perm (p :: (Qa ++ Qd' ++ Q2 ++ placesF ns.length (R.1.length - ns.length)))
    refine List.Perm.cons p ?_
    simp only [List.append_assoc]
    refine List.Perm.append_left Qa ?_
    refine (t2.append_right Q2).trans ?_
    simp only [List.append_assoc]
    exact List.Perm.append_left Qd' List.perm_append_comm
  · intro n hnP h0 h1
    have hne : n ≠ p := fun e => hnP (e ▸ hpP)
    have hnot : n ∉ Qd' := by
      intro e
      have : n ∈ P ++ placesF ns0.length (ns.length - ns0.length) := hpm.mem_iff.1 (by simp [e])
      rcases List.mem_append.1 this with e' | e'
      · exact hnP e'
      · have := (placesF_mem.1 e').1; omega
    exact (hfar n h0 hne).trans ((hs.same n hnot h0 (by omega)).trans (hK.same n hnP h0 h1))
  · exact (adopt_cont hp0 hpRl).trans (hs.cont.trans hK.cont)

theorem kidsN_ok {mL : Nat} {ns0 : List Nd} {h : Nat} {p lo hi : Int} {P : List Int} {x : Nd} {rec : List Nd → Int → List Nd × List (Int × Int)} (hx : x.keys.length + 1 = x.kids.length) (hp0 : 0 ≤ p) (hp1 : p < ns0.length) (hpP : p ∈ P) (hP : P.Nodup) (hPr : ∀ n ∈ P, 0 ≤ n ∧ n < ns0.length)
    (hrec : ∀ ns d lo u Qd, Sub mL 4 ns h d lo u Qd → Qd.Nodup → SplitOk ns (rec ns d).1 h d lo u Qd (rec ns d).2) :
    ∀ (i : Nat) (ns : List Nd), KidsOk mL ns0 ns h p lo hi P x i → KidsOk mL ns0 (kidsN rec p i ns) h p lo hi P x 0
  | 0, _, hK => hK
  | i + 1, ns, hK => kidsN_ok hx hp0 hp1 hpP hP hPr hrec i _ (kids_step hx hp0 hp1 hpP hP hPr hK fun lo u Qd a b => hrec ns _ lo u Qd a b)

/-- All of a tree's nodes that hold too much are split: what is left is a row of nodes that hold enough. -/
theorem splitAll_ok {mL : Nat} : ∀ (h : Nat) (ns : List Nd) (p lo hi : Int) (P : List Int), Sub mL 4 ns h p lo hi P → P.Nodup → SplitOk ns (splitAllN h ns p).1 h p lo hi P (splitAllN h ns p).2
  | 0, ns, p, lo, hi, P, hs, hP => split_ok (mK := 4) (mL := mL) (show Top mL 4 ns 0 p lo hi P from hs) hP
  | h + 1, ns, p, lo, hi, P, hs, hP => by
    have hPr := Sub_range _ _ _ _ _ hs
    obtain ⟨hr, Q, rfl, hin⟩ := hs
    have hul : (ups (nth ns p).kids (nth ns p).keys hi).take (nth ns p).kids.length = ups (nth ns p).kids (nth ns p).keys hi := List.take_of_length_le (by simp [ups]; omega)
    have hK : KidsOk mL ns ns h p lo hi (p :: Q) (nth ns p) (nth ns p).kids.length := by
      refine ⟨Nat.le_refl _, ⟨(nth ns p).kids, (nth ns p).keys, [], Q, [], rfl, hin.keys, Nat.le_refl _, rfl, ?_, ?_, rfl, ?_⟩, Nat.le_refl _, fun _ _ _ _ => rfl, List.Perm.refl _⟩
      · rw [hul, List.append_nil]
      · rw [hul]; exact hin.kids
      · simp [placesF]
    have hK0 := kidsN_ok (rec := splitAllN h) hin.keys hr.1 hr.2.1 (by simp) hP hPr (fun ns d lo u Qd a b => splitAll_ok h ns d lo u Qd a b) _ _ hK
    show SplitOk ns (splitN (kidsN (splitAllN h) p (nth ns p).kids.length ns) p).1 (h + 1) p lo hi (p :: Q) (splitN (kidsN (splitAllN h) p (nth ns p).kids.length ns) p).2
    generalize kidsN (splitAllN h) p (nth ns p).kids.length ns = ns1 at hK0 ⊢
    obtain ⟨kids, keys, T, Q1, Q2, hn, hkl, hle, -, hU, s1, s2, hpm⟩ := hK0.at'
    have hle1 := hK0.le
    cases s1
    rw [List.take_zero] at hU s2
    rw [List.nil_append] at hU hpm
    have htwo := hin.two
    have hp1 := hr.2.1
    have hnd : (p :: Q2).Nodup := hpm.nodup_iff.2 (List.nodup_append.2 ⟨hP, placesF_nodup _ _, fun a ha b hb e => by
      have h1 := (hPr a ha).2
      have h2 := (placesF_mem.1 hb).1
      omega⟩)
    have htop : Top 6 kids.length ns1 (h + 1) p lo hi (p :: Q2) := by
      refine ⟨⟨hr.1, by omega, hr.2.2⟩, Q2, rfl, ?_⟩
      rw [hn]
      exact ⟨hin.leaf, hin.ents, by show 2 ≤ kids.length; omega, Nat.le_refl _, hkl, hin.few, hin.buf, by show SubK _ lo (ups kids keys hi) Q2; rw [hU]; exact s2⟩
    have hs := split_ok htop hnd
    have hle2 := hs.le
    have hfew := hs.few
    obtain ⟨Q', t1, t2⟩ := hs.sub
    refine ⟨⟨Q', t1, t2.trans ?_⟩, by omega, ?_, hs.cont.trans hK0.cont, by omega⟩
    · rw [show (splitN ns1 p).1.length - ns.length = (ns1.length - ns.length) + ((splitN ns1 p).1.length - ns1.length) by omega, placesF_append, show ns.length + (ns1.length - ns.length) = ns1.length by omega, ← List.append_assoc (p :: Q)]
      exact hpm.append_right _
    · intro n hnP h0 h1
      refine (hs.same n ?_ h0 (by omega)).trans (hK0.same n hnP h0 h1)
      intro e
      rcases List.mem_append.1 (hpm.mem_iff.1 e) with e' | e'
      · exact hnP e'
      · have := (placesF_mem.1 e').1; omega

end Go.Proofs.Ytlojfgdpmaigmac
