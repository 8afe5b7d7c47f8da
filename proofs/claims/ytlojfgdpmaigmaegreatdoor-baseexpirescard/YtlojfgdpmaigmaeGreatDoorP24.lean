/- slices.Insert of one number, in a list of one's own. -/
import Derived.Shelf.Spec.SlicesInsertGrow
import Derived.Test.YtlojfgdpmaigmaeGreatDoorLays
import Derived.Test.YtlojfgdpmaigmaeGreatDoorP23
import Derived.Test.YtlojfgdpmaigmaeGreatDoorP22
namespace Go.Proofs.YtlojfgdpmaigmaeGreatDoor
open Go.RowKit Plain Go.Shelf

def ovr : List Value → Nat → List Value → List Value
  | l, _, [] => l
  | l, o, v :: r => ovr (l.set o v) (o + 1) r

theorem ovr_length : ∀ (vs : List Value) (l : List Value) (o : Nat), (ovr l o vs).length = l.length
  | [], _, _ => rfl
  | v :: r, l, o => by rw [ovr, ovr_length r]; simp

theorem ovr_get : ∀ (vs : List Value) (l : List Value) (o j : Nat), o + vs.length ≤ l.length → (ovr l o vs)[j]? = if o ≤ j ∧ j < o + vs.length then vs[j - o]? else l[j]?
  | [], l, o, j, _ => by simp [ovr]; omega
  | v :: r, l, o, j, h => by
    simp only [List.length_cons] at h ⊢
    rw [ovr, ovr_get r _ _ _ (by simp; omega)]
    by_cases h1 : j = o
    · subst h1
      rw [if_neg (by omega), if_pos (by omega), List.getElem?_set_self (by omega), Nat.sub_self]
      rfl
    · by_cases h2 : o + 1 ≤ j ∧ j < o + 1 + r.length
      · rw [if_pos h2, if_pos (by omega), show j - o = (j - (o + 1)) + 1 by omega, List.getElem?_cons_succ]
      · rw [if_neg h2, if_neg (by omega), List.getElem?_set_ne (by omega)]

theorem take_get {cur cs : List Value} (ht : cur.take cs.length = cs) {j : Nat} (hj : j < cs.length) : cur[j]? = cs[j]? := by
  have h : (cur.take cs.length)[j]? = cs[j]? := by rw [ht]
  rwa [List.getElem?_take, if_pos hj] at h

theorem ins_get (cs : List Value) (v : Value) (i j : Nat) (hi : i ≤ cs.length) : (cs.take i ++ v :: cs.drop i)[j]? = if j < i then cs[j]? else if j = i then some v else cs[j - 1]? := by
  have hl : (cs.take i).length = i := by rw [List.length_take]; omega
  by_cases h1 : j < i
  · rw [List.getElem?_append_left (by omega), List.getElem?_take, if_pos h1, if_pos h1]
  · rw [List.getElem?_append_right (by omega), hl, if_neg h1]
    by_cases h2 : j = i
    · rw [if_pos h2, h2, Nat.sub_self]; rfl
    · rw [if_neg h2, show j - i = (j - 1 - i) + 1 by omega, List.getElem?_cons_succ, List.getElem?_drop, show i + (j - 1 - i) = j - 1 by omega]

/-- In place: the last ones move, then the new one comes. -/
theorem ovr_shift {cur cs : List Value} {i : Nat} (v : Value) (ht : cur.take cs.length = cs) (hi : i ≤ cs.length) (hr : cs.length + 1 ≤ cur.length) : (ovr (ovr cur (i + 1) (cs.drop i)) i [v]).take (cs.length + 1) = cs.take i ++ v :: cs.drop i := by
  apply List.ext_getElem?
  intro j
  rw [ins_get cs v i j hi, List.getElem?_take]
  by_cases hj : j < cs.length + 1
  · rw [if_pos hj, ovr_get _ _ _ _ (by rw [ovr_length]; simp; omega)]
    by_cases h1 : j = i
    · subst h1
      rw [if_pos (by simp), if_neg (by omega), if_pos rfl]
      simp
    · rw [if_neg (by simp; omega), ovr_get _ _ _ _ (by simp; omega)]
      by_cases h2 : j < i
      · rw [if_neg (by omega), if_pos h2, take_get ht (by omega)]
      · rw [if_pos (by simp; omega), if_neg h2, if_neg h1, List.getElem?_drop, show i + (j - (i + 1)) = j - 1 by omega]
  · rw [if_neg hj, if_neg (by omega), if_neg (by omega), List.getElem?_eq_none (by omega)]

/-- In new memory: what is ahead stands there, the rest comes. -/
theorem ovr_fill {cur cs : List Value} {i : Nat} (v : Value) (ht : cur.take i = cs.take i) (hi : i ≤ cs.length) (hr : cs.length + 1 ≤ cur.length) : (ovr (ovr cur i [v]) (i + 1) (cs.drop i)).take (cs.length + 1) = cs.take i ++ v :: cs.drop i := by
  apply List.ext_getElem?
  intro j
  rw [ins_get cs v i j hi, List.getElem?_take]
  by_cases hj : j < cs.length + 1
  · rw [if_pos hj, ovr_get _ _ _ _ (by rw [ovr_length]; simp; omega)]
    by_cases h1 : i + 1 ≤ j
    · rw [if_pos (by simp; omega), if_neg (by omega), if_neg (by omega), List.getElem?_drop, show i + (j - (i + 1)) = j - 1 by omega]
    · rw [if_neg (by omega), ovr_get _ _ _ _ (by simp; omega)]
      by_cases h2 : j < i
      · rw [if_neg (by omega), if_pos h2]
        have h : (cur.take i)[j]? = (cs.take i)[j]? := by rw [ht]
        rwa [List.getElem?_take, List.getElem?_take, if_pos h2, if_pos h2] at h
      · obtain rfl : j = i := by omega
        rw [if_pos (by simp), if_neg (by omega), if_pos rfl]
        simp
  · rw [if_neg hj, if_neg (by omega), if_neg (by omega), List.getElem?_eq_none (by omega)]

theorem setCells_at (g : Nat) (e : TypeId) : ∀ (vs : List Value) (o : Nat) (cur : Array Value) (w : World), w.heap[g]? = some (.cells cur e (0, 0)) → (w.setCells g o vs).heap[g]? = some (.cells (ovr cur.toList o vs).toArray e (0, 0))
  | [], o, cur, w, h => by simpa [World.setCells, ovr] using h
  | v :: r, o, cur, w, h => by
    rw [World.setCells]
    have h1 : (w.setCell ⟨g, o, none⟩ v).heap[g]? = some (.cells (cur.setIfInBounds o v) e (0, 0)) := by simp [World.setCell, Array.getElem?_modify, h]
    have := setCells_at g e r (o + 1) _ _ h1
    rw [Array.toList_setIfInBounds] at this
    exact this

theorem setCells_kept (g : Nat) : ∀ (vs : List Value) (o : Nat) (w : World), Kept [g] w (w.setCells g o vs)
  | [], _, w => Kept.refl _ _
  | v :: r, o, w => by
    rw [World.setCells]
    exact ((Kept.refl [g] w).set (.inl (by simp)) v).trans (setCells_kept g r (o + 1) _)

def obk (A : Option Addr) : List Nat := (A.map Addr.block).toList

/-- What is left behind: a list of one's own, in its old block or in a new one; nothing else has turned. -/
structure Moved (base : Nat) (t : TypeId) (size n : Nat) (A A' : Option Addr) (C' : Nat) (vs : List Value) (w w' : World) : Prop where
  own : w'.ownsRow base t size (.slice A' n C') n vs
  kept : Kept (obk A) w w'
  lies : A'.map Addr.block = A.map Addr.block ∨ ∃ k, A'.map Addr.block = some k ∧ w.heap.size ≤ k

theorem Kept.mono {ex ex' : List Nat} {w w' : World} (h : Kept ex w w') (hs : ∀ k ∈ ex, k ∈ ex') : Kept ex' w w' := ⟨h.os, h.tape, h.output, h.size, fun k hk hx => h.block k hk (fun e => hx (hs k e))⟩

theorem ints_take (zs : List Int) (i : Nat) : (ints zs).take i = ints (zs.take i) := by simp [ints]
theorem ints_drop (zs : List Int) (i : Nat) : (ints zs).drop i = ints (zs.drop i) := by simp [ints]
theorem ints_ins (zs : List Int) (i : Nat) (z : Int) : ints (zs.take i ++ z :: zs.drop i) = (ints zs).take i ++ .int .i64 z :: (ints zs).drop i := by simp [ints]
theorem ints_len (zs : List Int) : (ints zs).length = zs.length := by simp [ints]

theorem moved_new {base n C : Nat} {t : TypeId} {A : Option Addr} {vs : List Value} {w w' : World} {cur : Array Value} (hb : base ≤ w.heap.size) (hg : w'.heap[w.heap.size]? = some (.cells cur t (0, 0))) (hn : n ≤ C) (hm : C ≤ maxLen) (hs : cur.size = C) (hl : vs.length = n) (ht : cur.toList.take n = vs)
    (hk : Kept (obk A) w w') : Moved base t 1 n A (some ⟨w.heap.size, 0, none⟩) C vs w w' :=
  ⟨⟨by omega, .inr ⟨w.heap.size, C, cur, rfl, hb, hg, hn, hm, by omega, by rw [Nat.mul_one]; exact ht⟩⟩, hk, .inr ⟨w.heap.size, rfl, Nat.le_refl _⟩⟩

theorem moved_old {base n C g : Nat} {t : TypeId} {vs : List Value} {w w' : World} {cur : Array Value} (hb : base ≤ g) (hg : w'.heap[g]? = some (.cells cur t (0, 0))) (hn : n ≤ C) (hm : C ≤ maxLen) (hs : cur.size = C) (hl : vs.length = n) (ht : cur.toList.take n = vs)
    (hk : Kept [g] w w') : Moved base t 1 n (some ⟨g, 0, none⟩) (some ⟨g, 0, none⟩) C vs w w' :=
  ⟨⟨by omega, .inr ⟨g, C, cur, rfl, hb, hg, hn, hm, by omega, by rw [Nat.mul_one]; exact ht⟩⟩, hk, .inl rfl⟩

theorem oneI (z : Int) : ∀ v ∈ ([.int .i64 z] : List Value), v.oneCell' = true := by
  intro v hv
  obtain rfl : v = .int .i64 z := by simpa using hv
  rfl

theorem insertI_any (base : Nat) (A : Option Addr) (C vb vc : Nat) (zs : List Int) (i : Nat) (z : Int) (w : World) (ho : w.ownsRow base 3 1 (.slice A zs.length C) zs.length (ints zs)) (hi : i ≤ zs.length) (hv : RowL w vb 3 [.int .i64 z]) (hvb : vb ∉ obk A) (hB : base ≤ w.heap.size) (hz : (zs.length + 1) * 8 ≤ 140737488351232) :
    Calls Tryz.prog 118 #[.slice A zs.length C, .int .i64 (i : Int), .slice (some ⟨vb, 0, none⟩) 1 vc] w
      fun e w' => ∃ A' C', e = .returned (.slice A' (zs.length + 1) C') ∧ Moved base 3 1 (zs.length + 1) A A' C' (ints (zs.take i ++ z :: zs.drop i)) w w' := by
  have hvs : ∀ j v, ([.int .i64 z] : List Value)[j]? = some v → w.cell? ⟨vb, 0 + j, none⟩ = some v := fun j v hj => by rw [Nat.zero_add, hv.cell]; exact hj
  have hml : zs.length + 1 ≤ maxLen := by unfold maxLen; omega
  rcases ho.2 with ⟨hn, hn0⟩ | ⟨g, cap, cur, hn, hb, hg, hl, hm, hs, ht⟩
  · obtain rfl : zs = [] := List.eq_nil_of_length_eq_zero hn0
    cases hn
    obtain rfl : i = 0 := by simpa using hi
    have hcon := Any2.slices_Insert_int_end_grow Tryz.insertI none 0 0 vb 0 1 vc [] [.int .i64 z] w (by decide) (by decide) (by decide) (by decide) rfl rfl (fun _ => rfl) (fun a h => by cases h) hvs (oneI z)
    change Calls Tryz.prog 118 _ _ _ at hcon
    refine hcon.mono ?_
    rintro e w' ⟨rfl, rfl⟩
    refine ⟨_, _, rfl, moved_new (cur := _) hB (heap_alloc_new w.drew _) (grownCap_ge _ _ _ _) (grownCap_le_maxLen _ _ _ _ (by decide)) ?_ (by simp [ints]) ?_ ?_⟩
    · have h := grownCap_ge w (0 + 1) 0 3
      show (([] ++ [Value.int .i64 z] : List Value).toArray ++ Builtin.zeroCells (Value.int .i64 0).cells (grownCap w (0 + 1) 0 3 - (0 + 1))).size = grownCap w (0 + 1) 0 3
      generalize grownCap w (0 + 1) 0 3 = G at h ⊢
      rw [Array.size_append, size_zeroCells]
      simp [Value.cells]
      omega
    · simp [ints]
    · exact ((Kept.refl _ w).drew).alloc _
  · simp only [Value.slice.injEq] at hn
    obtain ⟨rfl, -, rfl⟩ := hn
    have hvg : vb ≠ g := fun e => hvb (by simp [obk, e])
    rw [Nat.mul_one] at hs ht
    have hil := ints_len zs
    have hcl : cur.toList.length = C := by simpa using hs
    have hcell : ∀ j, w.cell? ⟨g, j, none⟩ = cur.toList[j]? := fun j => by simp [World.cell?, hg]
    have hcs : ∀ j v, (ints zs)[j]? = some v → w.cell? ⟨g, 0 + j, none⟩ = some v := fun j v hj => by
      rw [Nat.zero_add, hcell, ← hj, ← ht, List.getElem?_take, if_pos]
      have := (List.getElem?_eq_some_iff.1 hj).1
      omega
    have hfz : ∀ j, w.frozen? ⟨g, j, none⟩ = false := fun j => by simp [World.frozen?, hg]
    by_cases hin : i < zs.length
    · by_cases hroom : zs.length + 1 ≤ C
      · have hcon := Any2.slices_Insert_int_shift Tryz.insertI g 0 zs.length C i vb 0 1 vc (ints zs) [.int .i64 z] w hin (by decide) hroom (by unfold maxLen at hm; omega) hvg hil rfl hcs (fun j hj => by rw [Nat.zero_add, hcell, List.getElem?_eq_getElem (by omega)]; rfl) (fun j _ => hfz _) hvs (ints_one zs) (oneI z) 3 3 1 C
          (by unfold World.shape?; rw [show w.heap[vb]? = _ from hv]; rfl) (by unfold World.shape?; rw [hg]; simp [hs]) (by omega) (hv.frozen _) (hv.frozen _)
        change Calls Tryz.prog 118 _ _ _ at hcon
        refine hcon.mono ?_
        rintro e w' ⟨rfl, rfl⟩
        have h1 := setCells_at g 3 ((ints zs).drop i) (0 + (i + 1)) cur w.drew hg
        have h2 := setCells_at g 3 [.int .i64 z] (0 + i) _ _ h1
        refine ⟨_, _, rfl, moved_old hb h2 hroom hm (by simp [ovr_length, hs]) (by simp [ints]; omega) ?_ ?_⟩
        · rw [ints_ins, Nat.zero_add, Nat.zero_add]
          have := ovr_shift (cur := cur.toList) (cs := ints zs) (i := i) (.int .i64 z) (by rw [hil]; exact ht) (by omega) (by omega)
          rw [hil] at this
          exact this
        · exact (((Kept.refl _ w).drew).trans (setCells_kept g _ _ _)).trans (setCells_kept g _ _ _)
      · have hcon := Any2.slices_Insert_int_grow Tryz.insertI g 0 zs.length C i vb 0 1 vc (ints zs) [.int .i64 z] w hin (by decide) hl (by omega) (by omega) hil rfl hcs hvs (ints_one zs) (oneI z)
        change Calls Tryz.prog 118 _ _ _ at hcon
        refine hcon.mono ?_
        rintro e w' ⟨rfl, rfl⟩
        have hG := grownCap_ge w (zs.length + 1) C 3
        have hGm := grownCap_le_maxLen w (zs.length + 1) C 3 hml
        obtain ⟨G, hGe⟩ : ∃ G, G = grownCap w (zs.length + 1) C 3 := ⟨_, rfl⟩
        rw [← hGe] at hG hGm
        show ∃ A' C', Ending.returned (.slice (some ⟨w.heap.size, 0, none⟩) (zs.length + 1) (grownCap w (zs.length + 1) C 3)) = _ ∧ Moved base 3 1 (zs.length + 1) _ A' C' _ w ((((w.alloc (.cells (((ints zs).take i).toArray ++ Builtin.zeroCells (Value.int .i64 0).cells (zs.length + 1 - i) ++ Builtin.zeroCells (Value.int .i64 0).cells (grownCap w (zs.length + 1) C 3 - (zs.length + 1))) 3)).drew.setCells w.heap.size i [.int .i64 z]).drew).setCells w.heap.size (i + 1) ((ints zs).drop i))
        rw [← hGe]
        obtain ⟨ROW, hROW⟩ : ∃ ROW : Array Value, ROW = ((ints zs).take i).toArray ++ Builtin.zeroCells (Value.int .i64 0).cells (zs.length + 1 - i) ++ Builtin.zeroCells (Value.int .i64 0).cells (G - (zs.length + 1)) := ⟨_, rfl⟩
        have hRs : ROW.size = G := by
          rw [hROW, Array.size_append, Array.size_append, size_zeroCells, size_zeroCells]
          simp [Value.cells, hil]
          omega
        have hRt : ROW.toList.take i = (ints zs).take i := by
          rw [hROW, Array.toList_append, Array.toList_append, List.append_assoc]
          exact List.take_left' (by rw [List.length_take]; omega)
        rw [← hROW]
        have h0 : (w.alloc (.cells ROW 3)).drew.heap[w.heap.size]? = some (.cells ROW 3 (0, 0)) := heap_alloc_new w _
        have h1 := setCells_at w.heap.size 3 [.int .i64 z] i ROW _ h0
        have h2 := setCells_at w.heap.size 3 ((ints zs).drop i) (i + 1) _ ((w.alloc (.cells ROW 3)).drew.setCells w.heap.size i [.int .i64 z]).drew h1
        refine ⟨_, _, rfl, moved_new hB h2 hG hGm (by simp [ovr_length, hRs]) (by simp [ints]; omega) ?_ ?_⟩
        · rw [ints_ins]
          have := ovr_fill (cur := ROW.toList) (cs := ints zs) (i := i) (.int .i64 z) hRt (by omega) (by simp [hRs, hil]; omega)
          rw [hil] at this
          exact this
        · have hk : Kept (obk (some ⟨g, 0, none⟩)) w ((((w.alloc (.cells ROW 3)).drew.setCells w.heap.size i [.int .i64 z]).drew).setCells w.heap.size (i + 1) ((ints zs).drop i)) := by
            have k1 := (((Kept.refl [w.heap.size] w).alloc (.cells ROW 3)).drew.trans (setCells_kept w.heap.size [.int .i64 z] i _)).drew.trans (setCells_kept w.heap.size ((ints zs).drop i) (i + 1) _)
            exact ⟨k1.os, k1.tape, k1.output, k1.size, fun k hk _ => k1.block k hk (by simp; omega)⟩
          exact hk
    · obtain rfl : i = zs.length := by omega
      by_cases hroom : zs.length + 1 ≤ C
      · have hcon := Any2.slices_Insert_int_end_room Tryz.insertI g 0 zs.length C vb 0 1 vc [.int .i64 z] w (by decide) hroom (by unfold maxLen at hm; omega) rfl (fun j hj => by rw [Nat.zero_add, hcell, List.getElem?_eq_getElem (by omega)]; rfl) (fun j _ => hfz _) hvs (oneI z)
        change Calls Tryz.prog 118 _ _ _ at hcon
        refine hcon.mono ?_
        rintro e w' ⟨rfl, rfl⟩
        have h2 := setCells_at g 3 [.int .i64 z] (0 + zs.length) cur w hg
        refine ⟨_, _, rfl, moved_old hb h2 hroom hm (by simp [ovr_length, hs]) (by simp [ints]) ?_ (setCells_kept g _ _ _)⟩
        rw [ints_ins, Nat.zero_add]
        have := ovr_shift (cur := cur.toList) (cs := ints zs) (i := zs.length) (.int .i64 z) (by rw [hil]; exact ht) (by omega) (by omega)
        rw [hil, List.drop_of_length_le (by omega)] at this
        rw [List.drop_of_length_le (by omega)]
        exact this
      · have hcon := Any2.slices_Insert_int_end_grow Tryz.insertI (some ⟨g, 0, none⟩) zs.length C vb 0 1 vc (ints zs) [.int .i64 z] w (by decide) hl (by omega) (by omega) hil rfl (fun h => by cases h) (fun a ha j v hj => by cases ha; rw [Addr.add_lit]; exact hcs j v hj) hvs (oneI z)
        change Calls Tryz.prog 118 _ _ _ at hcon
        refine hcon.mono ?_
        rintro e w' ⟨rfl, rfl⟩
        have hG := grownCap_ge w (zs.length + 1) C 3
        have hGm := grownCap_le_maxLen w (zs.length + 1) C 3 hml
        refine ⟨_, _, rfl, moved_new (cur := _) hB (heap_alloc_new w.drew _) hG hGm ?_ (by simp [ints]) ?_ (((Kept.refl _ w).drew).alloc _)⟩
        · show ((ints zs ++ [Value.int .i64 z]).toArray ++ Builtin.zeroCells (Value.int .i64 0).cells (grownCap w (zs.length + 1) C 3 - (zs.length + 1))).size = grownCap w (zs.length + 1) C 3
          rw [Array.size_append, size_zeroCells]
          simp [Value.cells, hil]
          omega
        · have e1 : (ints zs).take zs.length = ints zs := List.take_of_length_le (by omega)
          have e2 : (ints zs).drop zs.length = [] := List.drop_of_length_le (by omega)
          rw [ints_ins, e1, e2, Array.toList_append]
          exact List.take_left' (by simp [hil])

end Go.Proofs.YtlojfgdpmaigmaeGreatDoor

/- slices.Insert of one entry, in a list of one's own. -/
namespace Go.Proofs.YtlojfgdpmaigmaeGreatDoor
open Go.RowKit Plain Go.Shelf

end Go.Proofs.YtlojfgdpmaigmaeGreatDoor

/- slices.Insert of one entry, in a list of one's own: all roads. -/
namespace Go.Proofs.YtlojfgdpmaigmaeGreatDoor
open Go.RowKit Plain Go.Shelf

end Go.Proofs.YtlojfgdpmaigmaeGreatDoor

/- slices.Reverse over entries. -/
namespace Go.Proofs.YtlojfgdpmaigmaeGreatDoor
open Go.RowKit Plain Go.Shelf

theorem set_en7 (A B : List En) (y x : En) (a : Nat) (ha : A.length * 7 = a) :
    (((((((flatE (A ++ y :: B)).set a (.int .i64 x.key)).set (a + 1) (.int .i64 x.c)).set (a + 2) (.int .i64 x.s)).set (a + 3) (.int .i64 x.lo)).set (a + 4) (.int .i64 x.hi)).set (a + 5) (.int .i64 x.t)).set (a + 6) (.int .i64 x.l) = flatE (A ++ x :: B) := by
  have h : (flatE A).length = a := by rw [flatE_length]; exact ha
  rw [flatE_append, flatE_append, flatE, flatE]
  rw [List.set_append_right _ _ (by omega), List.set_append_right _ _ (by omega), List.set_append_right _ _ (by omega), List.set_append_right _ _ (by omega), List.set_append_right _ _ (by omega), List.set_append_right _ _ (by omega), List.set_append_right _ _ (by omega), h]
  simp only [Nat.add_sub_cancel_left, Nat.sub_self]
  rfl

theorem set_at7 (xs : List En) (i : Nat) (x : En) (hi : i < xs.length) :
    (((((((flatE xs).set (i * 7) (.int .i64 x.key)).set (i * 7 + 1) (.int .i64 x.c)).set (i * 7 + 2) (.int .i64 x.s)).set (i * 7 + 3) (.int .i64 x.lo)).set (i * 7 + 4) (.int .i64 x.hi)).set (i * 7 + 5) (.int .i64 x.t)).set (i * 7 + 6) (.int .i64 x.l) = flatE (xs.set i x) := by
  have e1 : xs = xs.take i ++ xs[i] :: xs.drop (i + 1) := by rw [List.getElem_cons_drop, List.take_append_drop]
  have e2 : xs.set i x = xs.take i ++ x :: xs.drop (i + 1) := by rw [List.set_eq_take_append_cons_drop, if_pos hi]
  rw [e2]
  conv => lhs; rw [e1]
  exact set_en7 _ _ xs[i] x _ (by rw [List.length_take]; omega)

def setE7 (w : World) (g a : Nat) (x : En) : World := ((((((w.setCell ⟨g, a, none⟩ (.int .i64 x.key)).setCell ⟨g, a + 1, none⟩ (.int .i64 x.c)).setCell ⟨g, a + 2, none⟩ (.int .i64 x.s)).setCell ⟨g, a + 3, none⟩ (.int .i64 x.lo)).setCell ⟨g, a + 4, none⟩ (.int .i64 x.hi)).setCell ⟨g, a + 5, none⟩ (.int .i64 x.t)).setCell ⟨g, a + 6, none⟩ (.int .i64 x.l)

theorem own_set7 {w : World} {base g C i : Nat} {xs : List En} {x : En} (h : w.ownsRow base 73 7 (.slice (some ⟨g, 0, none⟩) xs.length C) xs.length (flatE xs)) (hi : i < xs.length) :
    (setE7 w g (i * 7) x).ownsRow base 73 7 (.slice (some ⟨g, 0, none⟩) (xs.set i x).length C) (xs.set i x).length (flatE (xs.set i x)) := by
  rw [← set_at7 xs i x hi, List.length_set]
  exact own_set (own_set (own_set (own_set (own_set (own_set (own_set h _ _) _ _) _ _) _ _) _ _) _ _) _ _

end Go.Proofs.YtlojfgdpmaigmaeGreatDoor

/- slices.Reverse over entries: its walk. -/
namespace Go.Proofs.YtlojfgdpmaigmaeGreatDoor
open Go.RowKit Plain Go.Shelf

theorem kept_set1 {g : Nat} {w wr : World} (h : Kept [g] w wr) (a : Nat) (v : Value) : Kept [g] w (wr.setCell ⟨g, a, none⟩ v) :=
  ⟨h.os, h.tape, h.output, by simpa using h.size, fun k hk hne => (Below.heap_setCell _ _ _ _ (show k ≠ g from fun e => hne (by simp [e]))).trans (h.block k hk hne)⟩

theorem kept_set7 {g : Nat} {w wr : World} (h : Kept [g] w wr) (a : Nat) (x : En) : Kept [g] w (setE7 wr g a x) := by
  unfold setE7
  exact kept_set1 (kept_set1 (kept_set1 (kept_set1 (kept_set1 (kept_set1 (kept_set1 h _ _) _ _) _ _) _ _) _ _) _ _) _ _

end Go.Proofs.YtlojfgdpmaigmaeGreatDoor

/- slices.DeleteFunc over entries: what the row holds on its way. -/
namespace Go.Proofs.YtlojfgdpmaigmaeGreatDoor
open Go.RowKit Plain Go.Shelf

/-- The row, once j were looked at, and i kept. -/
structure Dl (del : En → Bool) (xs : List En) (i j : Nat) (R : List En) : Prop where
  len : R.length = xs.length
  lt : i < j
  le : j ≤ xs.length
  tk : R.take i = (xs.take j).filter fun x => !del x
  dr : R.drop j = xs.drop j

theorem Dl.get {del : En → Bool} {xs R : List En} {i j : Nat} (h : Dl del xs i j R) (hj : j < xs.length) : R[j]'(by rw [h.len]; exact hj) = xs[j] := by
  have h1 : R[j]? = xs[j]? := by
    have e : (R.drop j)[0]? = (xs.drop j)[0]? := by rw [h.dr]
    simpa using e
  rw [List.getElem?_eq_getElem (by rw [h.len]; exact hj), List.getElem?_eq_getElem hj] at h1
  exact Option.some.inj h1

theorem Dl.start {del : En → Bool} {xs : List En} {k : Nat} (hk : k < xs.length) (hd : del xs[k] = true) (hn : ∀ x ∈ xs.take k, del x = false) : Dl del xs k (k + 1) xs := by
  refine ⟨rfl, by omega, hk, ?_, rfl⟩
  rw [List.take_succ_eq_append_getElem hk, List.filter_append, List.filter_eq_self.2 (fun x hx => by rw [hn x hx]; rfl)]
  simp [hd]

theorem Dl.skip {del : En → Bool} {xs R : List En} {i j : Nat} (h : Dl del xs i j R) (hj : j < xs.length) (hd : del xs[j] = true) : Dl del xs i (j + 1) R := by
  refine ⟨h.len, by have := h.lt; omega, hj, ?_, ?_⟩
  · rw [List.take_succ_eq_append_getElem hj, List.filter_append, ← h.tk]
    simp [hd]
  · have := h.dr
    rw [← List.drop_drop, ← List.drop_drop, this]

theorem Dl.keep {del : En → Bool} {xs R : List En} {i j : Nat} (h : Dl del xs i j R) (hj : j < xs.length) (hd : del xs[j] = false) : Dl del xs (i + 1) (j + 1) (R.set i xs[j]) := by
  have hl := h.lt
  have hn := h.len
  refine ⟨by rw [List.length_set, hn], by omega, hj, ?_, ?_⟩
  · rw [List.take_succ_eq_append_getElem hj, List.filter_append, ← h.tk, List.take_succ_eq_append_getElem (show i < (R.set i xs[j]).length by rw [List.length_set]; omega), List.take_set_of_le (Nat.le_refl _)]
    simp [hd]
  · rw [List.drop_set_of_lt (by omega), ← List.drop_drop, ← List.drop_drop, h.dr]

theorem Dl.done {del : En → Bool} {xs R : List En} {i : Nat} (h : Dl del xs i xs.length R) : R.take i = xs.filter fun x => !del x := by
  have := h.tk
  rwa [List.take_length] at this

theorem Dl.count {del : En → Bool} {xs R : List En} {i : Nat} (h : Dl del xs i xs.length R) : (xs.filter fun x => !del x).length = i := by
  rw [← h.done, List.length_take]
  have := h.lt
  have := h.len
  omega

/-! ### clear of entries -/

theorem zeros7 (n : Nat) : (Builtin.zeroCells (Value.agg #[.int .i64 0, .int .i64 0, .int .i64 0, .int .i64 0, .int .i64 0, .int .i64 0, .int .i64 0]).cells n).toList = List.replicate (n * 7) (.int .i64 0) := by
  have hz : (Value.agg #[.int .i64 0, .int .i64 0, .int .i64 0, .int .i64 0, .int .i64 0, .int .i64 0, .int .i64 0]).cells = #[.int .i64 0, .int .i64 0, .int .i64 0, .int .i64 0, .int .i64 0, .int .i64 0, .int .i64 0] := by simp [Value.cells]
  rw [hz]
  apply List.ext_getElem
  · simp [Builtin.zeroCells]
  · intro i h1 h2
    have h3 : i % 7 = 0 ∨ i % 7 = 1 ∨ i % 7 = 2 ∨ i % 7 = 3 ∨ i % 7 = 4 ∨ i % 7 = 5 ∨ i % 7 = 6 := by omega
    rcases h3 with h3 | h3 | h3 | h3 | h3 | h3 | h3 <;> simp [Builtin.zeroCells, h3]

theorem run_clear7 (w : World) (ty : TypeId) (b o n c : Nat) (hn : 0 < n)
    (hc : ∀ j, j < n * 7 → (w.cell? ⟨b, o + j, none⟩).isSome = true) (hf : ∀ j, j < n * 7 → w.frozen? ⟨b, o + j, none⟩ = false) :
    (Builtin.clear_ #[32] ty #[.slice (some ⟨b, o, none⟩) n c]).run Tryz.prog w = .ok (.tuple #[]) (w.setCells b o (List.replicate (n * 7) (.int .i64 0))) := by
  have hst := run_storeCells_cells (P := Tryz.prog) b o (List.replicate (n * 7) (.int .i64 0)) 0 w (by simpa using hc) (by simpa using hf) (by intro v hv'; rw [List.eq_of_mem_replicate hv']; rfl)
  simp only [Nat.add_zero] at hst
  obtain ⟨m, rfl⟩ : ∃ m, n = m + 1 := ⟨n - 1, by omega⟩
  simp [Builtin.clear_, run_underlying Tryz.underlying32, zeros7, hst]

theorem ovr_take : ∀ (vs l : List Value) (o k : Nat), k ≤ o → (ovr l o vs).take k = l.take k
  | [], _, _, _, _ => rfl
  | v :: r, l, o, k, h => by
    rw [ovr, ovr_take r _ _ _ (by omega), List.take_set_of_le h]

/-- What is kept stays where it is, when the rest is cleared. -/
theorem own_clear {w : World} {base g C n i m : Nat} {xs : List En} {zs : List Value} (h : w.ownsRow base 73 7 (.slice (some ⟨g, 0, none⟩) n C) n (flatE xs)) (hn : xs.length = n) (hi : i ≤ n) (hm : m = i) :
    (w.setCells g (i * 7) zs).ownsRow base 73 7 (.slice (some ⟨g, 0, none⟩) m C) m (flatE (xs.take i)) := by
  subst hm
  refine ⟨by rw [flatE_length, List.length_take]; omega, .inr ?_⟩
  rcases h.2 with ⟨hv, _⟩ | ⟨g', cap, cur, hv, hb, hg, hl, hmm, hs, ht⟩
  · cases hv
  · cases hv
    have h1 := setCells_at g 73 zs (m * 7) cur w hg
    refine ⟨g, C, _, rfl, hb, h1, by omega, hmm, by simp [ovr_length, hs], ?_⟩
    rw [flatE_take, ← ht, List.take_take, Nat.min_eq_left (by omega)]
    show (ovr cur.toList (m * 7) zs).take (m * 7) = _
    exact ovr_take _ _ _ _ (Nat.le_refl _)

end Go.Proofs.YtlojfgdpmaigmaeGreatDoor
