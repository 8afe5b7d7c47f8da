/- slices.Insert of one number, in a list of one's own. -/
import Derived.Shelf.Spec.SlicesInsertGrow
import Derived.Test.YtlojfgdpmaigmaeGreatDoorLays
import Derived.Test.YtlojfgdpmaigmaeGreatDoorP30
import Derived.Test.YtlojfgdpmaigmaeGreatDoorP20
namespace Go.Proofs.YtlojfgdpmaigmaeGreatDoor
open Go.RowKit Plain Go.Shelf

def ovr : List Value → Nat → List Value → List Value
  | l, _, [] => l
  | l, o, v :: r => ovr (l.set o v) (o + 1) r

theorem ovr_length : ∀ (vs : List Value) (l : List Value) (o : Nat), (ovr l o vs).length = l.length
  | [], _, _ => rfl
  | v :: r, l, o => by rw [ovr, ovr_length r]; simp

theorem ovr_get : ∀ (vs : List Value) (l : List Value) (o j : Nat), o + vs.length ≤ l.length → (ovr l o vs)[j]? = if o ≤ j ∧ j < o + vs.length then vs[j - o]? else l[j]?
  | [], l, o, j, _ => by simp [ovr]; omega
  | v :: r, l, o, j, h => by
    simp only [List.length_cons] at h ⊢
    rw [ovr, ovr_get r _ _ _ (by simp; omega)]
    by_cases h1 : j = o
    · subst h1
      rw [if_neg (by omega), if_pos (by omega), List.getElem?_set_self (by omega), Nat.sub_self]
      rfl
    · by_cases h2 : o + 1 ≤ j ∧ j < o + 1 + r.length
      · rw [if_pos h2, if_pos (by omega), show j - o = (j - (o + 1)) + 1 by omega, List.getElem?_cons_succ]
      · rw [if_neg h2, if_neg (by omega), List.getElem?_set_ne (by omega)]

theorem take_get {cur cs : List Value} (ht : cur.take cs.length = cs) {j : Nat} (hj : j < cs.length) : cur[j]? = cs[j]? := by
  have h : (cur.take cs.length)[j]? = cs[j]? := by rw [ht]
  rwa [List.getElem?_take, if_pos hj] at h

theorem ins_get (cs : List Value) (v : Value) (i j : Nat) (hi : i ≤ cs.length) : (cs.take i ++ v :: cs.drop i)[j]? = if j < i then cs[j]? else if j = i then some v else cs[j - 1]? := by
  have hl : (cs.take i).length = i := by rw [List.length_take]; omega
  by_cases h1 : j < i
  · rw [List.getElem?_append_left (by omega), List.getElem?_take, if_pos h1, if_pos h1]
  · rw [List.getElem?_append_right (by omega), hl, if_neg h1]
    by_cases h2 : j = i
    · rw [if_pos h2, h2, Nat.sub_self]; rfl
    · rw [if_neg h2, show j - i = (j - 1 - i) + 1 by omega, List.getElem?_cons_succ, List.getElem?_drop, show i + (j - 1 - i) = j - 1 by omega]

/-- In place: the last ones move, then the new one comes. -/
theorem ovr_shift {cur cs : List Value} {i : Nat} (v : Value) (ht : cur.take cs.length = cs) (hi : i ≤ cs.length) (hr : cs.length + 1 ≤ cur.length) : (ovr (ovr cur (i + 1) (cs.drop i)) i [v]).take (cs.length + 1) = cs.take i ++ v :: cs.drop i := by
  apply List.ext_getElem?
  intro j
  rw [ins_get cs v i j hi, List.getElem?_take]
  by_cases hj : j < cs.length + 1
  · rw [if_pos hj, ovr_get _ _ _ _ (by rw [ovr_length]; simp; omega)]
    by_cases h1 : j = i
    · subst h1
      rw [if_pos (by simp), if_neg (by omega), if_pos rfl]
      simp
    · rw [if_neg (by simp; omega), ovr_get _ _ _ _ (by simp; omega)]
      by_cases h2 : j < i
      · rw [if_neg (by omega), if_pos h2, take_get ht (by omega)]
      · rw [if_pos (by simp; omega), if_neg h2, if_neg h1, List.getElem?_drop, show i + (j - (i + 1)) = j - 1 by omega]
  · rw [if_neg hj, if_neg (by omega), if_neg (by omega), List.getElem?_eq_none (by omega)]

/-- In new memory: what is ahead stands there, the rest comes. -/
theorem ovr_fill {cur cs : List Value} {i : Nat} (v : Value) (ht : cur.take i = cs.take i) (hi : i ≤ cs.length) (hr : cs.length + 1 ≤ cur.length) : (ovr (ovr cur i [v]) (i + 1) (cs.drop i)).take (cs.length + 1) = cs.take i ++ v :: cs.drop i := by
  apply List.ext_getElem?
  intro j
  rw [ins_get cs v i j hi, List.getElem?_take]
  by_cases hj : j < cs.length + 1
  · rw [if_pos hj, ovr_get _ _ _ _ (by rw [ovr_length]; simp; omega)]
    by_cases h1 : i + 1 ≤ j
    · rw [if_pos (by simp; omega), if_neg (by omega), if_neg (by omega), List.getElem?_drop, show i + (j - (i + 1)) = j - 1 by omega]
    · rw [if_neg (by omega), ovr_get _ _ _ _ (by simp; omega)]
      by_cases h2 : j < i
      · rw [if_neg (by omega), if_pos h2]
        have h : (cur.take i)[j]? = (cs.take i)[j]? := by rw [ht]
        rwa [List.getElem?_take, List.getElem?_take, if_pos h2, if_pos h2] at h
      · obtain rfl : j = i := by omega
        rw [if_pos (by simp), if_neg (by omega), if_pos rfl]
        simp
  · rw [if_neg hj, if_neg (by omega), if_neg (by omega), List.getElem?_eq_none (by omega)]

theorem setCells_at (g : Nat) (e : TypeId) : ∀ (vs : List Value) (o : Nat) (cur : Array Value) (w : World), w.heap[g]? = some (.cells cur e (0, 0)) → (w.setCells g o vs).heap[g]? = some (.cells (ovr cur.toList o vs).toArray e (0, 0))
  | [], o, cur, w, h => by simpa [World.setCells, ovr] using h
  | v :: r, o, cur, w, h => by
    rw [World.setCells]
    have h1 : (w.setCell ⟨g, o, none⟩ v).heap[g]? = some (.cells (cur.setIfInBounds o v) e (0, 0)) := by simp [World.setCell, Array.getElem?_modify, h]
    have := setCells_at g e r (o + 1) _ _ h1
    rw [Array.toList_setIfInBounds] at this
    exact this

theorem setCells_kept (g : Nat) : ∀ (vs : List Value) (o : Nat) (w : World), Kept [g] w (w.setCells g o vs)
  | [], _, w => Kept.refl _ _
  | v :: r, o, w => by
    rw [World.setCells]
    exact ((Kept.refl [g] w).set (.inl (by simp)) v).trans (setCells_kept g r (o + 1) _)

def obk (A : Option Addr) : List Nat := (A.map Addr.block).toList

/-- What is left behind: a list of one's own, in its old block or in a new one; nothing else has turned. -/
structure Moved (base : Nat) (t : TypeId) (size n : Nat) (A A' : Option Addr) (C' : Nat) (vs : List Value) (w w' : World) : Prop where
  own : w'.ownsRow base t size (.slice A' n C') n vs
  kept : Kept (obk A) w w'
  lies : A'.map Addr.block = A.map Addr.block ∨ ∃ k, A'.map Addr.block = some k ∧ w.heap.size ≤ k

theorem Kept.mono {ex ex' : List Nat} {w w' : World} (h : Kept ex w w') (hs : ∀ k ∈ ex, k ∈ ex') : Kept ex' w w' := ⟨h.os, h.tape, h.output, h.size, fun k hk hx => h.block k hk (fun e => hx (hs k e))⟩

theorem ints_take (zs : List Int) (i : Nat) : (ints zs).take i = ints (zs.take i) := by simp [ints]
theorem ints_drop (zs : List Int) (i : Nat) : (ints zs).drop i = ints (zs.drop i) := by simp [ints]
theorem ints_ins (zs : List Int) (i : Nat) (z : Int) : ints (zs.take i ++ z :: zs.drop i) = (ints zs).take i ++ .int .i64 z :: (ints zs).drop i := by simp [ints]
theorem ints_len (zs : List Int) : (ints zs).length = zs.length := by simp [ints]

theorem moved_new {base n C : Nat} {t : TypeId} {A : Option Addr} {vs : List Value} {w w' : World} {cur : Array Value} (hb : base ≤ w.heap.size) (hg : w'.heap[w.heap.size]? = some (.cells cur t (0, 0))) (hn : n ≤ C) (hm : C ≤ maxLen) (hs : cur.size = C) (hl : vs.length = n) (ht : cur.toList.take n = vs)
    (hk : Kept (obk A) w w') : Moved base t 1 n A (some ⟨w.heap.size, 0, none⟩) C vs w w' :=
  ⟨⟨by omega, .inr ⟨w.heap.size, C, cur, rfl, hb, hg, hn, hm, by omega, by rw [Nat.mul_one]; exact ht⟩⟩, hk, .inr ⟨w.heap.size, rfl, Nat.le_refl _⟩⟩

theorem moved_old {base n C g : Nat} {t : TypeId} {vs : List Value} {w w' : World} {cur : Array Value} (hb : base ≤ g) (hg : w'.heap[g]? = some (.cells cur t (0, 0))) (hn : n ≤ C) (hm : C ≤ maxLen) (hs : cur.size = C) (hl : vs.length = n) (ht : cur.toList.take n = vs)
    (hk : Kept [g] w w') : Moved base t 1 n (some ⟨g, 0, none⟩) (some ⟨g, 0, none⟩) C vs w w' :=
  ⟨⟨by omega, .inr ⟨g, C, cur, rfl, hb, hg, hn, hm, by omega, by rw [Nat.mul_one]; exact ht⟩⟩, hk, .inl rfl⟩

theorem oneI (z : Int) : ∀ v ∈ ([.int .i64 z] : List Value), v.oneCell' = true := by
  intro v hv
  obtain rfl : v = .int .i64 z := by simpa using hv
  rfl

theorem insertI_any (base : Nat) (A : Option Addr) (C vb vc : Nat) (zs : List Int) (i : Nat) (z : Int) (w : World) (ho : w.ownsRow base 3 1 (.slice A zs.length C) zs.length (ints zs)) (hi : i ≤ zs.length) (hv : RowL w vb 3 [.int .i64 z]) (hvb : vb ∉ obk A) (hB : base ≤ w.heap.size) (hz : (zs.length + 1) * 8 ≤ 140737488351232) :
    Calls Tryz.prog 118 #[.slice A zs.length C, .int .i64 (i : Int), .slice (some ⟨vb, 0, none⟩) 1 vc] w
      fun e w' => ∃ A' C', e = .returned (.slice A' (zs.length + 1) C') ∧ Moved base 3 1 (zs.length + 1) A A' C' (ints (zs.take i ++ z :: zs.drop i)) w w' := by
  have hvs : ∀ j v, ([.int .i64 z] : List Value)[j]? = some v → w.cell? ⟨vb, 0 + j, none⟩ = some v := fun j v hj => by rw [Nat.zero_add, hv.cell]; exact hj
  have hml : zs.length + 1 ≤ maxLen := by unfold maxLen; omega
  rcases ho.2 with ⟨hn, hn0⟩ | ⟨g, cap, cur, hn, hb, hg, hl, hm, hs, ht⟩
  · obtain rfl : zs = [] := List.eq_nil_of_length_eq_zero hn0
    cases hn
    obtain rfl : i = 0 := by simpa using hi
    have hcon := Any2.slices_Insert_int_end_grow Tryz.insertI none 0 0 vb 0 1 vc [] [.int .i64 z] w (by decide) (by decide) (by decide) (by decide) rfl rfl (fun _ => rfl) (fun a h => by cases h) hvs (oneI z)
    change Calls Tryz.prog 118 _ _ _ at hcon
    refine hcon.mono ?_
    rintro e w' ⟨rfl, rfl⟩
    refine ⟨_, _, rfl, moved_new (cur := _) hB (heap_alloc_new w.drew _) (grownCap_ge _ _ _ _) (grownCap_le_maxLen _ _ _ _ (by decide)) ?_ (by simp [ints]) ?_ ?_⟩
    · have h := grownCap_ge w (0 + 1) 0 3
      show (([] ++ [Value.int .i64 z] : List Value).toArray ++ Builtin.zeroCells (Value.int .i64 0).cells (grownCap w (0 + 1) 0 3 - (0 + 1))).size = grownCap w (0 + 1) 0 3
      generalize grownCap w (0 + 1) 0 3 = G at h ⊢
      rw [Array.size_append, size_zeroCells]
      simp [Value.cells]
      omega
    · simp [ints]
    · exact ((Kept.refl _ w).drew).alloc _
  · simp only [Value.slice.injEq] at hn
    obtain ⟨rfl, -, rfl⟩ := hn
    have hvg : vb ≠ g := fun e => hvb (by simp [obk, e])
    rw [Nat.mul_one] at hs ht
    have hil := ints_len zs
    have hcl : cur.toList.length = C := by simpa using hs
    have hcell : ∀ j, w.cell? ⟨g, j, none⟩ = cur.toList[j]? := fun j => by simp [World.cell?, hg]
    have hcs : ∀ j v, (ints zs)[j]? = some v → w.cell? ⟨g, 0 + j, none⟩ = some v := fun j v hj => by
      rw [Nat.zero_add, hcell, ← hj, ← ht, List.getElem?_take, if_pos]
      have := (List.getElem?_eq_some_iff.1 hj).1
      omega
    have hfz : ∀ j, w.frozen? ⟨g, j, none⟩ = false := fun j => by simp [World.frozen?, hg]
    by_cases hin : i < zs.length
    · by_cases hroom : zs.length + 1 ≤ C
      · have hcon := Any2.slices_Insert_int_shift Tryz.insertI g 0 zs.length C i vb 0 1 vc (ints zs) [.int .i64 z] w hin (by decide) hroom (by unfold maxLen at hm; omega) hvg hil rfl hcs (fun j hj => by rw [Nat.zero_add, hcell, List.getElem?_eq_getElem (by omega)]; rfl) (fun j _ => hfz _) hvs (ints_one zs) (oneI z) 3 3 1 C
          (by unfold World.shape?; rw [show w.heap[vb]? = _ from hv]; rfl) (by unfold World.shape?; rw [hg]; simp [hs]) (by omega) (hv.frozen _) (hv.frozen _)
        change Calls Tryz.prog 118 _ _ _ at hcon
        refine hcon.mono ?_
        rintro e w' ⟨rfl, rfl⟩
        have h1 := setCells_at g 3 ((ints zs).drop i) (0 + (i + 1)) cur w.drew hg
        have h2 := setCells_at g 3 [.int .i64 z] (0 + i) _ _ h1
        refine ⟨_, _, rfl, moved_old hb h2 hroom hm (by simp [ovr_length, hs]) (by simp [ints]; omega) ?_ ?_⟩
        · rw [ints_ins, Nat.zero_add, Nat.zero_add]
          have := ovr_shift (cur := cur.toList) (cs := ints zs) (i := i) (.int .i64 z) (by rw [hil]; exact ht) (by omega) (by omega)
          rw [hil] at this
          exact this
        · exact (((Kept.refl _ w).drew).trans (setCells_kept g _ _ _)).trans (setCells_kept g _ _ _)
      · have hcon := Any2.slices_Insert_int_grow Tryz.insertI g 0 zs.length C i vb 0 1 vc (ints zs) [.int .i64 z] w hin (by decide) hl (by omega) (by omega) hil rfl hcs hvs (ints_one zs) (oneI z)
        change Calls Tryz.prog 118 _ _ _ at hcon
        refine hcon.mono ?_
        rintro e w' ⟨rfl, rfl⟩
        have hG := grownCap_ge w (zs.length + 1) C 3
        have hGm := grownCap_le_maxLen w (zs.length + 1) C 3 hml
        obtain ⟨G, hGe⟩ : ∃ G, G = grownCap w (zs.length + 1) C 3 := ⟨_, rfl⟩
        rw [← hGe] at hG hGm
        show ∃ A' C', Ending.returned (.slice (some ⟨w.heap.size, 0, none⟩) (zs.length + 1) (grownCap w (zs.length + 1) C 3)) = _ ∧ Moved base 3 1 (zs.length + 1) _ A' C' _ w ((((w.alloc (.cells (((ints zs).take i).toArray ++ Builtin.zeroCells (Value.int .i64 0).cells (zs.length + 1 - i) ++ Builtin.zeroCells (Value.int .i64 0).cells (grownCap w (zs.length + 1) C 3 - (zs.length + 1))) 3)).drew.setCells w.heap.size i [.int .i64 z]).drew).setCells w.heap.size (i + 1) ((ints zs).drop i))
        rw [← hGe]
        obtain ⟨ROW, hROW⟩ : ∃ ROW : Array Value, ROW = ((ints zs).take i).toArray ++ Builtin.zeroCells (Value.int .i64 0).cells (zs.length + 1 - i) ++ Builtin.zeroCells (Value.int .i64 0).cells (G - (zs.length + 1)) := ⟨_, rfl⟩
        have hRs : ROW.size = G := by
          rw [hROW, Array.size_append, Array.size_append, size_zeroCells, size_zeroCells]
          simp [Value.cells, hil]
          omega
        have hRt : ROW.toList.take i = (ints zs).take i := by
          rw [hROW, Array.toList_append, Array.toList_append, List.append_assoc]
          exact List.take_left' (by rw [List.length_take]; omega)
        rw [← hROW]
        have h0 : (w.alloc (.cells ROW 3)).drew.heap[w.heap.size]? = some (.cells ROW 3 (0, 0)) := heap_alloc_new w _
        have h1 := setCells_at w.heap.size 3 [.int .i64 z] i ROW _ h0
        have h2 := setCells_at w.heap.size 3 ((ints zs).drop i) (i + 1) _ ((w.alloc (.cells ROW 3)).drew.setCells w.heap.size i [.int .i64 z]).drew h1
        refine ⟨_, _, rfl, moved_new hB h2 hG hGm (by simp [ovr_length, hRs]) (by simp [ints]; omega) ?_ ?_⟩
        · rw [ints_ins]
          have := ovr_fill (cur := ROW.toList) (cs := ints zs) (i := i) (.int .i64 z) hRt (by omega) (by simp [hRs, hil]; omega)
          rw [hil] at this
          exact this
        · have hk : Kept (obk (some ⟨g, 0, none⟩)) w ((((w.alloc (.cells ROW 3)).drew.setCells w.heap.size i [.int .i64 z]).drew).setCells w.heap.size (i + 1) ((ints zs).drop i)) := by
            have k1 := (((Kept.refl [w.heap.size] w).alloc (.cells ROW 3)).drew.trans (setCells_kept w.heap.size [.int .i64 z] i _)).drew.trans (setCells_kept w.heap.size ((ints zs).drop i) (i + 1) _)
            exact ⟨k1.os, k1.tape, k1.output, k1.size, fun k hk _ => k1.block k hk (by simp; omega)⟩
          exact hk
    · obtain rfl : i = zs.length := by omega
      by_cases hroom : zs.length + 1 ≤ C
      · have hcon := Any2.slices_Insert_int_end_room Tryz.insertI g 0 zs.length C vb 0 1 vc [.int .i64 z] w (by decide) hroom (by unfold maxLen at hm; omega) rfl (fun j hj => by rw [Nat.zero_add, hcell, List.getElem?_eq_getElem (by omega)]; rfl) (fun j _ => hfz _) hvs (oneI z)
        change Calls Tryz.prog 118 _ _ _ at hcon
        refine hcon.mono ?_
        rintro e w' ⟨rfl, rfl⟩
        have h2 := setCells_at g 3 [.int .i64 z] (0 + zs.length) cur w hg
        refine ⟨_, _, rfl, moved_old hb h2 hroom hm (by simp [ovr_length, hs]) (by simp [ints]) ?_ (setCells_kept g _ _ _)⟩
        rw [ints_ins, Nat.zero_add]
        have := ovr_shift (cur := cur.toList) (cs := ints zs) (i := zs.length) (.int .i64 z) (by rw [hil]; exact ht) (by omega) (by omega)
        rw [hil, List.drop_of_length_le (by omega)] at this
        rw [List.drop_of_length_le (by omega)]
        exact this
      · have hcon := Any2.slices_Insert_int_end_grow Tryz.insertI (some ⟨g, 0, none⟩) zs.length C vb 0 1 vc (ints zs) [.int .i64 z] w (by decide) hl (by omega) (by omega) hil rfl (fun h => by cases h) (fun a ha j v hj => by cases ha; rw [Addr.add_lit]; exact hcs j v hj) hvs (oneI z)
        change Calls Tryz.prog 118 _ _ _ at hcon
        refine hcon.mono ?_
        rintro e w' ⟨rfl, rfl⟩
        have hG := grownCap_ge w (zs.length + 1) C 3
        have hGm := grownCap_le_maxLen w (zs.length + 1) C 3 hml
        refine ⟨_, _, rfl, moved_new (cur := _) hB (heap_alloc_new w.drew _) hG hGm ?_ (by simp [ints]) ?_ (((Kept.refl _ w).drew).alloc _)⟩
        · show ((ints zs ++ [Value.int .i64 z]).toArray ++ Builtin.zeroCells (Value.int .i64 0).cells (grownCap w (zs.length + 1) C 3 - (zs.length + 1))).size = grownCap w (zs.length + 1) C 3
          rw [Array.size_append, size_zeroCells]
          simp [Value.cells, hil]
          omega
        · have e1 : (ints zs).take zs.length = ints zs := List.take_of_length_le (by omega)
          have e2 : (ints zs).drop zs.length = [] := List.drop_of_length_le (by omega)
          rw [ints_ins, e1, e2, Array.toList_append]
          exact List.take_left' (by simp [hil])

end Go.Proofs.YtlojfgdpmaigmaeGreatDoor

/- slices.Insert of one entry, in a list of one's own. -/
namespace Go.Proofs.YtlojfgdpmaigmaeGreatDoor
open Go.RowKit Plain Go.Shelf

theorem ins_gets (cs vs : List Value) (i j : Nat) (hi : i ≤ cs.length) : (cs.take i ++ (vs ++ cs.drop i))[j]? = if j < i then cs[j]? else if j < i + vs.length then vs[j - i]? else cs[j - vs.length]? := by
  have hl : (cs.take i).length = i := by rw [List.length_take]; omega
  by_cases h1 : j < i
  · rw [List.getElem?_append_left (by omega), List.getElem?_take, if_pos h1, if_pos h1]
  · rw [List.getElem?_append_right (by omega), hl, if_neg h1]
    by_cases h2 : j < i + vs.length
    · rw [if_pos h2, List.getElem?_append_left (by omega)]
    · rw [if_neg h2, List.getElem?_append_right (by omega), List.getElem?_drop, show i + (j - i - vs.length) = j - vs.length by omega]

/-- In place: the last ones move, then the new ones come. -/
theorem ovr_shifts {cur cs vs : List Value} {i : Nat} (ht : cur.take cs.length = cs) (hi : i ≤ cs.length) (hr : cs.length + vs.length ≤ cur.length) : (ovr (ovr cur (i + vs.length) (cs.drop i)) i vs).take (cs.length + vs.length) = cs.take i ++ (vs ++ cs.drop i) := by
  apply List.ext_getElem?
  intro j
  rw [ins_gets cs vs i j hi, List.getElem?_take]
  by_cases hj : j < cs.length + vs.length
  · rw [if_pos hj, ovr_get _ _ _ _ (by rw [ovr_length]; omega)]
    by_cases h2 : j < i
    · rw [if_neg (by omega), if_pos h2, ovr_get _ _ _ _ (by simp; omega), if_neg (by omega), take_get ht (by omega)]
    · by_cases h1 : j < i + vs.length
      · rw [if_pos (by omega), if_neg h2, if_pos h1]
      · rw [if_neg (by omega), if_neg h2, if_neg h1, ovr_get _ _ _ _ (by simp; omega), if_pos (by simp; omega), List.getElem?_drop, show i + (j - (i + vs.length)) = j - vs.length by omega]
  · rw [if_neg hj, if_neg (by omega), if_neg (by omega), List.getElem?_eq_none (by omega)]

/-- In new memory: what is ahead stands there, the rest comes. -/
theorem ovr_fills {cur cs vs : List Value} {i : Nat} (ht : cur.take i = cs.take i) (hi : i ≤ cs.length) (hr : cs.length + vs.length ≤ cur.length) : (ovr (ovr cur i vs) (i + vs.length) (cs.drop i)).take (cs.length + vs.length) = cs.take i ++ (vs ++ cs.drop i) := by
  apply List.ext_getElem?
  intro j
  rw [ins_gets cs vs i j hi, List.getElem?_take]
  by_cases hj : j < cs.length + vs.length
  · rw [if_pos hj, ovr_get _ _ _ _ (by rw [ovr_length]; simp; omega)]
    by_cases h1 : i + vs.length ≤ j
    · rw [if_pos (by simp; omega), if_neg (by omega), if_neg (by omega), List.getElem?_drop, show i + (j - (i + vs.length)) = j - vs.length by omega]
    · rw [if_neg (by omega), ovr_get _ _ _ _ (by omega)]
      by_cases h2 : j < i
      · rw [if_neg (by omega), if_pos h2]
        have h : (cur.take i)[j]? = (cs.take i)[j]? := by rw [ht]
        rwa [List.getElem?_take, List.getElem?_take, if_pos h2, if_pos h2] at h
      · rw [if_pos (by omega), if_neg h2, if_pos (by omega)]
  · rw [if_neg hj, if_neg (by omega), if_neg (by omega), List.getElem?_eq_none (by omega)]

theorem run_copy_cellsN {P : Program} (w : World) (dT sT ty elem : TypeId) (k b o dLen dCap : Nat) (a : Addr) (sLen sCap : Nat) (cs : List Value)
    (hu : P.underlying dT = some (.slice elem)) (hs : (P.info? elem).map (·.size) = some k) (hn : cs.length = Nat.min sLen dLen * k)
    (hsrc : ∀ j v, cs[j]? = some v → w.cell? (a.add j) = some v) (hc : ∀ j, j < cs.length → (w.cell? ⟨b, o + j, none⟩).isSome = true) (hf : ∀ j, j < cs.length → w.frozen? ⟨b, o + j, none⟩ = false) (h1 : ∀ v ∈ cs, v.oneCell' = true) :
    (Builtin.copy_ #[dT, sT] ty #[.slice (some ⟨b, o, none⟩) dLen dCap, .slice (some a) sLen sCap]).run P w = .ok (goInt (Nat.min sLen dLen)) (w.setCells b o cs) := by
  have hl := run_loadCells_list (P := P) w a cs hsrc
  have hst := run_storeCells_cells (P := P) b o cs 0 w (by simpa using hc) (by simpa using hf) h1
  rw [hn] at hl
  cases hq : P.info? elem with
  | none => simp [hq] at hs
  | some i =>
    have hi : i.size = k := by simpa [hq] using hs
    simp only [Nat.min_def] at hl ⊢
    simp [Builtin.copy_, run_underlying hu, Builtin.lenOf, Builtin.firstCells, sizeOf, typeInfo, hq, hi, hl, hst, Nat.min_def]

theorem flatE_single (x : En) : flatE [x] = x.vals := by simp [flatE]

theorem newsE {w : World} {vb : Nat} {x : En} (hv : RowL w vb 73 x.vals) : ∀ j u, (flatE [x])[j]? = some u → w.cell? (Addr.add ⟨vb, 0, none⟩ j) = some u := by
  intro j u hu
  rw [WideShapes.add_plain, Nat.zero_add, hv.cell]
  rwa [flatE_single] at hu

theorem moved_lies {base n g cap : Nat} {t : TypeId} {size : Nat} {A : Option Addr} {n0 C0 : Nat} {vs : List Value} {w w1 : World} (hown : w1.ownsRow base t size (.slice (some ⟨g, 0, none⟩) n cap) n vs) (hgrow : w.grownBy w1 (Value.slice A n0 C0).ownBlock) (hat : (Value.slice A n0 C0).ownBlock = some g ∨ g = w.heap.size) :
    Moved base t size n A (some ⟨g, 0, none⟩) cap vs w w1 := by
  have e : ∀ k, (Value.slice A n0 C0).ownBlock = some k → A.map Addr.block = some k := by
    intro k hk
    cases A <;> simp_all [Value.ownBlock]
  refine ⟨hown, ⟨hgrow.os, hgrow.tape, hgrow.output, hgrow.size, fun k hk hx => hgrow.block k hk (fun h => hx ?_)⟩, ?_⟩
  · simp [obk, e k h.symm]
  · rcases hat with h | h
    · left; rw [e g h]; rfl
    · right; exact ⟨g, rfl, by omega⟩

set_option maxRecDepth 20000 in
set_option maxHeartbeats 4000000 in
theorem insertE_end (base : Nat) (A : Option Addr) (C vb vc : Nat) (xs : List En) (x : En) (w : World) (ho : w.ownsRow base 73 7 (.slice A xs.length C) xs.length (flatE xs)) (hv : RowL w vb 73 x.vals) (hB : base ≤ w.heap.size) (hz : (xs.length + 1) * 56 ≤ 140737488351232) :
    Calls Tryz.prog 114 #[.slice A xs.length C, .int .i64 (xs.length : Int), .slice (some ⟨vb, 0, none⟩) 1 vc] w
      fun e w' => ∃ A' C', e = .returned (.slice A' (xs.length + 1) C') ∧ Moved base 73 7 (xs.length + 1) A A' C' (flatE (xs ++ [x])) w w' := by
  obtain ⟨i0, hi0, hz0, hz1, hz2⟩ := info_parts infoE
  have hnews := newsE hv
  have hcap : xs.length ≤ C ∧ C ≤ maxLen := by
    obtain ⟨A', C', h1, _, h2, h3, _⟩ := own_row ho
    cases h1
    exact ⟨h2, h3⟩
  have hc63 : C ≤ 9223372036854775807 := by have := hcap.2; unfold maxLen at this; omega
  have hc0 : (xs.length : Int) ≤ (C : Int) := by have := hcap.1; omega
  have hml : xs.length + 1 ≤ maxLen := by unfold maxLen; omega
  have HE : Hid (flatE (xs ++ [x]) = flatE xs ++ flatE [x]) := flatE_append _ _
  clear hv hcap
  cases A with
  | none =>
    go_enter Tryz.func114, Tryz.ntmps114
    go_wp2_with (at_builtin; refine wpList_append_lies _ rfl _ _ 32 rfl base 73 i0 _ 7 56 Tryz.underlying32 hi0 hz0 hz1 hz2 rfl (by decide) (.slice none xs.length C) xs.length (flatE xs) rfl ho ⟨vb, 0, none⟩ 1 vc (flatE [x]) rfl rfl hnews (flatE_one _) (by decide) hml (by omega) hB w.heap.size rfl ?_; intro g cap w1 hown hgrow hat hlt)
    go_ret
    exact ⟨_, _, rfl, by rw [HE.out]; exact moved_lies hown hgrow hat⟩
  | some ad =>
    go_enter Tryz.func114, Tryz.ntmps114
    go_wp2_with (at_builtin; refine wpList_append_lies _ rfl _ _ 32 rfl base 73 i0 _ 7 56 Tryz.underlying32 hi0 hz0 hz1 hz2 rfl (by decide) (.slice (some ad) xs.length C) xs.length (flatE xs) rfl ho ⟨vb, 0, none⟩ 1 vc (flatE [x]) rfl rfl hnews (flatE_one _) (by decide) hml (by omega) hB w.heap.size rfl ?_; intro g cap w1 hown hgrow hat hlt)
    all_goals
      go_ret
      exact ⟨_, _, rfl, by rw [HE.out]; exact moved_lies hown hgrow hat⟩

theorem sizeE : (Tryz.prog.info? 73).map (·.size) = some 7 := by
  obtain ⟨i0, hi0, _, h1, _⟩ := info_parts infoE
  rw [hi0]
  simp [h1]

set_option maxRecDepth 100000 in
set_option maxHeartbeats 4000000 in
/-- There is room, and it is not the end: in place. -/
theorem insertE_shift (g n c i vb vc : Nat) (cs vs : List Value) (w : World) (hi : i < n) (hroom : n + 1 ≤ c) (hc63 : c ≤ 9223372036854775807) (hvb : vb ≠ g) (hcl : cs.length = n * 7) (hvl : vs.length = 7)
    (hcs : ∀ j v, cs[j]? = some v → w.cell? ⟨g, j, none⟩ = some v) (hsp : ∀ j, j < (n + 1) * 7 → (w.cell? ⟨g, j, none⟩).isSome = true) (hfz : ∀ j, w.frozen? ⟨g, j, none⟩ = false)
    (hvs : ∀ j v, vs[j]? = some v → w.cell? ⟨vb, j, none⟩ = some v) (h1c : ∀ v ∈ cs, v.oneCell' = true) (h1v : ∀ v ∈ vs, v.oneCell' = true)
    (tA tB : TypeId) (kA kB : Nat) (hsa : w.shape? vb = some (tA, kA)) (hsb : w.shape? g = some (tB, kB)) (hkB : kB ≠ 0) (hfa : ∀ j, w.frozen? ⟨vb, j, none⟩ = false) :
    Calls Tryz.prog 114 #[.slice (some ⟨g, 0, none⟩) n c, .int .i64 (i : Int), .slice (some ⟨vb, 0, none⟩) 1 vc] w fun e w' =>
      e = .returned (.slice (some ⟨g, 0, none⟩) (n + 1) c) ∧ w' = (w.drew.setCells g ((i + 1) * 7) (cs.drop (i * 7))).setCells g (i * 7) vs := by
  have hz2 : ¬ ((i : Int) = (n : Int)) := by omega
  have hov : ∀ lb cb, (callFunc 130 #[.slice (some ⟨vb, 0, none⟩) 1 vc, .slice (some ⟨g, (i + 1) * 7, none⟩) lb cb]).run Tryz.prog w = .ok (.value (.bool false)) w := fun lb cb => by
    rw [run_callFunc_extern Tryz.func130 (by kernel_rfl) (by kernel_rfl) (by kernel_rfl) (e := Extern.SlicesOverlaps.overlaps #[32, 32] #[4]) (by kernel_rfl),
      Lib.run_overlaps_apart w 32 4 73 Tryz.underlying32 7 Tryz.sizeOf73 ⟨vb, 0, none⟩ ⟨g, (i + 1) * 7, none⟩ 1 vc lb cb hvb tA tB kA kB hsa hsb hkB (hfa _) (hfa _)]
    rfl
  have hdl : (cs.drop (i * 7)).length = (n - i) * 7 := by rw [List.length_drop, hcl]; omega
  have hcp1 : ∀ ty dc sc, (Builtin.copy_ #[32, 32] ty #[.slice (some ⟨g, (i + 1) * 7, none⟩) (n - i) dc, .slice (some ⟨g, i * 7, none⟩) (n + 1 - i) sc]).run Tryz.prog w.drew = .ok (goInt (Nat.min (n + 1 - i) (n - i))) (w.drew.setCells g ((i + 1) * 7) (cs.drop (i * 7))) := fun ty dc sc =>
    run_copy_cellsN w.drew _ _ ty 73 7 g ((i + 1) * 7) (n - i) dc ⟨g, i * 7, none⟩ (n + 1 - i) sc (cs.drop (i * 7)) Tryz.underlying32 sizeE (by rw [hdl]; simp only [Nat.min_def]; split <;> omega)
      (fun j v hj => by rw [Addr.add_lit]; exact hcs (i * 7 + j) v (by rwa [List.getElem?_drop] at hj))
      (fun j hj => hsp _ (by omega)) (fun j hj => hfz _) (fun v hv => h1c v (List.mem_of_mem_drop hv))
  obtain ⟨W1, hW1⟩ : ∃ W1, W1 = w.drew.setCells g ((i + 1) * 7) (cs.drop (i * 7)) := ⟨_, rfl⟩
  have hsp1 : ∀ k, k < (n + 1) * 7 → (W1.cell? ⟨g, k, none⟩).isSome = true := fun k hk => by
    rw [hW1]
    exact isSome_setCells g (cs.drop (i * 7)) ((i + 1) * 7) w.drew (fun j hj => hsp _ (by omega)) _ (hsp k hk)
  have hcp2 : ∀ (W : World), (∀ x, W.cell? x = W1.cell? x) → (∀ x, W.frozen? x = W1.frozen? x) → ∀ ty dc, (Builtin.copy_ #[32, 32] ty #[.slice (some ⟨g, i * 7, none⟩) (n + 1 - i) dc, .slice (some ⟨vb, 0, none⟩) 1 vc]).run Tryz.prog W = .ok (goInt (Nat.min 1 (n + 1 - i))) (W.setCells g (i * 7) vs) := fun W hWc hWf ty dc =>
    run_copy_cellsN W _ _ ty 73 7 g (i * 7) (n + 1 - i) dc ⟨vb, 0, none⟩ 1 vc vs Tryz.underlying32 sizeE (by rw [hvl]; simp only [Nat.min_def]; split <;> omega)
      (fun j v hj => by
        rw [Addr.add_lit, hWc, hW1, World.cell?_setCells_out g _ _ _ _ (fun h _ => absurd h hvb), Nat.zero_add]
        exact hvs j v hj)
      (fun j hj => by rw [hWc]; exact hsp1 _ (by omega)) (fun j hj => by rw [hWf, hW1, World.frozen?_setCells]; exact hfz _) h1v
  rw [← hW1] at hcp1
  have hin : i ≤ n := by omega
  have hb2 : ¬ (c = i + 1) := by omega
  have hb4 : ¬ (c = i) := by omega
  have hw1 : IntKind.i64.wrap ((i : Int) + 1) = (i : Int) + 1 := by rw [IntKind.wrap_i64]; omega
  have hb1 : (0 : Int) ≤ (i : Int) + 1 := by omega
  have htn : ((i : Int) + 1).toNat = i + 1 := by omega
  have hb3 : (i : Int) + 1 ≤ (n : Int) + 1 := by omega
  have hb5 : (i : Int) ≤ (n : Int) + 1 := by omega
  go_enter Tryz.func114, Tryz.ntmps114
  go_wp2_with (simp only [hov])
  go_region_law (refine step_copy_runI rfl _ _ 32 32 rfl _ _ (by simp [Act.eval, Act.put]) (by simp [Act.eval, Act.put]) (hcp1 _ _ _) ?_)
  go_wp2_with (at_builtin; refine wpList_copy_runI _ rfl _ _ 32 32 rfl _ _ rfl rfl (hcp2 _ (fun _ => rfl) (fun _ => rfl) _ _) ?_)
  go_ret
  first | exact ⟨rfl, rfl⟩ | exact ⟨rfl, by rw [hW1]⟩

def zroE : Value := .agg #[.int .i64 0, .int .i64 0, .int .i64 0, .int .i64 0, .int .i64 0, .int .i64 0, .int .i64 0]
def rowG (cs : List Value) (i n G : Nat) : Array Value := (cs.take (i * 7)).toArray ++ Builtin.zeroCells zroE.cells (n + 1 - i) ++ Builtin.zeroCells zroE.cells (G - (n + 1))

theorem rowG_size {cs : List Value} {i n G : Nat} (hi : i ≤ n) (hcl : cs.length = n * 7) (hG : n + 1 ≤ G) : (rowG cs i n G).size = G * 7 := by
  unfold rowG
  rw [Array.size_append, Array.size_append, size_zeroCells, size_zeroCells]
  simp [zroE, Value.cells, hcl]
  omega

theorem rowG_take {cs : List Value} {i n G : Nat} (hi : i ≤ n) (hcl : cs.length = n * 7) : (rowG cs i n G).toList.take (i * 7) = cs.take (i * 7) := by
  unfold rowG
  rw [Array.toList_append, Array.toList_append, List.append_assoc]
  exact List.take_left' (by rw [List.length_take]; omega)

set_option maxRecDepth 100000 in
set_option maxHeartbeats 4000000 in
/-- There is no room, and it is not the end: a new row. -/
theorem insertE_grow (g n c i vb vc : Nat) (cs vs : List Value) (w : World) (hi : i < n) (hnc : n ≤ c) (hroom : c < n + 1) (hbig : (n + 1) * 56 ≤ 140737488355328) (hcl : cs.length = n * 7) (hvl : vs.length = 7)
    (hcs : ∀ j v, cs[j]? = some v → w.cell? ⟨g, j, none⟩ = some v) (hvs : ∀ j v, vs[j]? = some v → w.cell? ⟨vb, j, none⟩ = some v) (h1c : ∀ v ∈ cs, v.oneCell' = true) (h1v : ∀ v ∈ vs, v.oneCell' = true) :
    Calls Tryz.prog 114 #[.slice (some ⟨g, 0, none⟩) n c, .int .i64 (i : Int), .slice (some ⟨vb, 0, none⟩) 1 vc] w fun e w' =>
      ∃ G, n + 1 ≤ G ∧ G ≤ maxLen ∧ e = .returned (.slice (some ⟨w.heap.size, 0, none⟩) (n + 1) G) ∧
      w' = (((w.alloc (.cells (rowG cs i n G) 73)).drew.setCells w.heap.size (i * 7) vs).drew).setCells w.heap.size ((i + 1) * 7) (cs.drop (i * 7)) := by
  obtain ⟨i0, hi0, hz0, hzs, hzb⟩ := info_parts infoE
  have hz2 : ¬ ((i : Int) = (n : Int)) := by omega
  have hz3 : (c : Int) < (n : Int) + 1 := by omega
  have hbw : g < w.heap.size := block_lt_of_cell (hcs 0 _ (List.getElem?_eq_getElem (by omega)))
  have hvw : vb < w.heap.size := block_lt_of_cell (hvs 0 _ (List.getElem?_eq_getElem (by omega)))
  have hkk : (n : Int) + 1 - (i : Int) = ((n + 1 - i : Nat) : Int) := by omega
  have hik : i + (n + 1 - i) = n + 1 := by omega
  have hold : (Builtin.firstCells i0.size i (.slice (some ⟨g, 0, none⟩) i c)).run Tryz.prog w.drew = .ok (cs.take (i * 7)).toArray w.drew := by
    rw [hzs]
    exact run_firstCells_some w.drew 7 i ⟨g, 0, none⟩ i c (cs.take (i * 7)) (by rw [List.length_take]; omega) (fun j v hj => by
      rw [Addr.add_lit, Nat.zero_add]
      rw [List.getElem?_take] at hj
      split at hj
      · exact hcs j v hj
      · cases hj)
  have hrz : ∀ ty, (Builtin.append_ #[32, 3] ty #[.slice (some ⟨g, 0, none⟩) i c, .int .i64 ((n : Int) + 1 - (i : Int))]).run Tryz.prog w =
      .ok (.slice (some ⟨w.heap.size, 0, none⟩) (n + 1) (grownCap w (n + 1) c 73)) (w.drew.alloc (.cells (rowG cs i n (grownCap w (n + 1) c 73)) 73)) := fun ty => by
    have h := Lib.run_append_grow_zeros w 32 3 ty 73 i0 _ .i64 .i64 Tryz.underlying32 Tryz.underlying3 hi0 hz0 (some ⟨g, 0, none⟩) i c (cs.take (i * 7)) hold (n + 1 - i) (by omega) (by omega) (by omega) (by omega) (by rw [hzb]; omega) (by rw [hzb, hik]; exact growslice_fits hroom hbig)
    rw [hik] at h
    rw [hkk]
    exact h
  obtain ⟨G, hG⟩ : ∃ G, G = grownCap w (n + 1) c 73 := ⟨_, rfl⟩
  have hGn : n + 1 ≤ G := by rw [hG]; exact grownCap_ge w _ _ _
  have hGm : G ≤ maxLen := by rw [hG]; exact grownCap_le_maxLen w (n + 1) c _ (by unfold maxLen; omega)
  rw [← hG] at hrz
  suffices hS : Calls Tryz.prog 114 #[.slice (some ⟨g, 0, none⟩) n c, .int .i64 (i : Int), .slice (some ⟨vb, 0, none⟩) 1 vc] w (fun e w' => e = .returned (.slice (some ⟨w.heap.size, 0, none⟩) (n + 1) G) ∧ w' = (((w.alloc (.cells (rowG cs i n G) 73)).drew.setCells w.heap.size (i * 7) vs).drew).setCells w.heap.size ((i + 1) * 7) (cs.drop (i * 7))) from hS.mono fun e w' h => ⟨G, hGn, hGm, h.1, h.2⟩
  have hRl := rowG_size (i := i) (G := G) (Nat.le_of_lt hi) hcl hGn
  obtain ⟨ROW, hROW⟩ : ∃ ROW : Array Value, ROW = rowG cs i n G := ⟨_, rfl⟩
  rw [← hROW] at hrz hRl ⊢
  obtain ⟨W1, hW1⟩ : ∃ W1, W1 = w.drew.alloc (.cells ROW 73) := ⟨_, rfl⟩
  rw [← hW1] at hrz
  have hN : ∀ j, j < (n + 1) * 7 → (W1.cell? ⟨w.heap.size, j, none⟩).isSome = true := fun j hj => by
    rw [hW1, World.cell?_alloc_at (w := w.drew) ROW _ w.heap.size j rfl, Array.getElem?_eq_getElem (by omega)]; rfl
  have hNf : ∀ j, W1.frozen? ⟨w.heap.size, j, none⟩ = false := fun j => by rw [hW1]; exact World.frozen?_alloc_at (w := w.drew) ROW _ w.heap.size j rfl
  have hOb : ∀ j v, w.cell? ⟨g, j, none⟩ = some v → W1.cell? ⟨g, j, none⟩ = some v := fun j v h => by rw [hW1, World.cell?_alloc_past (w := w.drew) _ g j hbw]; exact h
  have hOv : ∀ j v, w.cell? ⟨vb, j, none⟩ = some v → W1.cell? ⟨vb, j, none⟩ = some v := fun j v h => by rw [hW1, World.cell?_alloc_past (w := w.drew) _ vb j hvw]; exact h
  have hcpA : ∀ (W : World), (∀ x, W.cell? x = W1.cell? x) → (∀ x, W.frozen? x = W1.frozen? x) → ∀ ty dc, (Builtin.copy_ #[32, 32] ty #[.slice (some ⟨w.heap.size, i * 7, none⟩) (n + 1 - i) dc, .slice (some ⟨vb, 0, none⟩) 1 vc]).run Tryz.prog W = .ok (goInt (Nat.min 1 (n + 1 - i))) (W.setCells w.heap.size (i * 7) vs) := fun W hWc hWf ty dc =>
    run_copy_cellsN W _ _ ty 73 7 w.heap.size (i * 7) (n + 1 - i) dc ⟨vb, 0, none⟩ 1 vc vs Tryz.underlying32 sizeE (by rw [hvl]; simp only [Nat.min_def]; split <;> omega)
      (fun j v hj => by rw [Addr.add_lit, Nat.zero_add, hWc]; exact hOv _ v (hvs j v hj))
      (fun j hj => by rw [hWc]; exact hN _ (by omega)) (fun j hj => by rw [hWf]; exact hNf _) h1v
  have hG63 : G ≤ 9223372036854775807 := by unfold maxLen at hGm; omega
  have hGi : ¬ (G = i) := by omega
  have hGim : ¬ (G = i + 1) := by omega
  have hci : ¬ (c = i) := by omega
  have hbN : g ≠ w.heap.size := by omega
  have hdl : (cs.drop (i * 7)).length = (n - i) * 7 := by rw [List.length_drop, hcl]; omega
  have hcpB : ∀ (W : World), (∀ x, W.cell? x = (W1.setCells w.heap.size (i * 7) vs).cell? x) → (∀ x, W.frozen? x = (W1.setCells w.heap.size (i * 7) vs).frozen? x) → ∀ ty dc sc, (Builtin.copy_ #[32, 32] ty #[.slice (some ⟨w.heap.size, (i + 1) * 7, none⟩) (n - i) dc, .slice (some ⟨g, i * 7, none⟩) (n - i) sc]).run Tryz.prog W = .ok (goInt (Nat.min (n - i) (n - i))) (W.setCells w.heap.size ((i + 1) * 7) (cs.drop (i * 7))) := fun W hWc hWf ty dc sc =>
    run_copy_cellsN W _ _ ty 73 7 w.heap.size ((i + 1) * 7) (n - i) dc ⟨g, i * 7, none⟩ (n - i) sc (cs.drop (i * 7)) Tryz.underlying32 sizeE (by rw [hdl]; simp only [Nat.min_def]; split <;> omega)
      (fun j v hj => by
        rw [Addr.add_lit, hWc, World.cell?_setCells_out _ _ _ _ _ (fun h _ => absurd h hbN)]
        exact hOb _ v (hcs (i * 7 + j) v (by rwa [List.getElem?_drop] at hj)))
      (fun j hj => by rw [hWc]; exact isSome_setCells _ _ _ _ (fun t ht => hN _ (by omega)) _ (hN _ (by omega)))
      (fun j hj => by rw [hWf, World.frozen?_setCells]; exact hNf _) (fun v hv => h1c v (List.mem_of_mem_drop hv))
  subst hW1
  have hE1 : ∀ x, ((w.alloc (.cells ROW 73)).drew).cell? x = (w.drew.alloc (.cells ROW 73)).cell? x := fun x => rfl
  have hE2 : ∀ x, ((w.alloc (.cells ROW 73)).drew).frozen? x = (w.drew.alloc (.cells ROW 73)).frozen? x := fun x => rfl
  have hF1 : ∀ x, (((w.alloc (.cells ROW 73)).drew.setCells w.heap.size (i * 7) vs).drew).cell? x = ((w.drew.alloc (.cells ROW 73)).setCells w.heap.size (i * 7) vs).cell? x := fun x => rfl
  have hF2 : ∀ x, (((w.alloc (.cells ROW 73)).drew.setCells w.heap.size (i * 7) vs).drew).frozen? x = ((w.drew.alloc (.cells ROW 73)).setCells w.heap.size (i * 7) vs).frozen? x := fun x => rfl
  have hw1 : IntKind.i64.wrap ((i : Int) + 1) = (i : Int) + 1 := by rw [IntKind.wrap_i64]; omega
  have hb1 : (0 : Int) ≤ (i : Int) + 1 := by omega
  have hin : i ≤ n := by omega
  have htn : ((i : Int) + 1).toNat = i + 1 := by omega
  have hb3 : (i : Int) ≤ (n : Int) := by omega
  have hb4 : (i : Int) + 1 ≤ (n : Int) + 1 := by omega
  clear hkk hik hold hROW hG hRl
  go_enter Tryz.func114, Tryz.ntmps114
  go_wp2_with (first
    | (at_builtin; refine Lib.wpList_append_run _ rfl _ _ _ _ rfl _ _ rfl rfl _ _ (hrz _) ?_)
    | (at_builtin; refine wpList_copy_runI _ rfl _ _ 32 32 rfl _ _ rfl rfl (hcpA _ hE1 hE2 _ _) ?_)
    | (at_builtin; refine wpList_copy_runI _ rfl _ _ 32 32 rfl _ _ rfl rfl (hcpB _ (fun _ => rfl) (fun _ => rfl) _ _ _) ?_))
  go_region_law (refine step_copy_runI rfl _ _ 32 32 rfl (.slice (some ⟨w.heap.size, (i + 1) * 7, none⟩) (n - i) (G - (i + 1))) (.slice (some ⟨g, i * 7, none⟩) (n - i) (c - i)) (by simp [Act.eval, Act.put]) (by simp [Act.eval, Act.put]) (hcpB _ hF1 hF2 3 (G - (i + 1)) (c - i)) ?_)
  go_wp2
  go_ret
  exact ⟨rfl, rfl⟩

end Go.Proofs.YtlojfgdpmaigmaeGreatDoor

/- slices.Insert of one entry, in a list of one's own: all roads. -/
namespace Go.Proofs.YtlojfgdpmaigmaeGreatDoor
open Go.RowKit Plain Go.Shelf

theorem flatE_ins (xs : List En) (i : Nat) (x : En) : flatE (xs.take i ++ x :: xs.drop i) = (flatE xs).take (i * 7) ++ (x.vals ++ (flatE xs).drop (i * 7)) := by
  rw [flatE_append, ← flatE_take, ← flatE_drop]
  rfl

theorem moved_newN {base n C size : Nat} {t : TypeId} {A : Option Addr} {vs : List Value} {w w' : World} {cur : Array Value} (hb : base ≤ w.heap.size) (hg : w'.heap[w.heap.size]? = some (.cells cur t (0, 0))) (hn : n ≤ C) (hm : C ≤ maxLen) (hs : cur.size = C * size) (hl : vs.length = n * size) (ht : cur.toList.take (n * size) = vs)
    (hk : Kept (obk A) w w') : Moved base t size n A (some ⟨w.heap.size, 0, none⟩) C vs w w' :=
  ⟨⟨hl, .inr ⟨w.heap.size, C, cur, rfl, hb, hg, hn, hm, hs, ht⟩⟩, hk, .inr ⟨w.heap.size, rfl, Nat.le_refl _⟩⟩

theorem moved_oldN {base n C g size : Nat} {t : TypeId} {vs : List Value} {w w' : World} {cur : Array Value} (hb : base ≤ g) (hg : w'.heap[g]? = some (.cells cur t (0, 0))) (hn : n ≤ C) (hm : C ≤ maxLen) (hs : cur.size = C * size) (hl : vs.length = n * size) (ht : cur.toList.take (n * size) = vs)
    (hk : Kept [g] w w') : Moved base t size n (some ⟨g, 0, none⟩) (some ⟨g, 0, none⟩) C vs w w' :=
  ⟨⟨hl, .inr ⟨g, C, cur, rfl, hb, hg, hn, hm, hs, ht⟩⟩, hk, .inl rfl⟩

theorem insertE_any (base : Nat) (A : Option Addr) (C vb vc : Nat) (xs : List En) (i : Nat) (x : En) (w : World) (ho : w.ownsRow base 73 7 (.slice A xs.length C) xs.length (flatE xs)) (hi : i ≤ xs.length) (hv : RowL w vb 73 x.vals) (hvb : vb ∉ obk A) (hB : base ≤ w.heap.size) (hz : (xs.length + 1) * 56 ≤ 140737488351232) :
    Calls Tryz.prog 114 #[.slice A xs.length C, .int .i64 (i : Int), .slice (some ⟨vb, 0, none⟩) 1 vc] w
      fun e w' => ∃ A' C', e = .returned (.slice A' (xs.length + 1) C') ∧ Moved base 73 7 (xs.length + 1) A A' C' (flatE (xs.take i ++ x :: xs.drop i)) w w' := by
  by_cases hin : i < xs.length
  · rcases ho.2 with ⟨hn, hn0⟩ | ⟨g, cap, cur, hn, hb, hg, hl, hm, hs, ht⟩
    · omega
    · simp only [Value.slice.injEq] at hn
      obtain ⟨rfl, -, rfl⟩ := hn
      have hvg : vb ≠ g := fun e => hvb (by simp [obk, e])
      have hil := flatE_length xs
      have hcl : cur.toList.length = C * 7 := by simpa using hs
      have hcell : ∀ j, w.cell? ⟨g, j, none⟩ = cur.toList[j]? := fun j => by simp [World.cell?, hg]
      have hcs : ∀ j v, (flatE xs)[j]? = some v → w.cell? ⟨g, j, none⟩ = some v := fun j v hj => by
        rw [hcell, ← hj, ← ht, List.getElem?_take, if_pos]
        have := (List.getElem?_eq_some_iff.1 hj).1
        omega
      have hvs : ∀ j v, (x.vals)[j]? = some v → w.cell? ⟨vb, j, none⟩ = some v := fun j v hj => by rw [hv.cell]; exact hj
      have hfz : ∀ j, w.frozen? ⟨g, j, none⟩ = false := fun j => by simp [World.frozen?, hg]
      have h1v : ∀ v ∈ x.vals, v.oneCell' = true := by
        have := flatE_one [x]
        rwa [flatE_single] at this
      have hvl : x.vals.length = 7 := rfl
      have e7 : (i + 1) * 7 = i * 7 + x.vals.length := by rw [hvl]; omega
      have e8 : (xs.length + 1) * 7 = (flatE xs).length + x.vals.length := by rw [hvl, hil]; omega
      have hlen : (flatE (xs.take i ++ x :: xs.drop i)).length = (xs.length + 1) * 7 := by rw [flatE_length]; simp; omega
      rw [flatE_ins] at hlen ⊢
      generalize x.vals = vv at *
      by_cases hroom : xs.length + 1 ≤ C
      · refine (insertE_shift g xs.length C i vb vc (flatE xs) vv w hin hroom (by unfold maxLen at hm; omega) hvg hil hvl hcs (fun j hj => by rw [hcell, List.getElem?_eq_getElem (by omega)]; rfl) hfz hvs (flatE_one xs) h1v 73 73 7 (C * 7)
          (by unfold World.shape?; rw [show w.heap[vb]? = _ from hv]; simp [hvl]) (by unfold World.shape?; rw [hg]; simp [hs]) (by omega) hv.frozen).mono ?_
        rintro e w' ⟨rfl, rfl⟩
        have h1 := setCells_at g 73 ((flatE xs).drop (i * 7)) ((i + 1) * 7) cur w.drew hg
        have h2 := setCells_at g 73 vv (i * 7) _ _ h1
        refine ⟨_, _, rfl, moved_oldN hb h2 hroom hm (by simp [ovr_length, hs]) hlen ?_ ?_⟩
        · rw [e7, e8]
          exact ovr_shifts (by rw [hil]; exact ht) (by omega) (by rw [hcl, hil, hvl]; omega)
        · exact (((Kept.refl _ w).drew).trans (setCells_kept g _ _ _)).trans (setCells_kept g _ _ _)
      · refine (insertE_grow g xs.length C i vb vc (flatE xs) vv w hin hl (by omega) (by omega) hil hvl hcs hvs (flatE_one xs) h1v).mono ?_
        rintro e w' ⟨G, hG, hGm, rfl, rfl⟩
        have hRs := rowG_size (i := i) (Nat.le_of_lt hin) hil hG
        have hRt := rowG_take (G := G) (Nat.le_of_lt hin) hil
        generalize rowG (flatE xs) i xs.length G = ROW at hRs hRt ⊢
        have h0 : (w.alloc (.cells ROW 73)).drew.heap[w.heap.size]? = some (.cells ROW 73 (0, 0)) := heap_alloc_new w _
        have h1 := setCells_at w.heap.size 73 vv (i * 7) ROW _ h0
        have h2 := setCells_at w.heap.size 73 ((flatE xs).drop (i * 7)) ((i + 1) * 7) _ ((w.alloc (.cells ROW 73)).drew.setCells w.heap.size (i * 7) vv).drew h1
        refine ⟨_, _, rfl, moved_newN (by omega) h2 hG hGm (by simp [ovr_length, hRs]) hlen ?_ ?_⟩
        · rw [e7, e8]
          exact ovr_fills (cur := ROW.toList) hRt (by omega) (by rw [hil, hvl]; simp [hRs]; omega)
        · have k1 := (((Kept.refl [w.heap.size] w).alloc (.cells ROW 73)).drew.trans (setCells_kept w.heap.size vv (i * 7) _)).drew.trans (setCells_kept w.heap.size ((flatE xs).drop (i * 7)) ((i + 1) * 7) _)
          exact ⟨k1.os, k1.tape, k1.output, k1.size, fun k hk _ => k1.block k hk (by simp; omega)⟩
  · obtain rfl : i = xs.length := by omega
    rw [List.take_length, List.drop_length]
    exact insertE_end base A C vb vc xs x w ho hv hB hz

end Go.Proofs.YtlojfgdpmaigmaeGreatDoor

/- slices.Reverse over entries. -/
namespace Go.Proofs.YtlojfgdpmaigmaeGreatDoor
open Go.RowKit Plain Go.Shelf

theorem set_en7 (A B : List En) (y x : En) (a : Nat) (ha : A.length * 7 = a) :
    (((((((flatE (A ++ y :: B)).set a (.int .i64 x.key)).set (a + 1) (.int .i64 x.c)).set (a + 2) (.int .i64 x.s)).set (a + 3) (.int .i64 x.lo)).set (a + 4) (.int .i64 x.hi)).set (a + 5) (.int .i64 x.t)).set (a + 6) (.int .i64 x.l) = flatE (A ++ x :: B) := by
  have h : (flatE A).length = a := by rw [flatE_length]; exact ha
  rw [flatE_append, flatE_append, flatE, flatE]
  rw [List.set_append_right _ _ (by omega), List.set_append_right _ _ (by omega), List.set_append_right _ _ (by omega), List.set_append_right _ _ (by omega), List.set_append_right _ _ (by omega), List.set_append_right _ _ (by omega), List.set_append_right _ _ (by omega), h]
  simp only [Nat.add_sub_cancel_left, Nat.sub_self]
  rfl

theorem set_at7 (xs : List En) (i : Nat) (x : En) (hi : i < xs.length) :
    (((((((flatE xs).set (i * 7) (.int .i64 x.key)).set (i * 7 + 1) (.int .i64 x.c)).set (i * 7 + 2) (.int .i64 x.s)).set (i * 7 + 3) (.int .i64 x.lo)).set (i * 7 + 4) (.int .i64 x.hi)).set (i * 7 + 5) (.int .i64 x.t)).set (i * 7 + 6) (.int .i64 x.l) = flatE (xs.set i x) := by
  have e1 : xs = xs.take i ++ xs[i] :: xs.drop (i + 1) := by rw [List.getElem_cons_drop, List.take_append_drop]
  have e2 : xs.set i x = xs.take i ++ x :: xs.drop (i + 1) := by rw [List.set_eq_take_append_cons_drop, if_pos hi]
  rw [e2]
  conv => lhs; rw [e1]
  exact set_en7 _ _ xs[i] x _ (by rw [List.length_take]; omega)

def setE7 (w : World) (g a : Nat) (x : En) : World := ((((((w.setCell ⟨g, a, none⟩ (.int .i64 x.key)).setCell ⟨g, a + 1, none⟩ (.int .i64 x.c)).setCell ⟨g, a + 2, none⟩ (.int .i64 x.s)).setCell ⟨g, a + 3, none⟩ (.int .i64 x.lo)).setCell ⟨g, a + 4, none⟩ (.int .i64 x.hi)).setCell ⟨g, a + 5, none⟩ (.int .i64 x.t)).setCell ⟨g, a + 6, none⟩ (.int .i64 x.l)

theorem own_set7 {w : World} {base g C i : Nat} {xs : List En} {x : En} (h : w.ownsRow base 73 7 (.slice (some ⟨g, 0, none⟩) xs.length C) xs.length (flatE xs)) (hi : i < xs.length) :
    (setE7 w g (i * 7) x).ownsRow base 73 7 (.slice (some ⟨g, 0, none⟩) (xs.set i x).length C) (xs.set i x).length (flatE (xs.set i x)) := by
  rw [← set_at7 xs i x hi, List.length_set]
  exact own_set (own_set (own_set (own_set (own_set (own_set (own_set h _ _) _ _) _ _) _ _) _ _) _ _) _ _

end Go.Proofs.YtlojfgdpmaigmaeGreatDoor

/- slices.Reverse over entries: its walk. -/
namespace Go.Proofs.YtlojfgdpmaigmaeGreatDoor
open Go.RowKit Plain Go.Shelf

theorem kept_set1 {g : Nat} {w wr : World} (h : Kept [g] w wr) (a : Nat) (v : Value) : Kept [g] w (wr.setCell ⟨g, a, none⟩ v) :=
  ⟨h.os, h.tape, h.output, by simpa using h.size, fun k hk hne => (Below.heap_setCell _ _ _ _ (show k ≠ g from fun e => hne (by simp [e]))).trans (h.block k hk hne)⟩

theorem kept_set7 {g : Nat} {w wr : World} (h : Kept [g] w wr) (a : Nat) (x : En) : Kept [g] w (setE7 wr g a x) := by
  unfold setE7
  exact kept_set1 (kept_set1 (kept_set1 (kept_set1 (kept_set1 (kept_set1 (kept_set1 h _ _) _ _) _ _) _ _) _ _) _ _) _ _

end Go.Proofs.YtlojfgdpmaigmaeGreatDoor

/- slices.DeleteFunc over entries: what the row holds on its way. -/
namespace Go.Proofs.YtlojfgdpmaigmaeGreatDoor
open Go.RowKit Plain Go.Shelf

/-- The row, once j were looked at, and i kept. -/
structure Dl (del : En → Bool) (xs : List En) (i j : Nat) (R : List En) : Prop where
  len : R.length = xs.length
  lt : i < j
  le : j ≤ xs.length
  tk : R.take i = (xs.take j).filter fun x => !del x
  dr : R.drop j = xs.drop j

theorem Dl.get {del : En → Bool} {xs R : List En} {i j : Nat} (h : Dl del xs i j R) (hj : j < xs.length) : R[j]'(by rw [h.len]; exact hj) = xs[j] := by
  have h1 : R[j]? = xs[j]? := by
    have e : (R.drop j)[0]? = (xs.drop j)[0]? := by rw [h.dr]
    simpa using e
  rw [List.getElem?_eq_getElem (by rw [h.len]; exact hj), List.getElem?_eq_getElem hj] at h1
  exact Option.some.inj h1

theorem Dl.start {del : En → Bool} {xs : List En} {k : Nat} (hk : k < xs.length) (hd : del xs[k] = true) (hn : ∀ x ∈ xs.take k, del x = false) : Dl del xs k (k + 1) xs := by
  refine ⟨rfl, by omega, hk, ?_, rfl⟩
  rw [List.take_succ_eq_append_getElem hk, List.filter_append, List.filter_eq_self.2 (fun x hx => by rw [hn x hx]; rfl)]
  simp [hd]

theorem Dl.skip {del : En → Bool} {xs R : List En} {i j : Nat} (h : Dl del xs i j R) (hj : j < xs.length) (hd : del xs[j] = true) : Dl del xs i (j + 1) R := by
  refine ⟨h.len, by have := h.lt; omega, hj, ?_, ?_⟩
  · rw [List.take_succ_eq_append_getElem hj, List.filter_append, ← h.tk]
    simp [hd]
  · have := h.dr
    rw [← List.drop_drop, ← List.drop_drop, this]

theorem Dl.keep {del : En → Bool} {xs R : List En} {i j : Nat} (h : Dl del xs i j R) (hj : j < xs.length) (hd : del xs[j] = false) : Dl del xs (i + 1) (j + 1) (R.set i xs[j]) := by
  have hl := h.lt
  have hn := h.len
  refine ⟨by rw [List.length_set, hn], by omega, hj, ?_, ?_⟩
  · rw [List.take_succ_eq_append_getElem hj, List.filter_append, ← h.tk, List.take_succ_eq_append_getElem (show i < (R.set i xs[j]).length by rw [List.length_set]; omega), List.take_set_of_le (Nat.le_refl _)]
    simp [hd]
  · rw [List.drop_set_of_lt (by omega), ← List.drop_drop, ← List.drop_drop, h.dr]

theorem Dl.done {del : En → Bool} {xs R : List En} {i : Nat} (h : Dl del xs i xs.length R) : R.take i = xs.filter fun x => !del x := by
  have := h.tk
  rwa [List.take_length] at this

theorem Dl.count {del : En → Bool} {xs R : List En} {i : Nat} (h : Dl del xs i xs.length R) : (xs.filter fun x => !del x).length = i := by
  rw [← h.done, List.length_take]
  have := h.lt
  have := h.len
  omega

/-! ### clear of entries -/

theorem zeros7 (n : Nat) : (Builtin.zeroCells (Value.agg #[.int .i64 0, .int .i64 0, .int .i64 0, .int .i64 0, .int .i64 0, .int .i64 0, .int .i64 0]).cells n).toList = List.replicate (n * 7) (.int .i64 0) := by
  have hz : (Value.agg #[.int .i64 0, .int .i64 0, .int .i64 0, .int .i64 0, .int .i64 0, .int .i64 0, .int .i64 0]).cells = #[.int .i64 0, .int .i64 0, .int .i64 0, .int .i64 0, .int .i64 0, .int .i64 0, .int .i64 0] := by simp [Value.cells]
  rw [hz]
  apply List.ext_getElem
  · simp [Builtin.zeroCells]
  · intro i h1 h2
    have h3 : i % 7 = 0 ∨ i % 7 = 1 ∨ i % 7 = 2 ∨ i % 7 = 3 ∨ i % 7 = 4 ∨ i % 7 = 5 ∨ i % 7 = 6 := by omega
    rcases h3 with h3 | h3 | h3 | h3 | h3 | h3 | h3 <;> simp [Builtin.zeroCells, h3]

theorem run_clear7 (w : World) (ty : TypeId) (b o n c : Nat) (hn : 0 < n)
    (hc : ∀ j, j < n * 7 → (w.cell? ⟨b, o + j, none⟩).isSome = true) (hf : ∀ j, j < n * 7 → w.frozen? ⟨b, o + j, none⟩ = false) :
    (Builtin.clear_ #[32] ty #[.slice (some ⟨b, o, none⟩) n c]).run Tryz.prog w = .ok (.tuple #[]) (w.setCells b o (List.replicate (n * 7) (.int .i64 0))) := by
  have hst := run_storeCells_cells (P := Tryz.prog) b o (List.replicate (n * 7) (.int .i64 0)) 0 w (by simpa using hc) (by simpa using hf) (by intro v hv'; rw [List.eq_of_mem_replicate hv']; rfl)
  simp only [Nat.add_zero] at hst
  obtain ⟨m, rfl⟩ : ∃ m, n = m + 1 := ⟨n - 1, by omega⟩
  simp [Builtin.clear_, run_underlying Tryz.underlying32, zeros7, hst]

theorem ovr_take : ∀ (vs l : List Value) (o k : Nat), k ≤ o → (ovr l o vs).take k = l.take k
  | [], _, _, _, _ => rfl
  | v :: r, l, o, k, h => by
    rw [ovr, ovr_take r _ _ _ (by omega), List.take_set_of_le h]

/-- What is kept stays where it is, when the rest is cleared. -/
theorem own_clear {w : World} {base g C n i m : Nat} {xs : List En} {zs : List Value} (h : w.ownsRow base 73 7 (.slice (some ⟨g, 0, none⟩) n C) n (flatE xs)) (hn : xs.length = n) (hi : i ≤ n) (hm : m = i) :
    (w.setCells g (i * 7) zs).ownsRow base 73 7 (.slice (some ⟨g, 0, none⟩) m C) m (flatE (xs.take i)) := by
  subst hm
  refine ⟨by rw [flatE_length, List.length_take]; omega, .inr ?_⟩
  rcases h.2 with ⟨hv, _⟩ | ⟨g', cap, cur, hv, hb, hg, hl, hmm, hs, ht⟩
  · cases hv
  · cases hv
    have h1 := setCells_at g 73 zs (m * 7) cur w hg
    refine ⟨g, C, _, rfl, hb, h1, by omega, hmm, by simp [ovr_length, hs], ?_⟩
    rw [flatE_take, ← ht, List.take_take, Nat.min_eq_left (by omega)]
    show (ovr cur.toList (m * 7) zs).take (m * 7) = _
    exact ovr_take _ _ _ _ (Nat.le_refl _)

end Go.Proofs.YtlojfgdpmaigmaeGreatDoor
