/- slices.SortFunc over entries, by their keys. -/
import Derived.Shelf.SlSortCmp.NoneTotal
import Derived.Shelf.SlicesG.Cmp
import Derived.Test.YtlojfgdpmaigmafDoorLays
import Derived.Test.YtlojfgdpmaigmafDoorP31
namespace Go.Proofs.YtlojfgdpmaigmafDoor
open Go.RowKit Plain Go.Shelf

set_option maxHeartbeats 1000000 in
theorem keyCmp (x y : En) (W : World) : Calls Tryd.prog 41 #[.agg #[.int .i64 x.key, .int .i64 x.c, .int .i64 x.s, .int .i64 x.lo, .int .i64 x.hi, .int .i64 x.t, .int .i64 x.l], .agg #[.int .i64 y.key, .int .i64 y.c, .int .i64 y.s, .int .i64 y.lo, .int .i64 y.hi, .int .i64 y.t, .int .i64 y.l]] W
    fun e w' => e = .returned (.int .i64 (Lib.compareInt x.key y.key)) ∧ ∃ q os', w' = Sort.grow (W.drewN q) os' := by
  have hcon := fun W' => AnyG.cmp_Compare_int Tryd.cmpInt x.key y.key W'
  change ∀ W', Calls Tryd.prog 42 _ _ _ at hcon
  generalize Lib.compareInt x.key y.key = r at hcon ⊢
  go_enter Tryd.func41, Tryd.ntmps41
  go_wp2_with (go_at_call 42; refine (hcon _).mono ?_; rintro e w' ⟨rfl, rfl⟩)
  go_ret
  exact ⟨rfl, 0, _, by rw [Sort.alloc_eq_grow, Sort.alloc_eq_grow, Sort.grow_grow]; rfl⟩

theorem ltKey (x y : En) : ltOf (fun x y : En => Lib.compareInt x.key y.key) x y = decide (x.key < y.key) := by
  unfold ltOf Lib.compareInt
  by_cases h1 : x.key < y.key
  · simp [h1]
  · by_cases h2 : y.key < x.key <;> simp [h1, h2]

theorem swoKey : Sort.SWO (ltOf fun x y : En => Lib.compareInt x.key y.key) where
  irrefl x := by rw [ltKey]; simp
  trans x y z h1 h2 := by rw [ltKey] at *; simp at *; omega
  ntrans x y z h1 h2 := by rw [ltKey] at *; simp at *; omega

theorem flatE_bang (xs : List En) (t : Nat) (h : t < xs.length * 7) : (flatE xs)[t]? = some ((xs.toArray[t / 7]!).vals)[t % 7]! := by
  have h1 : t / 7 < xs.length := by omega
  have e : t = t / 7 * 7 + t % 7 := by omega
  have g := flatE_get xs (t / 7) (t % 7) h1 (Nat.mod_lt _ (by decide))
  rw [← e] at g
  rw [g]
  have e2 : xs.toArray[t / 7]! = xs[t / 7] := by simp [h1]
  rw [e2]
  have l : t % 7 < (xs[t / 7]).vals.length := by simp only [En.vals, List.length_cons, List.length_nil]; omega
  rw [List.getElem?_eq_getElem l, getElem!_pos (xs[t / 7]).vals (t % 7) l]

theorem holds_own {w : World} {H g n cap : Nat} {xs : List En} {t : TypeId} (h : w.ownsRow H t 7 (.slice (some ⟨g, 0, none⟩) n cap) n (flatE xs)) (hn : n = xs.length) : Sort.HoldsK En.vals 7 w g 0 xs.toArray := by
  subst hn
  intro j hj
  have hj' : j < xs.length * 7 := by simpa using hj
  rw [Nat.zero_add, Sort.get_flatK _ _ _ _ (by simpa using hj')]
  exact ⟨(h.cellAt j hj').trans (flatE_bang xs j hj'), h.frozenAt j⟩

theorem below_sorted {B : Nat} {w : World} {g n : Nat} (hg : B ≤ g) (hB : B ≤ w.heap.size) (d : Array En) (os : Array Obj) : Below B w (sortWorldK En.vals 7 w g 0 n d os) := by
  unfold sortWorldK Sort.putRowK
  refine ⟨rfl, rfl, rfl, ?_, fun k hk => ?_⟩
  · rw [Sort.size_grow]
    simp [Sort.putRow, Sort.mapBlock, Sort.ahead]
  · rw [Sort.heap_grow_old _ _ (by simp [Sort.putRow, Sort.mapBlock, Sort.ahead]; omega)]
    have : g ≠ k := by omega
    simp [Sort.putRow, Sort.mapBlock, Sort.ahead, Array.getElem?_modify, this]

set_option maxHeartbeats 1000000 in
theorem sortE_some (xs : List En) (g cap H : Nat) (w : World) (t : TypeId) (h : w.ownsRow H t 7 (.slice (some ⟨g, 0, none⟩) xs.length cap) xs.length (flatE xs)) (hH : H ≤ w.heap.size) (hg : H ≤ g) (hgl : g < w.heap.size) (hz : xs.length < 4611686018427387904) :
    Calls Tryd.prog 40 #[.slice (some ⟨g, 0, none⟩) xs.length cap, .func (.func 41) #[] #[]] w
      fun e w' => e = .returned (.tuple #[]) ∧ Below H w w' ∧ ∃ ys : List En, ys.Perm xs ∧ (ys.Pairwise fun a b => a.key ≤ b.key) ∧ RowAt w'.heap.size w' (some ⟨g, 0, none⟩) (flatE ys) := by
  have eg : ∀ args w, (callFunc 41 args).run Tryd.prog w = .ok (.enter 41 args) w := enters_of Tryd.func41 (by kernel_rfl) rfl
  have hh := holds_own h rfl
  have hcon := AnyQ.slices_SortFunc Tryd.sortEn 7 Tryd.isAgg48 Tryd.sizeOf48 En.vals (fun _ => rfl) (fun x v hv => vals_one x v hv) (fun x y => Lib.compareInt x.key y.key) swoKey 41 #[] g 0 cap xs.toArray w eg (fun _ _ _ _ x y => keyCmp x y _) hh hgl (by simpa using hz)
  change Calls Tryd.prog 40 _ _ _ at hcon
  simp only [List.size_toArray] at hcon
  refine hcon.mono ?_
  rintro e w' ⟨rfl, d', n, os, hp, hs, rfl⟩
  have hsz : d'.size = xs.length := by simpa using hp.1
  have hd := holdsK_sortWorldK En.vals 7 w g 0 n xs.toArray d' os hgl hh (by simpa using hsz)
  have hlt := lt_sortWorldK En.vals 7 w g 0 n d' os hgl
  refine ⟨rfl, below_sorted hg hH d' os, d'.toList, ?_, ?_, .inr ⟨g, 0, rfl, hlt, fun j u hu => ?_⟩⟩
  · have := hp.2.2
    simp only [← hsz, Array.extract_size, List.extract_toArray, List.extract_eq_take_drop, List.drop_zero, Nat.sub_zero] at this
    rw [hsz, List.take_length] at this
    exact this
  · rw [List.pairwise_iff_getElem]
    intro i j hi hj hij
    simp only [Array.length_toList] at hi hj
    have := hs i j (Nat.zero_le _) hij (by omega)
    rw [ltKey, getElem!_pos d' i hi, getElem!_pos d' j hj] at this
    simp only [decide_eq_false_iff_not, Array.getElem_toList] at this ⊢
    omega
  · have hj : j < d'.size * 7 := by
      have := (List.getElem?_eq_some_iff.1 hu).1
      rw [flatE_length] at this
      simpa using this
    have c := (hd j (by simpa using hj)).1
    rw [Sort.get_flatK _ _ _ _ hj] at c
    have f := flatE_bang d'.toList j (by simpa using hj)
    rw [f] at hu
    cases hu
    simpa using c

theorem sortE_none (p : Option Addr) (cap : Nat) (w : World) :
    Calls Tryd.prog 40 #[.slice p 0 cap, .func (.func 41) #[] #[]] w fun e w' => e = .returned (.tuple #[]) ∧ w' = w :=
  AnyF.slices_SortFunc_none Tryd.sortEn p cap _ w

/-- Whatever the list is. -/
theorem sortE_any (xs : List En) (v : Value) (H : Nat) (w : World) (h : w.ownsRow H 48 7 v xs.length (flatE xs)) (hH : H ≤ w.heap.size) (hz : xs.length < 4611686018427387904) :
    ∃ A C, v = .slice A xs.length C ∧ Calls Tryd.prog 40 #[.slice A xs.length C, .func (.func 41) #[] #[]] w
      fun e w' => e = .returned (.tuple #[]) ∧ Below H w w' ∧ ∃ ys : List En, ys.Perm xs ∧ (ys.Pairwise fun a b => a.key ≤ b.key) ∧ RowAt w'.heap.size w' A (flatE ys) := by
  rcases h.2 with ⟨rfl, h0⟩ | ⟨g, cap, cur, rfl, hb, hg, _⟩
  · have e : xs = [] := List.length_eq_zero_iff.1 h0
    subst e
    refine ⟨none, 0, rfl, (sortE_none none 0 w).mono ?_⟩
    rintro e w' ⟨rfl, rfl⟩
    exact ⟨rfl, Below.refl _ _, [], List.Perm.refl _, by simp, .inl rfl⟩
  · have hgl : g < w.heap.size := (Array.getElem?_eq_some_iff.1 hg).1
    exact ⟨_, cap, rfl, sortE_some xs g cap H w _ h hH hb hgl hz⟩

end Go.Proofs.YtlojfgdpmaigmafDoor
