/- tree.All, and the document's AllOf: both answer 'allP'. -/
import Derived.Test.YtlojfgdpmaigmadGreatDoorP24
import Derived.Test.YtlojfgdpmaigmadGreatDoorP32
import Derived.Test.YtlojfgdpmaigmadGreatDoorP26
import Derived.Test.YtlojfgdpmaigmadGreatDoorP33
import Derived.Test.YtlojfgdpmaigmadGreatDoorP23
import Derived.Shelf.Slices.SearchI
namespace Go.Proofs.YtlojfgdpmaigmadGreatDoor
open Go.RowKit Plain

/-- The code, and what is known, of a tree's keys from low on, below high. -/
def allP (ns : List Nd) (root low high : Int) : Int × List En :=
  if treeC ns root ≠ 0 then (treeC ns root, []) else match allR low high (ns.flatMap Nd.lst) with
    | some ys => (0, ys)
    | none => (1, [])

/-- The walk's list, brought together, is what the document brings together. -/
theorem walk_all {ns : List Nd} {root low high : Int} (h : treeC ns root = 0) :
    allL (Wl ns low high 12 root) = allR low high (ns.flatMap Nd.lst) ∧ (∀ x ∈ Wl ns low high 12 root, Good x.ru) ∧ (Wl ns low high 12 root).length ≤ 28000 := by
  obtain ⟨r, hW⟩ := treeC_W h
  have hp := tree_perm h
  obtain ⟨hn, hok⟩ := tree_each h
  have hm : ∀ n ∈ ns, NodeOk n := fun n hn => by
    obtain ⟨i, hi, rfl⟩ := List.getElem_of_mem hn
    exact hok i hi
  have good : ∀ x ∈ ns.flatMap (fun x => x.buf ++ x.ents), Good x.ru := fun x hx => by
    obtain ⟨n, hn, hx⟩ := List.mem_flatMap.1 hx
    obtain ⟨_, _, g1, g2⟩ := hm n hn
    rcases List.mem_append.1 hx with hx | hx
    · exact g2 x hx
    · exact g1 x hx
  have pl : ∀ l : List Nd, (l.flatMap (fun x => x.buf ++ x.ents)).Perm (l.flatMap Nd.lst) := fun l => by
    induction l with
    | nil => simp
    | cons a l ih => simpa [Nd.lst] using List.Perm.append (List.perm_append_comm (l₁ := a.buf) (l₂ := a.ents)) ih
  have len : ∀ l : List Nd, (∀ n ∈ l, NodeOk n) → (l.flatMap (fun x => x.buf ++ x.ents)).length ≤ l.length * 14 := fun l => by
    induction l with
    | nil => simp
    | cons a l ih =>
      intro hl
      obtain ⟨a1, a2, _, _⟩ := hl a (by simp)
      have := ih fun n hn => hl n (by simp [hn])
      rw [List.flatMap_cons, List.length_append, List.length_append, List.length_cons]
      omega
  have e1 : Wl ns low high 12 root = (Fl ns 12 root).filter (inR low high) := Wl_eq 12 _ _ _ _ _ hW
  have p1 : (Wl ns low high 12 root).Perm ((ns.flatMap Nd.lst).filter (inR low high)) := by
    rw [e1]
    exact (hp.trans (pl ns)).filter _
  have each : ∀ x ∈ Wl ns low high 12 root, Good x.ru := fun x hx => by
    rw [e1] at hx
    exact good x (hp.subset (List.mem_filter.1 hx).1)
  refine ⟨allL_perm p1 (fun x hx => (good_iff.1 (each x hx)).1.1), each, ?_⟩
  have l1 : (Wl ns low high 12 root).length ≤ (Fl ns 12 root).length := by
    rw [e1]
    exact List.length_filter_le _ _
  have l2 := hp.length_eq
  have l3 := len ns hm
  omega

set_option maxRecDepth 20000 in
set_option maxHeartbeats 4000000 in
theorem all_bad (A : Option Addr) (C : Nat) (r low high : Int) (ps : List PN) (w : World) (hN : NodesAt w.heap.size w A ps) (hwf : ∀ p ∈ ps, p.wf) (hc : treeC (ps.map PN.nd) r ≠ 0) :
    Calls Tryz.prog 80 #[.agg #[.slice A ps.length C, .int .i64 r], .int .i64 low, .int .i64 high] w
      fun e w' => e = .returned (.tuple #[.slice none 0 0, .int .i64 (treeC (ps.map PN.nd) r)]) ∧ Below w.heap.size w w' := by
  have b0 : ∀ o : Obj, Below w.heap.size w (w.alloc o) := fun o => (Below.refl _ _).alloc (Nat.le_refl _) o
  obtain ⟨c, hcc⟩ : ∃ c, c = treeC (ps.map PN.nd) r := ⟨_, rfl⟩
  have con : ∀ w', NodesAt w'.heap.size w' A ps → Calls Tryz.prog 40 #[.agg #[.slice A ps.length C, .int .i64 r]] w' fun e w'' => e = .returned (.int .i64 c) ∧ Below w'.heap.size w' w'' := by
    intro w' h
    rw [hcc]
    exact checkT_any A C r ps w' h hwf
  rw [← hcc] at hc ⊢
  clear hcc
  have hc' : (c != 0) = true := by simpa using hc
  have hc'' : (c == 0) = false := by simpa using hc
  go_enter Tryz.func80, Tryz.ntmps80
  go_wp2_with (first | (go_at_call 40; refine (con _ ?_).mono ?_; exact hN.up (b0 _); rintro e w1 ⟨rfl, hb1⟩))
  exact bodyPost_ret (v := .tuple #[.slice none 0 0, .int .i64 c]) (by simp [results, Tryz.results80, go_sem]) rfl ⟨rfl, nextB (b0 _) (Nat.le_refl _) hb1⟩

theorem foldl_snoc (l : List En) : ∀ s : List En, l.foldl (fun s x => s ++ [x]) s = s ++ l := by
  induction l with
  | nil => intro s; simp
  | cons x l ih => intro s; simp [ih]

/-- The walk of tree.All, in a world with a new empty list at its end. -/
theorem walkAll (A : Option Addr) (C : Nat) (r low high : Int) (ps : List PN) (B : Nat) (w1 : World) (hN : NodesAt B w1 A ps) (hB : B ≤ w1.heap.size) (hc : treeC (ps.map PN.nd) r = 0) (Wn : List En) (hW : Hid (Wl (ps.map PN.nd) low high 12 r = Wn)) :
    Calls Tryz.prog 63 #[.agg #[.slice A ps.length C, .int .i64 r], .int .i64 r, .int .i64 low, .int .i64 high, .func (Fn.func 99) #[] #[.pointer (some ⟨w1.heap.size, 0, none⟩)]] (w1.alloc (.cells #[.slice none 0 0] 35))
      fun e w' => e = .returned (.tuple #[]) ∧ (∃ v, RowL w' w1.heap.size 35 [v] ∧ w'.ownsRow (w1.heap.size + 1) 63 7 v Wn.length (flatE Wn)) ∧ Below B w1 w' ∧ w1.heap.size + 1 ≤ w'.heap.size := by
  have hb0 : Below B w1 (w1.alloc (.cells #[.slice none 0 0] 35)) := (Below.refl _ _).alloc hB _
  have hr0 : RowL (w1.alloc (.cells #[.slice none 0 0] 35)) w1.heap.size 35 [.slice none 0 0] := rowL_alloc w1 _ _
  have hz0 : (w1.alloc (.cells #[.slice none 0 0] 35)).heap.size = w1.heap.size + 1 := by simp
  obtain ⟨q, hq⟩ := treeC_W hc
  have hl := (walk_all (low := low) (high := high) hc).2.2
  have far : ∀ k, XL w1.heap.size (w1.alloc (.cells #[.slice none 0 0] 35)) k → B ≤ k := by
    rintro k (rfl | ⟨v, hv, hk⟩)
    · exact hB
    · obtain rfl := hr0.one hv
      cases hk
  refine (walkL_any w1.heap.size (visL w1.heap.size (w1.heap.size + 1)) A C r ps B low high 12 r [] _ (W_reach _ _ _ _ _ _ hq) (hN.below hb0 (Nat.le_refl _)) ⟨Nat.lt_succ_self _, by omega, _, hr0, World.ownsRow_nil _ _ _ _⟩ (by omega) far (by simp; omega)).mono ?_
  rintro e w' ⟨rfl, hL, hT⟩
  rw [foldl_snoc, List.nil_append, hW.out] at hL
  exact ⟨rfl, hL.row, hb0.trans (hT.below (by omega) far), hL.hz⟩

set_option maxRecDepth 20000 in
set_option maxHeartbeats 4000000 in
theorem all_ok (A : Option Addr) (C : Nat) (r low high : Int) (ps : List PN) (w : World) (hN : NodesAt w.heap.size w A ps) (hwf : ∀ p ∈ ps, p.wf) (hc : treeC (ps.map PN.nd) r = 0) (Q : Ending → World → Prop)
    (HQ : Hid (∀ e w', Below w.heap.size w w' → (∀ ys, allR low high ((ps.map PN.nd).flatMap Nd.lst) = some ys → ∃ v, e = .returned (.tuple #[v, .int .i64 0]) ∧ w'.ownsRow w.heap.size 63 7 v ys.length (flatE ys)) → (allR low high ((ps.map PN.nd).flatMap Nd.lst) = none → e = .returned (.tuple #[.slice none 0 0, .int .i64 1])) → Q e w')) :
    Calls Tryz.prog 80 #[.agg #[.slice A ps.length C, .int .i64 r], .int .i64 low, .int .i64 high] w Q := by
  have b0 : ∀ o : Obj, Below w.heap.size w (w.alloc o) := fun o => (Below.refl _ _).alloc (Nat.le_refl _) o
  have con : ∀ w', NodesAt w'.heap.size w' A ps → Calls Tryz.prog 40 #[.agg #[.slice A ps.length C, .int .i64 r]] w' fun e w'' => e = .returned (.int .i64 0) ∧ Below w'.heap.size w' w'' := by
    intro w' h
    rw [← hc]
    exact checkT_any A C r ps w' h hwf
  obtain ⟨Wn, hWn⟩ : ∃ Wn, Wl (ps.map PN.nd) low high 12 r = Wn := ⟨_, rfl⟩
  have HW : Hid (Wl (ps.map PN.nd) low high 12 r = Wn) := hWn
  have hall := walk_all (low := low) (high := high) hc
  rw [hWn] at hall
  obtain ⟨ha1, ha2, ha3⟩ := hall
  have wk : ∀ w1, NodesAt w.heap.size w1 A ps → w.heap.size ≤ w1.heap.size → _ := fun w1 h1 h2 => walkAll A C r low high ps w.heap.size w1 h1 h2 hc Wn HW
  have br : ∀ v H w2, w2.ownsRow H 63 7 v Wn.length (flatE Wn) → H ≤ w2.heap.size → Calls Tryz.prog 100 #[v] w2 fun e w' => Below H w2 w' ∧ ∃ v' c, e = .returned (.tuple #[v', .int .i64 c]) ∧ Hid ((∃ ys, c = 0 ∧ allR low high ((ps.map PN.nd).flatMap Nd.lst) = some ys ∧ w'.ownsRow H 63 7 v' ys.length (flatE ys)) ∨ (c = 1 ∧ v' = .slice none 0 0 ∧ allR low high ((ps.map PN.nd).flatMap Nd.lst) = none)) := by
    intro v H w2 h1 h2
    refine bring_any Wn v H w2 h1 h2 ha3 ha2 _ (fun e w' k1 k2 k3 => ?_)
    rw [ha1] at k2 k3
    refine ⟨k1, ?_⟩
    cases hA : allR low high ((ps.map PN.nd).flatMap Nd.lst) with
    | none => exact ⟨_, _, k3 hA, .inr ⟨rfl, rfl, rfl⟩⟩
    | some ys =>
      obtain ⟨v', he, ho⟩ := k2 ys hA
      exact ⟨v', _, he, .inl ⟨ys, rfl, rfl, ho⟩⟩
  clear ha1 ha2 ha3 hWn HW hc
  go_enter Tryz.func80, Tryz.ntmps80
  go_wp2_with (first
    | (go_at_call 40; refine (con _ ?_).mono ?_; exact hN.up (b0 _); rintro e w1 ⟨rfl, hb1⟩; have x0 : w1.cell? ⟨w.heap.size, 0, none⟩ = some (.slice A ps.length C) := (hb1.cell (p := ⟨w.heap.size, 0, none⟩) (by simp)).trans (by simp); have x1 : w1.cell? ⟨w.heap.size, 1, none⟩ = some (.int .i64 r) := (hb1.cell (p := ⟨w.heap.size, 1, none⟩) (by simp)).trans (by simp); have z1 := sz1 hb1; have hw1 : Below w.heap.size w w1 := nextB (b0 _) (Nat.le_refl _) hb1)
    | (go_at_call 63; refine (wk w1 (hN.below hw1 (Nat.le_refl _)) (Nat.le_of_lt z1)).mono ?_; rintro e w2 ⟨rfl, ⟨v, hv, ho⟩, hb2, hz2⟩; have cv : w2.cell? ⟨w1.heap.size, 0, none⟩ = some v := hv.cell 0; have cl := hv.lt)
    | (go_at_call 100; refine (br v _ _ ho hz2).mono ?_; rintro e w3 ⟨hb3, v', c, rfl, hres⟩))
  have hb : Below w.heap.size w w3 := hw1.trans (hb2.trans (hb3.mono (by omega)))
  have hww : w.heap.size ≤ w1.heap.size + 1 := by omega
  refine HQ.out (.returned (.tuple #[v', .int .i64 c])) w3 hb ?_ ?_
  · intro ys hys
    rcases hres.out with ⟨zs, rfl, h1, h2⟩ | ⟨_, _, h1⟩
    · rw [h1] at hys
      cases hys
      exact ⟨v', rfl, own_mono h2 hww⟩
    · rw [h1] at hys
      cases hys
  · intro hn
    rcases hres.out with ⟨zs, _, h1, _⟩ | ⟨rfl, rfl, _⟩
    · rw [h1] at hn
      cases hn
    · rfl

theorem all_any (A : Option Addr) (C : Nat) (r low high : Int) (ps : List PN) (w : World) (hN : NodesAt w.heap.size w A ps) (hwf : ∀ p ∈ ps, p.wf) :
    Calls Tryz.prog 80 #[.agg #[.slice A ps.length C, .int .i64 r], .int .i64 low, .int .i64 high] w
      fun e w' => Below w.heap.size w w' ∧ ∃ v, e = .returned (.tuple #[v, .int .i64 (allP (ps.map PN.nd) r low high).1]) ∧ w'.ownsRow w.heap.size 63 7 v (allP (ps.map PN.nd) r low high).2.length (flatE (allP (ps.map PN.nd) r low high).2) := by
  unfold allP
  by_cases hc : treeC (ps.map PN.nd) r = 0
  · rw [if_neg (by simpa using hc)]
    refine all_ok A C r low high ps w hN hwf hc _ (fun e w' h1 h2 h3 => ⟨h1, ?_⟩)
    cases hA : allR low high ((ps.map PN.nd).flatMap Nd.lst) with
    | none => exact ⟨_, h3 hA, World.ownsRow_nil _ _ _ _⟩
    | some ys => exact h2 ys hA
  · rw [if_pos hc]
    exact (all_bad A C r low high ps w hN hwf hc).mono fun e w' ⟨h1, h2⟩ => ⟨h2, _, h1, World.ownsRow_nil _ _ _ _⟩

theorem allOf_all (A : Option Addr) (C : Nat) (r low high : Int) (ps : List PN) (w : World) (hN : NodesAt w.heap.size w A ps) :
    Calls Tryz.prog 48 #[.agg #[.slice A ps.length C, .int .i64 r], .int .i64 low, .int .i64 high] w
      fun e w' => Below w.heap.size w w' ∧ ∃ v, e = .returned (.tuple #[v, .int .i64 (allP (ps.map PN.nd) r low high).1]) ∧ w'.ownsRow w.heap.size 63 7 v (allP (ps.map PN.nd) r low high).2.length (flatE (allP (ps.map PN.nd) r low high).2) := by
  unfold allP
  by_cases hc : treeC (ps.map PN.nd) r = 0
  · rw [if_neg (by simpa using hc)]
    refine allOf_ok A C r low high ps w hN hc _ (fun e w' h1 h2 h3 => ⟨h1, ?_⟩)
    cases hA : allR low high ((ps.map PN.nd).flatMap Nd.lst) with
    | none => exact ⟨_, h3 hA, World.ownsRow_nil _ _ _ _⟩
    | some ys => exact h2 ys hA
  · rw [if_pos hc]
    exact (allOf_bad A C r low high ps w hN hc).mono fun e w' ⟨h1, h2⟩ => ⟨h2, _, h1, World.ownsRow_nil _ _ _ _⟩

theorem allP_len (ns : List Nd) (r low high : Int) : (allP ns r low high).2.length ≤ 28000 := by
  unfold allP
  split
  · simp
  · rename_i hc
    have hc' : treeC ns r = 0 := by simpa using hc
    obtain ⟨e1, g1, l1⟩ := walk_all (low := low) (high := high) hc'
    rw [← e1]
    cases hA : allL (Wl ns low high 12 r) with
    | none => simp
    | some ys =>
      have : ∀ (xs : List En) (o : List En), (∀ x ∈ xs, Good x.ru) → (∀ y ∈ o, Good y.ru) → ∀ ys, xs.foldl insO (some o) = some ys → ys.length ≤ o.length + xs.length := by
        intro xs
        induction xs with
        | nil => intro o _ _ ys h; cases h; simp
        | cons x xs ih =>
          intro o hx ho ys h
          rw [List.foldl_cons] at h
          cases hi : insO (some o) x with
          | none => rw [hi, fold_none] at h; cases h
          | some o' =>
            rw [hi] at h
            obtain ⟨q1, q2⟩ := ins_good (hx x (by simp)) ho hi
            have := ih o' (fun y hy => hx y (by simp [hy])) q1 ys h
            simp only [List.length_cons]
            omega
      have q := this _ [] g1 (by simp) ys hA
      simp only [List.length_nil] at q
      show ys.length ≤ 28000
      omega

end Go.Proofs.YtlojfgdpmaigmadGreatDoor

/- tree.with: a list with an entry more; tree.canWait, tree.kidOf. -/
namespace Go.Proofs.YtlojfgdpmaigmadGreatDoor
open Go.RowKit Plain Go.Shelf

def withE (l : List En) (x : En) : List En :=
  if hasK l x.key = true then l.set (lowN l x.key) (mkE ((l.getD (lowN l x.key) default).key) (mrg (l.getD (lowN l x.key) default).ru x.ru).1)
  else l.take (lowN l x.key) ++ x :: l.drop (lowN l x.key)

theorem Moved.from {base n size : Nat} {t : TypeId} {A A' : Option Addr} {C' : Nat} {vs : List Value} {w w1 w' : World} (hb : Below w.heap.size w w1) (h : Moved base t size n A A' C' vs w1 w') : Moved base t size n A A' C' vs w w' := by
  refine ⟨h.own, ⟨h.kept.os.trans hb.os, h.kept.tape.trans hb.tape, h.kept.output.trans hb.output, Nat.le_trans hb.size h.kept.size, fun k hk hx => (h.kept.block k (Nat.lt_of_lt_of_le hk hb.size) hx).trans (hb.block k hk)⟩, ?_⟩
  rcases h.lies with e | ⟨k, e, hk⟩
  · exact .inl e
  · exact .inr ⟨k, e, Nat.le_trans hb.size hk⟩

set_option maxRecDepth 20000 in
set_option maxHeartbeats 4000000 in
theorem with_new (base : Nat) (A : Option Addr) (C : Nat) (xs : List En) (x : En) (w : World) (ho : w.ownsRow base 63 7 (.slice A xs.length C) xs.length (flatE xs)) (hp : xs.Pairwise (fun x y => x.key < y.key)) (hB : base ≤ w.heap.size) (hz : (xs.length + 1) * 56 ≤ 140737488351232) (hk : hasK xs x.key = false) :
    Calls Tryz.prog 70 #[.slice A xs.length C, .agg #[.int .i64 x.key, .int .i64 x.c, .int .i64 x.s, .int .i64 x.lo, .int .i64 x.hi, .int .i64 x.t, .int .i64 x.l]] w
      fun e w' => ∃ A' C', e = .returned (.slice A' (xs.length + 1) C') ∧ Moved base 63 7 (xs.length + 1) A A' C' (flatE (xs.take (lowN xs x.key) ++ x :: xs.drop (lowN xs x.key))) w w' := by
  obtain ⟨_, _, hA, hAC, hlC, _, hrow⟩ := own_row ho
  cases hA
  have hb0 : ∀ o : Obj, Below w.heap.size w (w.alloc o) := fun o => (Below.refl _ _).alloc (Nat.le_refl _) o
  have hfind := fun W (h : RowAt W.heap.size W A (flatE xs)) => find_any A C xs x.key W h (by omega) hp
  rw [hk] at hfind
  have hle := lowN_le xs x.key
  have hins := fun W vb (h1 : W.ownsRow base 63 7 (.slice A xs.length C) xs.length (flatE xs)) (h2 : RowL W vb 63 x.vals) (h3 : vb ∉ obk A) (h4 : base ≤ W.heap.size) => insertE_any base A C vb 1 xs (lowN xs x.key) x W h1 hle h2 h3 h4 hz
  have hob : ∀ k ∈ obk A, k < w.heap.size := by
    intro k hk
    rcases ho.2 with ⟨hn, _⟩ | ⟨g, cap, cur, hn, _, hg, _⟩
    · simp only [Value.slice.injEq] at hn
      obtain ⟨rfl, -, -⟩ := hn
      simp [obk] at hk
    · simp only [Value.slice.injEq] at hn
      obtain ⟨rfl, -, -⟩ := hn
      obtain rfl : k = g := by simpa [obk] using hk
      exact (Array.getElem?_eq_some_iff.1 hg).1
  generalize lowN xs x.key = i at hfind hins hle ⊢
  have HI := hideC hins
  have HF := hideC hfind
  have HO := hideC ho
  have HOB := hideC hob
  clear hins hfind ho hob hp
  go_enter Tryz.func70, Tryz.ntmps70
  go_wp2_with (first
    | (go_at_call 89; refine (HF.out _ (hrow.up (hb0 _))).mono ?_; rintro e w1 ⟨rfl, hb1⟩; have hbw : Below w.heap.size w w1 := nextB (hb0 _) (Nat.le_refl _) hb1; have bx := fun j => (hb1.cell (p := ⟨w.heap.size, j, none⟩) (by simp)); simp at bx; have hs1 : w.heap.size < w1.heap.size := by have := hb1.size; simp at this; omega)
    | (go_at_call 90; refine (HI.out _ w1.heap.size (own_next HO.out (hbw.alloc (by omega) _)) (rowL_alloc w1 x.vals _) (fun e => by have := HOB.out _ e; omega) (by simp; omega)).mono ?_; rintro e w2 ⟨A2, C2, rfl, hm2⟩))
  go_ret
  exact ⟨_, _, rfl, hm2.from (hbw.alloc (by omega) _)⟩

theorem set_en (A B : List En) (y : En) (r : Ru) (a : Nat) (ha : A.length * 7 = a) :
    ((((((flatE (A ++ y :: B)).set (a + 1) (.int .i64 r.c)).set (a + 2) (.int .i64 r.s)).set (a + 3) (.int .i64 r.lo)).set (a + 4) (.int .i64 r.hi)).set (a + 5) (.int .i64 r.t)).set (a + 6) (.int .i64 r.l) = flatE (A ++ mkE y.key r :: B) := by
  have h : (flatE A).length = a := by rw [flatE_length]; exact ha
  rw [flatE_append, flatE_append, flatE, flatE]
  rw [List.set_append_right _ _ (by omega), List.set_append_right _ _ (by omega), List.set_append_right _ _ (by omega), List.set_append_right _ _ (by omega), List.set_append_right _ _ (by omega), List.set_append_right _ _ (by omega), h]
  simp only [Nat.add_sub_cancel_left]
  rfl

theorem set_enAt (xs : List En) (i : Nat) (y : En) (r : Ru) (hi : i < xs.length) (hy : xs[i] = y) :
    ((((((flatE xs).set (i * 7 + 1) (.int .i64 r.c)).set (i * 7 + 2) (.int .i64 r.s)).set (i * 7 + 3) (.int .i64 r.lo)).set (i * 7 + 4) (.int .i64 r.hi)).set (i * 7 + 5) (.int .i64 r.t)).set (i * 7 + 6) (.int .i64 r.l) = flatE (xs.set i (mkE y.key r)) := by
  have e1 : xs = xs.take i ++ y :: xs.drop (i + 1) := by rw [← hy, List.getElem_cons_drop, List.take_append_drop]
  have e2 : xs.set i (mkE y.key r) = xs.take i ++ mkE y.key r :: xs.drop (i + 1) := by rw [List.set_eq_take_append_cons_drop, if_pos hi]
  rw [e2]
  conv => lhs; rw [e1]
  exact set_en _ _ y r _ (by rw [List.length_take]; omega)

theorem moved_set {base g C i : Nat} {xs : List En} {y : En} {r : Ru} {w w2 : World} (ho : w.ownsRow base 63 7 (.slice (some ⟨g, 0, none⟩) xs.length C) xs.length (flatE xs)) (hb : Below w.heap.size w w2) (hi : i < xs.length) (hy : xs[i] = y) :
    Moved base 63 7 xs.length (some ⟨g, 0, none⟩) (some ⟨g, 0, none⟩) C (flatE (xs.set i (mkE y.key r))) w ((((((w2.setCell ⟨g, i * 7 + 1, none⟩ (.int .i64 r.c)).setCell ⟨g, i * 7 + 2, none⟩ (.int .i64 r.s)).setCell ⟨g, i * 7 + 3, none⟩ (.int .i64 r.lo)).setCell ⟨g, i * 7 + 4, none⟩ (.int .i64 r.hi)).setCell ⟨g, i * 7 + 5, none⟩ (.int .i64 r.t)).setCell ⟨g, i * 7 + 6, none⟩ (.int .i64 r.l)) := by
  have hg : g ∈ obk (some ⟨g, 0, none⟩) := by simp [obk]
  refine ⟨?_, ((((((Kept.of_below hb).set (.inl hg) _).set (.inl hg) _).set (.inl hg) _).set (.inl hg) _).set (.inl hg) _).set (.inl hg) _, .inl rfl⟩
  rw [← set_enAt xs i y r hi hy]
  exact own_set (own_set (own_set (own_set (own_set (own_set (own_next ho hb) _ _) _ _) _ _) _ _) _ _) _ _

set_option maxRecDepth 20000 in
set_option maxHeartbeats 4000000 in
theorem with_old (base g C : Nat) (xs : List En) (x y : En) (i : Nat) (r : Ru) (w : World) (ho : w.ownsRow base 63 7 (.slice (some ⟨g, 0, none⟩) xs.length C) xs.length (flatE xs)) (hp : xs.Pairwise (fun x y => x.key < y.key)) (hz : (xs.length + 1) * 56 ≤ 140737488351232) (hk : hasK xs x.key = true) (hi : lowN xs x.key = i) (hil : i < xs.length) (hy : xs[i] = y) (hr : (mrg y.ru x.ru).1 = r) :
    Calls Tryz.prog 70 #[.slice (some ⟨g, 0, none⟩) xs.length C, .agg #[.int .i64 x.key, .int .i64 x.c, .int .i64 x.s, .int .i64 x.lo, .int .i64 x.hi, .int .i64 x.t, .int .i64 x.l]] w
      fun e w' => e = .returned (.slice (some ⟨g, 0, none⟩) xs.length C) ∧ Moved base 63 7 xs.length (some ⟨g, 0, none⟩) (some ⟨g, 0, none⟩) C (flatE (xs.set i (mkE y.key r))) w w' := by
  obtain ⟨_, _, hA, hAC, hlC, _, hrow⟩ := own_row ho
  cases hA
  have hb0 : ∀ o : Obj, Below w.heap.size w (w.alloc o) := fun o => (Below.refl _ _).alloc (Nat.le_refl _) o
  have hfind := fun W (h : RowAt W.heap.size W (some ⟨g, 0, none⟩) (flatE xs)) => find_any (some ⟨g, 0, none⟩) C xs x.key W h (by omega) hp
  rw [hk, hi] at hfind
  have hmrg := fun W => merge_any y.ru x.ru W
  rw [hr] at hmrg
  generalize (mrg y.ru x.ru).2 = e2 at hmrg
  have hglt : g < w.heap.size := (ho.lt g rfl).2
  have HF := hideC hfind
  have HO := hideC ho
  have HMG := hideC hmrg
  have i1 : (i : Int) < (xs.length : Int) := by omega
  have i0 : (0 : Int) ≤ (i : Int) := by omega
  have hcell : ∀ (j : Nat) (u : Value), j < 7 → y.vals[j]? = some u → w.cell? ⟨g, i * 7 + j, none⟩ = some u := fun j u hj hu => by
    rw [ho.cellAt _ (by omega), flatE_get xs i j hil hj, hy]; exact hu
  have c1 := hcell 1 _ (by decide) rfl
  have c2 := hcell 2 _ (by decide) rfl
  have c3 := hcell 3 _ (by decide) rfl
  have c4 := hcell 4 _ (by decide) rfl
  have c5 := hcell 5 _ (by decide) rfl
  have c6 := hcell 6 _ (by decide) rfl
  have HY : Hid (xs[i] = y) := hy
  clear hfind ho hmrg hp hk hi hy hr hcell
  go_enter Tryz.func70, Tryz.ntmps70
  go_wp2_with (first
    | (go_at_call 89; refine (HF.out _ (hrow.up (hb0 _))).mono ?_; rintro e w1 ⟨rfl, hb1⟩; have hbw : Below w.heap.size w w1 := nextB (hb0 _) (Nat.le_refl _) hb1; have bx := fun j => (hb1.cell (p := ⟨w.heap.size, j, none⟩) (by simp)); simp at bx; have hs1 : w.heap.size < w1.heap.size := by have := hb1.size; simp at this; omega))
  have k1 := (hbw.cell (p := ⟨g, i * 7 + 1, none⟩) hglt).trans c1
  have k2 := (hbw.cell (p := ⟨g, i * 7 + 2, none⟩) hglt).trans c2
  have k3 := (hbw.cell (p := ⟨g, i * 7 + 3, none⟩) hglt).trans c3
  have k4 := (hbw.cell (p := ⟨g, i * 7 + 4, none⟩) hglt).trans c4
  have k5 := (hbw.cell (p := ⟨g, i * 7 + 5, none⟩) hglt).trans c5
  have k6 := (hbw.cell (p := ⟨g, i * 7 + 6, none⟩) hglt).trans c6
  have hg1 : g < w1.heap.size := by omega
  clear c1 c2 c3 c4 c5 c6
  go_region_with (go_at_call 43; refine (HMG.out _).mono ?_; rintro e w2 ⟨rfl, hb2⟩; have HW2 : Hid (Below w.heap.size w w2) := hideC (hbw.drew.trans (hb2.mono (by simp; omega))); have g1 := (hb2.cell (p := ⟨g, i * 7 + 1, none⟩) (by simpa using hg1)).trans k1; have g2 := (hb2.cell (p := ⟨g, i * 7 + 2, none⟩) (by simpa using hg1)).trans k2; have g3 := (hb2.cell (p := ⟨g, i * 7 + 3, none⟩) (by simpa using hg1)).trans k3; have g4 := (hb2.cell (p := ⟨g, i * 7 + 4, none⟩) (by simpa using hg1)).trans k4; have g5 := (hb2.cell (p := ⟨g, i * 7 + 5, none⟩) (by simpa using hg1)).trans k5; have g6 := (hb2.cell (p := ⟨g, i * 7 + 6, none⟩) (by simpa using hg1)).trans k6; have gf := (own_next HO.out HW2.out).frozenAt; clear hb2)
  all_goals
    go_wp2
    go_ret
    exact ⟨rfl, moved_set HO.out HW2.out hil HY.out⟩

theorem hasK_low {xs : List En} {k : Int} (hp : xs.Pairwise (fun x y => x.key < y.key)) (h : hasK xs k = true) : ∃ h : lowN xs k < xs.length, xs[lowN xs k].key = k := by
  unfold hasK at h
  rw [List.any_eq_true] at h
  obtain ⟨x, hx, hk⟩ := h
  obtain ⟨j, hj, rfl⟩ := List.getElem_of_mem hx
  have hk' : xs[j].key = k := by simpa using hk
  have e : lowN xs k = j := lowN_is (Nat.le_of_lt hj) (fun a ha haj => by
    have := List.pairwise_iff_getElem.1 hp a j ha hj haj; omega) (fun a ha haj => by
    by_cases q : a = j
    · subst q; omega
    · have := List.pairwise_iff_getElem.1 hp j a hj ha (by omega); omega)
  exact ⟨by omega, by simp only [e]; exact hk'⟩

/-- A list with an entry more: in plain terms withE. -/
theorem with_any (base : Nat) (A : Option Addr) (C : Nat) (xs : List En) (x : En) (w : World) (ho : w.ownsRow base 63 7 (.slice A xs.length C) xs.length (flatE xs)) (hp : xs.Pairwise (fun x y => x.key < y.key)) (hB : base ≤ w.heap.size) (hz : (xs.length + 1) * 56 ≤ 140737488351232) :
    Calls Tryz.prog 70 #[.slice A xs.length C, .agg #[.int .i64 x.key, .int .i64 x.c, .int .i64 x.s, .int .i64 x.lo, .int .i64 x.hi, .int .i64 x.t, .int .i64 x.l]] w
      fun e w' => ∃ A' C', e = .returned (.slice A' (withE xs x).length C') ∧ Moved base 63 7 (withE xs x).length A A' C' (flatE (withE xs x)) w w' := by
  cases hk : hasK xs x.key with
  | true =>
    obtain ⟨hl, hkey⟩ := hasK_low hp hk
    have e : withE xs x = xs.set (lowN xs x.key) (mkE (xs[lowN xs x.key]).key (mrg (xs[lowN xs x.key]).ru x.ru).1) := by
      unfold withE
      rw [if_pos hk, List.getD_eq_getElem?_getD, List.getElem?_eq_getElem hl]
      rfl
    rw [e, List.length_set]
    rcases ho.2 with ⟨hn, h0⟩ | ⟨g, cap, cur, hn, _⟩
    · omega
    · simp only [Value.slice.injEq] at hn
      obtain ⟨rfl, -, rfl⟩ := hn
      refine (with_old base g C xs x _ _ _ w ho hp hz hk rfl hl rfl rfl).mono ?_
      rintro e w' ⟨rfl, hm⟩
      exact ⟨_, _, rfl, hm⟩
  | false =>
    have e : withE xs x = xs.take (lowN xs x.key) ++ x :: xs.drop (lowN xs x.key) := by
      unfold withE
      rw [if_neg (by rw [hk]; decide)]
    have hl := lowN_le xs x.key
    have el : (withE xs x).length = xs.length + 1 := by rw [e]; simp; omega
    rw [el, e]
    exact with_new base A C xs x w ho hp hB hz hk

set_option maxRecDepth 20000 in
theorem canWait_any (A : Option Addr) (C : Nat) (xs : List En) (k : Int) (w : World) (h : RowAt w.heap.size w A (flatE xs)) (hz : xs.length * 56 ≤ 140737488351232) (hp : xs.Pairwise (fun x y => x.key < y.key)) :
    Calls Tryz.prog 71 #[.slice A xs.length C, .int .i64 k] w fun e w' => e = .returned (.bool (hasK xs k || decide (xs.length < 8))) ∧ Below w.heap.size w w' := by
  have hcon := find_any A C xs k w h hz hp
  generalize lowN xs k = r at hcon
  cases hk : hasK xs k with
  | true =>
    rw [hk] at hcon
    go_enter Tryz.func71, Tryz.ntmps71
    go_wp2_with (go_at_call 89; refine hcon.mono ?_; rintro e w1 ⟨rfl, hb1⟩)
    go_ret
    exact ⟨rfl, hb1⟩
  | false =>
    rw [hk] at hcon
    by_cases hl : xs.length < 8
    · have hl' : (xs.length : Int) < 8 := by omega
      go_enter Tryz.func71, Tryz.ntmps71
      go_wp2_with (go_at_call 89; refine hcon.mono ?_; rintro e w1 ⟨rfl, hb1⟩)
      go_ret
      exact ⟨by simp [hl], hb1⟩
    · have hl' : ¬ (xs.length : Int) < 8 := by omega
      go_enter Tryz.func71, Tryz.ntmps71
      go_wp2_with (go_at_call 89; refine hcon.mono ?_; rintro e w1 ⟨rfl, hb1⟩)
      go_ret
      exact ⟨by simp [hl]; omega, hb1⟩

end Go.Proofs.YtlojfgdpmaigmadGreatDoor

/- tree.kidOf, tree.greatest. -/
namespace Go.Proofs.YtlojfgdpmaigmadGreatDoor
open Go.RowKit Plain Go.Shelf

theorem drewNB {B : Nat} {w w' : World} (h : Below B w w') (n : Nat) : Below B w (w'.drewN n) := ⟨h.os, h.tape, h.output, h.size, h.block⟩

/-- Which of the kids has a key. -/
def kidI (keys : List Int) (k : Int) : Nat := keys.countP (· < k) + if keys.contains k = true then 1 else 0

set_option maxRecDepth 20000 in
set_option maxHeartbeats 1000000 in
theorem kidOf_any (p : PN) (k : Int) (w : World) (hk : RowAt w.heap.size w p.kA (ints p.keys)) (hne : p.keys ≠ []) (hz : p.keys.length * 8 ≤ 140737488351232) (hs : p.keys.Pairwise (· ≤ ·)) :
    Calls Tryz.prog 73 #[.agg #[.bool p.leaf, .slice p.eA p.ents.length p.eC, .slice p.kA p.keys.length p.kC, .slice p.dA p.kids.length p.dC, .slice p.bA p.buf.length p.bC], .int .i64 k] w
      fun e w' => e = .returned (.int .i64 (kidI p.keys k : Int)) ∧ Below w.heap.size w w' := by
  obtain ⟨b, o, hA, hlt, hc⟩ : ∃ b o, p.kA = some ⟨b, o, none⟩ ∧ b < w.heap.size ∧ ∀ j u, (ints p.keys)[j]? = some u → w.cell? ⟨b, o + j, none⟩ = some u := by
    rcases hk with h | h
    · exact absurd (by simpa [ints] using h) hne
    · exact h
  have hb0 : ∀ ob : Obj, Below w.heap.size w (w.alloc ob) := fun ob => (Below.refl _ _).alloc (Nat.le_refl _) ob
  have hcon := fun W (hW : Below w.heap.size w W) => Any.slices_BinarySearch_int Tryz.searchI b o p.keys.length p.kC p.keys k W (Nat.le_refl _) (by omega) (fun j hj => by
    rw [hW.cell (p := ⟨b, o + j, none⟩) hlt]
    exact hc j _ (by rw [ints, List.getElem?_map, List.getElem?_eq_getElem hj, List.getD_eq_getElem?_getD, List.getElem?_eq_getElem hj]; rfl)) (by rw [List.take_length]; exact hs)
  rw [List.take_length] at hcon
  have hle : p.keys.countP (· < k) ≤ p.keys.length := List.countP_le_length
  rw [hA]
  unfold kidI
  generalize p.keys.countP (· < k) = r at hcon hle ⊢
  cases hq : p.keys.contains k with
  | true =>
    rw [hq] at hcon
    have HC := hideC hcon
    clear hcon hq
    have e1 : ((r + if true = true then 1 else 0 : Nat) : Int) = (r : Int) + 1 := by simp
    rw [e1]
    go_enter Tryz.func73, Tryz.ntmps73
    go_wp2_with (go_at_call 93; refine (HC.out _ (hb0 _)).mono ?_; rintro e w1 ⟨rfl, q, rfl⟩)
    go_ret
    exact ⟨rfl, drewNB (hb0 _) _⟩
  | false =>
    rw [hq] at hcon
    have HC := hideC hcon
    clear hcon hq
    have e1 : ((r + if false = true then 1 else 0 : Nat) : Int) = (r : Int) := by simp
    rw [e1]
    go_enter Tryz.func73, Tryz.ntmps73
    go_wp2_with (go_at_call 93; refine (HC.out _ (hb0 _)).mono ?_; rintro e w1 ⟨rfl, q, rfl⟩)
    go_ret
    exact ⟨rfl, drewNB (hb0 _) _⟩

set_option maxRecDepth 20000 in
set_option maxHeartbeats 4000000 in
theorem greatest_any (a0 a1 a2 a3 : Int) (w : World) :
    Calls Tryz.prog 92 #[.agg #[.int .i64 a0, .int .i64 a1, .int .i64 a2, .int .i64 a3]] w
      fun e w' => ∃ m : Nat, m < 4 ∧ e = .returned (.int .i64 (m : Int)) ∧ Below w.heap.size w w' := by
  have i0 : ∀ (x y z u : Value) (w : World), (Instr.index 117 (.agg #[x, y, z, u]) (.int .i64 0)).run Tryz.prog w = .ok x w := fun _ _ _ _ _ => by kernel_rfl
  have i1 : ∀ (x y z u : Value) (w : World), (Instr.index 117 (.agg #[x, y, z, u]) (.int .i64 1)).run Tryz.prog w = .ok y w := fun _ _ _ _ _ => by kernel_rfl
  have i2 : ∀ (x y z u : Value) (w : World), (Instr.index 117 (.agg #[x, y, z, u]) (.int .i64 2)).run Tryz.prog w = .ok z w := fun _ _ _ _ _ => by kernel_rfl
  have i3 : ∀ (x y z u : Value) (w : World), (Instr.index 117 (.agg #[x, y, z, u]) (.int .i64 3)).run Tryz.prog w = .ok u w := fun _ _ _ _ _ => by kernel_rfl
  go_enter Tryz.func92, Tryz.ntmps92
  go_wp2_with fail
  generalize hW : w.alloc (.cells #[.int .i64 a0, .int .i64 a1, .int .i64 a2, .int .i64 a3] 117) = W
  have hbW : Below w.heap.size w W := by rw [← hW]; exact (Below.refl _ _).alloc (Nat.le_refl _) _
  have hlW : w.heap.size < W.heap.size := by rw [← hW]; simp
  have hat : ∀ a : Nat, a < 4 → ∃ v : Int, W.cell? ⟨w.heap.size, a, none⟩ = some (.int .i64 v) := by
    intro a ha
    rw [← hW]
    rcases (show a = 0 ∨ a = 1 ∨ a = 2 ∨ a = 3 by omega) with rfl | rfl | rfl | rfl
    · exact ⟨a0, by simp⟩
    · exact ⟨a1, by simp⟩
    · exact ⟨a2, by simp⟩
    · exact ⟨a3, by simp⟩
  have hix : ∀ i : Nat, i < 4 → ∃ v : Int, (Instr.index 117 (.agg #[.int .i64 a0, .int .i64 a1, .int .i64 a2, .int .i64 a3]) (.int .i64 (i : Int))).run Tryz.prog W = .ok (.int .i64 v) W := by
    intro i hi
    rcases (show i = 0 ∨ i = 1 ∨ i = 2 ∨ i = 3 by omega) with rfl | rfl | rfl | rfl
    · exact ⟨a0, i0 _ _ _ _ _⟩
    · exact ⟨a1, i1 _ _ _ _ _⟩
    · exact ⟨a2, i2 _ _ _ _ _⟩
    · exact ⟨a3, i3 _ _ _ _ _⟩
  clear i0 i1 i2 i3 hW
  have HAT := hideC hat
  have HIX := hideC hix
  clear hat hix
  go_loopw [3, 7] (fun va vi wr => ∃ a i : Nat, a < 4 ∧ i ≤ 4 ∧ va = .int .i64 a ∧ vi = .int .i64 i ∧ wr = W) (fun _ vi _ => 4 - (intOf vi).toNat)
  case atStart => exact ⟨0, 0, by decide, by decide, rfl, rfl, rfl⟩
  case round =>
    obtain ⟨a, i, ha, hi, rfl, rfl, hw⟩ := hrel
    subst hw
    by_cases hi4 : i < 4
    · obtain ⟨va, ca⟩ := HAT.out a ha
      obtain ⟨vi, ci⟩ := HIX.out i hi4
      have hia : (a : Int) < 4 := by omega
      have hia0 : (0 : Int) ≤ (a : Int) := by omega
      have hii : (i : Int) < 4 := by omega
      by_cases hv : va < vi
      · go_wp2_with fail
        go_roundw
        case rel => exact ⟨i, i + 1, hi4, by omega, rfl, by go_num, trivial⟩
        case measure => simp [intOf]; omega
      · go_wp2_with fail
        go_roundw
        case rel => exact ⟨a, i + 1, ha, by omega, rfl, by go_num, trivial⟩
        case measure => simp [intOf]; omega
    · have hii : ¬ (i : Int) < 4 := by omega
      go_wp2_with fail
      go_ret
      exact ⟨a, ha, rfl, hbW⟩

end Go.Proofs.YtlojfgdpmaigmadGreatDoor
