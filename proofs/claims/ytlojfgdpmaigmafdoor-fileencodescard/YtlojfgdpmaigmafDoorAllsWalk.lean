/- tree.All, and the document's AllOf: both answer 'allP'. -/
import Derived.Test.YtlojfgdpmaigmafDoorP34
import Derived.Test.YtlojfgdpmaigmafDoorBringWalk
import Derived.Test.YtlojfgdpmaigmafDoorP38
namespace Go.Proofs.YtlojfgdpmaigmafDoor
open Go.RowKit Plain

/-- The code, and what is known, of a tree's keys from low on, below high. -/
def allP (ns : List Nd) (root low high : Int) : Int × List En :=
  if treeC ns root ≠ 0 then (treeC ns root, []) else match allR low high (ns.flatMap Nd.lst) with
    | some ys => (0, ys)
    | none => (1, [])

/-- The walk's list, brought together, is what the document brings together. -/
theorem walk_all {ns : List Nd} {root low high : Int} (h : treeC ns root = 0) :
    allL (Wl ns low high 12 root) = allR low high (ns.flatMap Nd.lst) ∧ (∀ x ∈ Wl ns low high 12 root, Good x.ru) ∧ (Wl ns low high 12 root).length ≤ 28000 := by
  obtain ⟨r, hW⟩ := treeC_W h
  have hp := tree_perm h
  obtain ⟨hn, hok⟩ := tree_each h
  have hm : ∀ n ∈ ns, NodeOk n := fun n hn => by
    obtain ⟨i, hi, rfl⟩ := List.getElem_of_mem hn
    exact hok i hi
  have good : ∀ x ∈ ns.flatMap (fun x => x.buf ++ x.ents), Good x.ru := fun x hx => by
    obtain ⟨n, hn, hx⟩ := List.mem_flatMap.1 hx
    obtain ⟨_, _, g1, g2⟩ := hm n hn
    rcases List.mem_append.1 hx with hx | hx
    · exact g2 x hx
    · exact g1 x hx
  have pl : ∀ l : List Nd, (l.flatMap (fun x => x.buf ++ x.ents)).Perm (l.flatMap Nd.lst) := fun l => by
    induction l with
    | nil => simp
    | cons a l ih => simpa [Nd.lst] using List.Perm.append (List.perm_append_comm (l₁ := a.buf) (l₂ := a.ents)) ih
  have len : ∀ l : List Nd, (∀ n ∈ l, NodeOk n) → (l.flatMap (fun x => x.buf ++ x.ents)).length ≤ l.length * 14 := fun l => by
    induction l with
    | nil => simp
    | cons a l ih =>
      intro hl
      obtain ⟨a1, a2, _, _⟩ := hl a (by simp)
      have := ih fun n hn => hl n (by simp [hn])
      rw [List.flatMap_cons, List.length_append, List.length_append, List.length_cons]
      omega
  have e1 : Wl ns low high 12 root = (Fl ns 12 root).filter (inR low high) := Wl_eq 12 _ _ _ _ _ hW
  have p1 : (Wl ns low high 12 root).Perm ((ns.flatMap Nd.lst).filter (inR low high)) := by
    rw [e1]
    exact (hp.trans (pl ns)).filter _
  have each : ∀ x ∈ Wl ns low high 12 root, Good x.ru := fun x hx => by
    rw [e1] at hx
    exact good x (hp.subset (List.mem_filter.1 hx).1)
  refine ⟨allL_perm p1 (fun x hx => (good_iff.1 (each x hx)).1.1), each, ?_⟩
  have l1 : (Wl ns low high 12 root).length ≤ (Fl ns 12 root).length := by
    rw [e1]
    exact List.length_filter_le _ _
  have l2 := hp.length_eq
  have l3 := len ns hm
  omega

set_option maxRecDepth 20000 in
set_option maxHeartbeats 4000000 in
theorem all_bad (A : Option Addr) (C : Nat) (r low high : Int) (ps : List PN) (w : World) (hN : NodesAt w.heap.size w A ps) (hwf : ∀ p ∈ ps, p.wf) (hc : treeC (ps.map PN.nd) r ≠ 0) :
    Calls Tryd.prog 7 #[.agg #[.slice A ps.length C, .int .i64 r], .int .i64 low, .int .i64 high] w
      fun e w' => e = .returned (.tuple #[.slice none 0 0, .int .i64 (treeC (ps.map PN.nd) r)]) ∧ Below w.heap.size w w' := by
  have b0 : ∀ o : Obj, Below w.heap.size w (w.alloc o) := fun o => (Below.refl _ _).alloc (Nat.le_refl _) o
  obtain ⟨c, hcc⟩ : ∃ c, c = treeC (ps.map PN.nd) r := ⟨_, rfl⟩
  have con : ∀ w', NodesAt w'.heap.size w' A ps → Calls Tryd.prog 21 #[.agg #[.slice A ps.length C, .int .i64 r]] w' fun e w'' => e = .returned (.int .i64 c) ∧ Below w'.heap.size w' w'' := by
    intro w' h
    rw [hcc]
    exact checkT_any A C r ps w' h hwf
  rw [← hcc] at hc ⊢
  clear hcc
  have hc' : (c != 0) = true := by simpa using hc
  have hc'' : (c == 0) = false := by simpa using hc
  go_enter Tryd.func7, Tryd.ntmps7
  go_wp2_with (first | (go_at_call 21; refine (con _ ?_).mono ?_; exact hN.up (b0 _); rintro e w1 ⟨rfl, hb1⟩))
  exact bodyPost_ret (v := .tuple #[.slice none 0 0, .int .i64 c]) (by simp [results, Tryd.results7, go_sem]) rfl ⟨rfl, nextB (b0 _) (Nat.le_refl _) hb1⟩

theorem foldl_snoc (l : List En) : ∀ s : List En, l.foldl (fun s x => s ++ [x]) s = s ++ l := by
  induction l with
  | nil => intro s; simp
  | cons x l ih => intro s; simp [ih]

/-- The walk of tree.All, in a world with a new empty list at its end. -/
theorem walkAll (A : Option Addr) (C : Nat) (r low high : Int) (ps : List PN) (B : Nat) (w1 : World) (hN : NodesAt B w1 A ps) (hB : B ≤ w1.heap.size) (hc : treeC (ps.map PN.nd) r = 0) (Wn : List En) (hW : Hid (Wl (ps.map PN.nd) low high 12 r = Wn)) :
    Calls Tryd.prog 22 #[.agg #[.slice A ps.length C, .int .i64 r], .int .i64 r, .int .i64 low, .int .i64 high, .func (Fn.func 23) #[] #[.pointer (some ⟨w1.heap.size, 0, none⟩)]] (w1.alloc (.cells #[.slice none 0 0] 35))
      fun e w' => e = .returned (.tuple #[]) ∧ (∃ v, RowL w' w1.heap.size 35 [v] ∧ w'.ownsRow (w1.heap.size + 1) 48 7 v Wn.length (flatE Wn)) ∧ Below B w1 w' ∧ w1.heap.size + 1 ≤ w'.heap.size := by
  have hb0 : Below B w1 (w1.alloc (.cells #[.slice none 0 0] 35)) := (Below.refl _ _).alloc hB _
  have hr0 : RowL (w1.alloc (.cells #[.slice none 0 0] 35)) w1.heap.size 35 [.slice none 0 0] := rowL_alloc w1 _ _
  have hz0 : (w1.alloc (.cells #[.slice none 0 0] 35)).heap.size = w1.heap.size + 1 := by simp
  obtain ⟨q, hq⟩ := treeC_W hc
  have hl := (walk_all (low := low) (high := high) hc).2.2
  have far : ∀ k, XL w1.heap.size (w1.alloc (.cells #[.slice none 0 0] 35)) k → B ≤ k := by
    rintro k (rfl | ⟨v, hv, hk⟩)
    · exact hB
    · obtain rfl := hr0.one hv
      cases hk
  refine (walkL_any w1.heap.size (visL w1.heap.size (w1.heap.size + 1)) A C r ps B low high 12 r [] _ (W_reach _ _ _ _ _ _ hq) (hN.below hb0 (Nat.le_refl _)) ⟨Nat.lt_succ_self _, by omega, _, hr0, World.ownsRow_nil _ _ _ _⟩ (by omega) far (by simp; omega)).mono ?_
  rintro e w' ⟨rfl, hL, hT⟩
  rw [foldl_snoc, List.nil_append, hW.out] at hL
  exact ⟨rfl, hL.row, hb0.trans (hT.below (by omega) far), hL.hz⟩

set_option maxRecDepth 20000 in
set_option maxHeartbeats 4000000 in
theorem all_ok (A : Option Addr) (C : Nat) (r low high : Int) (ps : List PN) (w : World) (hN : NodesAt w.heap.size w A ps) (hwf : ∀ p ∈ ps, p.wf) (hc : treeC (ps.map PN.nd) r = 0) (Q : Ending → World → Prop)
    (HQ : Hid (∀ e w', Below w.heap.size w w' → (∀ ys, allR low high ((ps.map PN.nd).flatMap Nd.lst) = some ys → ∃ v, e = .returned (.tuple #[v, .int .i64 0]) ∧ w'.ownsRow w.heap.size 48 7 v ys.length (flatE ys)) → (allR low high ((ps.map PN.nd).flatMap Nd.lst) = none → e = .returned (.tuple #[.slice none 0 0, .int .i64 1])) → Q e w')) :
    Calls Tryd.prog 7 #[.agg #[.slice A ps.length C, .int .i64 r], .int .i64 low, .int .i64 high] w Q := by
  have b0 : ∀ o : Obj, Below w.heap.size w (w.alloc o) := fun o => (Below.refl _ _).alloc (Nat.le_refl _) o
  have con : ∀ w', NodesAt w'.heap.size w' A ps → Calls Tryd.prog 21 #[.agg #[.slice A ps.length C, .int .i64 r]] w' fun e w'' => e = .returned (.int .i64 0) ∧ Below w'.heap.size w' w'' := by
    intro w' h
    rw [← hc]
    exact checkT_any A C r ps w' h hwf
  obtain ⟨Wn, hWn⟩ : ∃ Wn, Wl (ps.map PN.nd) low high 12 r = Wn := ⟨_, rfl⟩
  have HW : Hid (Wl (ps.map PN.nd) low high 12 r = Wn) := hWn
  have hall := walk_all (low := low) (high := high) hc
  rw [hWn] at hall
  obtain ⟨ha1, ha2, ha3⟩ := hall
  have wk : ∀ w1, NodesAt w.heap.size w1 A ps → w.heap.size ≤ w1.heap.size → _ := fun w1 h1 h2 => walkAll A C r low high ps w.heap.size w1 h1 h2 hc Wn HW
  have br : ∀ v H w2, w2.ownsRow H 48 7 v Wn.length (flatE Wn) → H ≤ w2.heap.size → Calls Tryd.prog 24 #[v] w2 fun e w' => Below H w2 w' ∧ ∃ v' c, e = .returned (.tuple #[v', .int .i64 c]) ∧ Hid ((∃ ys, c = 0 ∧ allR low high ((ps.map PN.nd).flatMap Nd.lst) = some ys ∧ w'.ownsRow H 48 7 v' ys.length (flatE ys)) ∨ (c = 1 ∧ v' = .slice none 0 0 ∧ allR low high ((ps.map PN.nd).flatMap Nd.lst) = none)) := by
    intro v H w2 h1 h2
    refine bring_any Wn v H w2 h1 h2 ha3 ha2 _ (fun e w' k1 k2 k3 => ?_)
    rw [ha1] at k2 k3
    refine ⟨k1, ?_⟩
    cases hA : allR low high ((ps.map PN.nd).flatMap Nd.lst) with
    | none => exact ⟨_, _, k3 hA, .inr ⟨rfl, rfl, rfl⟩⟩
    | some ys =>
      obtain ⟨v', he, ho⟩ := k2 ys hA
      exact ⟨v', _, he, .inl ⟨ys, rfl, rfl, ho⟩⟩
  clear ha1 ha2 ha3 hWn HW hc
  go_enter Tryd.func7, Tryd.ntmps7
  go_wp2_with (first
    | (go_at_call 21; refine (con _ ?_).mono ?_; exact hN.up (b0 _); rintro e w1 ⟨rfl, hb1⟩; have x0 : w1.cell? ⟨w.heap.size, 0, none⟩ = some (.slice A ps.length C) := (hb1.cell (p := ⟨w.heap.size, 0, none⟩) (by simp)).trans (by simp); have x1 : w1.cell? ⟨w.heap.size, 1, none⟩ = some (.int .i64 r) := (hb1.cell (p := ⟨w.heap.size, 1, none⟩) (by simp)).trans (by simp); have z1 := sz1 hb1; have hw1 : Below w.heap.size w w1 := nextB (b0 _) (Nat.le_refl _) hb1)
    | (go_at_call 22; refine (wk w1 (hN.below hw1 (Nat.le_refl _)) (Nat.le_of_lt z1)).mono ?_; rintro e w2 ⟨rfl, ⟨v, hv, ho⟩, hb2, hz2⟩; have cv : w2.cell? ⟨w1.heap.size, 0, none⟩ = some v := hv.cell 0; have cl := hv.lt)
    | (go_at_call 24; refine (br v _ _ ho hz2).mono ?_; rintro e w3 ⟨hb3, v', c, rfl, hres⟩))
  have hb : Below w.heap.size w w3 := hw1.trans (hb2.trans (hb3.mono (by omega)))
  have hww : w.heap.size ≤ w1.heap.size + 1 := by omega
  refine HQ.out (.returned (.tuple #[v', .int .i64 c])) w3 hb ?_ ?_
  · intro ys hys
    rcases hres.out with ⟨zs, rfl, h1, h2⟩ | ⟨_, _, h1⟩
    · rw [h1] at hys
      cases hys
      exact ⟨v', rfl, own_mono h2 hww⟩
    · rw [h1] at hys
      cases hys
  · intro hn
    rcases hres.out with ⟨zs, _, h1, _⟩ | ⟨rfl, rfl, _⟩
    · rw [h1] at hn
      cases hn
    · rfl

theorem all_any (A : Option Addr) (C : Nat) (r low high : Int) (ps : List PN) (w : World) (hN : NodesAt w.heap.size w A ps) (hwf : ∀ p ∈ ps, p.wf) :
    Calls Tryd.prog 7 #[.agg #[.slice A ps.length C, .int .i64 r], .int .i64 low, .int .i64 high] w
      fun e w' => Below w.heap.size w w' ∧ ∃ v, e = .returned (.tuple #[v, .int .i64 (allP (ps.map PN.nd) r low high).1]) ∧ w'.ownsRow w.heap.size 48 7 v (allP (ps.map PN.nd) r low high).2.length (flatE (allP (ps.map PN.nd) r low high).2) := by
  unfold allP
  by_cases hc : treeC (ps.map PN.nd) r = 0
  · rw [if_neg (by simpa using hc)]
    refine all_ok A C r low high ps w hN hwf hc _ (fun e w' h1 h2 h3 => ⟨h1, ?_⟩)
    cases hA : allR low high ((ps.map PN.nd).flatMap Nd.lst) with
    | none => exact ⟨_, h3 hA, World.ownsRow_nil _ _ _ _⟩
    | some ys => exact h2 ys hA
  · rw [if_pos hc]
    exact (all_bad A C r low high ps w hN hwf hc).mono fun e w' ⟨h1, h2⟩ => ⟨h2, _, h1, World.ownsRow_nil _ _ _ _⟩

theorem allOf_all (A : Option Addr) (C : Nat) (r low high : Int) (ps : List PN) (w : World) (hN : NodesAt w.heap.size w A ps) :
    Calls Tryd.prog 30 #[.agg #[.slice A ps.length C, .int .i64 r], .int .i64 low, .int .i64 high] w
      fun e w' => Below w.heap.size w w' ∧ ∃ v, e = .returned (.tuple #[v, .int .i64 (allP (ps.map PN.nd) r low high).1]) ∧ w'.ownsRow w.heap.size 48 7 v (allP (ps.map PN.nd) r low high).2.length (flatE (allP (ps.map PN.nd) r low high).2) := by
  unfold allP
  by_cases hc : treeC (ps.map PN.nd) r = 0
  · rw [if_neg (by simpa using hc)]
    refine allOf_ok A C r low high ps w hN hc _ (fun e w' h1 h2 h3 => ⟨h1, ?_⟩)
    cases hA : allR low high ((ps.map PN.nd).flatMap Nd.lst) with
    | none => exact ⟨_, h3 hA, World.ownsRow_nil _ _ _ _⟩
    | some ys => exact h2 ys hA
  · rw [if_pos hc]
    exact (allOf_bad A C r low high ps w hN hc).mono fun e w' ⟨h1, h2⟩ => ⟨h2, _, h1, World.ownsRow_nil _ _ _ _⟩

theorem allP_len (ns : List Nd) (r low high : Int) : (allP ns r low high).2.length ≤ 28000 := by
  unfold allP
  split
  · simp
  · rename_i hc
    have hc' : treeC ns r = 0 := by simpa using hc
    obtain ⟨e1, g1, l1⟩ := walk_all (low := low) (high := high) hc'
    rw [← e1]
    cases hA : allL (Wl ns low high 12 r) with
    | none => simp
    | some ys =>
      have : ∀ (xs : List En) (o : List En), (∀ x ∈ xs, Good x.ru) → (∀ y ∈ o, Good y.ru) → ∀ ys, xs.foldl insO (some o) = some ys → ys.length ≤ o.length + xs.length := by
        intro xs
        induction xs with
        | nil => intro o _ _ ys h; cases h; simp
        | cons x xs ih =>
          intro o hx ho ys h
          rw [List.foldl_cons] at h
          cases hi : insO (some o) x with
          | none => rw [hi, fold_none] at h; cases h
          | some o' =>
            rw [hi] at h
            obtain ⟨q1, q2⟩ := ins_good (hx x (by simp)) ho hi
            have := ih o' (fun y hy => hx y (by simp [hy])) q1 ys h
            simp only [List.length_cons]
            omega
      have q := this _ [] g1 (by simp) ys hA
      simp only [List.length_nil] at q
      show ys.length ≤ 28000
      omega

end Go.Proofs.YtlojfgdpmaigmafDoor
