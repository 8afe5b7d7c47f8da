/- tree.All, and the document's AllOf: both answer 'allP'. -/
import Derived.Test.YtlojfgdpmaigmaeGreatDoorP37
import Derived.Test.YtlojfgdpmaigmaeGreatDoorP29
import Derived.Test.YtlojfgdpmaigmaeGreatDoorP32
import Derived.Test.YtlojfgdpmaigmaeGreatDoorP26
import Derived.Test.YtlojfgdpmaigmaeGreatDoorP28
import Derived.Test.YtlojfgdpmaigmaeGreatDoorP14
import Derived.Lib.SlicesS
import Derived.BigQuiet
import Derived.Deep.RegionHeld3
import Derived.Deep.DeepCutAuto
namespace Go.Proofs.YtlojfgdpmaigmaeGreatDoor
open Go.RowKit Plain

/-- The code, and what is known, of a tree's keys from low on, below high. -/
def allP (ns : List Nd) (root low high : Int) : Int × List En :=
  if treeC ns root ≠ 0 then (treeC ns root, []) else match allR low high (ns.flatMap Nd.lst) with
    | some ys => (0, ys)
    | none => (1, [])

/-- The walk's list, brought together, is what the document brings together. -/
theorem walk_all {ns : List Nd} {root low high : Int} (h : treeC ns root = 0) :
    allL (Wl ns low high 12 root) = allR low high (ns.flatMap Nd.lst) ∧ (∀ x ∈ Wl ns low high 12 root, Good x.ru) ∧ (Wl ns low high 12 root).length ≤ 28000 := by
  obtain ⟨r, hW⟩ := treeC_W h
  have hp := tree_perm h
  obtain ⟨hn, hok⟩ := tree_each h
  have hm : ∀ n ∈ ns, NodeOk n := fun n hn => by
    obtain ⟨i, hi, rfl⟩ := List.getElem_of_mem hn
    exact hok i hi
  have good : ∀ x ∈ ns.flatMap (fun x => x.buf ++ x.ents), Good x.ru := fun x hx => by
    obtain ⟨n, hn, hx⟩ := List.mem_flatMap.1 hx
    obtain ⟨_, _, g1, g2⟩ := hm n hn
    rcases List.mem_append.1 hx with hx | hx
    · exact g2 x hx
    · exact g1 x hx
  have pl : ∀ l : List Nd, (l.flatMap (fun x => x.buf ++ x.ents)).Perm (l.flatMap Nd.lst) := fun l => by
    induction l with
    | nil => simp
    | cons a l ih => simpa [Nd.lst] using List.Perm.append (List.perm_append_comm (l₁ := a.buf) (l₂ := a.ents)) ih
  have len : ∀ l : List Nd, (∀ n ∈ l, NodeOk n) → (l.flatMap (fun x => x.buf ++ x.ents)).length ≤ l.length * 14 := fun l => by
    induction l with
    | nil => simp
    | cons a l ih =>
      intro hl
      obtain ⟨a1, a2, _, _⟩ := hl a (by simp)
      have := ih fun n hn => hl n (by simp [hn])
      rw [List.flatMap_cons, List.length_append, List.length_append, List.length_cons]
      omega
  have e1 : Wl ns low high 12 root = (Fl ns 12 root).filter (inR low high) := Wl_eq 12 _ _ _ _ _ hW
  have p1 : (Wl ns low high 12 root).Perm ((ns.flatMap Nd.lst).filter (inR low high)) := by
    rw [e1]
    exact (hp.trans (pl ns)).filter _
  have each : ∀ x ∈ Wl ns low high 12 root, Good x.ru := fun x hx => by
    rw [e1] at hx
    exact good x (hp.subset (List.mem_filter.1 hx).1)
  refine ⟨allL_perm p1 (fun x hx => (good_iff.1 (each x hx)).1.1), each, ?_⟩
  have l1 : (Wl ns low high 12 root).length ≤ (Fl ns 12 root).length := by
    rw [e1]
    exact List.length_filter_le _ _
  have l2 := hp.length_eq
  have l3 := len ns hm
  omega

set_option maxRecDepth 20000 in
set_option maxHeartbeats 4000000 in
theorem all_bad (A : Option Addr) (C : Nat) (r low high : Int) (ps : List PN) (w : World) (hN : NodesAt w.heap.size w A ps) (hwf : ∀ p ∈ ps, p.wf) (hc : treeC (ps.map PN.nd) r ≠ 0) :
    Calls Tryz.prog 63 #[.agg #[.slice A ps.length C, .int .i64 r], .int .i64 low, .int .i64 high] w
      fun e w' => e = .returned (.tuple #[.slice none 0 0, .int .i64 (treeC (ps.map PN.nd) r)]) ∧ Below w.heap.size w w' := by
  have b0 : ∀ o : Obj, Below w.heap.size w (w.alloc o) := fun o => (Below.refl _ _).alloc (Nat.le_refl _) o
  obtain ⟨c, hcc⟩ : ∃ c, c = treeC (ps.map PN.nd) r := ⟨_, rfl⟩
  have con : ∀ w', NodesAt w'.heap.size w' A ps → Calls Tryz.prog 74 #[.agg #[.slice A ps.length C, .int .i64 r]] w' fun e w'' => e = .returned (.int .i64 c) ∧ Below w'.heap.size w' w'' := by
    intro w' h
    rw [hcc]
    exact checkT_any A C r ps w' h hwf
  rw [← hcc] at hc ⊢
  clear hcc
  have hc' : (c != 0) = true := by simpa using hc
  have hc'' : (c == 0) = false := by simpa using hc
  go_enter Tryz.func63, Tryz.ntmps63
  go_wp2_with (first | (go_at_call 74; refine (con _ ?_).mono ?_; exact hN.up (b0 _); rintro e w1 ⟨rfl, hb1⟩))
  exact bodyPost_ret (v := .tuple #[.slice none 0 0, .int .i64 c]) (by simp [results, Tryz.results63, go_sem]) rfl ⟨rfl, nextB (b0 _) (Nat.le_refl _) hb1⟩

theorem foldl_snoc (l : List En) : ∀ s : List En, l.foldl (fun s x => s ++ [x]) s = s ++ l := by
  induction l with
  | nil => intro s; simp
  | cons x l ih => intro s; simp [ih]

/-- The walk of tree.All, in a world with a new empty list at its end. -/
theorem walkAll (A : Option Addr) (C : Nat) (r low high : Int) (ps : List PN) (B : Nat) (w1 : World) (hN : NodesAt B w1 A ps) (hB : B ≤ w1.heap.size) (hc : treeC (ps.map PN.nd) r = 0) (Wn : List En) (hW : Hid (Wl (ps.map PN.nd) low high 12 r = Wn)) :
    Calls Tryz.prog 85 #[.agg #[.slice A ps.length C, .int .i64 r], .int .i64 r, .int .i64 low, .int .i64 high, .func (Fn.func 86) #[] #[.pointer (some ⟨w1.heap.size, 0, none⟩)]] (w1.alloc (.cells #[.slice none 0 0] 32))
      fun e w' => e = .returned (.tuple #[]) ∧ (∃ v, RowL w' w1.heap.size 32 [v] ∧ w'.ownsRow (w1.heap.size + 1) 73 7 v Wn.length (flatE Wn)) ∧ Below B w1 w' ∧ w1.heap.size + 1 ≤ w'.heap.size := by
  have hb0 : Below B w1 (w1.alloc (.cells #[.slice none 0 0] 32)) := (Below.refl _ _).alloc hB _
  have hr0 : RowL (w1.alloc (.cells #[.slice none 0 0] 32)) w1.heap.size 32 [.slice none 0 0] := rowL_alloc w1 _ _
  have hz0 : (w1.alloc (.cells #[.slice none 0 0] 32)).heap.size = w1.heap.size + 1 := by simp
  obtain ⟨q, hq⟩ := treeC_W hc
  have hl := (walk_all (low := low) (high := high) hc).2.2
  have far : ∀ k, XL w1.heap.size (w1.alloc (.cells #[.slice none 0 0] 32)) k → B ≤ k := by
    rintro k (rfl | ⟨v, hv, hk⟩)
    · exact hB
    · obtain rfl := hr0.one hv
      cases hk
  refine (walkL_any w1.heap.size (visL w1.heap.size (w1.heap.size + 1)) A C r ps B low high 12 r [] _ (W_reach _ _ _ _ _ _ hq) (hN.below hb0 (Nat.le_refl _)) ⟨Nat.lt_succ_self _, by omega, _, hr0, World.ownsRow_nil _ _ _ _⟩ (by omega) far (by simp; omega)).mono ?_
  rintro e w' ⟨rfl, hL, hT⟩
  rw [foldl_snoc, List.nil_append, hW.out] at hL
  exact ⟨rfl, hL.row, hb0.trans (hT.below (by omega) far), hL.hz⟩

set_option maxRecDepth 20000 in
set_option maxHeartbeats 4000000 in
theorem all_ok (A : Option Addr) (C : Nat) (r low high : Int) (ps : List PN) (w : World) (hN : NodesAt w.heap.size w A ps) (hwf : ∀ p ∈ ps, p.wf) (hc : treeC (ps.map PN.nd) r = 0) (Q : Ending → World → Prop)
    (HQ : Hid (∀ e w', Below w.heap.size w w' → (∀ ys, allR low high ((ps.map PN.nd).flatMap Nd.lst) = some ys → ∃ v, e = .returned (.tuple #[v, .int .i64 0]) ∧ w'.ownsRow w.heap.size 73 7 v ys.length (flatE ys)) → (allR low high ((ps.map PN.nd).flatMap Nd.lst) = none → e = .returned (.tuple #[.slice none 0 0, .int .i64 1])) → Q e w')) :
    Calls Tryz.prog 63 #[.agg #[.slice A ps.length C, .int .i64 r], .int .i64 low, .int .i64 high] w Q := by
  have b0 : ∀ o : Obj, Below w.heap.size w (w.alloc o) := fun o => (Below.refl _ _).alloc (Nat.le_refl _) o
  have con : ∀ w', NodesAt w'.heap.size w' A ps → Calls Tryz.prog 74 #[.agg #[.slice A ps.length C, .int .i64 r]] w' fun e w'' => e = .returned (.int .i64 0) ∧ Below w'.heap.size w' w'' := by
    intro w' h
    rw [← hc]
    exact checkT_any A C r ps w' h hwf
  obtain ⟨Wn, hWn⟩ : ∃ Wn, Wl (ps.map PN.nd) low high 12 r = Wn := ⟨_, rfl⟩
  have HW : Hid (Wl (ps.map PN.nd) low high 12 r = Wn) := hWn
  have hall := walk_all (low := low) (high := high) hc
  rw [hWn] at hall
  obtain ⟨ha1, ha2, ha3⟩ := hall
  have wk : ∀ w1, NodesAt w.heap.size w1 A ps → w.heap.size ≤ w1.heap.size → _ := fun w1 h1 h2 => walkAll A C r low high ps w.heap.size w1 h1 h2 hc Wn HW
  have br : ∀ v H w2, w2.ownsRow H 73 7 v Wn.length (flatE Wn) → H ≤ w2.heap.size → Calls Tryz.prog 87 #[v] w2 fun e w' => Below H w2 w' ∧ ∃ v' c, e = .returned (.tuple #[v', .int .i64 c]) ∧ Hid ((∃ ys, c = 0 ∧ allR low high ((ps.map PN.nd).flatMap Nd.lst) = some ys ∧ w'.ownsRow H 73 7 v' ys.length (flatE ys)) ∨ (c = 1 ∧ v' = .slice none 0 0 ∧ allR low high ((ps.map PN.nd).flatMap Nd.lst) = none)) := by
    intro v H w2 h1 h2
    refine bring_any Wn v H w2 h1 h2 ha3 ha2 _ (fun e w' k1 k2 k3 => ?_)
    rw [ha1] at k2 k3
    refine ⟨k1, ?_⟩
    cases hA : allR low high ((ps.map PN.nd).flatMap Nd.lst) with
    | none => exact ⟨_, _, k3 hA, .inr ⟨rfl, rfl, rfl⟩⟩
    | some ys =>
      obtain ⟨v', he, ho⟩ := k2 ys hA
      exact ⟨v', _, he, .inl ⟨ys, rfl, rfl, ho⟩⟩
  clear ha1 ha2 ha3 hWn HW hc
  go_enter Tryz.func63, Tryz.ntmps63
  go_wp2_with (first
    | (go_at_call 74; refine (con _ ?_).mono ?_; exact hN.up (b0 _); rintro e w1 ⟨rfl, hb1⟩; have x0 : w1.cell? ⟨w.heap.size, 0, none⟩ = some (.slice A ps.length C) := (hb1.cell (p := ⟨w.heap.size, 0, none⟩) (by simp)).trans (by simp); have x1 : w1.cell? ⟨w.heap.size, 1, none⟩ = some (.int .i64 r) := (hb1.cell (p := ⟨w.heap.size, 1, none⟩) (by simp)).trans (by simp); have z1 := sz1 hb1; have hw1 : Below w.heap.size w w1 := nextB (b0 _) (Nat.le_refl _) hb1)
    | (go_at_call 85; refine (wk w1 (hN.below hw1 (Nat.le_refl _)) (Nat.le_of_lt z1)).mono ?_; rintro e w2 ⟨rfl, ⟨v, hv, ho⟩, hb2, hz2⟩; have cv : w2.cell? ⟨w1.heap.size, 0, none⟩ = some v := hv.cell 0; have cl := hv.lt)
    | (go_at_call 87; refine (br v _ _ ho hz2).mono ?_; rintro e w3 ⟨hb3, v', c, rfl, hres⟩))
  have hb : Below w.heap.size w w3 := hw1.trans (hb2.trans (hb3.mono (by omega)))
  have hww : w.heap.size ≤ w1.heap.size + 1 := by omega
  refine HQ.out (.returned (.tuple #[v', .int .i64 c])) w3 hb ?_ ?_
  · intro ys hys
    rcases hres.out with ⟨zs, rfl, h1, h2⟩ | ⟨_, _, h1⟩
    · rw [h1] at hys
      cases hys
      exact ⟨v', rfl, own_mono h2 hww⟩
    · rw [h1] at hys
      cases hys
  · intro hn
    rcases hres.out with ⟨zs, _, h1, _⟩ | ⟨rfl, rfl, _⟩
    · rw [h1] at hn
      cases hn
    · rfl

theorem all_any (A : Option Addr) (C : Nat) (r low high : Int) (ps : List PN) (w : World) (hN : NodesAt w.heap.size w A ps) (hwf : ∀ p ∈ ps, p.wf) :
    Calls Tryz.prog 63 #[.agg #[.slice A ps.length C, .int .i64 r], .int .i64 low, .int .i64 high] w
      fun e w' => Below w.heap.size w w' ∧ ∃ v, e = .returned (.tuple #[v, .int .i64 (allP (ps.map PN.nd) r low high).1]) ∧ w'.ownsRow w.heap.size 73 7 v (allP (ps.map PN.nd) r low high).2.length (flatE (allP (ps.map PN.nd) r low high).2) := by
  unfold allP
  by_cases hc : treeC (ps.map PN.nd) r = 0
  · rw [if_neg (by simpa using hc)]
    refine all_ok A C r low high ps w hN hwf hc _ (fun e w' h1 h2 h3 => ⟨h1, ?_⟩)
    cases hA : allR low high ((ps.map PN.nd).flatMap Nd.lst) with
    | none => exact ⟨_, h3 hA, World.ownsRow_nil _ _ _ _⟩
    | some ys => exact h2 ys hA
  · rw [if_pos hc]
    exact (all_bad A C r low high ps w hN hwf hc).mono fun e w' ⟨h1, h2⟩ => ⟨h2, _, h1, World.ownsRow_nil _ _ _ _⟩

theorem allOf_all (A : Option Addr) (C : Nat) (r low high : Int) (ps : List PN) (w : World) (hN : NodesAt w.heap.size w A ps) :
    Calls Tryz.prog 62 #[.agg #[.slice A ps.length C, .int .i64 r], .int .i64 low, .int .i64 high] w
      fun e w' => Below w.heap.size w w' ∧ ∃ v, e = .returned (.tuple #[v, .int .i64 (allP (ps.map PN.nd) r low high).1]) ∧ w'.ownsRow w.heap.size 73 7 v (allP (ps.map PN.nd) r low high).2.length (flatE (allP (ps.map PN.nd) r low high).2) := by
  unfold allP
  by_cases hc : treeC (ps.map PN.nd) r = 0
  · rw [if_neg (by simpa using hc)]
    refine allOf_ok A C r low high ps w hN hc _ (fun e w' h1 h2 h3 => ⟨h1, ?_⟩)
    cases hA : allR low high ((ps.map PN.nd).flatMap Nd.lst) with
    | none => exact ⟨_, h3 hA, World.ownsRow_nil _ _ _ _⟩
    | some ys => exact h2 ys hA
  · rw [if_pos hc]
    exact (allOf_bad A C r low high ps w hN hc).mono fun e w' ⟨h1, h2⟩ => ⟨h2, _, h1, World.ownsRow_nil _ _ _ _⟩

theorem allP_len (ns : List Nd) (r low high : Int) : (allP ns r low high).2.length ≤ 28000 := by
  unfold allP
  split
  · simp
  · rename_i hc
    have hc' : treeC ns r = 0 := by simpa using hc
    obtain ⟨e1, g1, l1⟩ := walk_all (low := low) (high := high) hc'
    rw [← e1]
    cases hA : allL (Wl ns low high 12 r) with
    | none => simp
    | some ys =>
      have : ∀ (xs : List En) (o : List En), (∀ x ∈ xs, Good x.ru) → (∀ y ∈ o, Good y.ru) → ∀ ys, xs.foldl insO (some o) = some ys → ys.length ≤ o.length + xs.length := by
        intro xs
        induction xs with
        | nil => intro o _ _ ys h; cases h; simp
        | cons x xs ih =>
          intro o hx ho ys h
          rw [List.foldl_cons] at h
          cases hi : insO (some o) x with
          | none => rw [hi, fold_none] at h; cases h
          | some o' =>
            rw [hi] at h
            obtain ⟨q1, q2⟩ := ins_good (hx x (by simp)) ho hi
            have := ih o' (fun y hy => hx y (by simp [hy])) q1 ys h
            simp only [List.length_cons]
            omega
      have q := this _ [] g1 (by simp) ys hA
      simp only [List.length_nil] at q
      show ys.length ≤ 28000
      omega

end Go.Proofs.YtlojfgdpmaigmaeGreatDoor

/- What a base knows, in plain terms: the document's words and the program's come to the same. -/
namespace Go.Proofs.YtlojfgdpmaigmaeGreatDoor
open Go.RowKit Plain

/-- The place of a series, and the time, in a key. -/
def kp (x : En) : Int := x.key / 1048576
def kt (x : En) : Int := x.key % 1048576
/-- The entry of the bucket in which a time is. -/
def bk (size : Int) (x : En) : En := { x with key := x.key - kt x % size }

def pointB (n f : Int) (x : En) : Bool := decide (kp x < n) && (decide (f ≤ kt x) && decide (x.t = kt x))

/-- What is known of points; none: that may not be. -/
def bookP (ns : List Nd) (r n f : Int) : Option (List En) :=
  if (allP ns r 0 1099511627776).1 = 0 ∧ (allP ns r 0 1099511627776).2.all (pointB n f) = true then some (allP ns r 0 1099511627776).2 else none
def rollP (size : Int) (l : List En) : Option (List En) := allL (l.map (bk size))
def stepB (size : Int) (l : List En) (ns : List Nd) (r : Int) : Bool :=
  match rollP size l with
  | none => false
  | some w => decide ((allP ns r 0 1099511627776).1 = 0) && decide (w = (allP ns r 0 1099511627776).2)
def treesB (n f : Int) (n0 : List Nd) (r0 : Int) (n1 : List Nd) (r1 : Int) (n2 : List Nd) (r2 : Int) : Bool :=
  match bookP n0 r0 n f with
  | none => false
  | some l => stepB 1 l n0 r0 && (stepB 60 l n1 r1 && stepB 3600 l n2 r2)
def okN (ss : List ByteArray) (i : Nat) : Bool := nameB (ss.getD i ByteArray.empty) && !Lib.containsS (ss.take i) (ss.getD i ByteArray.empty)
def namesB (ss : List ByteArray) : Bool := (List.range ss.length).all (okN ss)
def baseB (ss : List ByteArray) (f : Int) (n0 : List Nd) (r0 : Int) (n1 : List Nd) (r1 : Int) (n2 : List Nd) (r2 : Int) : Bool :=
  decide (ss.length ≤ 16) && (inB f 0 1048575 && (decide (f % 3600 = 0) && (namesB ss && treesB ss.length f n0 r0 n1 r1 n2 r2)))

/-! ### What allL makes: keys that rise, and no more than it was given -/

theorem allL_inc : ∀ (xs : List En) (o r : List En), (o.Pairwise fun a b => a.key < b.key) → (∀ z ∈ o, Good z.ru) → (∀ z ∈ xs, Good z.ru) → xs.foldl insO (some o) = some r →
    (r.Pairwise fun a b => a.key < b.key) ∧ (∀ z ∈ r, Good z.ru) ∧ ∀ z ∈ r, (∃ y ∈ o, y.key = z.key) ∨ ∃ y ∈ xs, y.key = z.key
  | [], o, r, hp, hg, _, h => by
    cases h
    exact ⟨hp, hg, fun z hz => .inl ⟨z, hz, rfl⟩⟩
  | x :: xs, o, r, hp, hg, hx, h => by
    rw [List.foldl_cons] at h
    cases hi : insO (some o) x with
    | none => rw [hi, fold_none] at h; cases h
    | some o' =>
      rw [hi] at h
      have hi' : ins o x = some o' := hi
      obtain ⟨q1, q2⟩ := ins_inc hp hi'
      obtain ⟨q3, q4⟩ := ins_good (hx x List.mem_cons_self) hg hi'
      obtain ⟨e1, e2, e3⟩ := allL_inc xs o' r q1 q3 (fun z hz => hx z (List.mem_cons_of_mem _ hz)) h
      refine ⟨e1, e2, fun z hz => ?_⟩
      rcases e3 z hz with ⟨y, hy, e⟩ | ⟨y, hy, e⟩
      · rcases q2 y hy with e' | ⟨u, hu, e'⟩
        · exact .inr ⟨x, List.mem_cons_self, by omega⟩
        · exact .inl ⟨u, hu, by omega⟩
      · exact .inr ⟨y, List.mem_cons_of_mem _ hy, e⟩

theorem allL_id : ∀ (xs o : List En), ((o ++ xs).Pairwise fun a b => a.key < b.key) → xs.foldl insO (some o) = some (o ++ xs)
  | [], o, _ => by simp
  | x :: xs, o, hp => by
    have h1 : ∀ z ∈ o, z.key < x.key := fun z hz => (List.pairwise_append.1 hp).2.2 z hz x List.mem_cons_self
    rw [List.foldl_cons, show insO (some o) x = some (o ++ [x]) from ins_end h1, allL_id xs (o ++ [x]) (by simpa using hp)]
    simp

/-- What a tree tells of all its keys. -/
theorem allP_facts {ns : List Nd} {r low high : Int} : ((allP ns r low high).2.Pairwise fun a b => a.key < b.key) ∧ (∀ z ∈ (allP ns r low high).2, Good z.ru) ∧ ∀ z ∈ (allP ns r low high).2, 0 ≤ z.key ∧ z.key < 1099511627776 := by
  unfold allP
  split
  · simp
  · rename_i hc
    have hc' : treeC ns r = 0 := by simpa using hc
    obtain ⟨e1, g1, _⟩ := walk_all (low := low) (high := high) hc'
    rw [← e1]
    cases hA : allL (Wl ns low high 12 r) with
    | none => simp
    | some ys =>
      obtain ⟨q1, q2, q3⟩ := allL_inc _ [] ys (by simp) (by simp) g1 hA
      refine ⟨q1, q2, fun z hz => ?_⟩
      rcases q3 z hz with ⟨y, hy, _⟩ | ⟨y, hy, e⟩
      · simp at hy
      · obtain ⟨q, hW⟩ := treeC_W hc'
        rw [Wl_eq 12 _ _ _ _ _ hW] at hy
        have := W_in 12 _ _ _ _ _ hW y (List.mem_filter.1 hy).1
        omega

theorem allP_max (ns : List Nd) (r : Int) : allP ns r 0 9223372036854775807 = allP ns r 0 1099511627776 := by
  unfold allP
  split
  · rfl
  · rename_i hc
    have hc' : treeC ns r = 0 := by simpa using hc
    obtain ⟨e1, _, _⟩ := walk_all (low := 0) (high := 9223372036854775807) hc'
    obtain ⟨e2, _, _⟩ := walk_all (low := 0) (high := 1099511627776) hc'
    obtain ⟨q, hW⟩ := treeC_W hc'
    have : Wl ns 0 9223372036854775807 12 r = Wl ns 0 1099511627776 12 r := by
      rw [Wl_eq 12 _ _ _ _ _ hW, Wl_eq 12 _ _ _ _ _ hW]
      refine List.filter_congr fun x hx => ?_
      have := W_in 12 _ _ _ _ _ hW x hx
      simp only [inR]
      congr 1
      exact decide_eq_decide.2 (by omega)
    rw [← e1, ← e2, this]

/-! ### Buckets -/

theorem bk_key (x : En) (size : Int) : (bk size x).key = (kp x) * 1048576 + (kt x - kt x % size) := by
  show x.key - x.key % 1048576 % size = x.key / 1048576 * 1048576 + (x.key % 1048576 - x.key % 1048576 % size)
  omega

theorem bk_le {x y : En} (h : x.key < y.key) {size : Int} (hs : size = 60 ∨ size = 3600) : (bk size x).key ≤ (bk size y).key := by
  show x.key - x.key % 1048576 % size ≤ y.key - y.key % 1048576 % size
  have hq : x.key / 1048576 ≤ y.key / 1048576 := Int.ediv_le_ediv (by decide) (Int.le_of_lt h)
  rcases hs with rfl | rfl <;> (rcases Int.lt_or_eq_of_le hq with hq | hq <;> omega)

theorem bk_sorted {l : List En} (hp : l.Pairwise fun a b => a.key < b.key) {size : Int} (hs : size = 60 ∨ size = 3600) : (l.map (bk size)).Pairwise fun a b => a.key ≤ b.key := by
  rw [List.pairwise_map]
  exact hp.imp fun h => bk_le h hs

theorem bk_one (x : En) : bk 1 x = x := by
  unfold bk
  rw [show kt x % 1 = 0 from Int.emod_one _]
  simp

theorem roll_one {l : List En} (h : l.Pairwise fun a b => a.key < b.key) : rollP 1 l = some l := by
  unfold rollP
  rw [show l.map (bk 1) = l by rw [List.map_congr_left (fun x _ => bk_one x), List.map_id']]
  have := allL_id l [] (by simpa using h)
  simpa [allL] using this

theorem book_some {ns : List Nd} {r n f : Int} {l : List En} (h : bookP ns r n f = some l) : (allP ns r 0 1099511627776).1 = 0 ∧ (allP ns r 0 1099511627776).2 = l ∧ l.all (pointB n f) = true := by
  unfold bookP at h
  split at h
  · rename_i hc
    cases h
    exact ⟨hc.1, rfl, hc.2⟩
  · cases h

theorem step_one {ns : List Nd} {r n f : Int} {l : List En} (h : bookP ns r n f = some l) : stepB 1 l ns r = true := by
  obtain ⟨h1, h2, _⟩ := book_some h
  have hp := (allP_facts (ns := ns) (r := r) (low := 0) (high := 1099511627776)).1
  rw [h2] at hp
  unfold stepB
  rw [roll_one hp, h1, h2]
  simp

end Go.Proofs.YtlojfgdpmaigmaeGreatDoor

/- What a tree tells of some keys is what of all that it tells has them. -/
namespace Go.Proofs.YtlojfgdpmaigmaeGreatDoor
open Go.RowKit Plain

end Go.Proofs.YtlojfgdpmaigmaeGreatDoor

/- What the document says of bases: Book, Rolled, and its sameEntries. -/
namespace Go.Proofs.YtlojfgdpmaigmaeGreatDoor
open Go.RowKit Plain

theorem en_ne {x y : En} (h : ¬ x = y) : (x.key == y.key) = false ∨ ((x.key == y.key) = true ∧ (x.c == y.c) = false) ∨ ((x.key == y.key) = true ∧ (x.c == y.c) = true ∧ (x.s == y.s) = false) ∨ ((x.key == y.key) = true ∧ (x.c == y.c) = true ∧ (x.s == y.s) = true ∧ (x.lo == y.lo) = false) ∨ ((x.key == y.key) = true ∧ (x.c == y.c) = true ∧ (x.s == y.s) = true ∧ (x.lo == y.lo) = true ∧ (x.hi == y.hi) = false) ∨ ((x.key == y.key) = true ∧ (x.c == y.c) = true ∧ (x.s == y.s) = true ∧ (x.lo == y.lo) = true ∧ (x.hi == y.hi) = true ∧ (x.t == y.t) = false) ∨ ((x.key == y.key) = true ∧ (x.c == y.c) = true ∧ (x.s == y.s) = true ∧ (x.lo == y.lo) = true ∧ (x.hi == y.hi) = true ∧ (x.t == y.t) = true ∧ (x.l == y.l) = false) := by
  obtain ⟨a0, a1, a2, a3, a4, a5, a6⟩ := x
  obtain ⟨b0, b1, b2, b3, b4, b5, b6⟩ := y
  simp only [En.mk.injEq] at h
  by_cases h0 : a0 = b0 <;> by_cases h1 : a1 = b1 <;> by_cases h2 : a2 = b2 <;> by_cases h3 : a3 = b3 <;> by_cases h4 : a4 = b4 <;> by_cases h5 : a5 = b5 <;> by_cases h6 : a6 = b6 <;> simp_all

set_option maxRecDepth 20000 in
set_option maxHeartbeats 1000000 in
theorem sameR_any (A A' : Option Addr) (C C' : Nat) (xs ys : List En) (w : World) (h : RowAt w.heap.size w A (flatE xs)) (h' : RowAt w.heap.size w A' (flatE ys)) (hz : xs.length * 56 ≤ 140737488351232) (hz' : ys.length * 56 ≤ 140737488351232) :
    Calls Tryz.prog 30 #[.slice A xs.length C, .slice A' ys.length C'] w fun e w' => e = .returned (.bool (decide (xs = ys))) ∧ Below w.heap.size w w' := by
  obtain ⟨nb, hnb⟩ : ∃ nb, nb = decide (xs = ys) := ⟨_, rfl⟩
  rw [← hnb]
  by_cases hl : xs.length = ys.length
  · have HN : Hid (nb = decide (xs = ys)) := hnb
    clear hnb
    go_enter Tryz.func30, Tryz.ntmps30
    go_wp2_with fail
    have hl' : (xs.length : Int) = (ys.length : Int) := by omega
    go_loopw [5] (fun vi wr => ∃ i : Nat, i ≤ xs.length ∧ vi = .int .i64 i ∧ Hid (xs.take i = ys.take i) ∧ Below w.heap.size w wr) (fun vi _ => xs.length - (intOf vi).toNat)
    case atStart => exact ⟨0, Nat.zero_le _, rfl, (by show _ = _; simp), Below.refl _ _⟩
    case round =>
      obtain ⟨i, hi, rfl, HT, hb⟩ := hrel
      by_cases hlt : i < xs.length
      · have hlt' : i < ys.length := by omega
        obtain ⟨b, o, rfl, hbl, c0, c1, c2, c3, c4, c5, c6⟩ := (h.below hb (Nat.le_refl _)).en hlt
        obtain ⟨b', o', rfl, hbl', d0, d1, d2, d3, d4, d5, d6⟩ := (h'.below hb (Nat.le_refl _)).en hlt'
        have hsz := hb.size
        have l1 : b < wr.heap.size := by omega
        have l2 : b' < wr.heap.size := by omega
        by_cases hxy : xs[i] = ys[i]
        · have HT' : Hid (xs.take (i + 1) = ys.take (i + 1)) := by
            show _ = _
            rw [List.take_succ_eq_append_getElem hlt, List.take_succ_eq_append_getElem hlt', HT.out, hxy]
          rw [hxy] at c0 c1 c2 c3 c4 c5 c6
          clear hxy HT
          generalize ys[i] = y at *
          go_wp2_with fail
          go_quiet (fail)
          go_wp2_with fail
          go_roundw
          case rel =>
            go_light
            exact ⟨i + 1, hlt, by go_num, HT', below_drewN hb _⟩
          case measure => simp [intOf]; omega
        · have HF : Hid (nb = false) := by
            show nb = false
            rw [HN.out, decide_eq_false_iff_not]
            intro e
            subst e
            exact hxy rfl
          have hne := en_ne hxy
          clear HT HN hxy
          generalize xs[i] = x at *
          generalize ys[i] = y at *
          rcases hne with k0 | ⟨k0, k1⟩ | ⟨k0, k1, k2⟩ | ⟨k0, k1, k2, k3⟩ | ⟨k0, k1, k2, k3, k4⟩ | ⟨k0, k1, k2, k3, k4, k5⟩ | ⟨k0, k1, k2, k3, k4, k5, k6⟩
          all_goals
            go_wp2_with fail
            go_quiet (fail)
            go_wp2_with fail
            go_ret
            exact ⟨by rw [HF.out]; rfl, below_drewN hb _⟩
      · have HE : Hid (nb = true) := by
          show nb = true
          have q := HT.out
          rw [List.take_of_length_le (by omega), List.take_of_length_le (by omega)] at q
          rw [HN.out, q]
          simp
        go_wp2_with fail
        go_ret
        exact ⟨by rw [HE.out]; rfl, hb⟩
  · have HF : Hid (nb = false) := by
      show nb = false
      rw [hnb]
      simp only [decide_eq_false_iff_not]
      intro e
      exact hl (by rw [e])
    clear hnb
    go_enter Tryz.func30, Tryz.ntmps30
    go_wp2_with fail
    go_ret
    exact ⟨by rw [HF.out]; rfl, Below.refl _ _⟩

theorem roll_take {size : Int} {l : List En} {i : Nat} (hi : i < l.length) : allL ((l.take (i + 1)).map (bk size)) = insO (allL ((l.take i).map (bk size))) (bk size l[i]) := by
  rw [List.take_succ_eq_append_getElem hi, List.map_append, List.map_cons, List.map_nil, allL_snoc]

theorem roll_stop {size : Int} {l : List En} {i : Nat} (h : allL ((l.take i).map (bk size)) = none) : rollP size l = none := by
  unfold rollP
  have e : l = l.take i ++ l.drop i := (List.take_append_drop _ _).symm
  rw [e, List.map_append]
  unfold allL at h ⊢
  rw [List.foldl_append, h]
  exact fold_none _

set_option maxRecDepth 20000 in
set_option maxHeartbeats 1000000 in
theorem rolled_more (A : Option Addr) (C : Nat) (l : List En) (size : Int) (hs : size = 1 ∨ size = 60 ∨ size = 3600) (w : World) (h : RowAt w.heap.size w A (flatE l)) (hz : l.length ≤ 28001) (hg : ∀ x ∈ l, Good x.ru) (hk : ∀ x ∈ l, 0 ≤ x.key ∧ x.key < 1099511627776) (Q : Ending → World → Prop)
    (HQ : Hid (∀ e w', Below w.heap.size w w' → (∀ ys, rollP size l = some ys → ∃ v, e = .returned (.tuple #[v, .bool true]) ∧ w'.ownsRow w.heap.size 73 7 v ys.length (flatE ys)) → (rollP size l = none → e = .returned (.tuple #[.slice none 0 0, .bool false])) → Q e w')) :
    Calls Tryz.prog 60 #[.slice A l.length C, .int .i64 size] w Q := by
  go_enter Tryz.func60, Tryz.ntmps60
  go_wp2_with fail
  go_loopw [6, 7] (fun vo vi wr => ∃ (i : Nat) (out : List En), i ≤ l.length ∧ vi = .int .i64 i ∧ Hid (allL ((l.take i).map (bk size)) = some out) ∧ out.length ≤ i ∧ (∀ y ∈ out, Good y.ru) ∧ wr.ownsRow w.heap.size 73 7 vo out.length (flatE out) ∧ Below w.heap.size w wr) (fun _ vi _ => l.length - (intOf vi).toNat)
  case atStart => exact ⟨0, [], Nat.zero_le _, rfl, (by show _ = _; simp [allL]), by simp, by simp, World.ownsRow_nil _ _ _ _, Below.refl _ _⟩
  case round =>
    obtain ⟨i, out, hi, rfl, HA, hol, hgo, hown, hb⟩ := hrel
    by_cases hlt : i < l.length
    · obtain ⟨b, o, rfl, hbl, c0, c1, c2, c3, c4, c5, c6⟩ := (h.below hb (Nat.le_refl _)).en hlt
      have hsz := hb.size
      have hbr : b < wr.heap.size := by omega
      have hgi := hg _ (List.getElem_mem hlt)
      have hki := hk _ (List.getElem_mem hlt)
      obtain ⟨x, hx⟩ : ∃ x, l[i] = x := ⟨_, rfl⟩
      have HT := roll_take (size := size) hlt
      rw [hx] at c0 c1 c2 c3 c4 c5 c6 hgi hki HT
      have hkm : 0 ≤ x.key % 1048576 ∧ x.key % 1048576 < 1048576 := by omega
      obtain ⟨m, hmm⟩ : ∃ m, m = x.key % 1048576 % size := ⟨_, rfl⟩
      have hm : 0 ≤ m ∧ m ≤ x.key := by rw [hmm]; rcases hs with rfl | rfl | rfl <;> omega
      have HX : Hid (bk size x = ⟨x.key - m, x.c, x.s, x.lo, x.hi, x.t, x.l⟩) := by rw [hmm]; rfl
      have hr : (x.key % 1048576).tmod size = m := by rw [hmm, Int.tmod_eq_emod_of_nonneg hkm.1]
      have hs0 : ¬ size = 0 := by rcases hs with rfl | rfl | rfl <;> decide
      have hs1 : (size == 0) = false := by simpa using hs0
      have hs2 : ¬ size = -1 := by rcases hs with rfl | rfl | rfl <;> decide
      have hkw : IntKind.i64.wrap (x.key - m) = x.key - m := by rw [IntKind.wrap_i64]; omega
      have hmw : IntKind.i64.wrap m = m := by rw [IntKind.wrap_i64]; omega
      have i0 : (0 : Int) ≤ (i : Int) := by omega
      have i1 : (i : Int) < (l.length : Int) := by omega
      have n1 : ¬ b = wr.heap.size := by omega
      have hbr1 : b < wr.heap.size + 1 := by omega
      have KS : ∀ (W : World) (b' o' j : Nat) (v : Value), ¬ b' = wr.heap.size → (W.setCell ⟨wr.heap.size, j, none⟩ v).cell? ⟨b', o', none⟩ = W.cell? ⟨b', o', none⟩ := fun W b' o' j v hb => World.cell?_setCell_far _ _ _ _ (fun e => hb e.symm)
      clear hs hmm
      go_upto_region 6 with fail
      go_cut [9] (fun v9 wc => ∃ rb, v9 = .pointer (some ⟨rb, 0, none⟩) ∧ wr.heap.size ≤ rb ∧ RowL wc rb 73 [.int .i64 (x.key - m), .int .i64 x.c, .int .i64 x.s, .int .i64 x.lo, .int .i64 x.hi, .int .i64 x.t, .int .i64 x.l] ∧ Below wr.heap.size wr wc)
      case first =>
        go_region_held3 (fun w' => w'.cell? ⟨b, o + i * 7, none⟩ = some (.int .i64 x.key) ∧ w'.cell? ⟨b, o + i * 7 + 1, none⟩ = some (.int .i64 x.c) ∧ w'.cell? ⟨b, o + i * 7 + 2, none⟩ = some (.int .i64 x.s) ∧ w'.cell? ⟨b, o + i * 7 + 3, none⟩ = some (.int .i64 x.lo) ∧ w'.cell? ⟨b, o + i * 7 + 4, none⟩ = some (.int .i64 x.hi) ∧ w'.cell? ⟨b, o + i * 7 + 5, none⟩ = some (.int .i64 x.t) ∧ w'.cell? ⟨b, o + i * 7 + 6, none⟩ = some (.int .i64 x.l)) (go_keep) (fail)
        go_wp2
        go_meet
        case rel => exact ⟨wr.heap.size, rfl, Nat.le_refl _, rowL_alloc wr _ _, ((Below.refl _ _).alloc (Nat.le_refl _) _).drew⟩
      case rest =>
        obtain ⟨rb, rfl, hrb, hrw, hbc⟩ := hcut
        have r0 := hrw.cell 0
        have r1 := hrw.cell 1
        have r2 := hrw.cell 2
        have r3 := hrw.cell 3
        have r4 := hrw.cell 4
        have r5 := hrw.cell 5
        have r6 := hrw.cell 6
        simp only [List.getElem?_cons_zero, List.getElem?_cons_succ] at r0 r1 r2 r3 r4 r5 r6
        have hrl := hrw.lt
        obtain ⟨A0, C0, hv, -, -, -, hro⟩ := own_row hown
        have hroc := hro.up hbc
        have hwc : Below w.heap.size w wc := nextB hb (Nat.le_refl _) hbc
        have hcz := hbc.size
        have wc0 := withEntry_any A0 C0 out (bk size x) wc hroc (by omega) hgo hgi
        have hins : insO (some out) (bk size x) = ins out (bk size x) := rfl
        rw [HA.out, hins] at HT
        simp only [HX.out] at wc0 HT
        cases hi1 : ins out ⟨x.key - m, x.c, x.s, x.lo, x.hi, x.t, x.l⟩ with
        | none =>
          rw [hi1] at wc0 HT
          have HE : Hid (rollP size l = none) := roll_stop HT
          simp only at wc0
          clear HT HA
          rw [hv]
          go_wp2_with (go_at_call 83; refine wc0.mono ?_; rintro e w3 ⟨hb3, rfl⟩)
          refine HQ.out _ _ (nextB hwc (Nat.le_refl _) hb3) (fun ys hys => by rw [HE.out] at hys; cases hys) (fun _ => rfl)
        | some zs =>
          rw [hi1] at wc0 HT
          have HE : Hid (allL ((l.take (i + 1)).map (bk size)) = some zs) := HT
          obtain ⟨gz, lz⟩ := ins_good (x := ⟨x.key - m, x.c, x.s, x.lo, x.hi, x.t, x.l⟩) hgi hgo hi1
          simp only at wc0
          clear HT HA
          rw [hv]
          go_wp2_with (go_at_call 83; refine wc0.mono ?_; rintro e w3 ⟨hb3, v3, rfl, ho3⟩)
          exact ⟨⟨i + 1, zs, hlt, by go_num, HE, by omega, gz, own_mono ho3 (by have := hwc.size; omega), nextB hwc (Nat.le_refl _) hb3⟩, by simp only [intOf]; omega⟩
    · have HE : Hid (rollP size l = some out) := by
        have q := HA.out
        rw [List.take_of_length_le (by omega)] at q
        exact q
      clear HA
      go_wp2_with fail
      exact HQ.out _ _ hb (fun ys hys => by rw [HE.out] at hys; cases hys; exact ⟨_, rfl, hown⟩) (fun hn => by rw [HE.out] at hn; cases hn)

theorem rolled_any (A : Option Addr) (C : Nat) (l : List En) (size : Int) (hs : size = 1 ∨ size = 60 ∨ size = 3600) (w : World) (h : RowAt w.heap.size w A (flatE l)) (hz : l.length ≤ 28000) (hg : ∀ x ∈ l, Good x.ru) (hk : ∀ x ∈ l, 0 ≤ x.key ∧ x.key < 1099511627776) (Q : Ending → World → Prop)
    (HQ : Hid (∀ e w', Below w.heap.size w w' → (∀ ys, rollP size l = some ys → ∃ v, e = .returned (.tuple #[v, .bool true]) ∧ w'.ownsRow w.heap.size 73 7 v ys.length (flatE ys)) → (rollP size l = none → e = .returned (.tuple #[.slice none 0 0, .bool false])) → Q e w')) :
    Calls Tryz.prog 60 #[.slice A l.length C, .int .i64 size] w Q :=
  rolled_more A C l size hs w h (by omega) hg hk Q HQ

end Go.Proofs.YtlojfgdpmaigmaeGreatDoor
