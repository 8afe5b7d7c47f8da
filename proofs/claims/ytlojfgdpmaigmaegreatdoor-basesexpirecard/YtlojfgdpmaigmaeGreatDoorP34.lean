/- What comes together of one key, step by step. -/
import Derived.Test.YtlojfgdpmaigmaeGreatDoorP24
import Derived.Test.YtlojfgdpmaigmaeGreatDoorP16
import Derived.Test.YtlojfgdpmaigmaeGreatDoorP22
namespace Go.Proofs.YtlojfgdpmaigmaeGreatDoor
open Go.RowKit Plain

def ansO : Option (List En) → Ru × Int
  | none => (zro, 1)
  | some [] => (zro, 0)
  | some (y :: _) => (y.ru, 0)

def RelO (key : Int) (o : Option (List En)) (s : Ru × Int) : Prop :=
  (o = some [] ∧ s = (zro, 0)) ∨ (∃ y, o = some [y] ∧ y.key = key ∧ Good y.ru ∧ s = (y.ru, 0)) ∨ (o = none ∧ s = (zro, 1))

theorem relO_ans {key : Int} {o : Option (List En)} {s : Ru × Int} (h : RelO key o s) : ansO o = s := by
  rcases h with ⟨rfl, rfl⟩ | ⟨y, rfl, _, _, rfl⟩ | ⟨rfl, rfl⟩ <;> rfl

theorem relO_step {key : Int} {o : Option (List En)} {s : Ru × Int} (h : RelO key o s) {x : En} (hk : x.key = key) (hg : Good x.ru) : RelO key (insO o x) (stepK s x) := by
  rcases h with ⟨rfl, rfl⟩ | ⟨y, rfl, hy, gy, rfl⟩ | ⟨rfl, rfl⟩
  · refine .inr (.inl ⟨x, rfl, hk, hg, ?_⟩)
    unfold stepK
    rw [if_pos rfl]
    exact mrg_zro hg
  · have e : insO (some [y]) x = ins [y] x := rfl
    rw [e, ins_eq (hy.trans hk.symm)]
    unfold stepK
    rw [if_pos rfl]
    show RelO key _ (mrg y.ru x.ru)
    rw [mrg_good gy hg]
    by_cases hc : y.c + x.c ≤ 1073741824
    · rw [if_pos hc, if_pos (show y.ru.c + x.ru.c ≤ 1073741824 from hc)]
      exact .inr (.inl ⟨_, rfl, hk, good_jn gy hg hc, rfl⟩)
    · rw [if_neg hc, if_neg (show ¬ y.ru.c + x.ru.c ≤ 1073741824 from hc)]
      exact .inr (.inr ⟨rfl, rfl⟩)
  · exact .inr (.inr ⟨rfl, rfl⟩)

theorem relO_fold {key : Int} : ∀ (xs : List En) (o : Option (List En)) (s : Ru × Int), RelO key o s → (∀ x ∈ xs, x.key = key ∧ Good x.ru) → RelO key (xs.foldl insO o) (xs.foldl stepK s)
  | [], _, _, h, _ => h
  | x :: xs, o, s, h, hx => relO_fold xs _ _ (relO_step h (hx x (by simp)).1 (hx x (by simp)).2) (fun y hy => hx y (by simp [hy]))

end Go.Proofs.YtlojfgdpmaigmaeGreatDoor

/- What comes together, for one key. -/
namespace Go.Proofs.YtlojfgdpmaigmaeGreatDoor
open Go.RowKit Plain

theorem known_eq {ns : List Nd} {root key : Int} (h : treeC ns root = 0) : (Wl ns key (key + 1) 12 root).foldl stepK (zro, 0) = gotA ns key := by
  obtain ⟨r, hW⟩ := treeC_W h
  have hp := tree_perm h
  obtain ⟨_, hok⟩ := tree_each h
  have good : ∀ x ∈ ns.flatMap (fun x => x.buf ++ x.ents), Good x.ru := fun x hx => by
    obtain ⟨n, hn, hx⟩ := List.mem_flatMap.1 hx
    obtain ⟨i, hi, rfl⟩ := List.getElem_of_mem hn
    obtain ⟨_, _, g1, g2⟩ := hok i hi
    rcases List.mem_append.1 hx with hx | hx
    · exact g2 x hx
    · exact g1 x hx
  have pl : ∀ l : List Nd, (l.flatMap (fun x => x.buf ++ x.ents)).Perm (l.flatMap Nd.lst) := fun l => by
    induction l with
    | nil => simp
    | cons a l ih => simpa [Nd.lst] using List.Perm.append (List.perm_append_comm (l₁ := a.buf) (l₂ := a.ents)) ih
  have e1 : Wl ns key (key + 1) 12 root = (Fl ns 12 root).filter (inR key (key + 1)) := Wl_eq 12 _ _ _ _ _ hW
  have p1 : (Wl ns key (key + 1) 12 root).Perm ((ns.flatMap Nd.lst).filter (inR key (key + 1))) := by
    rw [e1]
    exact (hp.trans (pl ns)).filter _
  have each : ∀ x ∈ Wl ns key (key + 1) 12 root, x.key = key ∧ Good x.ru := fun x hx => by
    rw [e1] at hx
    obtain ⟨m, q⟩ := List.mem_filter.1 hx
    have q' : key ≤ x.key ∧ x.key < key + 1 := by simpa [inR] using q
    exact ⟨by omega, good x (hp.subset m)⟩
  have := relO_ans (relO_fold (key := key) (Wl ns key (key + 1) 12 root) (some []) (zro, 0) (.inl ⟨rfl, rfl⟩) each)
  rw [← this]
  have e2 : (Wl ns key (key + 1) 12 root).foldl insO (some []) = allR key (key + 1) (ns.flatMap Nd.lst) := allL_perm p1 (fun x hx => (good_iff.1 (each x hx).2).1.1)
  rw [e2]
  unfold gotA
  cases allR key (key + 1) (ns.flatMap Nd.lst) with
  | none => rfl
  | some ys => cases ys <;> rfl

end Go.Proofs.YtlojfgdpmaigmaeGreatDoor

/- tree.knownAt and tree.Get. -/
namespace Go.Proofs.YtlojfgdpmaigmaeGreatDoor
open Go.RowKit Plain

theorem four_rows (w : World) (o : Obj) (l1 l2 l3 : List Value) (t1 t2 t3 : TypeId) {W : World} (hW : W = (((w.alloc o).alloc (.cells l1.toArray t1)).alloc (.cells l2.toArray t2)).alloc (.cells l3.toArray t3)) :
    RowL W (w.heap.size + 1) t1 l1 ∧ RowL W (w.heap.size + 1 + 1) t2 l2 ∧ RowL W (w.heap.size + 1 + 1 + 1) t3 l3 ∧ Below w.heap.size w W ∧ W.heap.size = w.heap.size + 4 := by
  subst hW
  have s0 : (w.alloc o).heap.size = w.heap.size + 1 := by simp
  have s1 : ((w.alloc o).alloc (.cells l1.toArray t1)).heap.size = w.heap.size + 1 + 1 := by simp
  have s2 : (((w.alloc o).alloc (.cells l1.toArray t1)).alloc (.cells l2.toArray t2)).heap.size = w.heap.size + 1 + 1 + 1 := by simp
  have s3 : ((((w.alloc o).alloc (.cells l1.toArray t1)).alloc (.cells l2.toArray t2)).alloc (.cells l3.toArray t3)).heap.size = w.heap.size + 4 := by simp
  have r1 : RowL ((w.alloc o).alloc (.cells l1.toArray t1)) (w.heap.size + 1) t1 l1 := by have := rowL_alloc (w.alloc o) l1 t1; rwa [s0] at this
  have r2 : RowL (((w.alloc o).alloc (.cells l1.toArray t1)).alloc (.cells l2.toArray t2)) (w.heap.size + 1 + 1) t2 l2 := by have := rowL_alloc ((w.alloc o).alloc (.cells l1.toArray t1)) l2 t2; rwa [s1] at this
  have r3 : RowL ((((w.alloc o).alloc (.cells l1.toArray t1)).alloc (.cells l2.toArray t2)).alloc (.cells l3.toArray t3)) (w.heap.size + 1 + 1 + 1) t3 l3 := by have := rowL_alloc (((w.alloc o).alloc (.cells l1.toArray t1)).alloc (.cells l2.toArray t2)) l3 t3; rwa [s2] at this
  refine ⟨(r1.of_block (Below.heap_alloc _ _ _ (by omega))).of_block (Below.heap_alloc _ _ _ (by omega)), r2.of_block (Below.heap_alloc _ _ _ (by omega)), r3, ?_, s3⟩
  exact ((((Below.refl _ _).alloc (Nat.le_refl _) _).alloc (by omega) _).alloc (by omega) _).alloc (by omega) _

set_option maxRecDepth 20000 in
set_option maxHeartbeats 4000000 in
theorem knownAt_any (A : Option Addr) (C : Nat) (r place key : Int) (ps : List PN) (w : World) (hN : NodesAt w.heap.size w A ps) (hr : Reach (ps.map PN.nd) 12 place) (hk : 0 ≤ key ∧ key ≤ 1099511627775) (s : Ru × Int) (hs : Hid ((Wl (ps.map PN.nd) key (key + 1) 12 place).foldl stepK (zro, 0) = s)) :
    Calls Tryz.prog 76 #[.agg #[.slice A ps.length C, .int .i64 r], .int .i64 place, .int .i64 key] w
      fun e w' => e = .returned (.tuple #[.agg #[.int .i64 s.1.c, .int .i64 s.1.s, .int .i64 s.1.lo, .int .i64 s.1.hi, .int .i64 s.1.t, .int .i64 s.1.l], .int .i64 s.2]) ∧ Below w.heap.size w w' := by
  obtain ⟨W4, hW4⟩ : ∃ W4, W4 = (((w.alloc (.cells #[.slice A ps.length C, .int .i64 r] 25)).alloc (.cells #[.int .i64 0, .int .i64 0, .int .i64 0, .int .i64 0, .int .i64 0, .int .i64 0] 45)).alloc (.cells #[.int .i64 0, .int .i64 0, .int .i64 0, .int .i64 0, .int .i64 0, .int .i64 0] 45)).alloc (.cells #[.int .i64 0] 29) := ⟨_, rfl⟩
  obtain ⟨r1, r2, r3, hb4, hz4⟩ := four_rows w _ (ruV zro) (ruV zro) [.int .i64 0] _ _ _ hW4
  have con : Calls Tryz.prog 85 #[.agg #[.slice A ps.length C, .int .i64 r], .int .i64 place, .int .i64 key, .int .i64 (key + 1), .func (Fn.func 96) #[] #[.pointer (some ⟨w.heap.size + 1 + 1 + 1, 0, none⟩), .pointer (some ⟨w.heap.size + 1 + 1, 0, none⟩)]] W4
      fun e w' => e = .returned (.tuple #[]) ∧ RowL w' (w.heap.size + 1) 45 (ruV zro) ∧ RowL w' (w.heap.size + 1 + 1) 45 (ruV s.1) ∧ RowL w' (w.heap.size + 1 + 1 + 1) 29 [.int .i64 s.2] ∧ Below w.heap.size w w' := by
    have V := visK (w.heap.size + 1 + 1) (w.heap.size + 1 + 1 + 1)
    have far : ∀ k, XK (w.heap.size + 1 + 1) (w.heap.size + 1 + 1 + 1) W4 k → w.heap.size ≤ k := fun k hk => by rcases hk with rfl | rfl <;> omega
    refine (walk_any (w.heap.size + 1 + 1) (w.heap.size + 1 + 1 + 1) V A C r ps w.heap.size key (key + 1) 12 place (zro, 0) W4 hr (hN.below hb4 (Nat.le_refl _)) ⟨by omega, r2, r3⟩ (by omega) far).mono ?_
    rintro e w' ⟨rfl, hK, hT⟩
    rw [hs.out] at hK
    exact ⟨rfl, hT.row r1 (by rintro (h | h) <;> omega), hK.rk, hK.rc, hb4.trans (hT.below (by omega) far)⟩
  subst hW4
  clear r1 r2 r3 hb4 hz4 hs hr
  go_enter Tryz.func76, Tryz.ntmps76
  go_wp2_with (go_at_call 85; refine con.mono ?_; rintro e w1 ⟨rfl, q1, q2, q3, hb1⟩; have d1 := fun j => q1.cell j; have f1 := fun j => q1.frozen j; have d2 := fun j => q2.cell j; have d3 := fun j => q3.cell j; simp only [ruV] at d1 d2; have l1 := q1.lt; have l2 := q2.lt; have l3 := q3.lt)
  clear con
  obtain ⟨n1, hn1⟩ : ∃ n, n = w.heap.size + 1 := ⟨_, rfl⟩
  obtain ⟨n2, hn2⟩ : ∃ n, n = w.heap.size + 1 + 1 := ⟨_, rfl⟩
  obtain ⟨n3, hn3⟩ : ∃ n, n = w.heap.size + 1 + 1 + 1 := ⟨_, rfl⟩
  have x12 : ¬ n1 = n2 := by omega
  have x21 : ¬ n2 = n1 := by omega
  have x13 : ¬ n1 = n3 := by omega
  have x31 : ¬ n3 = n1 := by omega
  have HN1 : Hid (w.heap.size ≤ n1) := by show _ ≤ _; omega
  rw [← hn3, ← hn2, ← hn1]
  rw [← hn1] at d1 f1 l1
  rw [← hn2] at d2 l2
  rw [← hn3] at d3 l3
  clear hn1 hn2 hn3 q1 q2 q3
  go_region
  all_goals (try go_wp2)
  exact bodyPost_ret (v := .tuple #[.agg #[.int .i64 s.1.c, .int .i64 s.1.s, .int .i64 s.1.lo, .int .i64 s.1.hi, .int .i64 s.1.t, .int .i64 s.1.l], .int .i64 s.2]) (by simp [results, Tryz.results76, go_sem, d1]) rfl ⟨rfl, (set6 hb1 HN1.out _ _ _ _ _ _).drew⟩

end Go.Proofs.YtlojfgdpmaigmaeGreatDoor
