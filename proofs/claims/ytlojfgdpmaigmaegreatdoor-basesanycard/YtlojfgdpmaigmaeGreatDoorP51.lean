/- A base in memory, and the points that it knows: what the calls make of it. -/
import Derived.Test.YtlojfgdpmaigmaeGreatDoorP50
import Derived.Test.YtlojfgdpmaigmaeGreatDoorP37
import Derived.Test.YtlojfgdpmaigmaeGreatDoorP49
import Derived.Test.YtlojfgdpmaigmaeGreatDoorP44
import Derived.Deep.AppendLies
import Derived.Test.YtlojfgdpmaigmaeGreatDoorP42
namespace Go.Proofs.YtlojfgdpmaigmaeGreatDoor
open Go.RowKit Plain Go.Shelf

structure BaseAt (w : World) (A : Option Addr) (C : Nat) (ss : List ByteArray) (t0 t1 t2 : TR) : Prop where
  nn : A = none → C = 0
  len : ss.length ≤ C
  st : StrsAt w.heap.size w A ss
  o0 : t0.ok w
  o1 : t1.ok w
  o2 : t2.ok w

/-- The points that a base knows. -/
def KB (ss : List ByteArray) (f : Int) (t0 t1 t2 : TR) (pts : List Pt) : Prop := ∃ L0 L1 L2, KnowsB ss f (t0.ps.map PN.nd) t0.r (t1.ps.map PN.nd) t1.r (t2.ps.map PN.nd) t2.r pts L0 L1 L2

section
variable {B C : Nat} {A : Option Addr} {ss : List ByteArray} {t0 t1 t2 : TR} {f : Int} {pts : List Pt} {w w' : World}

theorem BaseAt.up (h : BaseAt w A C ss t0 t1 t2) (hb : Below w.heap.size w w') : BaseAt w' A C ss t0 t1 t2 :=
  ⟨h.nn, h.len, h.st.up hb, ⟨h.o0.1.up hb, h.o0.2⟩, ⟨h.o1.1.up hb, h.o1.2⟩, ⟨h.o2.1.up hb, h.o2.2⟩⟩

theorem OwnB.at (h : OwnB B w A C ss t0 t1 t2) (k : KB ss f t0 t1 t2 pts) : BaseAt w A C ss t0 t1 t2 := by
  obtain ⟨L0, L1, L2, k⟩ := k
  obtain ⟨A', C', e, hn, hl, _, hr⟩ := own_row h.sr
  cases e
  obtain ⟨g0, e0, n0⟩ := h.n0
  obtain ⟨g1, e1, n1⟩ := h.n1
  obtain ⟨g2, e2, n2⟩ := h.n2
  have k0 := (allP_zero k.lst.a0).1
  have k1 := (allP_zero k.lst.a1).1
  have k2 := (allP_zero k.lst.a2).1
  have hs := h.sn
  exact ⟨hn, hl, ⟨hr, by omega, h.se⟩, ⟨by rw [e0]; exact n0.nodes, treeC_wf k0, root_wf k0⟩, ⟨by rw [e1]; exact n1.nodes, treeC_wf k1, root_wf k1⟩, ⟨by rw [e2]; exact n2.nodes, treeC_wf k2, root_wf k2⟩⟩

theorem OwnB.next (h : OwnB B w A C ss t0 t1 t2) (hb : Below w.heap.size w w') : OwnB B w' A C ss t0 t1 t2 :=
  h.keep (Nat.le_refl _) fun k _ hk => hb.block k hk

theorem OwnB.set8 (h : OwnB B w A C ss t0 t1 t2) {b : Nat} (hb : b < B) (x0 x1 x2 x3 x4 x5 x6 x7 : Value) : OwnB B (set8 w b x0 x1 x2 x3 x4 x5 x6 x7) A C ss t0 t1 t2 :=
  h.keep (Nat.le_refl _) fun k hk _ => set8_far _ _ _ _ _ _ _ _ _ _ k (by omega)

/-- What Add answers, where the point may be and there is room. -/
def AddKn (ss : List ByteArray) (f : Int) (pts : List Pt) (w : World) (e : Ending) (w' : World) : Prop :=
  ∃ (A : Option Addr) (C : Nat) (t0 t1 t2 : TR), e = .returned (.tuple #[.agg (baseV A C ss t0 t1 t2 f).toArray, .int .i64 0]) ∧ OwnB w.heap.size w' A C ss t0 t1 t2 ∧ KB ss f t0 t1 t2 pts ∧ Below w.heap.size w w'

theorem badd_kn (hZ : SzAt w) (hB : BaseAt w A C ss t0 t1 t2) (hK : KB ss f t0 t1 t2 pts) {s : ByteArray} {t v : Int} (hs : s.size ≤ 140737488351232) (hp : ptC s t v f = 0) (hl : (withS ss s).length ≤ 16) (hn : pts.length ≤ 900) :
    Calls Tryz.prog 22 #[.agg (baseV A C ss t0 t1 t2 f).toArray, .agg #[.string s, .int .i64 t, .int .i64 v]] w (AddKn (withS ss s) f (pts ++ [⟨s, t, v⟩]) w) := by
  obtain ⟨L0, L1, L2, k⟩ := hK
  refine (badd_any A C ss t0 t1 t2 f s t v w hZ hB.len hB.st hs hB.o0 hB.o1 hB.o2).mono ?_
  rintro e w' ⟨hb, h⟩
  rcases h with ⟨c, _, hno, _⟩ | ⟨A', C', u0, u1, u2, K0, K1, K2, M0, M1, M2, hy, rfl, _, _, _, _, _, _, ho⟩
  · exact absurd hno (k.add_ok hp hl hn)
  · exact ⟨A', C', u0, u1, u2, rfl, ho, ⟨M0, M1, M2, k.add hy⟩, hb⟩

theorem idx_lt : ∀ (zs : List ByteArray) (x : ByteArray) (i : Nat), Lib.idxFromS zs x i < i + zs.length ∨ Lib.idxFromS zs x i = -1
  | [], _, _ => .inr rfl
  | z :: zs, x, i => by
    by_cases hz : z = x
    · left
      simp only [Lib.idxFromS, hz, if_true, List.length_cons]
      omega
    · simp only [Lib.idxFromS, hz, if_false, List.length_cons]
      rcases idx_lt zs x (i + 1) with h | h
      · left; omega
      · exact .inr h

theorem idx_16 {x : ByteArray} {p : Int} (hx : Lib.idxOfS ss x = p) (hf : ss.length ≤ 16) : p < 16 := by
  have k := idx_lt ss x 0
  have e : Lib.idxFromS ss x 0 = p := hx
  rw [e] at k
  omega

theorem series_no (hZ : SzAt w) (hB : BaseAt w A C ss t0 t1 t2) (hK : KB ss f t0 t1 t2 pts) {x : ByteArray} (hx : Lib.idxOfS ss x < 0) :
    Hid (∀ V, Below w.heap.size w V → Calls Tryz.prog 32 #[.agg (baseV A C ss t0 t1 t2 f).toArray, .string x] V fun e w' => e = .returned (.tuple #[.int .i64 0, .int .i64 6]) ∧ Below V.heap.size V w') := fun V hV => by
  obtain ⟨L0, L1, L2, k⟩ := hK
  have hB' := hB.up hV
  have c := series_any A C ss t0 t1 t2 f x V (hZ.below hV) hB'.len hB'.st hB'.o0 hB'.o1 hB'.o2 true k.ok
  simp only [if_true, hx] at c
  exact c

theorem total_kn (hZ : SzAt w) (hB : BaseAt w A C ss t0 t1 t2) (hK : KB ss f t0 t1 t2 pts) {x : ByteArray} {a b : Int} (hx : 0 ≤ Lib.idxOfS ss x) (hsp : spanB a b = true) (hn : pts.length ≤ 100000) :
    Calls Tryz.prog 16 #[.agg (baseV A C ss t0 t1 t2 f).toArray, .string x, .int .i64 a, .int .i64 b] w (MaTo (sumR (ofPts x a b pts), 0) w) := by
  obtain ⟨L0, L1, L2, k⟩ := hK
  have c := total_ok A C ss t0 t1 t2 f x a b _ L0 L1 L2 w hZ hB.len hB.st hB.o0 hB.o1 hB.o2 k.ok k.lst rfl hx (idx_16 rfl k.lst.few) hsp
  rw [k.total rfl hx hn] at c
  exact c

theorem total_no (hZ : SzAt w) (hB : BaseAt w A C ss t0 t1 t2) (hK : KB ss f t0 t1 t2 pts) {x : ByteArray} {a b : Int} (hx : Lib.idxOfS ss x < 0) :
    Calls Tryz.prog 16 #[.agg (baseV A C ss t0 t1 t2 f).toArray, .string x, .int .i64 a, .int .i64 b] w (MaTo (zro, 6) w) :=
  total_c A C ss t0 t1 t2 f x a b w 6 0 rfl (series_no hZ hB hK hx)

end

theorem kb_new : KnowsB [] 0 ([zleaf].map PN.nd) 0 ([zleaf].map PN.nd) 0 ([zleaf].map PN.nd) 0 [] [] [] [] := by
  obtain ⟨L0, L1, L2, hL⟩ := baseL new_base
  obtain ⟨rfl, rfl, rfl⟩ := new_L hL
  exact ⟨new_base, hL, rfl, fun p hp => by simp at hp⟩

/-- What New answers. -/
theorem bnew_kn (w : World) : Calls Tryz.prog 21 #[] w fun e w' => ∃ t0 t1 t2, e = .returned (.agg (baseV none 0 [] t0 t1 t2 0).toArray) ∧ OwnB w.heap.size w' none 0 [] t0 t1 t2 ∧ KB [] 0 t0 t1 t2 [] ∧ Below w.heap.size w w' := by
  refine (bnew_own w).mono ?_
  rintro e w' ⟨g0, g1, g2, rfl, n0, n1, n2, hb⟩
  exact ⟨⟨some ⟨g0, 0, none⟩, 1, [zleaf], 0⟩, ⟨some ⟨g1, 0, none⟩, 1, [zleaf], 0⟩, ⟨some ⟨g2, 0, none⟩, 1, [zleaf], 0⟩, rfl, ⟨World.ownsRow_nil _ _ _ _, by simp, by simp, ⟨g0, rfl, n0⟩, ⟨g1, rfl, n1⟩, ⟨g2, rfl, n2⟩⟩, ⟨[], [], [], kb_new⟩, hb⟩

end Go.Proofs.YtlojfgdpmaigmaeGreatDoor

/- Rows of a base whose points are known: in plain terms, and what the call answers. -/
namespace Go.Proofs.YtlojfgdpmaigmaeGreatDoor
open Go.RowKit Plain Go.Shelf

theorem q_fold (q : Int → Int) : ∀ (xs o l : List En), (∀ y ∈ xs, Good y.ru) → (∀ y ∈ o, Good y.ru) → xs.foldl insO (some o) = some l → Eqv ((o ++ xs).map (kq q)) (l.map (kq q))
  | [], o, l, _, ho, h => by
    cases h
    rw [List.append_nil]
    exact Eqv.refl (pos_kq ho)
  | x :: xs, o, l, hx, ho, h => by
    rw [List.foldl_cons] at h
    cases hi : insO (some o) x with
    | none => rw [hi, fold_none] at h; cases h
    | some o' =>
      rw [hi] at h
      have hi' : ins o x = some o' := hi
      have hx0 := hx x List.mem_cons_self
      have hxs : ∀ y ∈ xs, Good y.ru := fun y hy => hx y (List.mem_cons_of_mem _ hy)
      have ih := q_fold q xs o' l hxs (ins_good hx0 ho hi').1 h
      have s := (q_ins q hx0 ho hi').app (pos_kq (q := q) hxs)
      rw [← List.map_append, ← List.map_append, List.append_assoc] at s
      exact s.trans ih

theorem q_all (q : Int → Int) {xs l : List En} (hx : ∀ y ∈ xs, Good y.ru) (h : allL xs = some l) : allL (xs.map (kq q)) = allL (l.map (kq q)) := by
  have := q_fold q xs [] l hx (by simp) h
  simpa using this.eq

/-- What points come to, in buckets of a size. -/
def ptBk (ss : List ByteArray) (sz : Int) (p : Pt) : En := bk sz (ptIn ss p)

theorem ptBk_good {ss : List ByteArray} {sz f : Int} {p : Pt} (hp : p.ok f) : Good (ptBk ss sz p).ru := ptIn_good (ss := ss) hp

section
variable {ss : List ByteArray} {f : Int} {n0 n1 n2 : List Nd} {r0 r1 r2 : Int} {pts : List Pt} {L0 L1 L2 : List En}

theorem KnowsB.rolled (h : KnowsB ss f n0 r0 n1 r1 n2 r2 pts L0 L1 L2) {sz : Int} {M : List En} (hr : rollP sz L0 = some M) : allL (pts.map (ptBk ss sz)) = some M := by
  have e := q_all (fun k => k - k % 1048576 % sz) (xs := pts.map (ptIn ss)) (l := L0) (fun y hy => by
    obtain ⟨p, hp, rfl⟩ := List.mem_map.1 hy
    exact ptIn_good (h.pt p hp).2) h.all
  rw [List.map_map] at e
  exact e.trans hr
end

theorem filter_one {M : List En} (hp : M.Pairwise fun a b => a.key < b.key) {y : En} (hy : y ∈ M) : M.filter (fun z => decide (z.key = y.key)) = [y] := by
  induction M with
  | nil => simp at hy
  | cons x r ih =>
    obtain ⟨h1, h2⟩ := List.pairwise_cons.1 hp
    rcases List.mem_cons.1 hy with rfl | hy
    · rw [List.filter_cons_of_pos (by simp), List.filter_eq_nil_iff.2 (fun z hz => by have := h1 z hz; simp; omega)]
    · rw [List.filter_cons_of_neg (by have := h1 y hy; simp; omega), ih h2 hy]

/-- What is known of a key is what all entries of it come to. -/
theorem key_tot {xs M : List En} (hg : ∀ y ∈ xs, Good y.ru) (h : allL xs = some M) {y : En} (hy : y ∈ M) : tot (xs.filter fun z => decide (z.key = y.key)) = (y.ru, 0) := by
  obtain ⟨hp, _, _⟩ := allL_inc xs [] M (by simp) (by simp) hg h
  have h1 := allL_filter (P := fun k => decide (k = y.key)) xs [] M (by simp) h
  rw [filter_one hp hy] at h1
  have h2 := relO_fold (key := y.key) (xs.filter fun z => decide (z.key = y.key)) (some []) (zro, 0) (.inl ⟨rfl, rfl⟩) (fun x hx => by
    obtain ⟨q1, q2⟩ := List.mem_filter.1 hx
    exact ⟨by simpa using q2, hg x q1⟩)
  have h3 : (xs.filter fun z => decide (z.key = y.key)).foldl insO (some []) = some [y] := h1
  rw [h3] at h2
  exact (relO_ans h2).symm

/-- The rows of a series. -/
structure RowsR (x : ByteArray) (sz : Int) (pts : List Pt) (R : List En) : Prop where
  mod : ∀ y ∈ R, y.key % sz = 0
  rng : ∀ y ∈ R, 0 ≤ y.key ∧ y.key ≤ 1048575
  ru : ∀ y ∈ R, y.ru = sumR (ofPts x y.key (y.key + sz - 1) pts)
  pos : ∀ y ∈ R, y.c ≠ 0
  inc : R.Pairwise fun a b => a.key < b.key
  sum : sumC R = (sumR (ofPts x 0 1048575 pts)).c
  len : R.length ≤ pts.length

theorem sumC_rowE : ∀ l : List En, sumC (l.map rowE) = sumC l
  | [] => rfl
  | y :: r => by
    simp only [List.map_cons, sumC, sumC_rowE r]
    rfl

theorem tot_bk (ss : List ByteArray) (sz : Int) (l : List Pt) : tot (l.map (ptBk ss sz)) = tot (l.map (ptIn ss)) := by
  unfold tot
  rw [← tot_z0, ← tot_z0 (l.map (ptIn ss)), List.map_map, List.map_map]
  rfl

theorem bk_in {ss : List ByteArray} {f sz i T : Int} {x : ByteArray} {p : Pt} (hs : sz = 1 ∨ sz = 60 ∨ sz = 3600) (hm : p.s ∈ ss) (hp : p.ok f) (hx : Lib.idxOfS ss x = i) (_ : 0 ≤ i) (hT : T % sz = 0) (hT2 : 0 ≤ T ∧ T ≤ 1048575) :
    decide ((ptBk ss sz p).key = i * 1048576 + T) = inPt x T (T + sz - 1) p := by
  have h0 := hp.t0
  have h1 := hp.t1
  obtain ⟨k, hk, ek, hd⟩ := idx_at hm
  have e : (ptBk ss sz p).key = (k : Int) * 1048576 + (p.t - p.t % sz) := by
    show Lib.idxOfS ss p.s * 1048576 + p.t - (Lib.idxOfS ss p.s * 1048576 + p.t) % 1048576 % sz = _
    rw [ek, show ((k : Int) * 1048576 + p.t) % 1048576 = p.t by omega]
    omega
  rw [e]
  have hsx : p.s = x ↔ (k : Int) = i := by
    constructor
    · intro e1
      rw [← hx, ← e1, ek]
    · intro e1
      have hxm : x ∈ ss := by
        rw [← Lib.idxOfS_nonneg_iff]
        omega
      obtain ⟨j, hj, ej, hdj⟩ := idx_at hxm
      have : j = k := by omega
      rw [← hd, ← hdj, this]
  rw [Bool.eq_iff_iff]
  simp only [inPt, Bool.and_eq_true, decide_eq_true_eq, hsx]
  constructor
  · intro h
    rcases hs with rfl | rfl | rfl <;> omega
  · intro h
    rcases hs with rfl | rfl | rfl <;> omega

theorem rowsR_of {ss : List ByteArray} {f sz i : Int} {x : ByteArray} {pts : List Pt} {M : List En} (hs : sz = 1 ∨ sz = 60 ∨ sz = 3600) (hpt : ∀ p ∈ pts, p.s ∈ ss ∧ p.ok f) (hx : Lib.idxOfS ss x = i) (hi : 0 ≤ i) (hM : allL (pts.map (ptBk ss sz)) = some M) (hn : pts.length ≤ 100000) : RowsR x sz pts ((M.filter (selB i 0 1048575)).map rowE) := by
  have hg : ∀ y ∈ pts.map (ptBk ss sz), Good y.ru := fun y hy => by
    obtain ⟨p, hp, rfl⟩ := List.mem_map.1 hy
    exact ptBk_good (hpt p hp).2
  obtain ⟨hinc, hgM, hkey⟩ := allL_inc _ [] M (by simp) (by simp) hg hM
  have hsel : ∀ y : En, selB i 0 1048575 y = decide (y.key / 1048576 = i) := fun y => by
    unfold selB kp kt
    rw [Bool.eq_iff_iff]
    simp only [Bool.and_eq_true, decide_eq_true_eq]
    omega
  have hfil : M.filter (selB i 0 1048575) = M.filter (fun y => decide (y.key / 1048576 = i)) := List.filter_congr fun y _ => hsel y
  have hmem : ∀ y ∈ M.filter (selB i 0 1048575), y ∈ M ∧ y.key = i * 1048576 + kt y ∧ kt y % sz = 0 ∧ 0 ≤ kt y ∧ kt y ≤ 1048575 := fun y hy => by
    rw [hfil] at hy
    obtain ⟨h1, h2⟩ := List.mem_filter.1 hy
    have h2' : y.key / 1048576 = i := by simpa using h2
    refine ⟨h1, ?_, ?_, ?_, ?_⟩
    · unfold kt; omega
    · rcases hkey y h1 with ⟨z, hz, _⟩ | ⟨z, hz, e⟩
      · simp at hz
      · obtain ⟨p, hp, rfl⟩ := List.mem_map.1 hz
        have h0 := (hpt p hp).2.t0
        have h3 := (hpt p hp).2.t1
        have e1 := bk_key (ptIn ss p) sz
        have e2 : y.key = kp (ptIn ss p) * 1048576 + (kt (ptIn ss p) - kt (ptIn ss p) % sz) := e.symm.trans e1
        have e3 : kt (ptIn ss p) = p.t := by
          obtain ⟨k, hk, ek, hd⟩ := idx_at (hpt p hp).1
          show (Lib.idxOfS ss p.s * 1048576 + p.t) % 1048576 = p.t
          rw [ek]; omega
        rw [e3] at e2
        obtain ⟨B, hB⟩ : ∃ B, p.t - p.t % sz = B := ⟨_, rfl⟩
        have hB2 : 0 ≤ B ∧ B ≤ 1048575 ∧ B % sz = 0 := by
          rw [← hB]
          rcases hs with rfl | rfl | rfl <;> omega
        have e4 : kt y = B := by
          show y.key % 1048576 = B
          omega
        rw [e4]
        exact hB2.2.2
    · unfold kt; omega
    · unfold kt; omega
  refine ⟨?_, ?_, ?_, ?_, ?_, ?_, ?_⟩
  · intro y hy
    obtain ⟨z, hz, rfl⟩ := List.mem_map.1 hy
    exact (hmem z hz).2.2.1
  · intro y hy
    obtain ⟨z, hz, rfl⟩ := List.mem_map.1 hy
    exact (hmem z hz).2.2.2
  · intro y hy
    obtain ⟨z, hz, rfl⟩ := List.mem_map.1 hy
    obtain ⟨m1, m2, m3, m4⟩ := hmem z hz
    have h1 := key_tot hg hM m1
    have e : ((pts.map (ptBk ss sz)).filter fun y => decide (y.key = z.key)) = (ofPts x (kt z) (kt z + sz - 1) pts).map (ptBk ss sz) := by
      rw [List.filter_map]
      congr 1
      refine List.filter_congr fun p hp => ?_
      have := bk_in hs (hpt p hp).1 (hpt p hp).2 hx hi m3 m4
      rw [← m2] at this
      exact this
    rw [e, tot_bk] at h1
    have hsub : ∀ p ∈ ofPts x (kt z) (kt z + sz - 1) pts, p ∈ pts := fun p hp => (List.mem_filter.1 hp).1
    have hl : (ofPts x (kt z) (kt z + sz - 1) pts).length ≤ pts.length := List.length_filter_le _ _
    have h2 := (tot_pts ss (fun p hp => ⟨f, (hpt p (hsub p hp)).2⟩) (by omega)).1
    rw [h2] at h1
    exact (Prod.mk.inj h1).1.symm
  · intro y hy
    obtain ⟨z, hz, rfl⟩ := List.mem_map.1 hy
    have := (good_iff.1 (hgM z (hmem z hz).1)).1.1
    show z.c ≠ 0
    have e : z.ru.c = z.c := rfl
    omega
  · rw [List.pairwise_map]
    refine (hinc.filter _).imp_of_mem fun {a b} ha hb hab => ?_
    have := (hmem a ha).2.1
    have := (hmem b hb).2.1
    show kt a < kt b
    omega
  · rw [sumC_rowE, hfil]
    have h1 := allL_filter (P := fun k => decide (k / 1048576 = i)) (pts.map (ptBk ss sz)) [] M (by simp) hM
    have h2 := all_sum (xs := (pts.map (ptBk ss sz)).filter fun z => decide (z.key / 1048576 = i)) h1
    rw [h2]
    have e : ((pts.map (ptBk ss sz)).filter fun z => decide (z.key / 1048576 = i)) = (ofPts x 0 1048575 pts).map (ptBk ss sz) := by
      rw [List.filter_map]
      congr 1
      refine List.filter_congr fun p hp => ?_
      have h0 := (hpt p hp).2.t0
      have h3 := (hpt p hp).2.t1
      obtain ⟨k, hk, ek, hd⟩ := idx_at (hpt p hp).1
      have e1 : (ptBk ss sz p).key / 1048576 = k := by
        show (Lib.idxOfS ss p.s * 1048576 + p.t - (Lib.idxOfS ss p.s * 1048576 + p.t) % 1048576 % sz) / 1048576 = k
        rw [ek, show ((k : Int) * 1048576 + p.t) % 1048576 = p.t by omega]
        rcases hs with rfl | rfl | rfl <;> omega
      show decide ((ptBk ss sz p).key / 1048576 = i) = inPt x 0 1048575 p
      rw [e1]
      have := sel_pt (a := 0) (b := 1048575) (hpt p hp).1 hx hi (hpt p hp).2
      rw [← this]
      unfold selK keyB
      have k1 : (ptIn ss p).key / 1048576 = k := by
        show (Lib.idxOfS ss p.s * 1048576 + p.t) / 1048576 = k
        rw [ek]; omega
      rw [k1, Bool.eq_iff_iff]
      simp only [Bool.and_eq_true, decide_eq_true_eq]
      omega
    rw [e]
    have hs1 : sumC ((ofPts x 0 1048575 pts).map (ptBk ss sz)) = (ofPts x 0 1048575 pts).length := by
      have : ∀ l : List Pt, sumC (l.map (ptBk ss sz)) = l.length := fun l => by
        induction l with
        | nil => rfl
        | cons p r ih =>
          simp only [List.map_cons, sumC, ih, List.length_cons]
          show (1 : Int) + _ = _
          omega
      exact this _
    rw [hs1]
    have hsub : ∀ p ∈ ofPts x 0 1048575 pts, p ∈ pts := fun p hp => (List.mem_filter.1 hp).1
    have hl : (ofPts x 0 1048575 pts).length ≤ pts.length := List.length_filter_le _ _
    exact (tot_pts ss (fun p hp => ⟨f, (hpt p (hsub p hp)).2⟩) (by omega)).2.symm
  · rw [List.length_map]
    have h1 : (M.filter (selB i 0 1048575)).length ≤ M.length := List.length_filter_le _ _
    have h2 := (allL_facts hg hM).2.1
    rw [List.length_map] at h2
    omega

end Go.Proofs.YtlojfgdpmaigmaeGreatDoor

/- base.Rows of a base whose points are known. -/
namespace Go.Proofs.YtlojfgdpmaigmaeGreatDoor
open Go.RowKit Plain Go.Shelf

/-- What Rows answers of all times of a series. -/
def RowsAns (ss : List ByteArray) (x : ByteArray) (sz : Int) (pts : List Pt) (w : World) (e : Ending) (w' : World) : Prop :=
  ∃ R : List En, (∃ M, allL (pts.map (ptBk ss sz)) = some M ∧ R = (M.filter (selB (Lib.idxOfS ss x) 0 1048575)).map rowE) ∧ Below w.heap.size w w' ∧ ∃ (A : Option Addr) (C : Nat), e = .returned (.tuple #[.slice A R.length C, .int .i64 0]) ∧ RowAt w'.heap.size w' A (flatE R)

theorem rowsAns_of {ss : List ByteArray} {x : ByteArray} {sz : Int} {pts : List Pt} {L : List En} {w : World} {e : Ending} {w' : World} (h : allL (pts.map (ptBk ss sz)) = some L) (hr : RowsTo (L.filter (selB (Lib.idxOfS ss x) 0 1048575)) w e w') : RowsAns ss x sz pts w e w' := by
  obtain ⟨hb, v, rfl, ho⟩ := hr
  obtain ⟨A, C, rfl, -, -, -, hrow⟩ := own_row ho
  exact ⟨_, ⟨L, h, rfl⟩, hb, A, C, by rw [List.length_map], hrow⟩

section
variable {C : Nat} {A : Option Addr} {ss : List ByteArray} {t0 t1 t2 : TR} {f : Int} {pts : List Pt} {w : World}

theorem rows_kn (hZ : SzAt w) (hB : BaseAt w A C ss t0 t1 t2) (hK : KB ss f t0 t1 t2 pts) {x : ByteArray} {sz : Int} (hs : sz = 1 ∨ sz = 60 ∨ sz = 3600) (hx : 0 ≤ Lib.idxOfS ss x) (hn : pts.length ≤ 500) :
    Calls Tryz.prog 20 #[.agg (baseV A C ss t0 t1 t2 f).toArray, .string x, .int .i64 sz, .int .i64 0, .int .i64 1048575] w (RowsAns ss x sz pts w) := by
  obtain ⟨L0, L1, L2, k⟩ := hK
  obtain ⟨l0, l1, l2⟩ := k.few
  have f0 := allP_facts (ns := t0.ps.map PN.nd) (r := t0.r) (low := 0) (high := 1099511627776)
  have f1 := allP_facts (ns := t1.ps.map PN.nd) (r := t1.r) (low := 0) (high := 1099511627776)
  have f2 := allP_facts (ns := t2.ps.map PN.nd) (r := t2.r) (low := 0) (high := 1099511627776)
  rw [k.lst.a0] at f0
  rw [k.lst.a1] at f1
  rw [k.lst.a2] at f2
  have hp2 := idx_16 (p := Lib.idxOfS ss x) rfl k.lst.few
  have fl : ∀ L : List En, (L.filter (selB (Lib.idxOfS ss x) 0 1048575)).length ≤ L.length := fun L => List.length_filter_le _ _
  have q0 := fl L0
  have q1 := fl L1
  have q2 := fl L2
  rcases hs with rfl | rfl | rfl
  · exact (rows_ok0 A C ss t0 t1 t2 f x 0 1048575 _ _ w hZ hB.len hB.st hB.o0 hB.o1 hB.o2 k.ok rfl hx hp2 (by decide) (by decide) (by decide) L0 k.lst.a0 rfl (fun y hy => f0.2.2 y (List.mem_filter.1 hy).1) (by omega)).mono fun e w' h => rowsAns_of (k.rolled k.lst.p0) h
  · exact (rows_ok1 A C ss t0 t1 t2 f x 0 1048575 _ _ w hZ hB.len hB.st hB.o0 hB.o1 hB.o2 k.ok rfl hx hp2 (by decide) (by decide) (by decide) L1 k.lst.a1 rfl (fun y hy => f1.2.2 y (List.mem_filter.1 hy).1) (by omega)).mono fun e w' h => rowsAns_of (k.rolled k.lst.p1) h
  · exact (rows_ok2 A C ss t0 t1 t2 f x 0 1048575 _ _ w hZ hB.len hB.st hB.o0 hB.o1 hB.o2 k.ok rfl hx hp2 (by decide) (by decide) (by decide) L2 k.lst.a2 rfl (fun y hy => f2.2.2 y (List.mem_filter.1 hy).1) (by omega)).mono fun e w' h => rowsAns_of (k.rolled k.lst.p2) h

theorem rows_no (hZ : SzAt w) (hB : BaseAt w A C ss t0 t1 t2) (hK : KB ss f t0 t1 t2 pts) {x : ByteArray} {sz a b : Int} (hx : Lib.idxOfS ss x < 0) :
    Calls Tryz.prog 20 #[.agg (baseV A C ss t0 t1 t2 f).toArray, .string x, .int .i64 sz, .int .i64 a, .int .i64 b] w fun e w' => e = .returned (.tuple #[.slice none 0 0, .int .i64 6]) ∧ Below w.heap.size w w' :=
  rows_c A C ss t0 t1 t2 f x sz a b 6 w 0 rfl (series_no hZ hB hK hx)

end

end Go.Proofs.YtlojfgdpmaigmaeGreatDoor

/- Base of package winnowerkeep: what it makes of raw things. -/
namespace Go.Proofs.YtlojfgdpmaigmaeGreatDoor
open Go.RowKit Plain Go.Shelf

/-- Names that raw things have. -/
def Few4 (ss : List ByteArray) : Prop := ∀ s ∈ ss, ∃ i, s = nmS i

theorem names_nodup {ss : List ByteArray} (h : namesB ss = true) : ss.Nodup := by
  unfold namesB at h
  rw [List.all_eq_true] at h
  refine List.pairwise_iff_getElem.2 fun i j hi hj hij e => ?_
  have k := h j (by simpa using hj)
  unfold okN at k
  rw [getD_of_lt hj, Bool.and_eq_true] at k
  have k2 := k.2
  rw [Bool.not_eq_true'] at k2
  have : Lib.containsS (ss.take j) ss[j] = true := (Lib.containsS_iff _ _).2 (List.mem_take_iff_getElem.2 ⟨i, by omega, e⟩)
  rw [this] at k2
  cases k2

theorem nmS_mem (i : Int) : nmS i ∈ [nmS 0, nmS 1, nmS 2, nmS 3] := by
  by_cases h0 : i = 0
  · subst h0; simp
  · by_cases h1 : i = 1
    · subst h1; simp
    · by_cases h2 : i = 2
      · subst h2; simp
      · have e : nmS i = nmS 3 := by
          unfold nmS
          rw [if_neg h0, if_neg h1, if_neg h2]
          rfl
        rw [e]; simp

theorem few4_len {ss : List ByteArray} (h : namesB ss = true) (hf : Few4 ss) : ss.length ≤ 4 := by
  have := nodup_le ss [nmS 0, nmS 1, nmS 2, nmS 3] (names_nodup h) (fun s hs => by
    obtain ⟨i, rfl⟩ := hf s hs
    exact nmS_mem i)
  simpa using this

theorem few4_with {ss : List ByteArray} (h : Few4 ss) (i : Int) : Few4 (withS ss (nmS i)) := by
  unfold withS
  split
  · intro s hs
    rcases List.mem_append.1 hs with hs | hs
    · exact h s hs
    · exact ⟨i, by simpa using hs⟩
  · exact h

theorem KB.names {ss : List ByteArray} {f : Int} {t0 t1 t2 : TR} {pts : List Pt} (h : KB ss f t0 t1 t2 pts) : namesB ss = true := by
  obtain ⟨L0, L1, L2, k⟩ := h
  have := k.ok
  unfold baseB at this
  simp only [Bool.and_eq_true] at this
  exact this.2.2.2.1

theorem KB.with_len {ss : List ByteArray} {f : Int} {t0 t1 t2 : TR} {pts : List Pt} (h : KB ss f t0 t1 t2 pts) (h4 : Few4 ss) (i : Int) : (withS ss (nmS i)).length ≤ 16 := by
  have := few4_len (names_with h.names (nmS_name i)) (few4_with h4 i)
  omega

theorem rawPt_c (x : Rw) : ptC (rawPt x).s (rawPt x).t (rawPt x).v 0 = 0 := by
  have h := rawPt_ok x
  unfold ptC
  rw [if_pos (show nameB (rawPt x).s = true from nmS_name _), if_pos, if_neg (by have := h.t0; omega)]
  unfold ofOk
  have h0 := h.t0
  have h1 := h.t1
  have h2 := h.v0
  have h3 := h.v1
  simp only [Bool.and_eq_true]
  exact ⟨(inB_iff _ _ _).2 ⟨h0, h1⟩, (inB_iff _ _ _).2 ⟨h2, h3⟩⟩

/-- Where the base lies: not in the box bb. -/
def KbOwn (B bb : Nat) (wr : World) (A : Option Addr) (C : Nat) (ss : List ByteArray) (t0 t1 t2 : TR) : Prop :=
  (∃ B', bb < B' ∧ OwnB B' wr A C ss t0 t1 t2) ∨ ∃ w0 : World, OwnB B w0 A C ss t0 t1 t2 ∧ w0.heap.size ≤ bb ∧ Below w0.heap.size w0 wr

structure KbA (w wr : World) (bb : Nat) (A : Option Addr) (C : Nat) (ss : List ByteArray) (t0 t1 t2 : TR) (pts : List Pt) : Prop where
  below : Below w.heap.size w wr
  res : RowL wr w.heap.size 28 zb8
  bx : RowL wr bb 28 (baseV A C ss t0 t1 t2 0)
  own : KbOwn (w.heap.size + 1) bb wr A C ss t0 t1 t2
  kb : KB ss 0 t0 t1 t2 pts
  lo : w.heap.size < bb
  few : Few4 ss

section
variable {w wr w' : World} {bb : Nat} {A : Option Addr} {C : Nat} {ss : List ByteArray} {t0 t1 t2 : TR} {pts : List Pt}

theorem KbOwn.any {B : Nat} (h : KbOwn B bb wr A C ss t0 t1 t2) (hB : B ≤ bb + 1) : OwnB B wr A C ss t0 t1 t2 := by
  rcases h with ⟨B', h1, h2⟩ | ⟨w0, h1, h2, h3⟩
  · exact h2.keep (by omega) fun _ _ _ => rfl
  · exact h1.next h3

theorem KbOwn.next {B : Nat} (h : KbOwn B bb wr A C ss t0 t1 t2) (hb : Below wr.heap.size wr w') : KbOwn B bb w' A C ss t0 t1 t2 := by
  rcases h with ⟨B', h1, h2⟩ | ⟨w0, h1, h2, h3⟩
  · exact .inl ⟨B', h1, h2.next hb⟩
  · exact .inr ⟨w0, h1, h2, nextB h3 (Nat.le_refl _) hb⟩

theorem KbA.next (h : KbA w wr bb A C ss t0 t1 t2 pts) (hb : Below wr.heap.size wr w') : KbA w w' bb A C ss t0 t1 t2 pts :=
  ⟨nextB h.below (Nat.le_refl _) hb, h.res.below hb h.res.lt, h.bx.below hb h.bx.lt, h.own.next hb, h.kb, h.lo, h.few⟩

theorem KbA.at (h : KbA w wr bb A C ss t0 t1 t2 pts) : BaseAt wr A C ss t0 t1 t2 := (h.own.any (by have := h.lo; omega)).at h.kb

/-- Another base is laid into the box. -/
theorem KbA.turn (h : KbA w wr bb A C ss t0 t1 t2 pts) {A' : Option Addr} {C' : Nat} {ss' : List ByteArray} {u0 u1 u2 : TR} {pts' : List Pt} {B' : Nat} {w5 : World} (hb : Below wr.heap.size wr w5) (hB : bb < B') (ho : OwnB B' w5 A' C' ss' u0 u1 u2) (hk : KB ss' 0 u0 u1 u2 pts') (hf : Few4 ss') :
    KbA w (set8 w5 bb (.slice A' ss'.length C') (.slice u0.A u0.ps.length u0.C) (.int .i64 u0.r) (.slice u1.A u1.ps.length u1.C) (.int .i64 u1.r) (.slice u2.A u2.ps.length u2.C) (.int .i64 u2.r) (.int .i64 0)) bb A' C' ss' u0 u1 u2 pts' := by
  have hl := h.lo
  have hn := h.next hb
  refine ⟨set8_below hn.below (by omega) _ _ _ _ _ _ _ _, hn.res.of_block (set8_far _ _ _ _ _ _ _ _ _ _ _ (by omega)), ?_, .inl ⟨B', hB, ho.set8 hB _ _ _ _ _ _ _ _⟩, hk, hl, hf⟩
  have := (((((((hn.bx.set 0 (.slice A' ss'.length C')).set 1 (.slice u0.A u0.ps.length u0.C)).set 2 (.int .i64 u0.r)).set 3 (.slice u1.A u1.ps.length u1.C)).set 4 (.int .i64 u1.r)).set 5 (.slice u2.A u2.ps.length u2.C)).set 6 (.int .i64 u2.r)).set 7 (.int .i64 0)
  exact this

theorem KbA.fin (h : KbA w wr bb A C ss t0 t1 t2 pts) (x0 x1 x2 x3 x4 x5 x6 x7 : Value) : OwnB (w.heap.size + 1) (set8 wr w.heap.size x0 x1 x2 x3 x4 x5 x6 x7) A C ss t0 t1 t2 ∧ Below w.heap.size w (set8 wr w.heap.size x0 x1 x2 x3 x4 x5 x6 x7) :=
  ⟨(h.own.any (by have := h.lo; omega)).set8 (by omega) _ _ _ _ _ _ _ _, set8_below h.below (Nat.le_refl _) _ _ _ _ _ _ _ _⟩
end

/-- Another base is laid into the box, behind what was laid of it. -/
theorem kba_laid {w w5 wd : World} {bb B' : Nat} {A A' : Option Addr} {C C' : Nat} {ss ss' : List ByteArray} {t0 t1 t2 u0 u1 u2 : TR} {pts pts' : List Pt} (h : KbA w w5 bb A C ss t0 t1 t2 pts) (hB : bb < B') (ho : OwnB B' w5 A' C' ss' u0 u1 u2) (hk : KB ss' 0 u0 u1 u2 pts') (hf : Few4 ss')
    (hwd : wd = set8 w5 bb (.slice A' ss'.length C') (.slice u0.A u0.ps.length u0.C) (.int .i64 u0.r) (.slice u1.A u1.ps.length u1.C) (.int .i64 u1.r) (.slice u2.A u2.ps.length u2.C) (.int .i64 u2.r) (.int .i64 0)) :
    KbA w wd bb A' C' ss' u0 u1 u2 pts' ∧ OwnB B' wd A' C' ss' u0 u1 u2 ∧ (∀ j, j < w5.heap.size → j ≠ bb → wd.heap[j]? = w5.heap[j]?) ∧ w5.heap.size = wd.heap.size := by
  subst hwd
  exact ⟨h.turn (Below.refl _ _) hB ho hk hf, ho.set8 hB _ _ _ _ _ _ _ _, fun j _ h2 => set8_far _ _ _ _ _ _ _ _ _ _ _ h2, by simp [set8]⟩

/-- The row of points grew, the base stays. -/
theorem KbA.grown {w wd w7 : World} {bb B' : Nat} {A : Option Addr} {C : Nat} {ss : List ByteArray} {t0 t1 t2 : TR} {pts : List Pt} {v : Value} (h : KbA w wd bb A C ss t0 t1 t2 pts) (hB : bb < B') (ho : OwnB B' wd A C ss t0 t1 t2) (hg : wd.grownBy w7 v.ownBlock) (hv : ∀ q, v.ownBlock = some q → bb + 1 ≤ q ∧ q < B') : KbA w w7 bb A C ss t0 t1 t2 pts := by
  have hl := h.lo
  have hs := h.below.size
  have hk : ∀ k, k < wd.heap.size → (k ≤ bb ∨ B' ≤ k) → w7.heap[k]? = wd.heap[k]? := fun k h1 h2 => hg.block k h1 (fun e => by have := hv k e.symm; omega)
  exact ⟨⟨hg.os.trans h.below.os, hg.tape.trans h.below.tape, hg.output.trans h.below.output, Nat.le_trans hs hg.size, fun k hk' => (hk k (by omega) (by omega)).trans (h.below.block k hk')⟩, h.res.of_block (hk _ h.res.lt (by omega)), h.bx.of_block (hk _ h.bx.lt (by omega)), .inl ⟨B', hB, ho.keep (Nat.le_refl _) fun k h1 h2 => hk k h2 (.inr h1)⟩, h.kb, hl, h.few⟩

theorem kba_start {w w2 : World} {t0 t1 t2 : TR} (hb : Below (w.alloc (.cells zb8.toArray 28)).heap.size (w.alloc (.cells zb8.toArray 28)) w2) (ho : OwnB (w.heap.size + 1) w2 none 0 [] t0 t1 t2) (hk : KB [] 0 t0 t1 t2 []) :
    KbA w (w2.alloc (.cells (baseV none 0 [] t0 t1 t2 0).toArray 28)) w2.heap.size none 0 [] t0 t1 t2 [] := by
  have hs : w.heap.size + 1 ≤ w2.heap.size := Nat.le_trans (by simp) hb.size
  have b1 : Below w2.heap.size w2 (w2.alloc (.cells (baseV none 0 [] t0 t1 t2 0).toArray 28)) := (Below.refl _ _).alloc (Nat.le_refl _) _
  exact ⟨nextB (nextB ((Below.refl _ _).alloc (Nat.le_refl _) _) (Nat.le_refl _) hb) (Nat.le_refl _) b1, ((rowL_alloc w _ _).below hb (by simp)).below b1 (by omega), rowL_alloc w2 _ _, .inr ⟨w2, ho, Nat.le_refl _, b1⟩, hk, by omega, fun s hs => by simp at hs⟩

theorem infoPt : (Tryz.prog.info? 61).map (fun i => (i.zero, i.size, i.bytes)) = some (some (.agg #[.string ByteArray.empty, .int .i64 0, .int .i64 0]), 3, 32) := by kernel_rfl

theorem newsP {w : World} {vb : Nat} {t : TypeId} {x : Pt} (hv : RowL w vb t x.vals) : ∀ j u, (flatP [x])[j]? = some u → w.cell? (Addr.add ⟨vb, 0, none⟩ j) = some u := by
  intro j u hu
  rw [WideShapes.add_plain, Nat.zero_add, hv.cell]
  simpa [flatP] using hu

theorem newsP2 (w : World) (o : Obj) (x : Pt) : ∀ j u, (flatP [x])[j]? = some u → ((w.alloc o).alloc (.cells x.vals.toArray 61)).cell? (Addr.add ⟨w.heap.size + 1, 0, none⟩ j) = some u := by
  have h := rowL_alloc (w.alloc o) x.vals 61
  have e : (w.alloc o).heap.size = w.heap.size + 1 := by simp
  rw [e] at h
  exact newsP h

theorem alloc2_below (w : World) (o o' : Obj) : Below w.heap.size w ((w.alloc o).alloc o') := ((Below.refl _ _).alloc (Nat.le_refl _) _).alloc (by simp) _

/-- What Base answers. -/
def KbTo (pts : List Pt) (w : World) (e : Ending) (w' : World) : Prop :=
  ∃ (A PA : Option Addr) (C PC : Nat) (ss : List ByteArray) (t0 t1 t2 : TR), e = .returned (.tuple #[.agg (baseV A C ss t0 t1 t2 0).toArray, .slice PA pts.length PC]) ∧ OwnB (w.heap.size + 1) w' A C ss t0 t1 t2 ∧ KB ss 0 t0 t1 t2 pts ∧ Few4 ss ∧ RowAt w'.heap.size w' PA (flatP pts) ∧ Below w.heap.size w w'

set_option maxRecDepth 20000 in
set_option maxHeartbeats 4000000 in
theorem kbase_any (PA : Option Addr) (PC : Nat) (xs : List Rw) (most : Int) (w : World) (hZ : SzAt w) (hA : RowAt w.heap.size w PA (flatR xs)) (hwf : ∀ x ∈ xs, x.wf) (hm1 : 0 ≤ most) (hm2 : most ≤ 200) :
    Calls Tryz.prog 13 #[.slice PA xs.length PC, .int .i64 most] w (KbTo ((xs.take most.toNat).map rawPt) w) := by
  obtain ⟨i0, hi0, hz0, hz1, hz2⟩ := info_parts infoPt
  have HZ := hideC hZ
  have HA := hideC hA
  obtain ⟨PT, hPT⟩ : ∃ PT, (xs.take most.toNat).map rawPt = PT := ⟨_, rfl⟩
  rw [hPT]
  have HPT := hideC hPT
  clear hZ hA hPT
  go_enter Tryz.func13, Tryz.ntmps13
  go_wp2_with (first | (go_at_call 21; refine (bnew_kn _).mono ?_; rintro e w2 ⟨u0, u1, u2, he, ho2, hk2, hb2⟩; have HS := hideC (kba_start hb2 (by simpa using ho2) hk2); clear ho2 hk2 hb2; obtain ⟨A0, C0, p0, r0⟩ := u0; obtain ⟨A1, C1, p1, r1⟩ := u1; obtain ⟨A2, C2, p2, r2⟩ := u2; simp only [baseV] at he; subst he))
  obtain ⟨bb, hbb⟩ : ∃ bb, bb = w2.heap.size := ⟨_, rfl⟩
  rw [← hbb] at HS ⊢
  clear hbb
  go_loopw [7, 8] (fun vo vi wr => ∃ (k : Nat) (A : Option Addr) (C : Nat) (ss : List ByteArray) (t0 t1 t2 : TR), k ≤ xs.length ∧ (k : Int) ≤ most ∧ vi = .int .i64 (k : Int) ∧ KbA w wr bb A C ss t0 t1 t2 ((xs.take k).map rawPt) ∧ wr.ownsRow (bb + 1) 61 3 vo k (flatP ((xs.take k).map rawPt))) (fun _ vi _ => xs.length - (intOf vi).toNat)
  case atStart => exact ⟨0, none, 0, [], ⟨A0, C0, p0, r0⟩, ⟨A1, C1, p1, r1⟩, ⟨A2, C2, p2, r2⟩, Nat.zero_le _, hm1, rfl, HS.out, World.ownsRow_nil _ _ _ _⟩
  case round =>
    obtain ⟨k, A, C, ss, t0, t1, t2, hk, hkm, rfl, hat, hown⟩ := hrel
    clear HS
    have lt := hat.bx.lt
    have hlo := hat.lo
    have hge := hat.below.size
    obtain ⟨VA, VC, hvo, -, -, -, hvr⟩ := own_row hown
    subst hvo
    have hov := ownR_lt hown
    by_cases hlt : k < xs.length ∧ (k : Int) < most
    · obtain ⟨hlt, hl5⟩ := hlt
      obtain ⟨b, o, rfl, hbl, hrw⟩ := (HA.out.below hat.below (Nat.le_refl _)).rw4 hlt
      have hx := hwf _ (List.getElem_mem hlt)
      have htk : Hid ((xs.take (k + 1)).map rawPt = (xs.take k).map rawPt ++ [rawPt xs[k]]) := by
        show _ = _
        rw [List.take_succ_eq_append_getElem hlt, List.map_append]
        rfl
      have hlen : ((xs.take k).map rawPt).length = k := by simp; omega
      obtain ⟨pts, hpts⟩ : ∃ pts, (xs.take k).map rawPt = pts := ⟨_, rfl⟩
      rw [hpts] at htk hlen hat hown
      clear hpts
      generalize xs[k] = x at *
      have hpc := rawPt_c x
      have hw16 := hat.kb.with_len hat.few (pick x.k 4)
      have hf4 := few4_with hat.few (pick x.k 4)
      have hsz := nmS_size (pick x.k 4)
      have con1 := hideC fun W => kpoint_any x.k x.a x.b x.c W hx.1 hx.2.1 hx.2.2.1
      have htk2 : Hid ((xs.take (k + 1)).map rawPt = pts ++ [⟨nmS (pick x.k 4), pick x.a 12000, pick x.b 2000 - 1000⟩]) := htk
      obtain ⟨s, hs⟩ : ∃ s, nmS (pick x.k 4) = s := ⟨_, rfl⟩
      obtain ⟨t, ht⟩ : ∃ t, pick x.a 12000 = t := ⟨_, rfl⟩
      obtain ⟨v, hv⟩ : ∃ v, pick x.b 2000 - 1000 = v := ⟨_, rfl⟩
      simp only [rawPt] at hpc
      rw [hs, ht, hv] at con1 htk2 hpc
      rw [hs] at hw16 hf4 hsz
      obtain ⟨xk, xa, xb, xc⟩ := x
      obtain ⟨c0, c1, c2, c3⟩ := hrw
      simp only at c0 c1 c2 c3 con1
      clear hs ht hv htk hx
      have hbr : b < wr.heap.size := by omega
      have q0 : (0 : Int) ≤ (k : Int) := by omega
      have q1 : (k : Int) < (xs.length : Int) := by omega
      have con2 : Hid (∀ W, Below wr.heap.size wr W → Calls Tryz.prog 22 #[.agg (baseV A C ss t0 t1 t2 0).toArray, .agg #[.string s, .int .i64 t, .int .i64 v]] W (AddKn (withS ss s) 0 (pts ++ [⟨s, t, v⟩]) W)) := fun W hW => badd_kn (HZ.out.below (nextB hat.below (Nat.le_refl _) hW)) (hat.at.up hW) hat.kb (by omega) hpc hw16 (by omega)
      have HT := hideC hat
      have b0 := fun j => hat.bx.cell j
      have HO := hideC hown
      have HF4 := hideC hf4
      have HVR := hideC hov
      clear hat hown hf4 hpc hw16 hsz hov hvr
      obtain ⟨A0, C0, p0, r0⟩ := t0
      obtain ⟨A1, C1, p1, r1⟩ := t1
      obtain ⟨A2, C2, p2, r2⟩ := t2
      simp only [baseV] at con2 b0
      go_upto_region 9 with (first
        | (go_at_call 31; refine (con1.out _).mono ?_; rintro e w3 ⟨rfl, hb3⟩; have H3 := hideC (HT.out.next hb3); have b3 := fun j => H3.out.bx.cell j; simp only [baseV] at b3; have l3 := H3.out.bx.lt; have P3 := hideC (rowL_alloc w3 [.string s, .int .i64 t, .int .i64 v] 61); have HB3 := hideC hb3; clear hb3 b0)
        | (go_at_call 22; refine (con2.out _ (nextB HB3.out (Nat.le_refl _) ((Below.refl _ _).alloc (Nat.le_refl _) _))).mono ?_; rintro e w5 ⟨A5, C5, ⟨A50, C50, q0, s0⟩, ⟨A51, C51, q1, s1⟩, ⟨A52, C52, q2, s2⟩, he5, ho5, hk5, hb5⟩; simp only [baseV] at he5; subst he5; have H5 := hideC (H3.out.next (nextB ((Below.refl _ _).alloc (Nat.le_refl _) _) (Nat.le_refl _) hb5)); have b5 := fun j => H5.out.bx.cell j; have f5 := fun j => H5.out.bx.frozen j; simp only [baseV] at b5; have l5 := H5.out.bx.lt; have P5 := hideC (P3.out.below hb5 P3.out.lt); have O5 := hideC ho5; have K5 := hideC hk5; have HB5 := hideC hb5; clear hb5 ho5 hk5 b3))
      go_upto_region 10 with fail
      obtain ⟨wd, hwd⟩ : ∃ wd, wd = set8 w5 bb (.slice A5 (withS ss s).length C5) (.slice A50 q0.length C50) (.int .i64 s0) (.slice A51 q1.length C51) (.int .i64 s1) (.slice A52 q2.length C52) (.int .i64 s2) (.int .i64 0) := ⟨_, rfl⟩
      have z3 := HB3.out.size
      have z5 : w3.heap.size + 1 ≤ w5.heap.size := by simpa using HB5.out.size
      have KL := kba_laid (pts' := pts ++ [⟨s, t, v⟩]) H5.out (by simp; omega) O5.out K5.out HF4.out hwd
      have HD := hideC KL.1
      have hOD := hideC KL.2.1
      have hsd := KL.2.2.2
      have hblk : ∀ j, j < wr.heap.size → j ≠ bb → wd.heap[j]? = wr.heap[j]? := fun j h1 h2 =>
        (KL.2.2.1 j (by omega) h2).trans ((HB5.out.block j (by simp; omega)).trans ((Below.heap_alloc _ _ _ (by omega)).trans (HB3.out.block j h1)))
      have PD : RowL wd w3.heap.size 61 [.string s, .int .i64 t, .int .i64 v] := P5.out.of_block (KL.2.2.1 _ (by omega) (by omega))
      clear KL
      have hOwn : Hid (wd.ownsRow (bb + 1) 61 3 (.slice VA k VC) k (flatP pts)) := own_of_block HO.out fun j hj => hblk j (HVR.out j hj).2 (by have := (HVR.out j hj).1; omega)
      have hov2 : Hid (∀ q, (Value.slice VA k VC).ownBlock = some q → bb + 1 ≤ q ∧ q < (w3.alloc (.cells #[.string s, .int .i64 t, .int .i64 v] 61)).heap.size) := fun q hq => by have := HVR.out q hq; simp; omega
      simp only [set8] at hwd
      rw [← hwd]
      have p0 := PD.cell 0
      have p1 := PD.cell 1
      have p2 := PD.cell 2
      simp only [List.getElem?_cons_zero, List.getElem?_cons_succ] at p0 p1 p2
      have lp := PD.lt
      have hlenP : pts.length = k := hlen
      clear hwd hblk PD P5 O5 K5 H5 b5 f5 HB5 H3 P3 HB3 HT HO con1 con2 HA HZ c0 c1 c2 c3
      have hmx : bb + 1 ≤ wd.heap.size + 2 := by omega
      go_wp2_with (at_builtin; refine wpList_append_own _ rfl _ _ 39 rfl (bb + 1) 61 i0 _ 3 32 Tryz.underlying39 hi0 hz0 hz1 hz2 rfl (by decide) (.slice VA k VC) k (flatP pts) rfl (ownR_next hOwn.out (alloc2_below _ _ _)) ⟨wd.heap.size + 1, 0, none⟩ 1 1 (flatP [⟨s, t, v⟩]) rfl (flatP_length _) (newsP2 wd _ ⟨s, t, v⟩) (flatP_one _) (by unfold maxLen; omega) (by omega) (by simp; omega) ?_; intro v7 w7 hown7 hgrow7 _)
      go_roundw
      case rel =>
        go_light
        refine ⟨k + 1, A5, C5, withS ss s, ⟨A50, C50, q0, s0⟩, ⟨A51, C51, q1, s1⟩, ⟨A52, C52, q2, s2⟩, by omega, by omega, by go_num, ?_, ?_⟩
        · rw [htk2.out]
          exact (HD.out.next (alloc2_below _ _ _)).grown (by simp; omega) (hOD.out.next (alloc2_below _ _ _)) hgrow7 hov2.out
        · rw [htk2.out, flatP_append]
          exact hown7
      case measure => simp [intOf]; omega
    · have hlen : ((xs.take k).map rawPt).length = k := by simp; omega
      have htk : (xs.take most.toNat).map rawPt = (xs.take k).map rawPt := by
        by_cases h1 : k < xs.length
        · rw [show most.toNat = k by omega]
        · rw [List.take_of_length_le (by omega), List.take_of_length_le (by omega)]
      have HT := hideC hat
      have HK := hideC (HPT.out.symm.trans htk)
      have HL := hideC hlen
      have HO := hideC hown
      have HV := hideC hov
      have b0 := fun j => hat.bx.cell j
      have r0 := fun j => hat.res.cell j
      have rf := fun j => hat.res.frozen j
      clear hat htk hlen hvr hown hov
      obtain ⟨A0, C0, p0, r0'⟩ := t0
      obtain ⟨A1, C1, p1, r1'⟩ := t1
      obtain ⟨A2, C2, p2, r2'⟩ := t2
      simp only [baseV, zb8] at b0 r0
      have FIN : Hid (∀ x0 x1 x2 x3 x4 x5 x6 x7, KbTo PT w (.returned (.tuple #[.agg #[.slice A ss.length C, .slice A0 p0.length C0, .int .i64 r0', .slice A1 p1.length C1, .int .i64 r1', .slice A2 p2.length C2, .int .i64 r2', .int .i64 0], .slice VA k VC])) (set8 wr w.heap.size x0 x1 x2 x3 x4 x5 x6 x7)) := fun x0 x1 x2 x3 x4 x5 x6 x7 => by
        obtain ⟨f1, f2⟩ := HT.out.fin x0 x1 x2 x3 x4 x5 x6 x7
        rw [HK.out]
        refine ⟨A, VA, C, VC, ss, ⟨A0, C0, p0, r0'⟩, ⟨A1, C1, p1, r1'⟩, ⟨A2, C2, p2, r2'⟩, by rw [HL.out]; rfl, f1, HT.out.kb, HT.out.few, ?_, f2⟩
        have ho := own_of_block HO.out (w' := set8 wr w.heap.size x0 x1 x2 x3 x4 x5 x6 x7) fun j hj => set8_far _ _ _ _ _ _ _ _ _ _ j (by have := (HV.out j hj).1; omega)
        exact (own_ok ho).1
      have lw : w.heap.size < wr.heap.size := by omega
      by_cases h1 : k < xs.length
      · have h2 : ¬ (k : Int) < most := fun h2 => hlt ⟨h1, h2⟩
        have q1 : (k : Int) < (xs.length : Int) := by omega
        clear hlt
        go_wp2_with fail
        exact bodyPost_ret (v := .tuple #[.agg #[.slice A ss.length C, .slice A0 p0.length C0, .int .i64 r0', .slice A1 p1.length C1, .int .i64 r1', .slice A2 p2.length C2, .int .i64 r2', .int .i64 0], .slice VA k VC]) (by simp [results, Tryz.results13, go_sem, r0]) rfl (FIN.out _ _ _ _ _ _ _ _)
      · have q1 : ¬ (k : Int) < (xs.length : Int) := by omega
        clear hlt
        go_wp2_with fail
        exact bodyPost_ret (v := .tuple #[.agg #[.slice A ss.length C, .slice A0 p0.length C0, .int .i64 r0', .slice A1 p1.length C1, .int .i64 r1', .slice A2 p2.length C2, .int .i64 r2', .int .i64 0], .slice VA k VC]) (by simp [results, Tryz.results13, go_sem, r0]) rfl (FIN.out _ _ _ _ _ _ _ _)

end Go.Proofs.YtlojfgdpmaigmaeGreatDoor

/- Two bases of one series, made of the same points in two orders. -/
namespace Go.Proofs.YtlojfgdpmaigmaeGreatDoor
open Go.RowKit Plain Go.Shelf

def oneB : ByteArray := ⟨#[111, 110, 101]⟩
def oneP (p : Pt) : Pt := ⟨oneB, p.t, p.v⟩
def sK (k : Nat) : List ByteArray := if k = 0 then [] else [oneB]

theorem with_one : withS [oneB] oneB = [oneB] := by
  have h : Lib.idxOfS [oneB] oneB = 0 := by simp [Lib.idxOfS, Lib.idxFromS]
  unfold withS
  rw [h]
  rfl

theorem sK_with (k : Nat) : withS (sK k) oneB = sK (k + 1) := by
  unfold sK
  rw [if_neg (Nat.succ_ne_zero k)]
  split
  · rfl
  · exact with_one

theorem sK_idx {k : Nat} (h : 0 < k) : Lib.idxOfS (sK k) oneB = 0 := by
  unfold sK
  rw [if_neg (by omega)]
  simp [Lib.idxOfS, Lib.idxFromS]

theorem sK_no : Lib.idxOfS (sK 0) oneB < 0 := by
  simp [sK, Lib.idxOfS, Lib.idxFromS]

theorem oneP_c {p : Pt} (h : p.ok 0) : ptC oneB p.t p.v 0 = 0 := by
  unfold ptC
  rw [if_pos (show nameB oneB = true by decide), if_pos, if_neg (by have := h.t0; omega)]
  unfold ofOk
  have h0 := h.t0
  have h1 := h.t1
  have h2 := h.v0
  have h3 := h.v1
  simp only [Bool.and_eq_true]
  exact ⟨(inB_iff _ _ _).2 ⟨h0, h1⟩, (inB_iff _ _ _).2 ⟨h2, h3⟩⟩

section
variable {ss : List ByteArray} {f : Int} {t0 t1 t2 u0 u1 u2 : TR} {pts qts : List Pt}

theorem kb_sum (hK : KB ss f t0 t1 t2 pts) (hK' : KB ss f u0 u1 u2 qts) (hp : pts.Perm qts) {x : ByteArray} {a b : Int} (hx : 0 ≤ Lib.idxOfS ss x) (hn : pts.length ≤ 1000) : sumR (ofPts x a b pts) = sumR (ofPts x a b qts) := by
  obtain ⟨L0, L1, L2, k⟩ := hK
  obtain ⟨M0, M1, M2, k'⟩ := hK'
  have e : L0 = M0 := Option.some.inj (k.all.symm.trans ((allL_perm (hp.map (ptIn ss)) fun y hy => by
    obtain ⟨p, -, rfl⟩ := List.mem_map.1 hy
    exact Int.le_refl _).trans k'.all))
  have hl := hp.length_eq
  have h1 := k.total (a := a) (b := b) rfl hx (by omega)
  have h2 := k'.total (a := a) (b := b) rfl hx (by omega)
  rw [e] at h1
  exact (Prod.mk.inj (h1.symm.trans h2)).1

theorem kb_rows (hp : pts.Perm qts) {i a b sz : Int} {R R' : List En} (h : ∃ M, allL (pts.map (ptBk ss sz)) = some M ∧ R = (M.filter (selB i a b)).map rowE) (h' : ∃ M, allL (qts.map (ptBk ss sz)) = some M ∧ R' = (M.filter (selB i a b)).map rowE) : R = R' := by
  obtain ⟨M, h1, rfl⟩ := h
  obtain ⟨M', h2, rfl⟩ := h'
  have e : M = M' := Option.some.inj (h1.symm.trans ((allL_perm (hp.map (ptBk ss sz)) fun y hy => by
    obtain ⟨p, -, rfl⟩ := List.mem_map.1 hy
    exact Int.le_refl _).trans h2))
  rw [e]
end

/-- A base whose memory is apart from two boxes. -/
def Aw (bx bY : Nat) (wr : World) (A : Option Addr) (C : Nat) (ss : List ByteArray) (t0 t1 t2 : TR) : Prop :=
  ∃ (B : Nat) (w0 : World), OwnB B w0 A C ss t0 t1 t2 ∧ (∀ k, B ≤ k → k < w0.heap.size → wr.heap[k]? = w0.heap[k]?) ∧ w0.heap.size ≤ wr.heap.size ∧ ∀ k, B ≤ k → k < w0.heap.size → k ≠ bx ∧ k ≠ bY

section
variable {bx bY C C' : Nat} {w wr w' : World} {A A' : Option Addr} {ss ss' : List ByteArray} {t0 t1 t2 u0 u1 u2 : TR}

theorem Aw.next (h : Aw bx bY wr A C ss t0 t1 t2) (hb : Below wr.heap.size wr w') : Aw bx bY w' A C ss t0 t1 t2 := by
  obtain ⟨B, w0, h1, h2, h3, h4⟩ := h
  exact ⟨B, w0, h1, fun k q1 q2 => (hb.block k (by omega)).trans (h2 k q1 q2), Nat.le_trans h3 hb.size, h4⟩

theorem Aw.set (h : Aw bx bY wr A C ss t0 t1 t2) {b : Nat} (hb : b = bx ∨ b = bY) (x0 x1 x2 x3 x4 x5 x6 x7 : Value) : Aw bx bY (set8 wr b x0 x1 x2 x3 x4 x5 x6 x7) A C ss t0 t1 t2 := by
  obtain ⟨B, w0, h1, h2, h3, h4⟩ := h
  exact ⟨B, w0, h1, fun k q1 q2 => (set8_far _ _ _ _ _ _ _ _ _ _ k (by have := h4 k q1 q2; omega)).trans (h2 k q1 q2), by simpa [set8] using h3, h4⟩

theorem Aw.at {pts : List Pt} (h : Aw bx bY wr A C ss t0 t1 t2) (hk : KB ss 0 t0 t1 t2 pts) : BaseAt wr A C ss t0 t1 t2 := by
  obtain ⟨B, w0, h1, h2, h3, h4⟩ := h
  exact (h1.keep (Nat.le_refl _) h2).at hk

theorem Aw.new {B : Nat} (h : OwnB B wr A C ss t0 t1 t2) (hx : bx < B) (hY : bY < B) : Aw bx bY wr A C ss t0 t1 t2 :=
  ⟨B, wr, h, fun _ _ _ => rfl, Nat.le_refl _, fun k q1 _ => by omega⟩

/-- Two bases in two boxes. -/
structure AnA (w wr : World) (bx bY : Nat) (A : Option Addr) (C : Nat) (ss : List ByteArray) (t0 t1 t2 : TR) (A' : Option Addr) (C' : Nat) (ss' : List ByteArray) (u0 u1 u2 : TR) : Prop where
  below : Below w.heap.size w wr
  hx : RowL wr bx 28 (baseV A C ss t0 t1 t2 0)
  hy : RowL wr bY 28 (baseV A' C' ss' u0 u1 u2 0)
  ax : Aw bx bY wr A C ss t0 t1 t2
  ay : Aw bx bY wr A' C' ss' u0 u1 u2
  lo : w.heap.size ≤ bx
  lt : bx < bY

theorem AnA.next (h : AnA w wr bx bY A C ss t0 t1 t2 A' C' ss' u0 u1 u2) (hb : Below wr.heap.size wr w') : AnA w w' bx bY A C ss t0 t1 t2 A' C' ss' u0 u1 u2 :=
  ⟨nextB h.below (Nat.le_refl _) hb, h.hx.below hb h.hx.lt, h.hy.below hb h.hy.lt, h.ax.next hb, h.ay.next hb, h.lo, h.lt⟩

/-- Both boxes are laid anew. -/
theorem AnA.turn {A5 A6 : Option Addr} {C5 C6 : Nat} {s5 s6 : List ByteArray} {p0 p1 p2 q0 q1 q2 : TR} (h : AnA w wr bx bY A C ss t0 t1 t2 A' C' ss' u0 u1 u2) (a5 : Aw bx bY wr A5 C5 s5 p0 p1 p2) (a6 : Aw bx bY wr A6 C6 s6 q0 q1 q2) :
    AnA w (set8 (set8 wr bx (.slice A5 s5.length C5) (.slice p0.A p0.ps.length p0.C) (.int .i64 p0.r) (.slice p1.A p1.ps.length p1.C) (.int .i64 p1.r) (.slice p2.A p2.ps.length p2.C) (.int .i64 p2.r) (.int .i64 0)) bY (.slice A6 s6.length C6) (.slice q0.A q0.ps.length q0.C) (.int .i64 q0.r) (.slice q1.A q1.ps.length q1.C) (.int .i64 q1.r) (.slice q2.A q2.ps.length q2.C) (.int .i64 q2.r) (.int .i64 0)) bx bY A5 C5 s5 p0 p1 p2 A6 C6 s6 q0 q1 q2 := by
  have h1 := h.lo
  have h2 := h.lt
  have r1 := (((((((h.hx.set 0 (.slice A5 s5.length C5)).set 1 (.slice p0.A p0.ps.length p0.C)).set 2 (.int .i64 p0.r)).set 3 (.slice p1.A p1.ps.length p1.C)).set 4 (.int .i64 p1.r)).set 5 (.slice p2.A p2.ps.length p2.C)).set 6 (.int .i64 p2.r)).set 7 (.int .i64 0)
  have r2 := h.hy.of_block (set8_far wr bx (.slice A5 s5.length C5) (.slice p0.A p0.ps.length p0.C) (.int .i64 p0.r) (.slice p1.A p1.ps.length p1.C) (.int .i64 p1.r) (.slice p2.A p2.ps.length p2.C) (.int .i64 p2.r) (.int .i64 0) bY (by omega))
  have r3 := (((((((r2.set 0 (.slice A6 s6.length C6)).set 1 (.slice q0.A q0.ps.length q0.C)).set 2 (.int .i64 q0.r)).set 3 (.slice q1.A q1.ps.length q1.C)).set 4 (.int .i64 q1.r)).set 5 (.slice q2.A q2.ps.length q2.C)).set 6 (.int .i64 q2.r)).set 7 (.int .i64 0)
  refine ⟨set8_below (set8_below h.below (by omega) _ _ _ _ _ _ _ _) (by omega) _ _ _ _ _ _ _ _, ?_, ?_, (a5.set (.inl rfl) _ _ _ _ _ _ _ _).set (.inr rfl) _ _ _ _ _ _ _ _, (a6.set (.inl rfl) _ _ _ _ _ _ _ _).set (.inr rfl) _ _ _ _ _ _ _ _, h1, h2⟩
  · refine RowL.of_block (w := set8 wr bx (.slice A5 s5.length C5) (.slice p0.A p0.ps.length p0.C) (.int .i64 p0.r) (.slice p1.A p1.ps.length p1.C) (.int .i64 p1.r) (.slice p2.A p2.ps.length p2.C) (.int .i64 p2.r) (.int .i64 0)) ?_ (set8_far _ _ _ _ _ _ _ _ _ _ _ (by omega))
    exact r1
  · exact r3

/-- The boxes at the start. -/
theorem ana_start {w wx wy : World} {B : Nat} (h1 : Below w.heap.size w wx) (o1 : OwnB B wx A C ss t0 t1 t2) (h2 : Below (wx.alloc (.cells (baseV A C ss t0 t1 t2 0).toArray 28)).heap.size (wx.alloc (.cells (baseV A C ss t0 t1 t2 0).toArray 28)) wy) (o2 : OwnB (wx.heap.size + 1) wy A' C' ss' u0 u1 u2) :
    AnA w (wy.alloc (.cells (baseV A' C' ss' u0 u1 u2 0).toArray 28)) wx.heap.size wy.heap.size A C ss t0 t1 t2 A' C' ss' u0 u1 u2 := by
  have hs : wx.heap.size + 1 ≤ wy.heap.size := Nat.le_trans (by simp) h2.size
  have b1 : Below wy.heap.size wy (wy.alloc (.cells (baseV A' C' ss' u0 u1 u2 0).toArray 28)) := (Below.refl _ _).alloc (Nat.le_refl _) _
  have b2 : Below wx.heap.size wx (wx.alloc (.cells (baseV A C ss t0 t1 t2 0).toArray 28)) := (Below.refl _ _).alloc (Nat.le_refl _) _
  have bb : Below wx.heap.size wx (wy.alloc (.cells (baseV A' C' ss' u0 u1 u2 0).toArray 28)) := nextB (nextB b2 (Nat.le_refl _) h2) (Nat.le_refl _) b1
  refine ⟨nextB h1 (Nat.le_refl _) bb, ((rowL_alloc wx _ _).below h2 (by simp)).below b1 (by omega), rowL_alloc wy _ _, ⟨B, wx, o1, fun k _ q => bb.block k q, bb.size, fun k _ q => by omega⟩, ⟨wx.heap.size + 1, wy, o2, fun k _ q => b1.block k q, b1.size, fun k q1 q2 => by omega⟩, h1.size, by omega⟩
end

end Go.Proofs.YtlojfgdpmaigmaeGreatDoor
