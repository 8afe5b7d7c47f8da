/- tree.kidOf, tree.greatest. -/
import Derived.Test.YtlojfgdpmaigmacWithE
import Derived.Shelf.Slices.SearchI
import Derived.Test.YtlojfgdpmaigmacP14
import Derived.Test.YtlojfgdpmaigmacP07
namespace Go.Proofs.Ytlojfgdpmaigmac
open Go.RowKit Plain Go.Shelf

theorem drewNB {B : Nat} {w w' : World} (h : Below B w w') (n : Nat) : Below B w (w'.drewN n) := ⟨h.os, h.tape, h.output, h.size, h.block⟩

/-- Which of the kids has a key. -/
def kidI (keys : List Int) (k : Int) : Nat := keys.countP (· < k) + if keys.contains k = true then 1 else 0

set_option maxRecDepth 20000 in
set_option maxHeartbeats 1000000 in
theorem kidOf_any (p : PN) (k : Int) (w : World) (hk : RowAt w.heap.size w p.kA (ints p.keys)) (hne : p.keys ≠ []) (hz : p.keys.length * 8 ≤ 140737488351232) (hs : p.keys.Pairwise (· ≤ ·)) :
    Calls Try.prog 46 #[.agg #[.bool p.leaf, .slice p.eA p.ents.length p.eC, .slice p.kA p.keys.length p.kC, .slice p.dA p.kids.length p.dC, .slice p.bA p.buf.length p.bC], .int .i64 k] w
      fun e w' => e = .returned (.int .i64 (kidI p.keys k : Int)) ∧ Below w.heap.size w w' := by
  obtain ⟨b, o, hA, hlt, hc⟩ : ∃ b o, p.kA = some ⟨b, o, none⟩ ∧ b < w.heap.size ∧ ∀ j u, (ints p.keys)[j]? = some u → w.cell? ⟨b, o + j, none⟩ = some u := by
    rcases hk with h | h
    · exact absurd (by simpa [ints] using h) hne
    · exact h
  have hb0 : ∀ ob : Obj, Below w.heap.size w (w.alloc ob) := fun ob => (Below.refl _ _).alloc (Nat.le_refl _) ob
  have hcon := fun W (hW : Below w.heap.size w W) => Any.slices_BinarySearch_int Try.searchI b o p.keys.length p.kC p.keys k W (Nat.le_refl _) (by omega) (fun j hj => by
    rw [hW.cell (p := ⟨b, o + j, none⟩) hlt]
    exact hc j _ (by rw [ints, List.getElem?_map, List.getElem?_eq_getElem hj, List.getD_eq_getElem?_getD, List.getElem?_eq_getElem hj]; rfl)) (by rw [List.take_length]; exact hs)
  rw [List.take_length] at hcon
  have hle : p.keys.countP (· < k) ≤ p.keys.length := List.countP_le_length
  rw [hA]
  unfold kidI
  generalize p.keys.countP (· < k) = r at hcon hle ⊢
  cases hq : p.keys.contains k with
  | true =>
    rw [hq] at hcon
    have HC := hideC hcon
    clear hcon hq
    have e1 : ((r + if true = true then 1 else 0 : Nat) : Int) = (r : Int) + 1 := by simp
    rw [e1]
    go_enter Try.func46, Try.ntmps46
    go_wp2_with (go_at_call 63; refine (HC.out _ (hb0 _)).mono ?_; rintro e w1 ⟨rfl, q, rfl⟩)
    go_ret
    exact ⟨rfl, drewNB (hb0 _) _⟩
  | false =>
    rw [hq] at hcon
    have HC := hideC hcon
    clear hcon hq
    have e1 : ((r + if false = true then 1 else 0 : Nat) : Int) = (r : Int) := by simp
    rw [e1]
    go_enter Try.func46, Try.ntmps46
    go_wp2_with (go_at_call 63; refine (HC.out _ (hb0 _)).mono ?_; rintro e w1 ⟨rfl, q, rfl⟩)
    go_ret
    exact ⟨rfl, drewNB (hb0 _) _⟩

set_option maxRecDepth 20000 in
set_option maxHeartbeats 4000000 in
theorem greatest_any (a0 a1 a2 a3 : Int) (w : World) :
    Calls Try.prog 62 #[.agg #[.int .i64 a0, .int .i64 a1, .int .i64 a2, .int .i64 a3]] w
      fun e w' => ∃ m : Nat, m < 4 ∧ e = .returned (.int .i64 (m : Int)) ∧ Below w.heap.size w w' := by
  have i0 : ∀ (x y z u : Value) (w : World), (Instr.index 95 (.agg #[x, y, z, u]) (.int .i64 0)).run Try.prog w = .ok x w := fun _ _ _ _ _ => by kernel_rfl
  have i1 : ∀ (x y z u : Value) (w : World), (Instr.index 95 (.agg #[x, y, z, u]) (.int .i64 1)).run Try.prog w = .ok y w := fun _ _ _ _ _ => by kernel_rfl
  have i2 : ∀ (x y z u : Value) (w : World), (Instr.index 95 (.agg #[x, y, z, u]) (.int .i64 2)).run Try.prog w = .ok z w := fun _ _ _ _ _ => by kernel_rfl
  have i3 : ∀ (x y z u : Value) (w : World), (Instr.index 95 (.agg #[x, y, z, u]) (.int .i64 3)).run Try.prog w = .ok u w := fun _ _ _ _ _ => by kernel_rfl
  go_enter Try.func62, Try.ntmps62
  go_wp2_with fail
  generalize hW : w.alloc (.cells #[.int .i64 a0, .int .i64 a1, .int .i64 a2, .int .i64 a3] 95) = W
  have hbW : Below w.heap.size w W := by rw [← hW]; exact (Below.refl _ _).alloc (Nat.le_refl _) _
  have hlW : w.heap.size < W.heap.size := by rw [← hW]; simp
  have hat : ∀ a : Nat, a < 4 → ∃ v : Int, W.cell? ⟨w.heap.size, a, none⟩ = some (.int .i64 v) := by
    intro a ha
    rw [← hW]
    rcases (show a = 0 ∨ a = 1 ∨ a = 2 ∨ a = 3 by omega) with rfl | rfl | rfl | rfl
    · exact ⟨a0, by simp⟩
    · exact ⟨a1, by simp⟩
    · exact ⟨a2, by simp⟩
    · exact ⟨a3, by simp⟩
  have hix : ∀ i : Nat, i < 4 → ∃ v : Int, (Instr.index 95 (.agg #[.int .i64 a0, .int .i64 a1, .int .i64 a2, .int .i64 a3]) (.int .i64 (i : Int))).run Try.prog W = .ok (.int .i64 v) W := by
    intro i hi
    rcases (show i = 0 ∨ i = 1 ∨ i = 2 ∨ i = 3 by omega) with rfl | rfl | rfl | rfl
    · exact ⟨a0, i0 _ _ _ _ _⟩
    · exact ⟨a1, i1 _ _ _ _ _⟩
    · exact ⟨a2, i2 _ _ _ _ _⟩
    · exact ⟨a3, i3 _ _ _ _ _⟩
  clear i0 i1 i2 i3 hW
  have HAT := hideC hat
  have HIX := hideC hix
  clear hat hix
  go_loopw [3, 7] (fun va vi wr => ∃ a i : Nat, a < 4 ∧ i ≤ 4 ∧ va = .int .i64 a ∧ vi = .int .i64 i ∧ wr = W) (fun _ vi _ => 4 - (intOf vi).toNat)
  case atStart => exact ⟨0, 0, by decide, by decide, rfl, rfl, rfl⟩
  case round =>
    obtain ⟨a, i, ha, hi, rfl, rfl, hw⟩ := hrel
    subst hw
    by_cases hi4 : i < 4
    · obtain ⟨va, ca⟩ := HAT.out a ha
      obtain ⟨vi, ci⟩ := HIX.out i hi4
      have hia : (a : Int) < 4 := by omega
      have hia0 : (0 : Int) ≤ (a : Int) := by omega
      have hii : (i : Int) < 4 := by omega
      by_cases hv : va < vi
      · go_wp2_with fail
        go_roundw
        case rel => exact ⟨i, i + 1, hi4, by omega, rfl, by go_num, trivial⟩
        case measure => simp [intOf]; omega
      · go_wp2_with fail
        go_roundw
        case rel => exact ⟨a, i + 1, ha, by omega, rfl, by go_num, trivial⟩
        case measure => simp [intOf]; omega
    · have hii : ¬ (i : Int) < 4 := by omega
      go_wp2_with fail
      go_ret
      exact ⟨a, ha, rfl, hbW⟩

end Go.Proofs.Ytlojfgdpmaigmac

/- What comes together, for one key. -/
namespace Go.Proofs.Ytlojfgdpmaigmac
open Go.RowKit Plain

def ansO : Option (List En) → Ru × Int
  | none => (zro, 1)
  | some [] => (zro, 0)
  | some (y :: _) => (y.ru, 0)

def RelO (key : Int) (o : Option (List En)) (s : Ru × Int) : Prop :=
  (o = some [] ∧ s = (zro, 0)) ∨ (∃ y, o = some [y] ∧ y.key = key ∧ Good y.ru ∧ s = (y.ru, 0)) ∨ (o = none ∧ s = (zro, 1))

theorem relO_ans {key : Int} {o : Option (List En)} {s : Ru × Int} (h : RelO key o s) : ansO o = s := by
  rcases h with ⟨rfl, rfl⟩ | ⟨y, rfl, _, _, rfl⟩ | ⟨rfl, rfl⟩ <;> rfl

theorem relO_step {key : Int} {o : Option (List En)} {s : Ru × Int} (h : RelO key o s) {x : En} (hk : x.key = key) (hg : Good x.ru) : RelO key (insO o x) (stepK s x) := by
  rcases h with ⟨rfl, rfl⟩ | ⟨y, rfl, hy, gy, rfl⟩ | ⟨rfl, rfl⟩
  · refine .inr (.inl ⟨x, rfl, hk, hg, ?_⟩)
    unfold stepK
    rw [if_pos rfl]
    exact mrg_zro hg
  · have e : insO (some [y]) x = ins [y] x := rfl
    rw [e, ins_eq (hy.trans hk.symm)]
    unfold stepK
    rw [if_pos rfl]
    show RelO key _ (mrg y.ru x.ru)
    rw [mrg_good gy hg]
    by_cases hc : y.c + x.c ≤ 1073741824
    · rw [if_pos hc, if_pos (show y.ru.c + x.ru.c ≤ 1073741824 from hc)]
      exact .inr (.inl ⟨_, rfl, hk, good_jn gy hg hc, rfl⟩)
    · rw [if_neg hc, if_neg (show ¬ y.ru.c + x.ru.c ≤ 1073741824 from hc)]
      exact .inr (.inr ⟨rfl, rfl⟩)
  · exact .inr (.inr ⟨rfl, rfl⟩)

theorem relO_fold {key : Int} : ∀ (xs : List En) (o : Option (List En)) (s : Ru × Int), RelO key o s → (∀ x ∈ xs, x.key = key ∧ Good x.ru) → RelO key (xs.foldl insO o) (xs.foldl stepK s)
  | [], _, _, h, _ => h
  | x :: xs, o, s, h, hx => relO_fold xs _ _ (relO_step h (hx x (by simp)).1 (hx x (by simp)).2) (fun y hy => hx y (by simp [hy]))

theorem known_eq {ns : List Nd} {root key : Int} (h : treeC ns root = 0) : (Wl ns key (key + 1) 12 root).foldl stepK (zro, 0) = gotA ns key := by
  obtain ⟨r, hW⟩ := treeC_W h
  have hp := tree_perm h
  obtain ⟨_, hok⟩ := tree_each h
  have good : ∀ x ∈ ns.flatMap (fun x => x.buf ++ x.ents), Good x.ru := fun x hx => by
    obtain ⟨n, hn, hx⟩ := List.mem_flatMap.1 hx
    obtain ⟨i, hi, rfl⟩ := List.getElem_of_mem hn
    obtain ⟨_, _, g1, g2⟩ := hok i hi
    rcases List.mem_append.1 hx with hx | hx
    · exact g2 x hx
    · exact g1 x hx
  have pl : ∀ l : List Nd, (l.flatMap (fun x => x.buf ++ x.ents)).Perm (l.flatMap Nd.lst) := fun l => by
    induction l with
    | nil => simp
    | cons a l ih => simpa [Nd.lst] using List.Perm.append (List.perm_append_comm (l₁ := a.buf) (l₂ := a.ents)) ih
  have e1 : Wl ns key (key + 1) 12 root = (Fl ns 12 root).filter (inR key (key + 1)) := Wl_eq 12 _ _ _ _ _ hW
  have p1 : (Wl ns key (key + 1) 12 root).Perm ((ns.flatMap Nd.lst).filter (inR key (key + 1))) := by
    rw [e1]
    exact (hp.trans (pl ns)).filter _
  have each : ∀ x ∈ Wl ns key (key + 1) 12 root, x.key = key ∧ Good x.ru := fun x hx => by
    rw [e1] at hx
    obtain ⟨m, q⟩ := List.mem_filter.1 hx
    have q' : key ≤ x.key ∧ x.key < key + 1 := by simpa [inR] using q
    exact ⟨by omega, good x (hp.subset m)⟩
  have := relO_ans (relO_fold (key := key) (Wl ns key (key + 1) 12 root) (some []) (zro, 0) (.inl ⟨rfl, rfl⟩) each)
  rw [← this]
  have e2 : (Wl ns key (key + 1) 12 root).foldl insO (some []) = allR key (key + 1) (ns.flatMap Nd.lst) := allL_perm p1 (fun x hx => (good_iff.1 (each x hx).2).1.1)
  rw [e2]
  unfold gotA
  cases allR key (key + 1) (ns.flatMap Nd.lst) with
  | none => rfl
  | some ys => cases ys <;> rfl

end Go.Proofs.Ytlojfgdpmaigmac

/- What goes down a tree: lists of entries that tell the same; a list with an entry more. In plain terms. -/
namespace Go.Proofs.Ytlojfgdpmaigmac
open Go.RowKit Plain

def cntK (k : Int) : List En → Int
  | [] => 0
  | y :: r => (if y.key = k then y.c else 0) + cntK k r

theorem cntK_append (k : Int) : ∀ l m : List En, cntK k (l ++ m) = cntK k l + cntK k m
  | [], m => by simp [cntK]
  | y :: r, m => by simp only [List.cons_append, cntK, cntK_append k r m]; omega

theorem cntK_perm {k : Int} {l m : List En} (h : l.Perm m) : cntK k l = cntK k m := by
  induction h with
  | nil => rfl
  | cons x _ ih => simp only [cntK, ih]
  | swap x y l => simp only [cntK]; omega
  | trans _ _ h1 h2 => rw [h1, h2]

def Pos (l : List En) : Prop := ∀ y ∈ l, 1 ≤ y.c

theorem cntK_nn {k : Int} : ∀ {l : List En}, Pos l → 0 ≤ cntK k l
  | [], _ => Int.le_refl _
  | y :: r, h => by
    have h1 := h y List.mem_cons_self
    have h2 := cntK_nn (k := k) (l := r) fun z hz => h z (List.mem_cons_of_mem _ hz)
    simp only [cntK]
    split <;> omega

theorem Pos.app {l m : List En} (h : Pos l) (k : Pos m) : Pos (l ++ m) := fun y hy => (List.mem_append.1 hy).elim (h y) (k y)
theorem Pos.left {l m : List En} (h : Pos (l ++ m)) : Pos l := fun y hy => h y (List.mem_append_left _ hy)
theorem Pos.right {l m : List En} (h : Pos (l ++ m)) : Pos m := fun y hy => h y (List.mem_append_right _ hy)
theorem Pos.perm {l m : List En} (h : Pos l) (p : l.Perm m) : Pos m := fun y hy => h y (p.mem_iff.2 hy)

/-- Two lists of entries tell the same, whatever else comes. -/
structure Eqv (l m : List En) : Prop where
  all : ∀ r, Pos r → allL (l ++ r) = allL (m ++ r)
  cnt : ∀ k, cntK k l = cntK k m
  posl : Pos l
  posm : Pos m

theorem Eqv.refl {l : List En} (h : Pos l) : Eqv l l := ⟨fun _ _ => rfl, fun _ => rfl, h, h⟩
theorem Eqv.symm {l m : List En} (h : Eqv l m) : Eqv m l := ⟨fun r hr => (h.all r hr).symm, fun k => (h.cnt k).symm, h.posm, h.posl⟩
theorem Eqv.trans {l m n : List En} (h : Eqv l m) (k : Eqv m n) : Eqv l n := ⟨fun r hr => (h.all r hr).trans (k.all r hr), fun q => (h.cnt q).trans (k.cnt q), h.posl, k.posm⟩
theorem Eqv.of_perm {l m : List En} (h : l.Perm m) (hp : Pos l) : Eqv l m := ⟨fun r hr => allL_perm (h.append_right r) (hp.app hr), fun _ => cntK_perm h, hp, hp.perm h⟩
theorem Eqv.app {l m : List En} (h : Eqv l m) {r : List En} (hr : Pos r) : Eqv (l ++ r) (m ++ r) :=
  ⟨fun s hs => by rw [List.append_assoc, List.append_assoc]; exact h.all _ (hr.app hs), fun k => by rw [cntK_append, cntK_append, h.cnt], h.posl.app hr, h.posm.app hr⟩
theorem Eqv.app_left {l m : List En} (h : Eqv l m) {r : List En} (hr : Pos r) : Eqv (r ++ l) (r ++ m) :=
  (Eqv.of_perm List.perm_append_comm (hr.app h.posl)).trans ((h.app hr).trans (Eqv.of_perm List.perm_append_comm (h.posm.app hr)))
theorem Eqv.eq {l m : List En} (h : Eqv l m) : allL l = allL m := by simpa using h.all [] (by intro y hy; simp at hy)

/-- Two entries of one key become one. -/
theorem Eqv.join {x y : En} (hk : y.key = x.key) (hx : Good x.ru) (hy : Good y.ru) (hc : y.c + x.c ≤ 1073741824) : Eqv [y, x] [mkE x.key (jn y.ru x.ru)] := by
  have gx := (good_iff.1 hx).1
  have gy := (good_iff.1 hy).1
  have cx : x.ru.c = x.c := rfl
  have cy : y.ru.c = y.c := rfl
  have cj : (mkE x.key (jn y.ru x.ru)).c = y.c + x.c := rfl
  refine ⟨fun r _ => ?_, fun k => ?_, fun z hz => ?_, fun z hz => ?_⟩
  · have e : insO (insO (some []) y) x = insO (some []) (mkE x.key (jn y.ru x.ru)) := by
      show ins [y] x = some [mkE x.key (jn y.ru x.ru)]
      rw [ins_eq hk, if_pos hc]
    show r.foldl insO (insO (insO (some []) y) x) = r.foldl insO (insO (some []) (mkE x.key (jn y.ru x.ru)))
    rw [e]
  · simp only [cntK, mkE_key, cj, hk]
    split <;> omega
  · rcases List.mem_cons.1 hz with rfl | hz
    · omega
    · obtain rfl : z = x := by simpa using hz
      omega
  · obtain rfl : z = mkE x.key (jn y.ru x.ru) := by simpa using hz
    omega

/-! ### A list with an entry more -/

theorem entB_iff {x : En} {lo hi : Int} : entB x lo hi = true ↔ (lo ≤ x.key ∧ x.key < hi) ∧ Good x.ru := by
  constructor
  · intro h
    refine ⟨?_, entB_good h⟩
    simp only [entB, Bool.and_eq_true, decide_eq_true_eq] at h
    exact h.1.1
  · rintro ⟨⟨h1, h2⟩, h3, h4⟩
    simp only [entB, Bool.and_eq_true, decide_eq_true_eq, Bool.not_eq_true', beq_eq_false_iff_ne, beq_iff_eq]
    exact ⟨⟨⟨h1, h2⟩, h4⟩, h3⟩

theorem entsB_glue {k hi : Int} : ∀ {A B : List En} {lo : Int}, entsB A lo k = true → entsB B k hi = true → lo ≤ k → k ≤ hi → entsB (A ++ B) lo hi = true
  | [], B, lo, _, hB, hl, _ => entsB_mono hB hl
  | x :: A, B, lo, hA, hB, _, hh => by
    simp only [entsB, Bool.and_eq_true, List.cons_append] at hA ⊢
    have h1 := entB_iff.1 hA.1
    exact ⟨entB_iff.2 ⟨⟨h1.1.1, by omega⟩, h1.2⟩, entsB_glue hA.2 hB (by omega) hh⟩

theorem entsB_turn {x z : En} {hi : Int} (hz : z.key = x.key) (hg : Good z.ru) : ∀ {A B : List En} {lo : Int}, entsB (A ++ x :: B) lo hi = true → entsB (A ++ z :: B) lo hi = true
  | [], B, lo, h => by
    simp only [List.nil_append, entsB, Bool.and_eq_true] at h ⊢
    have h1 := entB_iff.1 h.1
    exact ⟨entB_iff.2 ⟨⟨by omega, by omega⟩, hg⟩, by rw [hz]; exact h.2⟩
  | y :: A, B, lo, h => by
    simp only [List.cons_append, entsB, Bool.and_eq_true] at h ⊢
    exact ⟨h.1, entsB_turn hz hg h.2⟩

theorem entsB_after {hi k : Int} : ∀ {l : List En}, entsB l k hi = true → (∀ y ∈ l, y.key ≠ k) → entsB l (k + 1) hi = true
  | [], _, _ => rfl
  | x :: r, h, hn => by
    simp only [entsB, Bool.and_eq_true] at h ⊢
    have h1 := entB_iff.1 h.1
    have h2 := hn x List.mem_cons_self
    exact ⟨entB_iff.2 ⟨⟨by omega, h1.1.2⟩, h1.2⟩, h.2⟩

theorem entsB_pos {lo hi : Int} {l : List En} (h : entsB l lo hi = true) : Pos l := fun y hy => (good_iff.1 (entsB_good h y hy)).1.1

structure WithOk (l : List En) (x : En) (lo hi : Int) (m : List En) : Prop where
  ents : entsB m lo hi = true
  eqv : Eqv (x :: l) m
  ne : m ≠ []
  len : m.length = if hasK l x.key = true then l.length else l.length + 1

theorem withE_ok {l : List En} {x : En} {lo hi : Int} (hl : entsB l lo hi = true) (hx : entB x lo hi = true) (hc : cntK x.key l + x.c ≤ 1073741824) : WithOk l x lo hi (withE l x) := by
  have hp := (entsB_lt hl).2
  obtain ⟨⟨hx1, hx2⟩, hxg⟩ := entB_iff.1 hx
  have hpx : (1 : Int) ≤ x.c := (good_iff.1 hxg).1.1
  have hpl := entsB_pos hl
  cases hk : hasK l x.key with
  | true =>
    obtain ⟨hi', hkey⟩ := hasK_low hp hk
    obtain ⟨e1, e2⟩ := set_split l (lowN l x.key) (mkE (l[lowN l x.key]).key (mrg (l[lowN l x.key]).ru x.ru).1) hi'
    have e : withE l x = l.set (lowN l x.key) (mkE (l[lowN l x.key]).key (mrg (l[lowN l x.key]).ru x.ru).1) := by
      unfold withE
      rw [if_pos hk, List.getD_eq_getElem?_getD, List.getElem?_eq_getElem hi']
      rfl
    have hyg : Good (l[lowN l x.key]).ru := entsB_good hl _ (List.getElem_mem hi')
    rw [e, e2]
    generalize l[lowN l x.key] = y at *
    generalize l.take (lowN l x.key) = A at *
    generalize l.drop (lowN l x.key + 1) = B at *
    subst e1
    have hpA := hpl.left
    have hpB : Pos B := fun z hz => hpl.right z (List.mem_cons_of_mem _ hz)
    have hyc : y.c + x.c ≤ 1073741824 := by
      rw [cntK_append, cntK, if_pos hkey] at hc
      have a := cntK_nn (k := x.key) hpA
      have b := cntK_nn (k := x.key) hpB
      omega
    have em : mrg y.ru x.ru = (jn y.ru x.ru, 0) := by rw [mrg_good hyg hxg, if_pos (show y.ru.c + x.ru.c ≤ 1073741824 from hyc)]
    rw [em, hkey]
    have hg := good_jn hyg hxg (show y.ru.c + x.ru.c ≤ 1073741824 from hyc)
    have hg2 : Good (mkE x.key (jn y.ru x.ru)).ru := by rw [mkE_ru]; exact hg
    have hk2 : (mkE x.key (jn y.ru x.ru)).key = y.key := by rw [mkE_key, hkey]
    refine ⟨entsB_turn hk2 hg2 hl, ?_, by simp, by rw [if_pos hk]; simp⟩
    have j := (Eqv.join hkey hxg hyg hyc).app hpB
    have j2 := j.app_left hpA
    refine Eqv.trans (Eqv.of_perm ?_ ?_) j2
    · show (x :: (A ++ y :: B)).Perm (A ++ ([y, x] ++ B))
      refine List.Perm.trans ?_ (List.perm_append_comm (l₁ := [y, x] ++ B) (l₂ := A))
      refine List.Perm.trans ?_ (List.Perm.swap y x (B ++ A))
      exact List.Perm.cons x (List.perm_append_comm (l₁ := A) (l₂ := y :: B))
    · intro z hz
      rcases List.mem_cons.1 hz with rfl | hz
      · exact hpx
      · exact hpl z hz
  | false =>
    have e : withE l x = l.take (lowN l x.key) ++ x :: l.drop (lowN l x.key) := by
      unfold withE
      rw [if_neg (by rw [hk]; decide)]
    obtain ⟨h1, h2⟩ := entsB_lowN (k := x.key) hl hx1
    have hne : ∀ y ∈ l, y.key ≠ x.key := fun y hy q => by
      have : hasK l x.key = true := List.any_eq_true.2 ⟨y, hy, by simpa using q⟩
      rw [hk] at this
      cases this
    have h3 := entsB_after h2 (fun y hy => hne y (List.mem_of_mem_drop hy))
    have hln := lowN_le l x.key
    rw [e]
    refine ⟨entsB_glue h1 ?_ hx1 (by omega), Eqv.of_perm ?_ ?_, by simp, by rw [if_neg (by rw [hk]; decide)]; simp; omega⟩
    · simp only [entsB, Bool.and_eq_true]
      exact ⟨entB_iff.2 ⟨⟨Int.le_refl _, hx2⟩, hxg⟩, h3⟩
    · have : (x :: l).Perm (x :: (l.drop (lowN l x.key) ++ l.take (lowN l x.key))) := by
        refine List.Perm.cons x ?_
        conv => lhs; rw [← List.take_append_drop (lowN l x.key) l]
        exact List.perm_append_comm
      exact this.trans (List.perm_append_comm (l₁ := x :: l.drop (lowN l x.key)) (l₂ := l.take (lowN l x.key)))
    · intro z hz
      rcases List.mem_cons.1 hz with rfl | hz
      · exact hpx
      · exact hpl z hz

end Go.Proofs.Ytlojfgdpmaigmac

/- What goes down a tree: the node's kids, what is below. In plain terms. -/
namespace Go.Proofs.Ytlojfgdpmaigmac
open Go.RowKit Plain

def cP (ns : List Nd) (P : List Int) : List En := P.flatMap fun n => cont (nth ns n)

theorem cP_append (ns : List Nd) (P Q : List Int) : cP ns (P ++ Q) = cP ns P ++ cP ns Q := by simp [cP]
theorem cP_cons (ns : List Nd) (n : Int) (Q : List Int) : cP ns (n :: Q) = cont (nth ns n) ++ cP ns Q := by simp [cP]
theorem cP_congr {ns ns' : List Nd} : ∀ {P : List Int}, (∀ n ∈ P, nth ns' n = nth ns n) → cP ns' P = cP ns P
  | [], _ => rfl
  | n :: Q, h => by rw [cP_cons, cP_cons, h n List.mem_cons_self, cP_congr fun m hm => h m (List.mem_cons_of_mem _ hm)]

/-! ### Which kid -/

def kidJ : List Int → Int → Nat
  | [], _ => 0
  | k0 :: ks, k => if k0 ≤ k then kidJ ks k + 1 else 0

theorem kidI_eq {k : Int} : ∀ {keys : List Int}, keys.Pairwise (· < ·) → kidI keys k = kidJ keys k
  | [], _ => rfl
  | k0 :: ks, h => by
    obtain ⟨h1, h2⟩ := List.pairwise_cons.1 h
    have ih := kidI_eq (k := k) h2
    show kidI (k0 :: ks) k = if k0 ≤ k then kidJ ks k + 1 else 0
    unfold kidI at *
    rw [List.countP_cons, List.contains_cons]
    by_cases a : k0 < k
    · have e : (k == k0) = false := by simp; omega
      rw [if_pos (show k0 ≤ k by omega), ← ih, e, if_pos (show decide (k0 < k) = true by simpa using a), Bool.false_or]
      omega
    · have c1 : ks.countP (fun z => decide (z < k)) = 0 := by
        rw [List.countP_eq_zero]
        intro z hz
        have := h1 z hz
        simp
        omega
      have c2 : ks.contains k = false := by
        rw [← Bool.not_eq_true, List.contains_iff_mem]
        intro hz
        have := h1 k hz
        omega
      rw [c1, c2] at ih
      have ih' : kidJ ks k = 0 := by simpa using ih.symm
      rw [c1, c2, if_neg (show ¬ decide (k0 < k) = true by simpa using a), Bool.or_false]
      by_cases b : k0 = k
      · rw [if_pos (show k0 ≤ k by omega), ih', if_pos (by simp [b])]
      · rw [if_neg (show ¬ k0 ≤ k by omega), if_neg (by simp; omega)]

theorem keys_rise {g : Rel} (hg : ∀ d lo hi Q, g d lo hi Q → lo < hi) {hi : Int} : ∀ {kids keys : List Int} {lo : Int} {Q : List Int}, keys.length + 1 = kids.length → SubK g lo (ups kids keys hi) Q → keys.Pairwise (· < ·) ∧ (∀ k ∈ keys, lo < k ∧ k < hi) ∧ lo < hi
  | [], _, _, _, h, _ => by simp at h
  | [d], keys, lo, Q, h, hs => by
    obtain rfl : keys = [] := List.eq_nil_of_length_eq_zero (by simpa using h)
    obtain ⟨Q1, Q2, rfl, h1, h2⟩ := hs
    exact ⟨List.Pairwise.nil, by simp, hg _ _ _ _ h1⟩
  | d :: e :: ds, [], lo, Q, h, _ => by simp at h
  | d :: e :: ds, k :: ks, lo, Q, h, hs => by
    obtain ⟨Q1, Q2, rfl, h1, h2⟩ := hs
    obtain ⟨a, b, c⟩ := keys_rise hg (kids := e :: ds) (keys := ks) (by simpa using h) h2
    have hlt := hg _ _ _ _ h1
    refine ⟨List.pairwise_cons.2 ⟨fun z hz => (b z hz).1, a⟩, fun z hz => ?_, by omega⟩
    rcases List.mem_cons.1 hz with rfl | hz
    · omega
    · have := b z hz; omega

/-- The kid that has a key: what it is; and how the node is made again if only that kid has turned. -/
theorem SubK_pick {g : Rel} (hg : ∀ d lo hi Q, g d lo hi Q → lo < hi) {hi k : Int} : ∀ {kids keys : List Int} {lo : Int} {Q : List Int}, keys.length + 1 = kids.length → SubK g lo (ups kids keys hi) Q → lo ≤ k → k < hi →
    ∃ l u Qa Qd Qb, kidJ keys k < kids.length ∧ Q = Qa ++ Qd ++ Qb ∧ g (kids.getD (kidJ keys k) 0) l u Qd ∧ l ≤ k ∧ k < u ∧ lo ≤ l ∧ u ≤ hi ∧
      ∀ g' : Rel, (∀ d l u Q', g d l u Q' → (∀ n ∈ Q', n ∈ Qa ++ Qb) → g' d l u Q') → g' (kids.getD (kidJ keys k) 0) l u Qd → SubK g' lo (ups kids keys hi) Q
  | [], _, _, _, h, _, _, _ => by simp at h
  | [d], keys, lo, Q, h, hs, h1, h2 => by
    obtain rfl : keys = [] := List.eq_nil_of_length_eq_zero (by simpa using h)
    obtain ⟨Q1, Q2, rfl, a, b⟩ := hs
    cases b
    exact ⟨lo, hi, [], Q1, [], by simp [kidJ], by simp, a, h1, h2, Int.le_refl _, Int.le_refl _, fun g' _ hd => ⟨Q1, [], rfl, hd, rfl⟩⟩
  | d :: e :: ds, [], lo, Q, h, _, _, _ => by simp at h
  | d :: e :: ds, k0 :: ks, lo, Q, h, hs, h1, h2 => by
    obtain ⟨Q1, Q2, rfl, a, b⟩ := hs
    have hlt := hg _ _ _ _ a
    have hrs := (keys_rise hg (kids := e :: ds) (keys := ks) (by simpa using h) b).2.2
    by_cases hk : k0 ≤ k
    · obtain ⟨l, u, Qa, Qd, Qb, c1, rfl, c3, c4, c5, c7, c8, c6⟩ := SubK_pick hg (kids := e :: ds) (keys := ks) (by simpa using h) b hk h2
      have ej : kidJ (k0 :: ks) k = kidJ ks k + 1 := by simp [kidJ, hk]
      have ed : (d :: e :: ds).getD (kidJ (k0 :: ks) k) 0 = (e :: ds).getD (kidJ ks k) 0 := by rw [ej, List.getD_cons_succ]
      refine ⟨l, u, Q1 ++ Qa, Qd, Qb, by rw [ej]; simpa using c1, by simp, by rw [ed]; exact c3, c4, c5, by omega, c8, fun g' hg' hd => ?_⟩
      rw [ed] at hd
      refine ⟨Q1, Qa ++ Qd ++ Qb, by simp, hg' _ _ _ _ a (fun n hn => by simp [hn]), c6 g' (fun d l u Q' q1 q2 => hg' d l u Q' q1 fun n hn => ?_) hd⟩
      have := q2 n hn
      simp only [List.mem_append] at this ⊢
      rcases this with t | t
      · exact .inl (.inr t)
      · exact .inr t
    · have ej : kidJ (k0 :: ks) k = 0 := by simp [kidJ, hk]
      rw [ej]
      refine ⟨lo, k0, [], Q1, Q2, by simp, by simp, by simpa using a, h1, by omega, Int.le_refl _, by omega, fun g' hg' hd => ⟨Q1, Q2, rfl, by simpa using hd, SubK_imp b fun d l u Q' q1 q2 => hg' d l u Q' q1 fun n hn => by simp [q2 n hn]⟩⟩

/-- A node, h + 1 above the leaves, and its kid that has a key. -/
theorem Sub_pick {T : Nat} {ns : List Nd} {h : Nat} {p lo hi k : Int} {P : List Int} (hs : Sub T 4 ns (h + 1) p lo hi P) (hP : P.Nodup) (h1 : lo ≤ k) (h2 : k < hi) :
    ∃ l u Qa Qd Qb, kidI (nth ns p).keys k < (nth ns p).kids.length ∧ P = p :: (Qa ++ Qd ++ Qb) ∧ Sub T 4 ns h ((nth ns p).kids.getD (kidI (nth ns p).keys k) 0) l u Qd ∧ l ≤ k ∧ k < u ∧ Qd.Nodup ∧ p ∉ Qd ∧ lo ≤ l ∧ u ≤ hi ∧
      ∀ ns', ns'.length = ns.length → (∀ n, n ∉ Qd → 0 ≤ n → nth ns' n = nth ns n) → Sub T 4 ns' h ((nth ns p).kids.getD (kidI (nth ns p).keys k) 0) l u Qd → Sub T 4 ns' (h + 1) p lo hi P := by
  obtain ⟨hr, Q, rfl, hin⟩ := hs
  have hrise := keys_rise (Sub_lt h) hin.keys hin.kids
  rw [kidI_eq hrise.1]
  obtain ⟨l, u, Qa, Qd, Qb, c1, rfl, c3, c4, c5, c7, c8, c6⟩ := SubK_pick (Sub_lt h) hin.keys hin.kids h1 h2
  have hnd := hP
  rw [List.nodup_cons, List.nodup_append, List.nodup_append] at hnd
  obtain ⟨hpn, ⟨na, nd, nad⟩, nb, nab⟩ := hnd
  have hpd : p ∉ Qd := fun e => hpn (by simp [e])
  refine ⟨l, u, Qa, Qd, Qb, c1, rfl, c3, c4, c5, nd, hpd, c7, c8, fun ns' hl hsame hd => ?_⟩
  · refine ⟨⟨hr.1, by omega, hr.2.2⟩, Qa ++ Qd ++ Qb, rfl, ?_⟩
    rw [hsame p hpd hr.1]
    refine ⟨hin.leaf, hin.ents, hin.two, hin.most, hin.keys, hin.few, hin.buf, c6 _ (fun d l u Q' q1 q2 => Sub_congr h d l u Q' q1 fun n hn => ?_) hd⟩
    have hm := q2 n hn
    have hnd : n ∉ Qd := by
      intro e
      rcases List.mem_append.1 hm with t | t
      · exact nad n t n e rfl
      · exact nab n (List.mem_append_right _ e) n t rfl
    exact ⟨hsame n hnd (Sub_range h _ _ _ _ q1 n hn).1, by rw [hl]; exact (Sub_range h _ _ _ _ q1 n hn).2⟩

/-- What a node and all below it know: entries of its keys, that may be. -/
theorem Sub_cont {T m : Nat} {ns : List Nd} : ∀ (h : Nat) (p lo hi : Int) (P : List Int), Sub T m ns h p lo hi P → ∀ y ∈ cP ns P, (lo ≤ y.key ∧ y.key < hi) ∧ Good y.ru
  | 0, p, lo, hi, P, hs, y, hy => by
    obtain ⟨_, rfl, hl⟩ := hs
    have hy' : y ∈ (nth ns p).ents := by simpa [cP, cont, hl.buf] using hy
    exact ⟨(entsB_lt hl.ents).1 y hy', entsB_good hl.ents y hy'⟩
  | h + 1, p, lo, hi, P, hs, y, hy => by
    obtain ⟨_, Q, rfl, hin⟩ := hs
    rw [cP_cons] at hy
    rcases List.mem_append.1 hy with hy | hy
    · have hy' : y ∈ (nth ns p).buf := by simpa [cont, hin.ents] using hy
      exact ⟨(entsB_lt hin.buf).1 y hy', entsB_good hin.buf y hy'⟩
    · have ih := Sub_cont (T := T) (m := m) (ns := ns) h
      have : ∀ (kids keys : List Int) (lo' : Int) (Q : List Int), keys.length + 1 = kids.length → SubK (Sub T m ns h) lo' (ups kids keys hi) Q → ∀ y ∈ cP ns Q, (lo' ≤ y.key ∧ y.key < hi) ∧ Good y.ru := by
        intro kids
        induction kids with
        | nil => intro keys lo' Q hk; simp at hk
        | cons d ds ihd =>
          intro keys lo' Q hk hQ y hy
          have hr := keys_rise (Sub_lt h) hk hQ
          cases ds with
          | nil =>
            obtain rfl : keys = [] := List.eq_nil_of_length_eq_zero (by simpa using hk)
            obtain ⟨Q1, Q2, rfl, h1, h2⟩ := hQ
            cases h2
            rw [List.append_nil] at hy
            exact ih _ _ _ _ h1 y hy
          | cons e ds =>
            cases keys with
            | nil => simp at hk
            | cons k ks =>
              obtain ⟨Q1, Q2, rfl, h1, h2⟩ := hQ
              have hk1 := hr.2.1 k List.mem_cons_self
              rw [cP_append] at hy
              rcases List.mem_append.1 hy with hy | hy
              · obtain ⟨a, b⟩ := ih _ _ _ _ h1 y hy
                exact ⟨⟨a.1, by omega⟩, b⟩
              · obtain ⟨a, b⟩ := ihd ks k Q2 (by simpa using hk) h2 y hy
                exact ⟨⟨by omega, a.2⟩, b⟩
      exact this _ _ _ _ hin.keys hin.kids y hy

theorem Sub_pos {T m : Nat} {ns : List Nd} {h : Nat} {p lo hi : Int} {P : List Int} (hs : Sub T m ns h p lo hi P) : Pos (cP ns P) := fun y hy => (good_iff.1 (Sub_cont h p lo hi P hs y hy).2).1.1

theorem Sub_reach {T m : Nat} {ns : List Nd} : ∀ (h f : Nat) (p lo hi : Int) (P : List Int), Sub T m ns h p lo hi P → h < f → Reach ns f p
  | 0, f + 1, p, lo, hi, P, hs, _ => by
    obtain ⟨hr, rfl, hl⟩ := hs
    refine ⟨hr.1, hr.2.1, ?_⟩
    rw [show ns.getD p.toNat default = nth ns p from rfl, hl.kids]
    simp
  | h + 1, f + 1, p, lo, hi, P, hs, hf => by
    obtain ⟨hr, Q, rfl, hin⟩ := hs
    refine ⟨hr.1, hr.2.1, ?_⟩
    rw [show ns.getD p.toNat default = nth ns p from rfl]
    refine ⟨by have := hin.keys; omega, fun d hd => ?_⟩
    have : ∀ (kids keys : List Int) (lo' : Int) (Q : List Int), keys.length + 1 = kids.length → SubK (Sub T m ns h) lo' (ups kids keys hi) Q → ∀ d ∈ kids, ∃ l u Q', Sub T m ns h d l u Q' := by
      intro kids
      induction kids with
      | nil => intro keys lo' Q hk; simp at hk
      | cons e ds ihd =>
        intro keys lo' Q hk hQ d hd
        cases ds with
        | nil =>
          obtain rfl : keys = [] := List.eq_nil_of_length_eq_zero (by simpa using hk)
          obtain ⟨Q1, Q2, rfl, h1, h2⟩ := hQ
          obtain rfl : d = e := by simpa using hd
          exact ⟨_, _, _, h1⟩
        | cons e' ds =>
          cases keys with
          | nil => simp at hk
          | cons k ks =>
            obtain ⟨Q1, Q2, rfl, h1, h2⟩ := hQ
            rcases List.mem_cons.1 hd with rfl | hd
            · exact ⟨_, _, _, h1⟩
            · exact ihd ks k Q2 (by simpa using hk) h2 d hd
    obtain ⟨l, u, Q', hd'⟩ := this _ _ _ _ hin.keys hin.kids d hd
    exact Sub_reach h f d l u Q' hd' (by omega)

theorem inR_none {low high : Int} {l : List En} (h : ∀ y ∈ l, ¬ (low ≤ y.key ∧ y.key < high)) : l.filter (inR low high) = [] := by
  rw [List.filter_eq_nil_iff]
  intro y hy e
  exact h y hy (by simpa [inR] using e)

/-- What the code walks from a node on. -/
theorem Sub_Wl {T m : Nat} {ns : List Nd} {low high : Int} : ∀ (h f : Nat) (p lo hi : Int) (P : List Int), Sub T m ns h p lo hi P → h < f → Wl ns low high f p = (cP ns P).filter (inR low high)
  | 0, f + 1, p, lo, hi, P, hs, _ => by
    obtain ⟨hr, rfl, hl⟩ := hs
    rw [Wl, show ns.getD p.toNat default = nth ns p from rfl, hl.kids, hl.buf]
    simp [WlK, cP, cont, hl.buf]
  | h + 1, f + 1, p, lo, hi, P, hs, hf => by
    obtain ⟨hr, Q, rfl, hin⟩ := hs
    rw [Wl, show ns.getD p.toNat default = nth ns p from rfl, cP_cons, List.filter_append, hin.ents]
    have : ∀ (kids keys : List Int) (lo' : Int) (Q : List Int) (pr : Option Int), keys.length + 1 = kids.length → SubK (Sub T m ns h) lo' (ups kids keys hi) Q → (∀ k, pr = some k → k = lo') → WlK (Wl ns low high f) low high kids keys pr = (cP ns Q).filter (inR low high) := by
      intro kids
      induction kids with
      | nil => intro keys lo' Q pr hk; simp at hk
      | cons d ds ihd =>
        intro keys lo' Q pr hk hQ hpr
        have one : ∀ (u : Int) (Q1 : List Int) (nx : Option Int), Sub T m ns h d lo' u Q1 → (∀ k, nx = some k → k = u) → (if skipB low high pr nx = true then [] else Wl ns low high f d) = (cP ns Q1).filter (inR low high) := by
          intro u Q1 nx h1 hnx
          by_cases hsk : skipB low high pr nx = true
          · rw [if_pos hsk, inR_none]
            intro y hy
            have hc := (Sub_cont h _ _ _ _ h1 y hy).1
            unfold skipB at hsk
            rw [Bool.or_eq_true] at hsk
            rcases hsk with e | e
            · cases pr with
              | none => simp at e
              | some k =>
                have := hpr k rfl
                simp at e
                omega
            · cases nx with
              | none => simp at e
              | some k =>
                have := hnx k rfl
                simp at e
                omega
          · rw [if_neg hsk]
            exact Sub_Wl h f d lo' u Q1 h1 (by omega)
        cases ds with
        | nil =>
          obtain rfl : keys = [] := List.eq_nil_of_length_eq_zero (by simpa using hk)
          obtain ⟨Q1, Q2, rfl, h1, h2⟩ := hQ
          cases h2
          rw [WlK, one _ _ _ h1 (by simp), List.append_nil]
          simp [WlK]
        | cons e ds =>
          cases keys with
          | nil => simp at hk
          | cons k ks =>
            obtain ⟨Q1, Q2, rfl, h1, h2⟩ := hQ
            rw [WlK, one _ _ _ h1 (by simp), cP_append, List.filter_append]
            congr 1
            exact ihd ks k Q2 _ (by simpa using hk) h2 (by simp)
    rw [this _ _ _ _ _ hin.keys hin.kids (by simp)]
    simp [cont, hin.ents]

end Go.Proofs.Ytlojfgdpmaigmac
