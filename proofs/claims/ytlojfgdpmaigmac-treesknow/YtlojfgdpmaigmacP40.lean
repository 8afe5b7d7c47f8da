/- What comes together of one key, step by step. -/
import Derived.Test.YtlojfgdpmaigmacP31
import Derived.Test.YtlojfgdpmaigmacP29
import Derived.Test.YtlojfgdpmaigmacP34
namespace Go.Proofs.Ytlojfgdpmaigmac
open Go.RowKit Plain

def ansO : Option (List En) → Ru × Int
  | none => (zro, 1)
  | some [] => (zro, 0)
  | some (y :: _) => (y.ru, 0)

def RelO (key : Int) (o : Option (List En)) (s : Ru × Int) : Prop :=
  (o = some [] ∧ s = (zro, 0)) ∨ (∃ y, o = some [y] ∧ y.key = key ∧ Good y.ru ∧ s = (y.ru, 0)) ∨ (o = none ∧ s = (zro, 1))

theorem relO_ans {key : Int} {o : Option (List En)} {s : Ru × Int} (h : RelO key o s) : ansO o = s := by
  rcases h with ⟨rfl, rfl⟩ | ⟨y, rfl, _, _, rfl⟩ | ⟨rfl, rfl⟩ <;> rfl

theorem relO_step {key : Int} {o : Option (List En)} {s : Ru × Int} (h : RelO key o s) {x : En} (hk : x.key = key) (hg : Good x.ru) : RelO key (insO o x) (stepK s x) := by
  rcases h with ⟨rfl, rfl⟩ | ⟨y, rfl, hy, gy, rfl⟩ | ⟨rfl, rfl⟩
  · refine .inr (.inl ⟨x, rfl, hk, hg, ?_⟩)
    unfold stepK
    rw [if_pos rfl]
    exact mrg_zro hg
  · have e : insO (some [y]) x = ins [y] x := rfl
    rw [e, ins_eq (hy.trans hk.symm)]
    unfold stepK
    rw [if_pos rfl]
    show RelO key _ (mrg y.ru x.ru)
    rw [mrg_good gy hg]
    by_cases hc : y.c + x.c ≤ 1073741824
    · rw [if_pos hc, if_pos (show y.ru.c + x.ru.c ≤ 1073741824 from hc)]
      exact .inr (.inl ⟨_, rfl, hk, good_jn gy hg hc, rfl⟩)
    · rw [if_neg hc, if_neg (show ¬ y.ru.c + x.ru.c ≤ 1073741824 from hc)]
      exact .inr (.inr ⟨rfl, rfl⟩)
  · exact .inr (.inr ⟨rfl, rfl⟩)

theorem relO_fold {key : Int} : ∀ (xs : List En) (o : Option (List En)) (s : Ru × Int), RelO key o s → (∀ x ∈ xs, x.key = key ∧ Good x.ru) → RelO key (xs.foldl insO o) (xs.foldl stepK s)
  | [], _, _, h, _ => h
  | x :: xs, o, s, h, hx => relO_fold xs _ _ (relO_step h (hx x (by simp)).1 (hx x (by simp)).2) (fun y hy => hx y (by simp [hy]))

end Go.Proofs.Ytlojfgdpmaigmac

/- What comes together, for one key. -/
namespace Go.Proofs.Ytlojfgdpmaigmac
open Go.RowKit Plain

theorem known_eq {ns : List Nd} {root key : Int} (h : treeC ns root = 0) : (Wl ns key (key + 1) 12 root).foldl stepK (zro, 0) = gotA ns key := by
  obtain ⟨r, hW⟩ := treeC_W h
  have hp := tree_perm h
  obtain ⟨_, hok⟩ := tree_each h
  have good : ∀ x ∈ ns.flatMap (fun x => x.buf ++ x.ents), Good x.ru := fun x hx => by
    obtain ⟨n, hn, hx⟩ := List.mem_flatMap.1 hx
    obtain ⟨i, hi, rfl⟩ := List.getElem_of_mem hn
    obtain ⟨_, _, g1, g2⟩ := hok i hi
    rcases List.mem_append.1 hx with hx | hx
    · exact g2 x hx
    · exact g1 x hx
  have pl : ∀ l : List Nd, (l.flatMap (fun x => x.buf ++ x.ents)).Perm (l.flatMap Nd.lst) := fun l => by
    induction l with
    | nil => simp
    | cons a l ih => simpa [Nd.lst] using List.Perm.append (List.perm_append_comm (l₁ := a.buf) (l₂ := a.ents)) ih
  have e1 : Wl ns key (key + 1) 12 root = (Fl ns 12 root).filter (inR key (key + 1)) := Wl_eq 12 _ _ _ _ _ hW
  have p1 : (Wl ns key (key + 1) 12 root).Perm ((ns.flatMap Nd.lst).filter (inR key (key + 1))) := by
    rw [e1]
    exact (hp.trans (pl ns)).filter _
  have each : ∀ x ∈ Wl ns key (key + 1) 12 root, x.key = key ∧ Good x.ru := fun x hx => by
    rw [e1] at hx
    obtain ⟨m, q⟩ := List.mem_filter.1 hx
    have q' : key ≤ x.key ∧ x.key < key + 1 := by simpa [inR] using q
    exact ⟨by omega, good x (hp.subset m)⟩
  have := relO_ans (relO_fold (key := key) (Wl ns key (key + 1) 12 root) (some []) (zro, 0) (.inl ⟨rfl, rfl⟩) each)
  rw [← this]
  have e2 : (Wl ns key (key + 1) 12 root).foldl insO (some []) = allR key (key + 1) (ns.flatMap Nd.lst) := allL_perm p1 (fun x hx => (good_iff.1 (each x hx).2).1.1)
  rw [e2]
  unfold gotA
  cases allR key (key + 1) (ns.flatMap Nd.lst) with
  | none => rfl
  | some ys => cases ys <;> rfl

end Go.Proofs.Ytlojfgdpmaigmac
