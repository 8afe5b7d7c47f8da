/- What comes together, for one key. -/
import Derived.Test.YtlojfgdpmaigmacGreatDoorP25
import Derived.Test.YtlojfgdpmaigmacGreatDoorP16
namespace Go.Proofs.YtlojfgdpmaigmacGreatDoor
open Go.RowKit Plain

theorem known_eq {ns : List Nd} {root key : Int} (h : treeC ns root = 0) : (Wl ns key (key + 1) 12 root).foldl stepK (zro, 0) = gotA ns key := by
  obtain ⟨r, hW⟩ := treeC_W h
  have hp := tree_perm h
  obtain ⟨_, hok⟩ := tree_each h
  have good : ∀ x ∈ ns.flatMap (fun x => x.buf ++ x.ents), Good x.ru := fun x hx => by
    obtain ⟨n, hn, hx⟩ := List.mem_flatMap.1 hx
    obtain ⟨i, hi, rfl⟩ := List.getElem_of_mem hn
    obtain ⟨_, _, g1, g2⟩ := hok i hi
    rcases List.mem_append.1 hx with hx | hx
    · exact g2 x hx
    · exact g1 x hx
  have pl : ∀ l : List Nd, (l.flatMap (fun x => x.buf ++ x.ents)).Perm (l.flatMap Nd.lst) := fun l => by
    induction l with
    | nil => simp
    | cons a l ih => simpa [Nd.lst] using List.Perm.append (List.perm_append_comm (l₁ := a.buf) (l₂ := a.ents)) ih
  have e1 : Wl ns key (key + 1) 12 root = (Fl ns 12 root).filter (inR key (key + 1)) := Wl_eq 12 _ _ _ _ _ hW
  have p1 : (Wl ns key (key + 1) 12 root).Perm ((ns.flatMap Nd.lst).filter (inR key (key + 1))) := by
    rw [e1]
    exact (hp.trans (pl ns)).filter _
  have each : ∀ x ∈ Wl ns key (key + 1) 12 root, x.key = key ∧ Good x.ru := fun x hx => by
    rw [e1] at hx
    obtain ⟨m, q⟩ := List.mem_filter.1 hx
    have q' : key ≤ x.key ∧ x.key < key + 1 := by simpa [inR] using q
    exact ⟨by omega, good x (hp.subset m)⟩
  have := relO_ans (relO_fold (key := key) (Wl ns key (key + 1) 12 root) (some []) (zro, 0) (.inl ⟨rfl, rfl⟩) each)
  rw [← this]
  have e2 : (Wl ns key (key + 1) 12 root).foldl insO (some []) = allR key (key + 1) (ns.flatMap Nd.lst) := allL_perm p1 (fun x hx => (good_iff.1 (each x hx).2).1.1)
  rw [e2]
  unfold gotA
  cases allR key (key + 1) (ns.flatMap Nd.lst) with
  | none => rfl
  | some ys => cases ys <;> rfl

end Go.Proofs.YtlojfgdpmaigmacGreatDoor
