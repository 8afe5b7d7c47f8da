/- What a base knows with one point more: in plain terms. -/
import Derived.Test.YtlojfgdpmaigmacGreatDoorP19
import Derived.Test.YtlojfgdpmaigmacGreatDoorP21
import Derived.Test.YtlojfgdpmaigmacGreatDoorP47
import Derived.Test.YtlojfgdpmaigmacGreatDoorP39
namespace Go.Proofs.YtlojfgdpmaigmacGreatDoor
open Go.RowKit Plain

theorem ins_full {x y : En} : ∀ {L : List En}, (L.Pairwise fun a b => a.key < b.key) → y ∈ L → y.key = x.key → ¬ y.c + x.c ≤ 1073741824 → ins L x = none
  | [], _, hy, _, _ => by simp at hy
  | z :: r, hp, hy, hk, hc => by
    rw [List.pairwise_cons] at hp
    rcases List.mem_cons.1 hy with rfl | hy
    · rw [ins_eq hk, if_neg hc]
    · have := hp.1 y hy
      rw [ins_gt (by omega), ins_full hp.2 hy hk hc]
      rfl

theorem allP_zero {ns : List Nd} {root : Int} {L : List En} (h : allP ns root 0 1099511627776 = (0, L)) : treeC ns root = 0 ∧ allR 0 1099511627776 (ns.flatMap Nd.lst) = some L := by
  unfold allP at h
  by_cases hc : treeC ns root = 0
  · rw [if_neg (by simpa using hc)] at h
    cases ha : allR 0 1099511627776 (ns.flatMap Nd.lst) with
    | none => rw [ha] at h; cases h
    | some ys => rw [ha] at h; cases h; exact ⟨hc, rfl⟩
  · rw [if_pos hc] at h
    exact absurd (congrArg Prod.fst h) hc

theorem allP_of {ns : List Nd} {root : Int} {L : List En} (hc : treeC ns root = 0) (h : allR 0 1099511627776 (ns.flatMap Nd.lst) = some L) : allP ns root 0 1099511627776 = (0, L) := by
  unfold allP
  rw [if_neg (by simpa using hc), h]

/-- What a Put refuses of a tree that may be, and whose entries come together. -/
theorem put_code {ns : List Nd} {root key : Int} {r : Ru} {L : List En} (h : allP ns root 0 1099511627776 = (0, L)) (hg : Good r) (hk : 0 ≤ key ∧ key ≤ 1099511627775) :
    (putF ns root key r = 0 ∧ ∃ ys, ins L (mkE key r) = some ys) ∨ (putF ns root key r = 1 ∧ ins L (mkE key r) = none) := by
  obtain ⟨hc, hl⟩ := allP_zero h
  have hf := allP_facts (ns := ns) (r := root) (low := 0) (high := 1099511627776)
  rw [h] at hf
  have hr := allP_range (ns := ns) (r := root) (low := key) (high := key + 1) (by rw [h])
  rw [h] at hr
  have hq : allR key (key + 1) (ns.flatMap Nd.lst) = some (L.filter (inR key (key + 1))) := by
    unfold allP at hr
    rw [if_neg (by simpa using hc)] at hr
    cases ha : allR key (key + 1) (ns.flatMap Nd.lst) with
    | none => rw [ha] at hr; cases hr
    | some ys => rw [ha] at hr; cases hr; rfl
  have he : entC (mkE key r) = 0 := by
    unfold entC
    rw [if_pos ⟨(inB_iff _ _ _).2 hk, hg.2⟩]
    exact hg.1
  have hs := known_eq (key := key) hc
  unfold gotA at hs
  rw [hq] at hs
  have hF : putF ns root key r = (mrg ((Wl ns key (key + 1) 12 root).foldl stepK (zro, 0)).1 r).2 := by
    unfold putF
    rw [if_neg (by simpa using hc), if_neg (by simpa using he), if_neg]
    rw [hs]
    cases L.filter (inR key (key + 1)) <;> simp
  cases hm : L.filter (inR key (key + 1)) with
  | nil =>
    rw [hm] at hs
    have h0 : putF ns root key r = 0 := by
      rw [hF, hs]
      show (mrg zro r).2 = 0
      rw [mrg_zro hg]
    obtain ⟨ys, e, _⟩ := put_ins h0 hl
    exact .inl ⟨h0, ys, e⟩
  | cons y rest =>
    rw [hm] at hs
    have hy : y ∈ L.filter (inR key (key + 1)) := by rw [hm]; exact List.mem_cons_self
    obtain ⟨hy1, hy2⟩ := List.mem_filter.1 hy
    have hyk : y.key = key := by
      simp only [inR, Bool.and_eq_true, decide_eq_true_eq] at hy2
      omega
    have hyg := hf.2.1 y hy1
    have e1 : putF ns root key r = (mrg y.ru r).2 := by rw [hF, hs]
    rw [mrg_good hyg hg] at e1
    by_cases hcn : y.ru.c + r.c ≤ 1073741824
    · rw [if_pos hcn] at e1
      obtain ⟨ys, e, _⟩ := put_ins e1 hl
      exact .inl ⟨e1, ys, e⟩
    · rw [if_neg hcn] at e1
      exact .inr ⟨e1, ins_full hf.1 hy1 hyk hcn⟩

/-- What a Put's tree knows. -/
theorem put_allP {ns ns2 : List Nd} {root root2 key : Int} {r : Ru} {L ys : List En} (h : allP ns root 0 1099511627776 = (0, L)) (hF : putF ns root key r = 0) (hok : PutOk ns ns2 root2 (mkE key r)) (hz : ns2.length ≤ 2000) (hy : ins L (mkE key r) = some ys) :
    allP ns2 root2 0 1099511627776 = (0, ys) := by
  obtain ⟨_, hl⟩ := allP_zero h
  obtain ⟨zs, e1, e2, _⟩ := put_knows hF hok hz hl
  rw [hy] at e1
  cases e1
  exact allP_of (hok.fine hz) e2

/-! ### Names -/

/-- Names with one that may be new. -/
def withS (ss : List ByteArray) (s : ByteArray) : List ByteArray := if Lib.idxOfS ss s < 0 then ss ++ [s] else ss
def plc (ss : List ByteArray) (s : ByteArray) : Int := if Lib.idxOfS ss s < 0 then ss.length else Lib.idxOfS ss s

theorem idx_neg {ss : List ByteArray} {s : ByteArray} : Lib.idxOfS ss s < 0 ↔ s ∉ ss := by
  rw [← Lib.idxOfS_nonneg_iff]
  omega

theorem getD_of_lt {ss : List ByteArray} {k : Nat} (h : k < ss.length) : ss.getD k ByteArray.empty = ss[k] := by
  rw [List.getD_eq_getElem?_getD, List.getElem?_eq_getElem h]
  rfl

theorem first_at {ss : List ByteArray} {s : ByteArray} (n : Nat) (h : ss.getD n ByteArray.empty = s) : ∃ k, k ≤ n ∧ ss.getD k ByteArray.empty = s ∧ ∀ j, j < k → ss.getD j ByteArray.empty ≠ s := by
  induction n using Nat.strongRecOn with
  | ind n ih =>
    by_cases hj : ∃ j, j < n ∧ ss.getD j ByteArray.empty = s
    · obtain ⟨j, h1, h2⟩ := hj
      obtain ⟨k, q1, q2, q3⟩ := ih j h1 h2
      exact ⟨k, by omega, q2, q3⟩
    · exact ⟨n, Nat.le_refl _, h, fun j h1 h2 => hj ⟨j, h1, h2⟩⟩

theorem idx_at {ss : List ByteArray} {s : ByteArray} (h : s ∈ ss) : ∃ k : Nat, k < ss.length ∧ Lib.idxOfS ss s = k ∧ ss.getD k ByteArray.empty = s := by
  obtain ⟨n, hn, e⟩ := List.getElem_of_mem h
  obtain ⟨k, h1, h2, h3⟩ := first_at n (by rw [getD_of_lt hn, e])
  have := Lib.idxOfS_hit ss ss.length k s (by omega) (Nat.le_refl _) h2 h3
  rw [List.take_length] at this
  exact ⟨k, by omega, this, h2⟩

theorem plc_with (ss : List ByteArray) (s : ByteArray) : Lib.idxOfS (withS ss s) s = plc ss s ∧ 0 ≤ plc ss s ∧ plc ss s < (withS ss s).length := by
  unfold withS plc
  by_cases h : Lib.idxOfS ss s < 0
  · simp only [if_pos h]
    have hn := idx_neg.1 h
    have e := Lib.idxOfS_hit (ss ++ [s]) (ss ++ [s]).length ss.length s (by simp) (Nat.le_refl _) (by simp [List.getD_eq_getElem?_getD]) (fun j hj e => hn (by
      rw [getD_of_lt (by simp; omega), List.getElem_append_left hj] at e
      rw [← e]
      exact List.getElem_mem hj))
    rw [List.take_length] at e
    exact ⟨e, by omega, by simp; omega⟩
  · simp only [if_neg h]
    have hm : s ∈ ss := Classical.byContradiction fun c => h (idx_neg.2 c)
    obtain ⟨k, hk, e, _⟩ := idx_at hm
    exact ⟨by trivial, by omega, by omega⟩

/-! ### A base with one point more -/

/-- The point's entry, in each tree. -/
def ptE (p t v : Int) : En := mkE (p * 1048576 + t) (one t v)
theorem pt_bk {p t v size : Int} (ht : 0 ≤ t ∧ t ≤ 1048575) : bk size (ptE p t v) = mkE (p * 1048576 + (t - t % size)) (one t v) := by
  have h1 : (p * 1048576 + t) % 1048576 = t := by omega
  have e : (bk size (ptE p t v)).key = p * 1048576 + (t - t % size) := by
    show p * 1048576 + t - (p * 1048576 + t) % 1048576 % size = _
    rw [h1]
    omega
  show ({ ptE p t v with key := (bk size (ptE p t v)).key } : En) = _
  rw [e]
  rfl

theorem one_good {t v : Int} (ht : 0 ≤ t ∧ t ≤ 1048575) (hv : -1000000 ≤ v ∧ v ≤ 1000000) : Good (one t v) := ⟨chk_one ht hv, by simp [one]⟩

end Go.Proofs.YtlojfgdpmaigmacGreatDoor
