/- What a base knows with one point more: in plain terms. -/
import Derived.Test.YtlojfgdpmaigmaeGreatDoorP19
import Derived.Test.YtlojfgdpmaigmaeGreatDoorP22
import Derived.Test.YtlojfgdpmaigmaeGreatDoorP32
import Derived.Test.YtlojfgdpmaigmaeGreatDoorP44
import Derived.Test.YtlojfgdpmaigmaeGreatDoorP39
import Derived.Test.YtlojfgdpmaigmaeGreatDoorP16
import Derived.Maps.Views
import Derived.Maps.OwnSet
import Derived.Test.YtlojfgdpmaigmaeGreatDoorP14
import Derived.Test.YtlojfgdpmaigmaeGreatDoorP28
namespace Go.Proofs.YtlojfgdpmaigmaeGreatDoor
open Go.RowKit Plain

/-- Keys turned, what they know kept. -/
def kq (q : Int → Int) (x : En) : En := { x with key := q x.key }

theorem pos_kq {q : Int → Int} {l : List En} (h : ∀ y ∈ l, Good y.ru) : Pos (l.map (kq q)) := fun y hy => by
  obtain ⟨x, hx, rfl⟩ := List.mem_map.1 hy
  exact (good_iff.1 (h x hx)).1.1

theorem q_ins (q : Int → Int) {x : En} (hx : Good x.ru) : ∀ {o o' : List En}, (∀ y ∈ o, Good y.ru) → ins o x = some o' → Eqv ((o ++ [x]).map (kq q)) (o'.map (kq q))
  | [], o', _, h => by
    cases h
    exact Eqv.refl (pos_kq (by simpa using hx))
  | y :: r, o', hg, h => by
    have hy := hg y List.mem_cons_self
    have hr : ∀ z ∈ r, Good z.ru := fun z hz => hg z (List.mem_cons_of_mem _ hz)
    have hall : ∀ z ∈ (y :: r) ++ [x], Good z.ru := fun z hz => by
      rcases List.mem_append.1 hz with hz | hz
      · exact hg z hz
      · obtain rfl : z = x := by simpa using hz
        exact hx
    rcases Int.lt_trichotomy x.key y.key with hk | hk | hk
    · rw [ins_lt hk] at h
      cases h
      exact Eqv.of_perm ((List.perm_append_comm (l₁ := y :: r) (l₂ := [x])).map (kq q)) (pos_kq hall)
    · rw [ins_eq hk.symm] at h
      split at h
      · rename_i hc
        cases h
        have hj := Eqv.join (x := kq q x) (y := kq q y) (by show q y.key = q x.key; rw [hk]) hx hy hc
        have p1 : (((y :: r) ++ [x]).map (kq q)).Perm ([kq q y, kq q x] ++ r.map (kq q)) := by
          rw [List.map_append, List.map_cons]
          exact (List.perm_append_comm (l₁ := r.map (kq q)) (l₂ := [kq q x])).cons (kq q y)
        have e1 : ((mkE x.key (jn y.ru x.ru) :: r).map (kq q)) = [mkE (kq q x).key (jn (kq q y).ru (kq q x).ru)] ++ r.map (kq q) := rfl
        rw [e1]
        exact (Eqv.of_perm p1 (pos_kq hall)).trans (hj.app (pos_kq hr))
      · cases h
    · rw [ins_gt hk] at h
      cases hi : ins r x with
      | none => rw [hi] at h; cases h
      | some r' =>
        rw [hi] at h
        cases h
        have ih := q_ins q hx hr hi
        have := ih.app_left (r := [kq q y]) (fun z hz => by
          obtain rfl : z = kq q y := by simpa using hz
          exact (good_iff.1 hy).1.1)
        simpa using this

/-- One entry more: the buckets, too, know one more. -/
theorem roll_ins {L L' : List En} {x : En} {size : Int} (hL : ∀ y ∈ L, Good y.ru) (hx : Good x.ru) (h : ins L x = some L') : rollP size L' = (rollP size L).bind fun M => ins M (bk size x) := by
  have e := (q_ins (fun k => k - k % 1048576 % size) hx hL h).eq
  have e1 : ∀ l : List En, l.map (kq fun k => k - k % 1048576 % size) = l.map (bk size) := fun l => rfl
  rw [e1, e1, List.map_append, List.map_singleton, allL_snoc] at e
  exact e.symm

theorem point_more {n n' f : Int} {x : En} (hn : n ≤ n') (h : pointB n f x = true) : pointB n' f x = true := by
  simp only [pointB, Bool.and_eq_true, decide_eq_true_eq] at h ⊢
  exact ⟨by omega, h.2⟩

theorem ins_points {n f : Int} {x : En} (hx : pointB n f x = true) : ∀ {L L' : List En}, (∀ y ∈ L, pointB n f y = true) → ins L x = some L' → ∀ y ∈ L', pointB n f y = true
  | [], L', _, h => by
    cases h
    simpa using hx
  | z :: r, L', hL, h => by
    have hz := hL z List.mem_cons_self
    have hr : ∀ y ∈ r, pointB n f y = true := fun y hy => hL y (List.mem_cons_of_mem _ hy)
    rcases Int.lt_trichotomy x.key z.key with hk | hk | hk
    · rw [ins_lt hk] at h
      cases h
      intro y hy
      rcases List.mem_cons.1 hy with rfl | hy
      · exact hx
      · exact hL y hy
    · rw [ins_eq hk.symm] at h
      split at h
      · cases h
        intro y hy
        rcases List.mem_cons.1 hy with rfl | hy
        · simp only [pointB, Bool.and_eq_true, decide_eq_true_eq] at hx hz ⊢
          refine ⟨hx.1, hx.2.1, ?_⟩
          show (jn z.ru x.ru).t = x.key % 1048576
          have h1 : x.ru.t = x.key % 1048576 := hx.2.2
          have h2 : z.ru.t = z.key % 1048576 := hz.2.2
          rcases jn_tl z.ru x.ru with ⟨e, _⟩ | ⟨e, _⟩
          · rw [e, h2, hk]
          · rw [e, h1]
        · exact hr y hy
      · cases h
    · rw [ins_gt hk] at h
      cases hi : ins r x with
      | none => rw [hi] at h; cases h
      | some r' =>
        rw [hi] at h
        cases h
        intro y hy
        rcases List.mem_cons.1 hy with rfl | hy
        · exact hz
        · exact ins_points hx hr hi y hy

theorem ins_full {x y : En} : ∀ {L : List En}, (L.Pairwise fun a b => a.key < b.key) → y ∈ L → y.key = x.key → ¬ y.c + x.c ≤ 1073741824 → ins L x = none
  | [], _, hy, _, _ => by simp at hy
  | z :: r, hp, hy, hk, hc => by
    rw [List.pairwise_cons] at hp
    rcases List.mem_cons.1 hy with rfl | hy
    · rw [ins_eq hk, if_neg hc]
    · have := hp.1 y hy
      rw [ins_gt (by omega), ins_full hp.2 hy hk hc]
      rfl

theorem allP_zero {ns : List Nd} {root : Int} {L : List En} (h : allP ns root 0 1099511627776 = (0, L)) : treeC ns root = 0 ∧ allR 0 1099511627776 (ns.flatMap Nd.lst) = some L := by
  unfold allP at h
  by_cases hc : treeC ns root = 0
  · rw [if_neg (by simpa using hc)] at h
    cases ha : allR 0 1099511627776 (ns.flatMap Nd.lst) with
    | none => rw [ha] at h; cases h
    | some ys => rw [ha] at h; cases h; exact ⟨hc, rfl⟩
  · rw [if_pos hc] at h
    exact absurd (congrArg Prod.fst h) hc

theorem allP_of {ns : List Nd} {root : Int} {L : List En} (hc : treeC ns root = 0) (h : allR 0 1099511627776 (ns.flatMap Nd.lst) = some L) : allP ns root 0 1099511627776 = (0, L) := by
  unfold allP
  rw [if_neg (by simpa using hc), h]

/-- What a Put refuses of a tree that may be, and whose entries come together. -/
theorem put_code {ns : List Nd} {root key : Int} {r : Ru} {L : List En} (h : allP ns root 0 1099511627776 = (0, L)) (hg : Good r) (hk : 0 ≤ key ∧ key ≤ 1099511627775) :
    (putF ns root key r = 0 ∧ ∃ ys, ins L (mkE key r) = some ys) ∨ (putF ns root key r = 1 ∧ ins L (mkE key r) = none) := by
  obtain ⟨hc, hl⟩ := allP_zero h
  have hf := allP_facts (ns := ns) (r := root) (low := 0) (high := 1099511627776)
  rw [h] at hf
  have hr := allP_range (ns := ns) (r := root) (low := key) (high := key + 1) (by rw [h])
  rw [h] at hr
  have hq : allR key (key + 1) (ns.flatMap Nd.lst) = some (L.filter (inR key (key + 1))) := by
    unfold allP at hr
    rw [if_neg (by simpa using hc)] at hr
    cases ha : allR key (key + 1) (ns.flatMap Nd.lst) with
    | none => rw [ha] at hr; cases hr
    | some ys => rw [ha] at hr; cases hr; rfl
  have he : entC (mkE key r) = 0 := by
    unfold entC
    rw [if_pos ⟨(inB_iff _ _ _).2 hk, hg.2⟩]
    exact hg.1
  have hs := known_eq (key := key) hc
  unfold gotA at hs
  rw [hq] at hs
  have hF : putF ns root key r = (mrg ((Wl ns key (key + 1) 12 root).foldl stepK (zro, 0)).1 r).2 := by
    unfold putF
    rw [if_neg (by simpa using hc), if_neg (by simpa using he), if_neg]
    rw [hs]
    cases L.filter (inR key (key + 1)) <;> simp
  cases hm : L.filter (inR key (key + 1)) with
  | nil =>
    rw [hm] at hs
    have h0 : putF ns root key r = 0 := by
      rw [hF, hs]
      show (mrg zro r).2 = 0
      rw [mrg_zro hg]
    obtain ⟨ys, e, _⟩ := put_ins h0 hl
    exact .inl ⟨h0, ys, e⟩
  | cons y rest =>
    rw [hm] at hs
    have hy : y ∈ L.filter (inR key (key + 1)) := by rw [hm]; exact List.mem_cons_self
    obtain ⟨hy1, hy2⟩ := List.mem_filter.1 hy
    have hyk : y.key = key := by
      simp only [inR, Bool.and_eq_true, decide_eq_true_eq] at hy2
      omega
    have hyg := hf.2.1 y hy1
    have e1 : putF ns root key r = (mrg y.ru r).2 := by rw [hF, hs]
    rw [mrg_good hyg hg] at e1
    by_cases hcn : y.ru.c + r.c ≤ 1073741824
    · rw [if_pos hcn] at e1
      obtain ⟨ys, e, _⟩ := put_ins e1 hl
      exact .inl ⟨e1, ys, e⟩
    · rw [if_neg hcn] at e1
      exact .inr ⟨e1, ins_full hf.1 hy1 hyk hcn⟩

/-- What a Put's tree knows. -/
theorem put_allP {ns ns2 : List Nd} {root root2 key : Int} {r : Ru} {L ys : List En} (h : allP ns root 0 1099511627776 = (0, L)) (hF : putF ns root key r = 0) (hok : PutOk ns ns2 root2 (mkE key r)) (hz : ns2.length ≤ 2000) (hy : ins L (mkE key r) = some ys) :
    allP ns2 root2 0 1099511627776 = (0, ys) := by
  obtain ⟨_, hl⟩ := allP_zero h
  obtain ⟨zs, e1, e2, _⟩ := put_knows hF hok hz hl
  rw [hy] at e1
  cases e1
  exact allP_of (hok.fine hz) e2

/-! ### Names -/

/-- Names with one that may be new. -/
def withS (ss : List ByteArray) (s : ByteArray) : List ByteArray := if Lib.idxOfS ss s < 0 then ss ++ [s] else ss
def plc (ss : List ByteArray) (s : ByteArray) : Int := if Lib.idxOfS ss s < 0 then ss.length else Lib.idxOfS ss s

theorem idx_neg {ss : List ByteArray} {s : ByteArray} : Lib.idxOfS ss s < 0 ↔ s ∉ ss := by
  rw [← Lib.idxOfS_nonneg_iff]
  omega

theorem getD_of_lt {ss : List ByteArray} {k : Nat} (h : k < ss.length) : ss.getD k ByteArray.empty = ss[k] := by
  rw [List.getD_eq_getElem?_getD, List.getElem?_eq_getElem h]
  rfl

theorem first_at {ss : List ByteArray} {s : ByteArray} (n : Nat) (h : ss.getD n ByteArray.empty = s) : ∃ k, k ≤ n ∧ ss.getD k ByteArray.empty = s ∧ ∀ j, j < k → ss.getD j ByteArray.empty ≠ s := by
  induction n using Nat.strongRecOn with
  | ind n ih =>
    by_cases hj : ∃ j, j < n ∧ ss.getD j ByteArray.empty = s
    · obtain ⟨j, h1, h2⟩ := hj
      obtain ⟨k, q1, q2, q3⟩ := ih j h1 h2
      exact ⟨k, by omega, q2, q3⟩
    · exact ⟨n, Nat.le_refl _, h, fun j h1 h2 => hj ⟨j, h1, h2⟩⟩

theorem idx_at {ss : List ByteArray} {s : ByteArray} (h : s ∈ ss) : ∃ k : Nat, k < ss.length ∧ Lib.idxOfS ss s = k ∧ ss.getD k ByteArray.empty = s := by
  obtain ⟨n, hn, e⟩ := List.getElem_of_mem h
  obtain ⟨k, h1, h2, h3⟩ := first_at n (by rw [getD_of_lt hn, e])
  have := Lib.idxOfS_hit ss ss.length k s (by omega) (Nat.le_refl _) h2 h3
  rw [List.take_length] at this
  exact ⟨k, by omega, this, h2⟩

theorem plc_with (ss : List ByteArray) (s : ByteArray) : Lib.idxOfS (withS ss s) s = plc ss s ∧ 0 ≤ plc ss s ∧ plc ss s < (withS ss s).length := by
  unfold withS plc
  by_cases h : Lib.idxOfS ss s < 0
  · simp only [if_pos h]
    have hn := idx_neg.1 h
    have e := Lib.idxOfS_hit (ss ++ [s]) (ss ++ [s]).length ss.length s (by simp) (Nat.le_refl _) (by simp [List.getD_eq_getElem?_getD]) (fun j hj e => hn (by
      rw [getD_of_lt (by simp; omega), List.getElem_append_left hj] at e
      rw [← e]
      exact List.getElem_mem hj))
    rw [List.take_length] at e
    exact ⟨e, by omega, by simp; omega⟩
  · simp only [if_neg h]
    have hm : s ∈ ss := Classical.byContradiction fun c => h (idx_neg.2 c)
    obtain ⟨k, hk, e, _⟩ := idx_at hm
    exact ⟨by trivial, by omega, by omega⟩

theorem names_with {ss : List ByteArray} {s : ByteArray} (h : namesB ss = true) (hs : nameB s = true) : namesB (withS ss s) = true := by
  unfold withS
  by_cases hi : Lib.idxOfS ss s < 0
  · rw [if_pos hi]
    have hn := idx_neg.1 hi
    unfold namesB at h ⊢
    rw [List.all_eq_true] at h ⊢
    intro i him
    have hi' : i < ss.length + 1 := by simpa using him
    by_cases hl : i < ss.length
    · have := h i (by simpa using hl)
      unfold okN at this ⊢
      rw [getD_of_lt (by simp; omega), List.getElem_append_left hl, List.take_append_of_le_length (by omega)]
      rwa [getD_of_lt hl] at this
    · obtain rfl : i = ss.length := by omega
      unfold okN
      have e : (ss ++ [s]).getD ss.length ByteArray.empty = s := by simp [List.getD_eq_getElem?_getD]
      rw [e, List.take_left', hs]
      · simp only [Bool.true_and, Bool.not_eq_true']
        cases hc : Lib.containsS ss s with
        | false => rfl
        | true => exact absurd ((Lib.containsS_iff _ _).1 hc) hn
      · rfl
  · rw [if_neg hi]
    exact h

/-! ### A base with one point more -/

/-- The point's entry, in each tree. -/
def ptE (p t v : Int) : En := mkE (p * 1048576 + t) (one t v)
theorem pt_bk {p t v size : Int} (ht : 0 ≤ t ∧ t ≤ 1048575) : bk size (ptE p t v) = mkE (p * 1048576 + (t - t % size)) (one t v) := by
  have h1 : (p * 1048576 + t) % 1048576 = t := by omega
  have e : (bk size (ptE p t v)).key = p * 1048576 + (t - t % size) := by
    show p * 1048576 + t - (p * 1048576 + t) % 1048576 % size = _
    rw [h1]
    omega
  show ({ ptE p t v with key := (bk size (ptE p t v)).key } : En) = _
  rw [e]
  rfl

theorem one_good {t v : Int} (ht : 0 ≤ t ∧ t ≤ 1048575) (hv : -1000000 ≤ v ∧ v ≤ 1000000) : Good (one t v) := ⟨chk_one ht hv, by simp [one]⟩

theorem add_base {ss : List ByteArray} {s : ByteArray} {f t v : Int} {n0 n1 n2 m0 m1 m2 : List Nd} {r0 r1 r2 q0 q1 q2 : Int} {L0 L1 L2 M0 M1 M2 : List En}
    (hb : baseB ss f n0 r0 n1 r1 n2 r2 = true) (hB : BaseL ss f n0 r0 n1 r1 n2 r2 L0 L1 L2) (hs : nameB s = true) (hl : (withS ss s).length ≤ 16) (ht : 0 ≤ t ∧ t ≤ 1048575) (hv : -1000000 ≤ v ∧ v ≤ 1000000) (hf : f ≤ t)
    (h0 : ins L0 (ptE (plc ss s) t v) = some M0) (h1 : ins L1 (bk 60 (ptE (plc ss s) t v)) = some M1) (h2 : ins L2 (bk 3600 (ptE (plc ss s) t v)) = some M2)
    (a0 : allP m0 q0 0 1099511627776 = (0, M0)) (a1 : allP m1 q1 0 1099511627776 = (0, M1)) (a2 : allP m2 q2 0 1099511627776 = (0, M2)) :
    baseB (withS ss s) f m0 q0 m1 q1 m2 q2 = true ∧ bookP m0 q0 (withS ss s).length f = some M0 := by
  obtain ⟨e1, e2, e3⟩ := plc_with ss s
  have hx : Good (ptE (plc ss s) t v).ru := one_good ht hv
  have hgf := allP_facts (ns := n0) (r := r0) (low := 0) (high := 1099511627776)
  rw [hB.a0] at hgf
  have hgood : ∀ y ∈ L0, Good y.ru := hgf.2.1
  obtain ⟨_, _, hpt⟩ := book_some hB.book
  rw [List.all_eq_true] at hpt
  have hlen : (ss.length : Int) ≤ (withS ss s).length := by
    unfold withS
    split
    · simp
      omega
    · exact Int.le_refl _
  have hxp : pointB (withS ss s).length f (ptE (plc ss s) t v) = true := by
    have k1 : (plc ss s * 1048576 + t) / 1048576 = plc ss s := by omega
    have k2 : (plc ss s * 1048576 + t) % 1048576 = t := by omega
    simp only [pointB, Bool.and_eq_true, decide_eq_true_eq]
    refine ⟨?_, ?_, ?_⟩
    · show (plc ss s * 1048576 + t) / 1048576 < _
      rw [k1]; exact e3
    · show f ≤ (plc ss s * 1048576 + t) % 1048576
      rw [k2]; exact hf
    · show t = (plc ss s * 1048576 + t) % 1048576
      rw [k2]
  have hM := ins_points hxp (fun y hy => point_more hlen (hpt y hy)) h0
  have hbook : bookP m0 q0 (withS ss s).length f = some M0 := by
    unfold bookP
    rw [a0, if_pos ⟨rfl, List.all_eq_true.2 hM⟩]
  refine ⟨?_, hbook⟩
  have s1 : stepB 60 M0 m1 q1 = true := by
    unfold stepB
    rw [roll_ins hgood hx h0, hB.p1, Option.bind_some, h1, a1]
    simp
  have s2 : stepB 3600 M0 m2 q2 = true := by
    unfold stepB
    rw [roll_ins hgood hx h0, hB.p2, Option.bind_some, h2, a2]
    simp
  have s0 := step_one hbook
  unfold baseB at hb ⊢
  simp only [Bool.and_eq_true, decide_eq_true_eq] at hb ⊢
  refine ⟨hl, hb.2.1, hb.2.2.1, names_with hb.2.2.2.1 hs, ?_⟩
  unfold treesB
  rw [hbook]
  simp only [Bool.and_eq_true]
  exact ⟨s0, s1, s2⟩

end Go.Proofs.YtlojfgdpmaigmaeGreatDoor

/- A tree knows these entries, key by key: in plain terms. -/
namespace Go.Proofs.YtlojfgdpmaigmaeGreatDoor
open Go.RowKit Plain

/-- A tree that may be, and what it knows. -/
structure Knows (ns : List Nd) (root : Int) (l : List En) : Prop where
  ok : treeC ns root = 0
  all : allL (ns.flatMap cont) = some l
  inc : l.Pairwise fun a b => a.key < b.key
  good : ∀ y ∈ l, Good y.ru

theorem fold_inc : ∀ (xs l l' : List En), (l.Pairwise fun a b => a.key < b.key) → xs.foldl insO (some l) = some l' → l'.Pairwise fun a b => a.key < b.key
  | [], l, l', hl, h => by
    cases h
    exact hl
  | x :: xs, l, l', hl, h => by
    rw [List.foldl_cons] at h
    cases hi : insO (some l) x with
    | none => rw [hi, fold_none] at h; cases h
    | some q =>
      rw [hi] at h
      exact fold_inc xs q l' (ins_inc hl (show ins l x = some q from hi)).1 h

theorem Knows.mk' {ns : List Nd} {root : Int} {l : List En} (h : treeC ns root = 0) (ha : allL (ns.flatMap cont) = some l) : Knows ns root l :=
  ⟨h, ha, fold_inc _ [] l (by simp) ha, (allL_facts (fun y hy => (tree_in h y hy).2) ha).1⟩

end Go.Proofs.YtlojfgdpmaigmaeGreatDoor

/- The numbers of a tree that may be are numbers. -/
namespace Go.Proofs.YtlojfgdpmaigmaeGreatDoor
open Go.RowKit Plain

def NB (N : Nat) (x : Nd) : Prop := (∀ z ∈ x.keys, 0 ≤ z ∧ z ≤ 1099511627776) ∧ ∀ z ∈ x.kids, 0 ≤ z ∧ z < N

theorem Sub_self {T m : Nat} {ns : List Nd} : ∀ {h : Nat} {p lo hi : Int} {P : List Int}, Sub T m ns h p lo hi P → 0 ≤ p ∧ p < ns.length
  | 0, _, _, _, _, hs => ⟨hs.1.1, hs.1.2.1⟩
  | _ + 1, _, _, _, _, hs => ⟨hs.1.1, hs.1.2.1⟩

theorem SubK_kids {T m : Nat} {ns : List Nd} {h : Nat} {hi : Int} : ∀ (kids keys : List Int) (lo : Int) (Q : List Int), keys.length + 1 = kids.length → SubK (Sub T m ns h) lo (ups kids keys hi) Q → ∀ d ∈ kids, 0 ≤ d ∧ d < ns.length
  | [], _, _, _, hk, _ => by simp at hk
  | [d], keys, lo, Q, hk, hQ => by
    obtain rfl : keys = [] := List.eq_nil_of_length_eq_zero (by simpa using hk)
    obtain ⟨Q1, Q2, rfl, h1, h2⟩ := hQ
    intro z hz
    obtain rfl : z = d := by simpa using hz
    exact Sub_self h1
  | d :: e :: ds, [], _, _, hk, _ => by simp at hk
  | d :: e :: ds, k :: ks, lo, Q, hk, hQ => by
    obtain ⟨Q1, Q2, rfl, h1, h2⟩ := hQ
    intro z hz
    rcases List.mem_cons.1 hz with rfl | hz
    · exact Sub_self h1
    · exact SubK_kids (e :: ds) ks k Q2 (by simpa using hk) h2 z hz

theorem Sub_nb {T m : Nat} {ns : List Nd} : ∀ (h : Nat) (p lo hi : Int) (P : List Int), 0 ≤ lo → hi ≤ 1099511627776 → Sub T m ns h p lo hi P → ∀ n ∈ P, NB ns.length (nth ns n)
  | 0, p, lo, hi, P, _, _, hs, n, hn => by
    obtain ⟨_, rfl, hl⟩ := hs
    obtain rfl : n = p := by simpa using hn
    unfold NB
    rw [hl.keys, hl.kids]
    exact ⟨by simp, by simp⟩
  | h + 1, p, lo, hi, P, hlo, hhi, hs, n, hn => by
    obtain ⟨_, Q, rfl, hin⟩ := hs
    rcases List.mem_cons.1 hn with rfl | hn
    · have hr := keys_rise (Sub_lt h) hin.keys hin.kids
      exact ⟨fun z hz => by have := hr.2.1 z hz; omega, SubK_kids _ _ _ _ hin.keys hin.kids⟩
    · have ih := Sub_nb (T := T) (m := m) (ns := ns) h
      have : ∀ (kids keys : List Int) (lo' : Int) (Q : List Int), 0 ≤ lo' → keys.length + 1 = kids.length → SubK (Sub T m ns h) lo' (ups kids keys hi) Q → ∀ n ∈ Q, NB ns.length (nth ns n) := by
        intro kids
        induction kids with
        | nil => intro keys lo' Q _ hk; simp at hk
        | cons d ds ihd =>
          intro keys lo' Q h0 hk hQ n hn
          have hr := keys_rise (Sub_lt h) hk hQ
          cases ds with
          | nil =>
            obtain rfl : keys = [] := List.eq_nil_of_length_eq_zero (by simpa using hk)
            obtain ⟨Q1, Q2, rfl, h1, h2⟩ := hQ
            cases h2
            rw [List.append_nil] at hn
            exact ih _ _ _ _ h0 hhi h1 n hn
          | cons e ds =>
            cases keys with
            | nil => simp at hk
            | cons k ks =>
              obtain ⟨Q1, Q2, rfl, h1, h2⟩ := hQ
              have hk1 := hr.2.1 k List.mem_cons_self
              rcases List.mem_append.1 hn with hn | hn
              · exact ih _ _ _ _ h0 (by omega) h1 n hn
              · exact ihd ks k Q2 (by omega) (by simpa using hk) h2 n hn
      exact this _ _ _ _ hlo hin.keys hin.kids n hn

theorem tree_nb {ns : List Nd} {root : Int} (h : treeC ns root = 0) : ∀ x ∈ ns, NB ns.length x := by
  rcases treeC_sub h with ⟨ht, P, hs, hp⟩ | ⟨he, rfl⟩
  · intro x hx
    obtain ⟨i, hi, rfl⟩ := List.getElem_of_mem hx
    have hm : (i : Int) ∈ P := hp.mem_iff.2 (placesF_mem.2 ⟨by omega, by omega⟩)
    have := Sub_nb ht _ _ _ _ (Int.le_refl _) (Int.le_refl _) hs (i : Int) hm
    have e : nth ns (i : Int) = ns[i] := by simp [nth, hi]
    rwa [e] at this
  · rw [he]
    intro x hx
    obtain rfl : x = leafOf [] := by simpa using hx
    exact ⟨by simp [leafOf], by simp [leafOf]⟩

theorem en_wf {y : En} (hk : 0 ≤ y.key ∧ y.key < 1099511627776) (hg : Good y.ru) : y.wf := by
  obtain ⟨b1, b2, b3, b4, b5, b6⟩ := check_bounds hg.1
  have e : y.ru = ⟨y.c, y.s, y.lo, y.hi, y.t, y.l⟩ := rfl
  have g := good_iff.1 hg
  simp only [e] at b1 b2 b3 b4 b5 b6 g
  exact ⟨WalkArith.wf_i64 (by omega), WalkArith.wf_i64 (by omega), WalkArith.wf_i64 (by omega), WalkArith.wf_i64 (by omega), WalkArith.wf_i64 (by omega), WalkArith.wf_i64 (by omega), WalkArith.wf_i64 (by omega)⟩

theorem treeC_wf {qs : List PN} {root : Int} (h : treeC (qs.map PN.nd) root = 0) : ∀ q ∈ qs, q.wf := by
  intro q hq
  have hm : q.nd ∈ qs.map PN.nd := List.mem_map.2 ⟨q, hq, rfl⟩
  obtain ⟨n1, n2⟩ := tree_nb h _ hm
  have hin : ∀ y ∈ cont q.nd, y.wf := fun y hy => by
    have := tree_in h y (List.mem_flatMap.2 ⟨_, hm, hy⟩)
    exact en_wf this.1 this.2
  have hl := (tree_each h).1
  refine ⟨fun y hy => hin y (List.mem_append_right _ hy), fun z hz => ?_, fun z hz => ?_, fun y hy => hin y (List.mem_append_left _ hy)⟩
  · have := n1 z hz
    exact WalkArith.wf_i64 (by omega)
  · have := n2 z hz
    exact WalkArith.wf_i64 (by omega)

end Go.Proofs.YtlojfgdpmaigmaeGreatDoor

/- A tree of few keys has few nodes: in plain terms. -/
namespace Go.Proofs.YtlojfgdpmaigmaeGreatDoor
open Go.RowKit Plain

/-- Keys of leaves, in their order: from lo on, below hi; each stands in a node at one of the places. -/
structure LeafK (ns : List Nd) (P : List Int) (lo hi : Int) (E : List Int) : Prop where
  inc : E.Pairwise (· < ·)
  bd : ∀ e ∈ E, lo ≤ e ∧ e < hi
  mem : ∀ e ∈ E, ∃ n ∈ P, ∃ y ∈ (nth ns n).ents, y.key = e

theorem leafK_app {ns : List Nd} {P Q E F : List Int} {lo u hi : Int} (h : LeafK ns P lo u E) (k : LeafK ns Q u hi F) (h1 : lo ≤ u) (h2 : u ≤ hi) : LeafK ns (P ++ Q) lo hi (E ++ F) := by
  refine ⟨List.pairwise_append.2 ⟨h.inc, k.inc, fun a ha b hb => ?_⟩, fun e he => ?_, fun e he => ?_⟩
  · have := h.bd a ha
    have := k.bd b hb
    omega
  · rcases List.mem_append.1 he with he | he
    · have := h.bd e he
      omega
    · have := k.bd e he
      omega
  · rcases List.mem_append.1 he with he | he
    · obtain ⟨n, hn, y, hy, q⟩ := h.mem e he
      exact ⟨n, List.mem_append_left _ hn, y, hy, q⟩
    · obtain ⟨n, hn, y, hy, q⟩ := k.mem e he
      exact ⟨n, List.mem_append_right _ hn, y, hy, q⟩

theorem SubK_leaves {ns : List Nd} {g : Rel} (hlt : ∀ d lo hi Q, g d lo hi Q → lo < hi) (hg : ∀ d lo hi Q, g d lo hi Q → ∃ E, LeafK ns Q lo hi E ∧ Q.length + 1 ≤ 2 * E.length) :
    ∀ (r : List (Int × Int)) (lo : Int) (Q : List Int), SubK g lo r Q → ∃ E, LeafK ns Q lo (endU lo r) E ∧ Q.length + r.length ≤ 2 * E.length
  | [], lo, Q, h => by
    cases h
    exact ⟨[], ⟨by simp, by simp, by simp⟩, by simp⟩
  | (d, u) :: r, lo, Q, h => by
    obtain ⟨Q1, Q2, rfl, h1, h2⟩ := h
    obtain ⟨E1, k1, n1⟩ := hg _ _ _ _ h1
    obtain ⟨E2, k2, n2⟩ := SubK_leaves hlt hg r u Q2 h2
    have l1 := hlt _ _ _ _ h1
    have l2 := (SubK_lt hlt h2).1
    refine ⟨E1 ++ E2, leafK_app k1 k2 (by omega) l2, ?_⟩
    simp only [List.length_append, List.length_cons]
    omega

theorem ups_length {kids keys : List Int} {hi : Int} (h : keys.length + 1 = kids.length) : (ups kids keys hi).length = kids.length := by
  unfold ups
  rw [List.length_zip, List.length_append]
  simp
  omega

theorem endU_upsL : ∀ (kids keys : List Int) (lo hi : Int), keys.length + 1 = kids.length → endU lo (ups kids keys hi) = hi
  | [], _, _, _, h => by simp at h
  | [d], [], lo, hi, _ => rfl
  | d :: e :: kids, [], lo, hi, h => by simp at h
  | [d], k :: keys, lo, hi, h => by simp at h
  | d :: e :: kids, k :: keys, lo, hi, h => endU_upsL (e :: kids) keys k hi (by simpa using h)

theorem Sub_leaves {T m : Nat} {ns : List Nd} : ∀ (h : Nat) (n lo hi : Int) (P : List Int), Sub T m ns h n lo hi P → ∃ E, LeafK ns P lo hi E ∧ P.length + 1 ≤ 2 * E.length
  | 0, n, lo, hi, P, hs => by
    obtain ⟨_, rfl, hl⟩ := hs
    obtain ⟨b1, b2⟩ := entsB_lt hl.ents
    refine ⟨(nth ns n).ents.map En.key, ⟨by rw [List.pairwise_map]; exact b2, fun e he => ?_, fun e he => ?_⟩, ?_⟩
    · obtain ⟨y, hy, rfl⟩ := List.mem_map.1 he
      exact b1 y hy
    · obtain ⟨y, hy, rfl⟩ := List.mem_map.1 he
      exact ⟨n, by simp, y, hy, rfl⟩
    · have : (nth ns n).ents.length ≠ 0 := fun e => hl.ne (List.eq_nil_of_length_eq_zero e)
      simp only [List.length_cons, List.length_nil, List.length_map]
      omega
  | h + 1, n, lo, hi, P, hs => by
    obtain ⟨_, Q, rfl, hi'⟩ := hs
    obtain ⟨E, k, q⟩ := SubK_leaves (fun d lo hi Q hq => Sub_lt h d lo hi Q hq) (fun d lo hi Q hq => Sub_leaves h d lo hi Q hq) _ _ _ hi'.kids
    rw [endU_upsL _ _ _ _ hi'.keys] at k
    rw [ups_length hi'.keys] at q
    refine ⟨E, ⟨k.inc, k.bd, fun e he => ?_⟩, ?_⟩
    · obtain ⟨p, hp, y, hy, q⟩ := k.mem e he
      exact ⟨p, List.mem_cons_of_mem _ hp, y, hy, q⟩
    · have := hi'.two
      simp only [List.length_cons]
      omega

theorem cntK_zero {k : Int} : ∀ {l : List En}, (∀ z ∈ l, z.key ≠ k) → cntK k l = 0
  | [], _ => rfl
  | y :: r, h => by
    have h1 := h y List.mem_cons_self
    have h2 := cntK_zero (l := r) fun z hz => h z (List.mem_cons_of_mem _ hz)
    simp only [cntK, if_neg h1, h2]
    omega

theorem cntK_mem {y : En} : ∀ {l : List En}, Pos l → y ∈ l → 1 ≤ cntK y.key l
  | [], _, h => by simp at h
  | z :: r, hp, h => by
    have hr : Pos r := fun x hx => hp x (List.mem_cons_of_mem _ hx)
    have h0 := cntK_nn (k := y.key) hr
    have hz := hp z List.mem_cons_self
    rcases List.mem_cons.1 h with rfl | h
    · simp only [cntK, if_true]
      omega
    · have := cntK_mem hr h
      simp only [cntK]
      split <;> omega

/-- Nodes that stand as a tree, each of whose keys is among these: there are few. -/
theorem few_of {ns : List Nd} {h : Nat} {root : Int} {P : List Int} {l : List En} (hs : Sub 6 4 ns h root 0 1099511627776 P) (hp : P.Perm (placesF 0 ns.length)) (hk : ∀ y ∈ ns.flatMap cont, 1 ≤ cntK y.key l) : ns.length + 1 ≤ 2 * l.length := by
  obtain ⟨E, k, q⟩ := Sub_leaves h _ _ _ _ hs
  have hlen : P.length = ns.length := by rw [hp.length_eq, placesF_length]
  have hle : E.length ≤ (l.map En.key).length := by
    refine nodup_le E _ (k.inc.imp fun h => by omega) fun e he => ?_
    obtain ⟨n, hn, y, hy, rfl⟩ := k.mem e he
    have hr := Sub_range h _ _ _ _ hs n hn
    have hm : nth ns n ∈ ns := by
      unfold nth
      rw [List.getD_eq_getElem?_getD, List.getElem?_eq_getElem (by omega)]
      exact List.getElem_mem _
    have h1 := hk y (List.mem_flatMap.2 ⟨_, hm, List.mem_append_right _ hy⟩)
    apply Classical.byContradiction
    intro hno
    rw [cntK_zero (fun z hz e => hno (List.mem_map.2 ⟨z, hz, e⟩))] at h1
    omega
  rw [List.length_map] at hle
  omega

/-- And so has what a Put makes of it. -/
theorem Knows.put_few {ns ns2 : List Nd} {root root2 key : Int} {r : Ru} {l ys : List En} (h : Knows ns root l) (hok : PutOk ns ns2 root2 (mkE key r)) (hi : ins l (mkE key r) = some ys) : ns2.length + 1 ≤ 2 * ys.length := by
  obtain ⟨ht, P, hs, hp⟩ := hok.sub
  have hgs : ∀ y ∈ ns.flatMap cont, Good y.ru := fun y hy => (tree_in h.ok y hy).2
  have hcnt := (allL_facts hgs h.all).2.2
  refine few_of hs hp fun y hy => ?_
  have h1 := cntK_mem hok.eqv.posm hy
  rw [← hok.eqv.cnt] at h1
  rw [ins_cnt hi, hcnt]
  simp only [cntK] at h1
  omega

end Go.Proofs.YtlojfgdpmaigmaeGreatDoor

/- A total: what all entries of a series come to, whichever buckets are asked. In plain terms. -/
namespace Go.Proofs.YtlojfgdpmaigmaeGreatDoor
open Go.RowKit Plain

/-- The key left out. -/
def z0 (x : En) : En := { x with key := 0 }
def tot (l : List En) : Ru × Int := l.foldl stepK (zro, 0)

theorem tot_z0 (l : List En) (s : Ru × Int) : (l.map z0).foldl stepK s = l.foldl stepK s := by
  induction l generalizing s with
  | nil => rfl
  | cons x r ih => exact ih _

theorem pos_good {l : List En} (h : ∀ y ∈ l, Good y.ru) : Pos l := fun y hy => (good_iff.1 (h y hy)).1.1
theorem pos_z0 {l : List En} (h : Pos l) : Pos (l.map z0) := fun y hy => by
  obtain ⟨x, hx, rfl⟩ := List.mem_map.1 hy
  exact h x hx

def keyB (p a b : Int) (k : Int) : Bool := decide (k / 1048576 = p) && (decide (a ≤ k % 1048576) && decide (k % 1048576 ≤ b))

/-- Of a series, from a time on, up to another one. -/
def selK (p a b : Int) (x : En) : Bool := keyB p a b x.key

end Go.Proofs.YtlojfgdpmaigmaeGreatDoor
