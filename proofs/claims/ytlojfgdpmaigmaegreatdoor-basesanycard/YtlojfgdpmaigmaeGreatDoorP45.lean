/- What a base knows with one point more: in plain terms. -/
import Derived.Test.YtlojfgdpmaigmaeGreatDoorP19
import Derived.Test.YtlojfgdpmaigmaeGreatDoorP22
import Derived.Test.YtlojfgdpmaigmaeGreatDoorP44
import Derived.Test.YtlojfgdpmaigmaeGreatDoorP37
import Derived.Test.YtlojfgdpmaigmaeGreatDoorP43
import Derived.Test.YtlojfgdpmaigmaeGreatDoorBaseCopyWalk
import Derived.Test.YtlojfgdpmaigmaeGreatDoorP03
import Derived.Test.YtlojfgdpmaigmaeGreatDoorP39
import Derived.Deep.RegionHeld3
import Derived.Test.YtlojfgdpmaigmaeGreatDoorP32
import Derived.Test.YtlojfgdpmaigmaeGreatDoorP16
import Derived.Maps.Views
import Derived.Maps.OwnSet
import Derived.Test.YtlojfgdpmaigmaeGreatDoorP15
namespace Go.Proofs.YtlojfgdpmaigmaeGreatDoor
open Go.RowKit Plain

/-- Keys turned, what they know kept. -/
def kq (q : Int → Int) (x : En) : En := { x with key := q x.key }

theorem pos_kq {q : Int → Int} {l : List En} (h : ∀ y ∈ l, Good y.ru) : Pos (l.map (kq q)) := fun y hy => by
  obtain ⟨x, hx, rfl⟩ := List.mem_map.1 hy
  exact (good_iff.1 (h x hx)).1.1

theorem q_ins (q : Int → Int) {x : En} (hx : Good x.ru) : ∀ {o o' : List En}, (∀ y ∈ o, Good y.ru) → ins o x = some o' → Eqv ((o ++ [x]).map (kq q)) (o'.map (kq q))
  | [], o', _, h => by
    cases h
    exact Eqv.refl (pos_kq (by simpa using hx))
  | y :: r, o', hg, h => by
    have hy := hg y List.mem_cons_self
    have hr : ∀ z ∈ r, Good z.ru := fun z hz => hg z (List.mem_cons_of_mem _ hz)
    have hall : ∀ z ∈ (y :: r) ++ [x], Good z.ru := fun z hz => by
      rcases List.mem_append.1 hz with hz | hz
      · exact hg z hz
      · obtain rfl : z = x := by simpa using hz
        exact hx
    rcases Int.lt_trichotomy x.key y.key with hk | hk | hk
    · rw [ins_lt hk] at h
      cases h
      exact Eqv.of_perm ((List.perm_append_comm (l₁ := y :: r) (l₂ := [x])).map (kq q)) (pos_kq hall)
    · rw [ins_eq hk.symm] at h
      split at h
      · rename_i hc
        cases h
        have hj := Eqv.join (x := kq q x) (y := kq q y) (by show q y.key = q x.key; rw [hk]) hx hy hc
        have p1 : (((y :: r) ++ [x]).map (kq q)).Perm ([kq q y, kq q x] ++ r.map (kq q)) := by
          rw [List.map_append, List.map_cons]
          exact (List.perm_append_comm (l₁ := r.map (kq q)) (l₂ := [kq q x])).cons (kq q y)
        have e1 : ((mkE x.key (jn y.ru x.ru) :: r).map (kq q)) = [mkE (kq q x).key (jn (kq q y).ru (kq q x).ru)] ++ r.map (kq q) := rfl
        rw [e1]
        exact (Eqv.of_perm p1 (pos_kq hall)).trans (hj.app (pos_kq hr))
      · cases h
    · rw [ins_gt hk] at h
      cases hi : ins r x with
      | none => rw [hi] at h; cases h
      | some r' =>
        rw [hi] at h
        cases h
        have ih := q_ins q hx hr hi
        have := ih.app_left (r := [kq q y]) (fun z hz => by
          obtain rfl : z = kq q y := by simpa using hz
          exact (good_iff.1 hy).1.1)
        simpa using this

/-- One entry more: the buckets, too, know one more. -/
theorem roll_ins {L L' : List En} {x : En} {size : Int} (hL : ∀ y ∈ L, Good y.ru) (hx : Good x.ru) (h : ins L x = some L') : rollP size L' = (rollP size L).bind fun M => ins M (bk size x) := by
  have e := (q_ins (fun k => k - k % 1048576 % size) hx hL h).eq
  have e1 : ∀ l : List En, l.map (kq fun k => k - k % 1048576 % size) = l.map (bk size) := fun l => rfl
  rw [e1, e1, List.map_append, List.map_singleton, allL_snoc] at e
  exact e.symm

theorem point_more {n n' f : Int} {x : En} (hn : n ≤ n') (h : pointB n f x = true) : pointB n' f x = true := by
  simp only [pointB, Bool.and_eq_true, decide_eq_true_eq] at h ⊢
  exact ⟨by omega, h.2⟩

theorem ins_points {n f : Int} {x : En} (hx : pointB n f x = true) : ∀ {L L' : List En}, (∀ y ∈ L, pointB n f y = true) → ins L x = some L' → ∀ y ∈ L', pointB n f y = true
  | [], L', _, h => by
    cases h
    simpa using hx
  | z :: r, L', hL, h => by
    have hz := hL z List.mem_cons_self
    have hr : ∀ y ∈ r, pointB n f y = true := fun y hy => hL y (List.mem_cons_of_mem _ hy)
    rcases Int.lt_trichotomy x.key z.key with hk | hk | hk
    · rw [ins_lt hk] at h
      cases h
      intro y hy
      rcases List.mem_cons.1 hy with rfl | hy
      · exact hx
      · exact hL y hy
    · rw [ins_eq hk.symm] at h
      split at h
      · cases h
        intro y hy
        rcases List.mem_cons.1 hy with rfl | hy
        · simp only [pointB, Bool.and_eq_true, decide_eq_true_eq] at hx hz ⊢
          refine ⟨hx.1, hx.2.1, ?_⟩
          show (jn z.ru x.ru).t = x.key % 1048576
          have h1 : x.ru.t = x.key % 1048576 := hx.2.2
          have h2 : z.ru.t = z.key % 1048576 := hz.2.2
          rcases jn_tl z.ru x.ru with ⟨e, _⟩ | ⟨e, _⟩
          · rw [e, h2, hk]
          · rw [e, h1]
        · exact hr y hy
      · cases h
    · rw [ins_gt hk] at h
      cases hi : ins r x with
      | none => rw [hi] at h; cases h
      | some r' =>
        rw [hi] at h
        cases h
        intro y hy
        rcases List.mem_cons.1 hy with rfl | hy
        · exact hz
        · exact ins_points hx hr hi y hy

theorem ins_full {x y : En} : ∀ {L : List En}, (L.Pairwise fun a b => a.key < b.key) → y ∈ L → y.key = x.key → ¬ y.c + x.c ≤ 1073741824 → ins L x = none
  | [], _, hy, _, _ => by simp at hy
  | z :: r, hp, hy, hk, hc => by
    rw [List.pairwise_cons] at hp
    rcases List.mem_cons.1 hy with rfl | hy
    · rw [ins_eq hk, if_neg hc]
    · have := hp.1 y hy
      rw [ins_gt (by omega), ins_full hp.2 hy hk hc]
      rfl

theorem allP_zero {ns : List Nd} {root : Int} {L : List En} (h : allP ns root 0 1099511627776 = (0, L)) : treeC ns root = 0 ∧ allR 0 1099511627776 (ns.flatMap Nd.lst) = some L := by
  unfold allP at h
  by_cases hc : treeC ns root = 0
  · rw [if_neg (by simpa using hc)] at h
    cases ha : allR 0 1099511627776 (ns.flatMap Nd.lst) with
    | none => rw [ha] at h; cases h
    | some ys => rw [ha] at h; cases h; exact ⟨hc, rfl⟩
  · rw [if_pos hc] at h
    exact absurd (congrArg Prod.fst h) hc

theorem allP_of {ns : List Nd} {root : Int} {L : List En} (hc : treeC ns root = 0) (h : allR 0 1099511627776 (ns.flatMap Nd.lst) = some L) : allP ns root 0 1099511627776 = (0, L) := by
  unfold allP
  rw [if_neg (by simpa using hc), h]

/-- What a Put refuses of a tree that may be, and whose entries come together. -/
theorem put_code {ns : List Nd} {root key : Int} {r : Ru} {L : List En} (h : allP ns root 0 1099511627776 = (0, L)) (hg : Good r) (hk : 0 ≤ key ∧ key ≤ 1099511627775) :
    (putF ns root key r = 0 ∧ ∃ ys, ins L (mkE key r) = some ys) ∨ (putF ns root key r = 1 ∧ ins L (mkE key r) = none) := by
  obtain ⟨hc, hl⟩ := allP_zero h
  have hf := allP_facts (ns := ns) (r := root) (low := 0) (high := 1099511627776)
  rw [h] at hf
  have hr := allP_range (ns := ns) (r := root) (low := key) (high := key + 1) (by rw [h])
  rw [h] at hr
  have hq : allR key (key + 1) (ns.flatMap Nd.lst) = some (L.filter (inR key (key + 1))) := by
    unfold allP at hr
    rw [if_neg (by simpa using hc)] at hr
    cases ha : allR key (key + 1) (ns.flatMap Nd.lst) with
    | none => rw [ha] at hr; cases hr
    | some ys => rw [ha] at hr; cases hr; rfl
  have he : entC (mkE key r) = 0 := by
    unfold entC
    rw [if_pos ⟨(inB_iff _ _ _).2 hk, hg.2⟩]
    exact hg.1
  have hs := known_eq (key := key) hc
  unfold gotA at hs
  rw [hq] at hs
  have hF : putF ns root key r = (mrg ((Wl ns key (key + 1) 12 root).foldl stepK (zro, 0)).1 r).2 := by
    unfold putF
    rw [if_neg (by simpa using hc), if_neg (by simpa using he), if_neg]
    rw [hs]
    cases L.filter (inR key (key + 1)) <;> simp
  cases hm : L.filter (inR key (key + 1)) with
  | nil =>
    rw [hm] at hs
    have h0 : putF ns root key r = 0 := by
      rw [hF, hs]
      show (mrg zro r).2 = 0
      rw [mrg_zro hg]
    obtain ⟨ys, e, _⟩ := put_ins h0 hl
    exact .inl ⟨h0, ys, e⟩
  | cons y rest =>
    rw [hm] at hs
    have hy : y ∈ L.filter (inR key (key + 1)) := by rw [hm]; exact List.mem_cons_self
    obtain ⟨hy1, hy2⟩ := List.mem_filter.1 hy
    have hyk : y.key = key := by
      simp only [inR, Bool.and_eq_true, decide_eq_true_eq] at hy2
      omega
    have hyg := hf.2.1 y hy1
    have e1 : putF ns root key r = (mrg y.ru r).2 := by rw [hF, hs]
    rw [mrg_good hyg hg] at e1
    by_cases hcn : y.ru.c + r.c ≤ 1073741824
    · rw [if_pos hcn] at e1
      obtain ⟨ys, e, _⟩ := put_ins e1 hl
      exact .inl ⟨e1, ys, e⟩
    · rw [if_neg hcn] at e1
      exact .inr ⟨e1, ins_full hf.1 hy1 hyk hcn⟩

/-- What a Put's tree knows. -/
theorem put_allP {ns ns2 : List Nd} {root root2 key : Int} {r : Ru} {L ys : List En} (h : allP ns root 0 1099511627776 = (0, L)) (hF : putF ns root key r = 0) (hok : PutOk ns ns2 root2 (mkE key r)) (hz : ns2.length ≤ 2000) (hy : ins L (mkE key r) = some ys) :
    allP ns2 root2 0 1099511627776 = (0, ys) := by
  obtain ⟨_, hl⟩ := allP_zero h
  obtain ⟨zs, e1, e2, _⟩ := put_knows hF hok hz hl
  rw [hy] at e1
  cases e1
  exact allP_of (hok.fine hz) e2

/-! ### Names -/

/-- Names with one that may be new. -/
def withS (ss : List ByteArray) (s : ByteArray) : List ByteArray := if Lib.idxOfS ss s < 0 then ss ++ [s] else ss
def plc (ss : List ByteArray) (s : ByteArray) : Int := if Lib.idxOfS ss s < 0 then ss.length else Lib.idxOfS ss s

theorem idx_neg {ss : List ByteArray} {s : ByteArray} : Lib.idxOfS ss s < 0 ↔ s ∉ ss := by
  rw [← Lib.idxOfS_nonneg_iff]
  omega

theorem getD_of_lt {ss : List ByteArray} {k : Nat} (h : k < ss.length) : ss.getD k ByteArray.empty = ss[k] := by
  rw [List.getD_eq_getElem?_getD, List.getElem?_eq_getElem h]
  rfl

theorem first_at {ss : List ByteArray} {s : ByteArray} (n : Nat) (h : ss.getD n ByteArray.empty = s) : ∃ k, k ≤ n ∧ ss.getD k ByteArray.empty = s ∧ ∀ j, j < k → ss.getD j ByteArray.empty ≠ s := by
  induction n using Nat.strongRecOn with
  | ind n ih =>
    by_cases hj : ∃ j, j < n ∧ ss.getD j ByteArray.empty = s
    · obtain ⟨j, h1, h2⟩ := hj
      obtain ⟨k, q1, q2, q3⟩ := ih j h1 h2
      exact ⟨k, by omega, q2, q3⟩
    · exact ⟨n, Nat.le_refl _, h, fun j h1 h2 => hj ⟨j, h1, h2⟩⟩

theorem idx_at {ss : List ByteArray} {s : ByteArray} (h : s ∈ ss) : ∃ k : Nat, k < ss.length ∧ Lib.idxOfS ss s = k ∧ ss.getD k ByteArray.empty = s := by
  obtain ⟨n, hn, e⟩ := List.getElem_of_mem h
  obtain ⟨k, h1, h2, h3⟩ := first_at n (by rw [getD_of_lt hn, e])
  have := Lib.idxOfS_hit ss ss.length k s (by omega) (Nat.le_refl _) h2 h3
  rw [List.take_length] at this
  exact ⟨k, by omega, this, h2⟩

theorem plc_with (ss : List ByteArray) (s : ByteArray) : Lib.idxOfS (withS ss s) s = plc ss s ∧ 0 ≤ plc ss s ∧ plc ss s < (withS ss s).length := by
  unfold withS plc
  by_cases h : Lib.idxOfS ss s < 0
  · simp only [if_pos h]
    have hn := idx_neg.1 h
    have e := Lib.idxOfS_hit (ss ++ [s]) (ss ++ [s]).length ss.length s (by simp) (Nat.le_refl _) (by simp [List.getD_eq_getElem?_getD]) (fun j hj e => hn (by
      rw [getD_of_lt (by simp; omega), List.getElem_append_left hj] at e
      rw [← e]
      exact List.getElem_mem hj))
    rw [List.take_length] at e
    exact ⟨e, by omega, by simp; omega⟩
  · simp only [if_neg h]
    have hm : s ∈ ss := Classical.byContradiction fun c => h (idx_neg.2 c)
    obtain ⟨k, hk, e, _⟩ := idx_at hm
    exact ⟨by trivial, by omega, by omega⟩

theorem names_with {ss : List ByteArray} {s : ByteArray} (h : namesB ss = true) (hs : nameB s = true) : namesB (withS ss s) = true := by
  unfold withS
  by_cases hi : Lib.idxOfS ss s < 0
  · rw [if_pos hi]
    have hn := idx_neg.1 hi
    unfold namesB at h ⊢
    rw [List.all_eq_true] at h ⊢
    intro i him
    have hi' : i < ss.length + 1 := by simpa using him
    by_cases hl : i < ss.length
    · have := h i (by simpa using hl)
      unfold okN at this ⊢
      rw [getD_of_lt (by simp; omega), List.getElem_append_left hl, List.take_append_of_le_length (by omega)]
      rwa [getD_of_lt hl] at this
    · obtain rfl : i = ss.length := by omega
      unfold okN
      have e : (ss ++ [s]).getD ss.length ByteArray.empty = s := by simp [List.getD_eq_getElem?_getD]
      rw [e, List.take_left', hs]
      · simp only [Bool.true_and, Bool.not_eq_true']
        cases hc : Lib.containsS ss s with
        | false => rfl
        | true => exact absurd ((Lib.containsS_iff _ _).1 hc) hn
      · rfl
  · rw [if_neg hi]
    exact h

/-! ### A base with one point more -/

/-- The point's entry, in each tree. -/
def ptE (p t v : Int) : En := mkE (p * 1048576 + t) (one t v)
theorem pt_bk {p t v size : Int} (ht : 0 ≤ t ∧ t ≤ 1048575) : bk size (ptE p t v) = mkE (p * 1048576 + (t - t % size)) (one t v) := by
  have h1 : (p * 1048576 + t) % 1048576 = t := by omega
  have e : (bk size (ptE p t v)).key = p * 1048576 + (t - t % size) := by
    show p * 1048576 + t - (p * 1048576 + t) % 1048576 % size = _
    rw [h1]
    omega
  show ({ ptE p t v with key := (bk size (ptE p t v)).key } : En) = _
  rw [e]
  rfl

theorem one_good {t v : Int} (ht : 0 ≤ t ∧ t ≤ 1048575) (hv : -1000000 ≤ v ∧ v ≤ 1000000) : Good (one t v) := ⟨chk_one ht hv, by simp [one]⟩

theorem add_base {ss : List ByteArray} {s : ByteArray} {f t v : Int} {n0 n1 n2 m0 m1 m2 : List Nd} {r0 r1 r2 q0 q1 q2 : Int} {L0 L1 L2 M0 M1 M2 : List En}
    (hb : baseB ss f n0 r0 n1 r1 n2 r2 = true) (hB : BaseL ss f n0 r0 n1 r1 n2 r2 L0 L1 L2) (hs : nameB s = true) (hl : (withS ss s).length ≤ 16) (ht : 0 ≤ t ∧ t ≤ 1048575) (hv : -1000000 ≤ v ∧ v ≤ 1000000) (hf : f ≤ t)
    (h0 : ins L0 (ptE (plc ss s) t v) = some M0) (h1 : ins L1 (bk 60 (ptE (plc ss s) t v)) = some M1) (h2 : ins L2 (bk 3600 (ptE (plc ss s) t v)) = some M2)
    (a0 : allP m0 q0 0 1099511627776 = (0, M0)) (a1 : allP m1 q1 0 1099511627776 = (0, M1)) (a2 : allP m2 q2 0 1099511627776 = (0, M2)) :
    baseB (withS ss s) f m0 q0 m1 q1 m2 q2 = true ∧ bookP m0 q0 (withS ss s).length f = some M0 := by
  obtain ⟨e1, e2, e3⟩ := plc_with ss s
  have hx : Good (ptE (plc ss s) t v).ru := one_good ht hv
  have hgf := allP_facts (ns := n0) (r := r0) (low := 0) (high := 1099511627776)
  rw [hB.a0] at hgf
  have hgood : ∀ y ∈ L0, Good y.ru := hgf.2.1
  obtain ⟨_, _, hpt⟩ := book_some hB.book
  rw [List.all_eq_true] at hpt
  have hlen : (ss.length : Int) ≤ (withS ss s).length := by
    unfold withS
    split
    · simp
      omega
    · exact Int.le_refl _
  have hxp : pointB (withS ss s).length f (ptE (plc ss s) t v) = true := by
    have k1 : (plc ss s * 1048576 + t) / 1048576 = plc ss s := by omega
    have k2 : (plc ss s * 1048576 + t) % 1048576 = t := by omega
    simp only [pointB, Bool.and_eq_true, decide_eq_true_eq]
    refine ⟨?_, ?_, ?_⟩
    · show (plc ss s * 1048576 + t) / 1048576 < _
      rw [k1]; exact e3
    · show f ≤ (plc ss s * 1048576 + t) % 1048576
      rw [k2]; exact hf
    · show t = (plc ss s * 1048576 + t) % 1048576
      rw [k2]
  have hM := ins_points hxp (fun y hy => point_more hlen (hpt y hy)) h0
  have hbook : bookP m0 q0 (withS ss s).length f = some M0 := by
    unfold bookP
    rw [a0, if_pos ⟨rfl, List.all_eq_true.2 hM⟩]
  refine ⟨?_, hbook⟩
  have s1 : stepB 60 M0 m1 q1 = true := by
    unfold stepB
    rw [roll_ins hgood hx h0, hB.p1, Option.bind_some, h1, a1]
    simp
  have s2 : stepB 3600 M0 m2 q2 = true := by
    unfold stepB
    rw [roll_ins hgood hx h0, hB.p2, Option.bind_some, h2, a2]
    simp
  have s0 := step_one hbook
  unfold baseB at hb ⊢
  simp only [Bool.and_eq_true, decide_eq_true_eq] at hb ⊢
  refine ⟨hl, hb.2.1, hb.2.2.1, names_with hb.2.2.2.1 hs, ?_⟩
  unfold treesB
  rw [hbook]
  simp only [Bool.and_eq_true]
  exact ⟨s0, s1, s2⟩

end Go.Proofs.YtlojfgdpmaigmaeGreatDoor

/- Names with one more, and what is known of a point: base.namesWith, base.pointFor. -/
namespace Go.Proofs.YtlojfgdpmaigmaeGreatDoor
open Go.RowKit Plain Go.Shelf

theorem contains_any (A : Option Addr) (C : Nat) (ss : List ByteArray) (x : ByteArray) (w : World) (h : StrsAt w.heap.size w A ss) :
    Calls Tryz.prog 17 #[.slice A ss.length C, .string x] w fun e w' => e = .returned (.bool (Lib.containsS ss x)) ∧ w' = w := by
  have hz := h.z
  cases ss with
  | nil => exact Any.slices_Contains_string_empty Tryz.containsS A C x w
  | cons s r =>
    obtain ⟨b, o, rfl, _, _, hc⟩ := h.row.str (k := 0) (by simp)
    have q := Any.slices_Contains_string Tryz.containsS b o (s :: r).length C (s :: r) x w (Nat.le_refl _) (by omega) hc
    rw [List.take_length] at q
    exact q

theorem strs_snoc (ss : List ByteArray) (s : ByteArray) : strs (ss ++ [s]) = strs ss ++ [.string s] := by
  unfold strs
  rw [List.map_append]
  rfl

set_option maxRecDepth 20000 in
set_option maxHeartbeats 1000000 in
theorem namesWith_any (A : Option Addr) (C : Nat) (ss : List ByteArray) (s : ByteArray) (w : World) (h : StrsAt w.heap.size w A ss) (hs : s.size ≤ 140737488351232) (hl : ss.length ≤ 16) :
    Calls Tryz.prog 49 #[.slice A ss.length C, .string s] w fun e w' => ∃ v, e = .returned v ∧ w'.ownsRow w.heap.size 9 1 v (withS ss s).length (strs (withS ss s)) ∧ Below w.heap.size w w' := by
  obtain ⟨i0, hi0, hz0, hz1, hz2⟩ := info_parts infoStr
  have fn := hideC (freshNames_any A C ss w h)
  have cs := hideC fun (VA : Option Addr) (VC : Nat) (W : World) (hS : StrsAt W.heap.size W VA ss) => contains_any VA VC ss s W hS
  by_cases hi : Lib.idxOfS ss s < 0
  · have hcn : Lib.containsS ss s = false := by
      unfold Lib.containsS
      simpa using hi
    have HW : Hid (withS ss s = ss ++ [s]) := if_pos hi
    rw [HW.out]
    rw [hcn] at cs
    clear hi hcn HW
    go_enter Tryz.func49, Tryz.ntmps49
    go_wp2_with (first
      | (go_at_call 25; refine fn.out.mono ?_; rintro e w1 ⟨v, rfl, hov, hb1⟩; obtain ⟨VA, VC, hvv, -, -, -, hrow⟩ := own_row hov; subst hvv)
      | (go_at_call 17; refine (cs.out VA VC _ ⟨hrow, h.z, h.each⟩).mono ?_; rintro e w2 ⟨rfl, hw2⟩; subst w2)
      | (go_at_call 54; refine (clone_any s _ hs).mono ?_; rintro e w3 ⟨rfl, hb3⟩; have hov3 : w3.ownsRow w.heap.size 9 1 (.slice VA ss.length VC) ss.length (strs ss) := own_of_block hov (fun k hk => hb3.block k (hov.lt k hk).2); have hw3 : Below w.heap.size w w3 := hb1.trans (hb3.mono hb1.size); have z3 := hw3.size)
      | (at_builtin; refine wpList_append_own _ rfl _ _ 22 rfl w.heap.size 9 i0 _ 1 16 Tryz.underlying22 hi0 hz0 hz1 hz2 rfl (by decide) (.slice VA ss.length VC) ss.length (strs ss) rfl (hov3.alloc _) ⟨w3.heap.size, 0, none⟩ 1 1 [.string s] rfl rfl (newsStr w3 s) (by intro u hu; simp at hu; subst hu; rfl) (by unfold maxLen; omega) (by omega) (by simp; omega) ?_; intro v4 w4 hown4 hgrow4 _))
    go_ret
    exact ⟨_, rfl, by rw [strs_snoc]; simpa using hown4, (hw3.alloc (by omega) _).grown hgrow4 (by simp; omega) (fun k hk => (hov3.lt k hk).1)⟩
  · have hcn : Lib.containsS ss s = true := by
      unfold Lib.containsS
      simp
      omega
    have HW : Hid (withS ss s = ss) := if_neg hi
    rw [HW.out]
    rw [hcn] at cs
    clear hi hcn HW
    go_enter Tryz.func49, Tryz.ntmps49
    go_wp2_with (first
      | (go_at_call 25; refine fn.out.mono ?_; rintro e w1 ⟨v, rfl, hov, hb1⟩; obtain ⟨VA, VC, hvv, -, -, -, hrow⟩ := own_row hov; subst hvv)
      | (go_at_call 17; refine (cs.out VA VC _ ⟨hrow, h.z, h.each⟩).mono ?_; rintro e w2 ⟨rfl, hw2⟩; subst w2))
    go_ret
    exact ⟨_, rfl, hov, hb1⟩

def ofOk (t v : Int) : Bool := inB t 0 1048575 && inB v (-1000000) 1000000
def ofR (t v : Int) : Ru := if ofOk t v = true then one t v else zro
def ofC (t v : Int) : Int := if ofOk t v = true then 0 else 2

theorem rollOf_any (t v : Int) (w : World) :
    Calls Tryz.prog 39 #[.int .i64 t, .int .i64 v] w fun e w' => e = .returned (.tuple #[.agg #[.int .i64 (ofR t v).c, .int .i64 (ofR t v).s, .int .i64 (ofR t v).lo, .int .i64 (ofR t v).hi, .int .i64 (ofR t v).t, .int .i64 (ofR t v).l], .int .i64 (ofC t v)]) ∧ Below w.heap.size w w' := by
  cases h1 : inB t 0 1048575 with
  | false =>
    have e : ofOk t v = false := by unfold ofOk; rw [h1]; rfl
    simp only [ofR, ofC, e]
    exact of_no1 t v w h1
  | true =>
    cases h2 : inB v (-1000000) 1000000 with
    | false =>
      have e : ofOk t v = false := by unfold ofOk; rw [h1, h2]; rfl
      simp only [ofR, ofC, e]
      exact of_no2 t v w h1 h2
    | true =>
      have e : ofOk t v = true := by unfold ofOk; rw [h1, h2]; rfl
      simp only [ofR, ofC, e]
      exact of_yes t v w h1 h2

/-- What is refused of a point, whatever a base knows: 0, if nothing. -/
def ptC (s : ByteArray) (t v f : Int) : Int := if nameB s = true then (if ofOk t v = true then (if t < f then 8 else 0) else 2) else 4
def ptR (s : ByteArray) (t v f : Int) : Ru := if ptC s t v f = 0 then one t v else zro

theorem pt_facts {s : ByteArray} {t v f : Int} (h : ptC s t v f = 0) : nameB s = true ∧ (0 ≤ t ∧ t ≤ 1048575) ∧ (-1000000 ≤ v ∧ v ≤ 1000000) ∧ f ≤ t := by
  unfold ptC at h
  split at h
  · rename_i h1
    split at h
    · rename_i h2
      unfold ofOk at h2
      rw [Bool.and_eq_true] at h2
      split at h
      · cases h
      · exact ⟨h1, (inB_iff _ _ _).1 h2.1, (inB_iff _ _ _).1 h2.2, by omega⟩
    · cases h
  · cases h

end Go.Proofs.YtlojfgdpmaigmaeGreatDoor

/- What is known of a point, or what is refused of it: base.pointFor. -/
namespace Go.Proofs.YtlojfgdpmaigmaeGreatDoor
open Go.RowKit Plain Go.Shelf

/-- A base without anything. -/
def zb8 : List Value := [.slice none 0 0, .slice none 0 0, .int .i64 0, .slice none 0 0, .int .i64 0, .slice none 0 0, .int .i64 0, .int .i64 0]
def ptV (s : ByteArray) (t v : Int) : List Value := [.string s, .int .i64 t, .int .i64 v]

theorem rows3 (v : World) (l1 l2 l3 : List Value) (t1 t2 t3 : TypeId) :
    RowL (((v.alloc (.cells l1.toArray t1)).alloc (.cells l2.toArray t2)).alloc (.cells l3.toArray t3)) v.heap.size t1 l1 ∧ RowL (((v.alloc (.cells l1.toArray t1)).alloc (.cells l2.toArray t2)).alloc (.cells l3.toArray t3)) (v.heap.size + 1) t2 l2 ∧
    RowL (((v.alloc (.cells l1.toArray t1)).alloc (.cells l2.toArray t2)).alloc (.cells l3.toArray t3)) (v.heap.size + 1 + 1) t3 l3 ∧ Below v.heap.size v (((v.alloc (.cells l1.toArray t1)).alloc (.cells l2.toArray t2)).alloc (.cells l3.toArray t3)) := by
  have s1 : (v.alloc (.cells l1.toArray t1)).heap.size = v.heap.size + 1 := by simp
  have s2 : ((v.alloc (.cells l1.toArray t1)).alloc (.cells l2.toArray t2)).heap.size = v.heap.size + 1 + 1 := by simp
  have r1 := rowL_alloc v l1 t1
  have r2 := rowL_alloc (v.alloc (.cells l1.toArray t1)) l2 t2
  rw [s1] at r2
  have r3 := rowL_alloc ((v.alloc (.cells l1.toArray t1)).alloc (.cells l2.toArray t2)) l3 t3
  rw [s2] at r3
  refine ⟨?_, ?_, r3, (((Below.refl _ _).alloc (Nat.le_refl _) _).alloc (by omega) _).alloc (by omega) _⟩
  · exact (r1.of_block (Below.heap_alloc _ _ _ (by omega))).of_block (Below.heap_alloc _ _ _ (by omega))
  · exact r2.of_block (Below.heap_alloc _ _ _ (by omega))

theorem set6_below {B : Nat} {w0 w : World} (hb : Below B w0 w) {m : Nat} (hm : B ≤ m) (a b c d e f : Value) : Below B w0 ((((((w.setCell ⟨m, 0, none⟩ a).setCell ⟨m, 1, none⟩ b).setCell ⟨m, 2, none⟩ c).setCell ⟨m, 3, none⟩ d).setCell ⟨m, 4, none⟩ e).setCell ⟨m, 5, none⟩ f) :=
  set1_below (set1_below (set1_below (set1_below (set1_below (set1_below hb hm _ _) hm _ _) hm _ _) hm _ _) hm _ _) hm _ _

def ruT (r : Ru) (c : Int) : Value := .tuple #[.agg #[.int .i64 r.c, .int .i64 r.s, .int .i64 r.lo, .int .i64 r.hi, .int .i64 r.t, .int .i64 r.l], .int .i64 c]

set_option maxRecDepth 20000 in
set_option maxHeartbeats 1000000 in
theorem pointFor_any (A : Option Addr) (C : Nat) (ss : List ByteArray) (t0 t1 t2 : TR) (f : Int) (s : ByteArray) (t v : Int) (w : World) :
    Calls Tryz.prog 48 #[.agg (baseV A C ss t0 t1 t2 f).toArray, .agg #[.string s, .int .i64 t, .int .i64 v]] w fun e w' => e = .returned (ruT (ptR s t v f) (ptC s t v f)) ∧ Below w.heap.size w w' := by
  have nm := fun W => name_any s W
  have oo := fun W => rollOf_any t v W
  obtain ⟨A0, C0, p0, r0⟩ := t0
  obtain ⟨A1, C1, p1, r1⟩ := t1
  obtain ⟨A2, C2, p2, r2⟩ := t2
  simp only [baseV]
  have HW := hideC (rows3 w [.slice A ss.length C, .slice A0 p0.length C0, .int .i64 r0, .slice A1 p1.length C1, .int .i64 r1, .slice A2 p2.length C2, .int .i64 r2, .int .i64 f] (ptV s t v) (ruV zro) 28 61 45)
  cases hn : nameB s with
  | false =>
    have e1 : ptC s t v f = 4 := by simp [ptC, hn]
    have e2 : ptR s t v f = zro := by simp [ptR, e1]
    rw [e1, e2]
    rw [hn] at nm
    go_enter Tryz.func48, Tryz.ntmps48
    go_wp2_with (first | (go_at_call 70; refine (nm _).mono ?_; rintro e w1 ⟨rfl, hw1⟩; subst w1))
    exact bodyPost_ret (v := ruT zro 4) (by simp [ruT, zro, results, Tryz.results48, go_sem]) rfl ⟨rfl, HW.out.2.2.2⟩
  | true =>
    rw [hn] at nm
    cases ho : ofOk t v with
    | false =>
      have e1 : ptC s t v f = 2 := by simp [ptC, hn, ho]
      have e2 : ptR s t v f = zro := by simp [ptR, e1]
      rw [e1, e2]
      simp only [ofR, ofC, ho, Bool.false_eq_true, if_false] at oo
      go_enter Tryz.func48, Tryz.ntmps48
      go_upto_region 5 with (first
        | (go_at_call 70; refine (nm _).mono ?_; rintro e w1 ⟨rfl, hw1⟩; subst w1)
        | (go_at_call 39; refine (oo _).mono ?_; rintro e w2 ⟨rfl, hb2⟩; have ro := hideC (HW.out.2.2.1.below hb2 HW.out.2.2.1.lt); have hw2 := hideC (nextB HW.out.2.2.2 (Nat.le_refl _) hb2); have d := fun j => ro.out.cell j; simp only [ruV, zro] at d; have fz := fun j => ro.out.frozen j; have l2 := ro.out.lt))
      repeat go_step
      exact bodyPost_ret (v := ruT zro 2) (by simp [ruT, zro, results, Tryz.results48, go_sem, d, l2]) rfl ⟨rfl, (set6_below hw2.out (by omega) _ _ _ _ _ _).alloc (by have := hw2.out.size; simp; omega) _⟩
    | true =>
      simp only [ofR, ofC, ho, if_true] at oo
      by_cases hf : t < f
      · have e1 : ptC s t v f = 8 := by simp [ptC, hn, ho, hf]
        have e2 : ptR s t v f = zro := by simp [ptR, e1]
        rw [e1, e2]
        go_enter Tryz.func48, Tryz.ntmps48
        go_upto_region 7 with (first
          | (go_at_call 70; refine (nm _).mono ?_; rintro e w1 ⟨rfl, hw1⟩; subst w1)
          | (go_at_call 39; refine (oo _).mono ?_; rintro e w2 ⟨rfl, hb2⟩; have rb := hideC (HW.out.1.below hb2 HW.out.1.lt); have rp := hideC (HW.out.2.1.below hb2 HW.out.2.1.lt); have ro := hideC (HW.out.2.2.1.below hb2 HW.out.2.2.1.lt); have hw2 := hideC (nextB HW.out.2.2.2 (Nat.le_refl _) hb2); have d := fun j => ro.out.cell j; simp only [ruV, zro] at d; have fz := fun j => ro.out.frozen j; have l2 := ro.out.lt; have l3 := rb.out.lt; have l4 := rp.out.lt; have db := fun j => rb.out.cell j; have dp := fun j => rp.out.cell j; simp only [ptV] at dp))
        repeat go_step
        exact bodyPost_ret (v := ruT zro 8) (by simp [ruT, zro, results, Tryz.results48, go_sem, d, l2]) rfl ⟨rfl, (set6_below hw2.out (by omega) _ _ _ _ _ _).alloc (by have := hw2.out.size; simp; omega) _⟩
      · have e1 : ptC s t v f = 0 := by simp [ptC, hn, ho, hf]
        have e2 : ptR s t v f = one t v := by simp [ptR, e1]
        rw [e1, e2]
        go_enter Tryz.func48, Tryz.ntmps48
        go_upto_region 8 with (first
          | (go_at_call 70; refine (nm _).mono ?_; rintro e w1 ⟨rfl, hw1⟩; subst w1)
          | (go_at_call 39; refine (oo _).mono ?_; rintro e w2 ⟨rfl, hb2⟩; have rb := hideC (HW.out.1.below hb2 HW.out.1.lt); have rp := hideC (HW.out.2.1.below hb2 HW.out.2.1.lt); have ro := hideC (HW.out.2.2.1.below hb2 HW.out.2.2.1.lt); have hw2 := hideC (nextB HW.out.2.2.2 (Nat.le_refl _) hb2); have d := fun j => ro.out.cell j; simp only [ruV, zro] at d; have fz := fun j => ro.out.frozen j; have l2 := ro.out.lt; have l3 := rb.out.lt; have l4 := rp.out.lt; have db := fun j => rb.out.cell j; have dp := fun j => rp.out.cell j; simp only [ptV] at dp))
        repeat go_step
        exact bodyPost_ret (v := ruT (one t v) 0) (by simp [ruT, one, results, Tryz.results48, go_sem, d, l2]) rfl ⟨rfl, (set6_below hw2.out (by omega) _ _ _ _ _ _).alloc (by have := hw2.out.size; simp; omega) _⟩

end Go.Proofs.YtlojfgdpmaigmaeGreatDoor

/- base.Add: the walk, over what its callees do. -/
namespace Go.Proofs.YtlojfgdpmaigmaeGreatDoor
open Go.RowKit Plain Go.Shelf

def noBase (c : Int) : Value := .tuple #[.agg #[.slice none 0 0, .slice none 0 0, .int .i64 0, .slice none 0 0, .int .i64 0, .slice none 0 0, .int .i64 0, .int .i64 0], .int .i64 c]

/-- On the way: the boxes of the base, of the point, and of the answer. -/
structure AdS (w wr : World) (L : List Value) (s : ByteArray) (t v : Int) : Prop where
  below : Below w.heap.size w wr
  bb : RowL wr w.heap.size 28 L
  bp : RowL wr (w.heap.size + 1) 61 (ptV s t v)
  bo : RowL wr (w.heap.size + 1 + 1) 28 zb8

theorem AdS.next {w wr w' : World} {L : List Value} {s : ByteArray} {t v : Int} (h : AdS w wr L s t v) (hb : Below wr.heap.size wr w') : AdS w w' L s t v :=
  ⟨nextB h.below (Nat.le_refl _) hb, h.bb.below hb h.bb.lt, h.bp.below hb h.bp.lt, h.bo.below hb h.bo.lt⟩

theorem AdS.start (w : World) (L : List Value) (s : ByteArray) (t v : Int) : AdS w (((w.alloc (.cells L.toArray 28)).alloc (.cells (ptV s t v).toArray 61)).alloc (.cells zb8.toArray 28)) L s t v := by
  obtain ⟨h1, h2, h3, h4⟩ := rows3 w L (ptV s t v) zb8 28 61 28
  exact ⟨h4, h1, h2, h3⟩

theorem AdS.set {w wr : World} {L : List Value} {s : ByteArray} {t v : Int} (h : AdS w wr L s t v) {b : Nat} (hb : w.heap.size + 3 ≤ b) (i : Nat) (u : Value) : AdS w (wr.setCell ⟨b, i, none⟩ u) L s t v := by
  have far : ∀ k, k ≠ b → (wr.setCell ⟨b, i, none⟩ u).heap[k]? = wr.heap[k]? := fun k hk => Below.heap_setCell _ _ _ _ hk
  exact ⟨set1_below h.below (by omega) _ _, h.bb.of_block (far _ (by omega)), h.bp.of_block (far _ (by omega)), h.bo.of_block (far _ (by omega))⟩


set_option maxRecDepth 20000 in
set_option maxHeartbeats 1000000 in
theorem add_b1 (L : List Value) (a0 a1 a2 a3 a4 a5 a6 a7 : Value) (hL : L = [a0, a1, a2, a3, a4, a5, a6, a7]) (s : ByteArray) (t v c : Int) (h0 : c ≠ 0) (w : World)
    (CK : Hid (∀ W, Below w.heap.size w W → Calls Tryz.prog 19 #[.agg #[a0, a1, a2, a3, a4, a5, a6, a7]] W fun e w' => e = .returned (.int .i64 c) ∧ Below W.heap.size W w')) :
    Calls Tryz.prog 22 #[.agg #[a0, a1, a2, a3, a4, a5, a6, a7], .agg #[.string s, .int .i64 t, .int .i64 v]] w fun e w' => e = .returned (noBase c) ∧ Below w.heap.size w w' := by
  have HS := hideC (AdS.start w L s t v)
  subst hL
  have hc' : (c != 0) = true := by simpa using h0
  have hc'' : (c == 0) = false := by simpa using h0
  go_enter Tryz.func22, Tryz.ntmps22
  go_upto_region 3 with (first
    | (go_at_call 19; refine (CK.out _ HS.out.below).mono ?_; rintro e w1 ⟨rfl, hb1⟩; have H1 := hideC (HS.out.next hb1); have d := fun j => H1.out.bo.cell j; have fz := fun j => H1.out.bo.frozen j; simp only [zb8] at d))
  repeat go_step
  exact bodyPost_ret (v := noBase c) (by simp [noBase, results, Tryz.results22, go_sem, d]) rfl ⟨rfl, set8_below H1.out.below (by omega) _ _ _ _ _ _ _ _⟩

set_option maxRecDepth 20000 in
set_option maxHeartbeats 1000000 in
theorem add_b2 (L : List Value) (a0 a1 a2 a3 a4 a5 a6 a7 : Value) (hL : L = [a0, a1, a2, a3, a4, a5, a6, a7]) (s : ByteArray) (t v c : Int) (r : Ru) (h0 : c ≠ 0) (w : World)
    (CK : Hid (∀ W, Below w.heap.size w W → Calls Tryz.prog 19 #[.agg #[a0, a1, a2, a3, a4, a5, a6, a7]] W fun e w' => e = .returned (.int .i64 0) ∧ Below W.heap.size W w'))
    (PF : Hid (∀ W, Calls Tryz.prog 48 #[.agg #[a0, a1, a2, a3, a4, a5, a6, a7], .agg #[.string s, .int .i64 t, .int .i64 v]] W fun e w' => e = .returned (ruT r c) ∧ Below W.heap.size W w')) :
    Calls Tryz.prog 22 #[.agg #[a0, a1, a2, a3, a4, a5, a6, a7], .agg #[.string s, .int .i64 t, .int .i64 v]] w fun e w' => e = .returned (noBase c) ∧ Below w.heap.size w w' := by
  have HS := hideC (AdS.start w L s t v)
  subst hL
  have hc' : (c != 0) = true := by simpa using h0
  have hc'' : (c == 0) = false := by simpa using h0
  simp only [ruT] at PF
  go_enter Tryz.func22, Tryz.ntmps22
  go_upto_region 6 with (first
    | (go_at_call 19; refine (CK.out _ HS.out.below).mono ?_; rintro e w1 ⟨rfl, hb1⟩; have H1 := hideC (HS.out.next hb1); have d1 := fun j => H1.out.bb.cell j; have d2 := fun j => H1.out.bp.cell j; simp only [ptV] at d2)
    | (go_at_call 48; refine (PF.out _).mono ?_; rintro e w2 ⟨rfl, hb2⟩; clear d1 d2; have H2 := hideC (H1.out.next hb2); have d := fun j => H2.out.bo.cell j; have fz := fun j => H2.out.bo.frozen j; have l2 := H2.out.bo.lt; simp only [zb8] at d))
  repeat go_step
  exact bodyPost_ret (v := noBase c) (by simp [noBase, results, Tryz.results22, go_sem, d, l2]) rfl ⟨rfl, (set8_below H2.out.below (by omega) _ _ _ _ _ _ _ _).alloc (by have := H2.out.below.size; simp [set8]; omega) _⟩

end Go.Proofs.YtlojfgdpmaigmaeGreatDoor

/- base.Add: what is kept on its way. -/
namespace Go.Proofs.YtlojfgdpmaigmaeGreatDoor
open Go.RowKit Plain Go.Shelf

/-- Refused, or a tree of its own. -/
def PutP (Bad : Int → Prop) (Fine : List Nd → Int → Prop) (base : Nat) (w : World) (XA : Option Addr) (xl XC : Nat) (sr c : Int) : Prop :=
  (c ≠ 0 ∧ Bad c) ∨ (c = 0 ∧ ∃ (g : Nat) (qs : List PN), XA = some ⟨g, 0, none⟩ ∧ xl = qs.length ∧ NT base w g XC qs ∧ Fine (qs.map PN.nd) sr)

/-- What a Put comes to. -/
def PutC (Bad : Int → Prop) (Fine : List Nd → Int → Prop) (w : World) (e : Ending) (w' : World) : Prop :=
  ∃ (XA : Option Addr) (xl XC : Nat) (sr c : Int), e = .returned (.tuple #[.agg #[.slice XA xl XC, .int .i64 sr], .int .i64 c]) ∧ Below w.heap.size w w' ∧ PutP Bad Fine w.heap.size w' XA xl XC sr c

/-- Where the answer of a Put is laid. -/
def PutM (Bad : Int → Prop) (Fine : List Nd → Int → Prop) (k : Int) (wr : World) (v13 v14 v50 : Value) (wc : World) : Prop :=
  ∃ (mb : Nat) (XA : Option Addr) (xl XC : Nat) (sr c : Int), v13 = .pointer (some ⟨mb, 0, none⟩) ∧ v14 = .int .i64 c ∧ v50 = .int .i64 k ∧ wr.heap.size ≤ mb ∧ Below wr.heap.size wr wc ∧ RowL wc mb 25 [.slice XA xl XC, .int .i64 sr] ∧ PutP Bad Fine wr.heap.size wc XA xl XC sr c

theorem PutP.keep {Bad : Int → Prop} {Fine : List Nd → Int → Prop} {base base' : Nat} {w w' : World} {XA : Option Addr} {xl XC : Nat} {sr c : Int} (h : PutP Bad Fine base w XA xl XC sr c) (hb : base' ≤ base) (hk : ∀ k, base ≤ k → k < w.heap.size → w'.heap[k]? = w.heap[k]?) : PutP Bad Fine base' w' XA xl XC sr c := by
  rcases h with h | ⟨h0, g, qs, h1, h2, h3, h4⟩
  · exact .inl h
  · exact .inr ⟨h0, g, qs, h1, h2, (h3.of_blocks fun k hk' => hk k (h3.lt k hk').1 (h3.lt k hk').2).low hb, h4⟩

theorem put_late {Bad : Int → Prop} {Fine : List Nd → Int → Prop} {wr w3 : World} {XA : Option Addr} {xl XC : Nat} {sr c k : Int} (hb : Below wr.heap.size wr w3) (h : PutP Bad Fine wr.heap.size w3 XA xl XC sr c) :
    PutM Bad Fine k wr (.pointer (some ⟨w3.heap.size, 0, none⟩)) (.int .i64 c) (.int .i64 k) (w3.alloc (.cells #[.slice XA xl XC, .int .i64 sr] 25)) :=
  ⟨w3.heap.size, XA, xl, XC, sr, c, rfl, rfl, rfl, hb.size, hb.alloc hb.size _, rowL_alloc w3 [.slice XA xl XC, .int .i64 sr] _, h.keep (Nat.le_refl _) fun _ _ hk => Below.heap_alloc _ _ _ hk⟩

theorem put_early {Bad : Int → Prop} {Fine : List Nd → Int → Prop} {wr w3 : World} {XA : Option Addr} {xl XC : Nat} {sr c k : Int} (hb : Below (wr.heap.size + 1) (wr.alloc (.cells #[.slice none 0 0, .int .i64 0] 25)).drew w3) (h : PutP Bad Fine (wr.heap.size + 1) w3 XA xl XC sr c) :
    PutM Bad Fine k wr (.pointer (some ⟨wr.heap.size, 0, none⟩)) (.int .i64 c) (.int .i64 k) ((w3.setCell ⟨wr.heap.size, 0, none⟩ (.slice XA xl XC)).setCell ⟨wr.heap.size, 1, none⟩ (.int .i64 sr)) := by
  have hbw : Below wr.heap.size wr w3 := (((Below.refl wr.heap.size wr).alloc (Nat.le_refl _) _).drew).trans (hb.mono (by omega))
  have r0 : RowL w3 wr.heap.size 25 [.slice none 0 0, .int .i64 0] := ((rowL_alloc wr [.slice none 0 0, .int .i64 0] 25).of_block (w' := (wr.alloc (.cells #[.slice none 0 0, .int .i64 0] 25)).drew) rfl).below hb (by omega)
  exact ⟨wr.heap.size, XA, xl, XC, sr, c, rfl, rfl, rfl, Nat.le_refl _, set1_below (set1_below hbw (Nat.le_refl _) _ _) (Nat.le_refl _) _ _, (r0.set 0 _).set 1 _, h.keep (by omega) fun k hk _ => (Below.heap_setCell _ _ _ _ (show k ≠ wr.heap.size by omega)).trans (Below.heap_setCell _ _ _ _ (show k ≠ wr.heap.size by omega))⟩

/-- A tree of its own, behind block cb. -/
def TreeF (cb : Nat) (Fine : List Nd → Int → Prop) (w : World) (g D : Nat) (q : List PN) (s : Int) : Prop := (∃ base, cb < base ∧ NT base w g D q) ∧ Fine (q.map PN.nd) s

theorem TreeF.below {cb g D : Nat} {Fine : List Nd → Int → Prop} {w w' : World} {q : List PN} {s : Int} (h : TreeF cb Fine w g D q s) (hb : Below w.heap.size w w') : TreeF cb Fine w' g D q s := by
  obtain ⟨⟨base, h1, h2⟩, h3⟩ := h
  exact ⟨⟨base, h1, h2.below hb (Nat.le_refl _)⟩, h3⟩

theorem TreeF.set {cb g D : Nat} {Fine : List Nd → Int → Prop} {w : World} {q : List PN} {s : Int} (h : TreeF cb Fine w g D q s) {b : Nat} (hb : b ≤ cb) (j : Nat) (u : Value) : TreeF cb Fine (w.setCell ⟨b, j, none⟩ u) g D q s := by
  obtain ⟨⟨base, h1, h2⟩, h3⟩ := h
  exact ⟨⟨base, h1, h2.of_blocks fun k hk => Below.heap_setCell _ _ _ _ (show k ≠ b by have := (h2.lt k hk).1; omega)⟩, h3⟩

def tw3 (b : Bool) (g l C : Nat) : Value := if b = true then .slice (some ⟨g, 0, none⟩) l C else .slice none 0 0

/-- The boxes of what is known of the point, and of the base that is made, besides. -/
structure AdL (w wr : World) (L : List Value) (s : ByteArray) (t v : Int) (r : Ru) (rb cb : Nat) (VA : Option Addr) (VC : Nat) (ns : List ByteArray) (cs : List Value) : Prop where
  st : AdS w wr L s t v
  br : RowL wr rb 45 (ruV r)
  bc : RowL wr cb 28 cs
  own : wr.ownsRow (w.heap.size + 3) 9 1 (.slice VA ns.length VC) ns.length (strs ns)
  ne : (Value.slice VA ns.length VC).ownBlock ≠ some cb
  lo : w.heap.size + 3 ≤ rb ∧ rb < cb

theorem AdL.next {w wr w' : World} {L : List Value} {s : ByteArray} {t v : Int} {r : Ru} {rb cb VC : Nat} {VA : Option Addr} {ns : List ByteArray} {cs : List Value} (h : AdL w wr L s t v r rb cb VA VC ns cs) (hb : Below wr.heap.size wr w') : AdL w w' L s t v r rb cb VA VC ns cs :=
  ⟨h.st.next hb, h.br.below hb h.br.lt, h.bc.below hb h.bc.lt, own_next h.own hb, h.ne, h.lo⟩

theorem AdL.set {w wr : World} {L : List Value} {s : ByteArray} {t v : Int} {r : Ru} {rb cb VC : Nat} {VA : Option Addr} {ns : List ByteArray} {cs : List Value} (h : AdL w wr L s t v r rb cb VA VC ns cs) (i : Nat) (u : Value) : AdL w (wr.setCell ⟨cb, i, none⟩ u) L s t v r rb cb VA VC ns (cs.set i u) := by
  have hl := h.lo
  exact ⟨h.st.set (by omega) i u, h.br.of_block (Below.heap_setCell _ _ _ _ (show rb ≠ cb by omega)), h.bc.set i u, own_of_block h.own (fun k hk => Below.heap_setCell _ _ _ _ (show k ≠ cb from fun e => h.ne (e ▸ hk))), h.ne, h.lo⟩

/-- What Add comes to. -/
def AddC (B0 B1 B2 : Int → Prop) (F0 F1 F2 : List Nd → Int → Prop) (ns : List ByteArray) (f : Int) (w : World) (e : Ending) (w' : World) : Prop :=
  Below w.heap.size w w' ∧ ((16 < ns.length ∧ e = .returned (noBase 1)) ∨ (ns.length ≤ 16 ∧ ∃ c, c ≠ 0 ∧ (B0 c ∨ B1 c ∨ B2 c) ∧ e = .returned (noBase c)) ∨
    (ns.length ≤ 16 ∧ ∃ (VA : Option Addr) (VC g0 D0 g1 D1 g2 D2 : Nat) (q0 q1 q2 : List PN) (s0 s1 s2 : Int), e = .returned (.tuple #[.agg #[.slice VA ns.length VC, .slice (some ⟨g0, 0, none⟩) q0.length D0, .int .i64 s0, .slice (some ⟨g1, 0, none⟩) q1.length D1, .int .i64 s1, .slice (some ⟨g2, 0, none⟩) q2.length D2, .int .i64 s2, .int .i64 f], .int .i64 0]) ∧
      w'.ownsRow w.heap.size 9 1 (.slice VA ns.length VC) ns.length (strs ns) ∧ NT w.heap.size w' g0 D0 q0 ∧ NT w.heap.size w' g1 D1 q1 ∧ NT w.heap.size w' g2 D2 q2 ∧ F0 (q0.map PN.nd) s0 ∧ F1 (q1.map PN.nd) s1 ∧ F2 (q2.map PN.nd) s2))

/-- The loop's cells of the base that is made. -/
def csK (k : Nat) (VA : Option Addr) (n VC g0 l0 D0 : Nat) (s0 : Int) (g1 l1 D1 : Nat) (s1 : Int) (g2 l2 D2 : Nat) (s2 f : Int) : List Value :=
  [.slice VA n VC, tw3 (decide (0 < k)) g0 l0 D0, rw' (decide (0 < k)) s0, tw3 (decide (1 < k)) g1 l1 D1, rw' (decide (1 < k)) s1, tw3 (decide (2 < k)) g2 l2 D2, rw' (decide (2 < k)) s2, .int .i64 f]

/-- So far: k trees. -/
def AdK (F0 F1 F2 : List Nd → Int → Prop) (w : World) (L : List Value) (s : ByteArray) (t v : Int) (r : Ru) (rb cb VC : Nat) (VA : Option Addr) (ns : List ByteArray) (f : Int) (k : Nat) (wr : World) : Prop :=
  ∃ (g0 D0 g1 D1 g2 D2 : Nat) (q0 q1 q2 : List PN) (s0 s1 s2 : Int), AdL w wr L s t v r rb cb VA VC ns (csK k VA ns.length VC g0 q0.length D0 s0 g1 q1.length D1 s1 g2 q2.length D2 s2 f) ∧ (0 < k → TreeF cb F0 wr g0 D0 q0 s0) ∧ (1 < k → TreeF cb F1 wr g1 D1 q1 s1) ∧ (2 < k → TreeF cb F2 wr g2 D2 q2 s2)

theorem AdK.step0 {F0 F1 F2 : List Nd → Int → Prop} {w wr : World} {L : List Value} {s : ByteArray} {t v : Int} {r : Ru} {rb cb VC : Nat} {VA : Option Addr} {ns : List ByteArray} {f : Int} (h : AdK F0 F1 F2 w L s t v r rb cb VC VA ns f 0 wr) {base g D : Nat} {q : List PN} {sr : Int} (hbase : cb < base) (hT : NT base wr g D q) (hF : F0 (q.map PN.nd) sr) :
    AdK F0 F1 F2 w L s t v r rb cb VC VA ns f 1 ((wr.setCell ⟨cb, 1, none⟩ (.slice (some ⟨g, 0, none⟩) q.length D)).setCell ⟨cb, 2, none⟩ (.int .i64 sr)) := by
  obtain ⟨g0, D0, g1, D1, g2, D2, q0, q1, q2, s0, s1, s2, hL, h0, h1, h2⟩ := h
  refine ⟨g, D, g1, D1, g2, D2, q, q1, q2, sr, s1, s2, ?_, fun _ => (TreeF.set (⟨⟨base, hbase, hT⟩, hF⟩ : TreeF cb F0 wr g D q sr) (Nat.le_refl _) _ _).set (Nat.le_refl _) _ _, fun h => by omega, fun h => by omega⟩
  have := (hL.set 1 (.slice (some ⟨g, 0, none⟩) q.length D)).set 2 (.int .i64 sr)
  simpa [csK, tw3, rw'] using this

theorem AdK.step1 {F0 F1 F2 : List Nd → Int → Prop} {w wr : World} {L : List Value} {s : ByteArray} {t v : Int} {r : Ru} {rb cb VC : Nat} {VA : Option Addr} {ns : List ByteArray} {f : Int} (h : AdK F0 F1 F2 w L s t v r rb cb VC VA ns f 1 wr) {base g D : Nat} {q : List PN} {sr : Int} (hbase : cb < base) (hT : NT base wr g D q) (hF : F1 (q.map PN.nd) sr) :
    AdK F0 F1 F2 w L s t v r rb cb VC VA ns f 2 ((wr.setCell ⟨cb, 3, none⟩ (.slice (some ⟨g, 0, none⟩) q.length D)).setCell ⟨cb, 4, none⟩ (.int .i64 sr)) := by
  obtain ⟨g0, D0, g1, D1, g2, D2, q0, q1, q2, s0, s1, s2, hL, h0, h1, h2⟩ := h
  refine ⟨g0, D0, g, D, g2, D2, q0, q, q2, s0, sr, s2, ?_, fun _ => ((h0 (by omega)).set (Nat.le_refl _) _ _).set (Nat.le_refl _) _ _, fun _ => (TreeF.set (⟨⟨base, hbase, hT⟩, hF⟩ : TreeF cb F1 wr g D q sr) (Nat.le_refl _) _ _).set (Nat.le_refl _) _ _, fun h => by omega⟩
  have := (hL.set 3 (.slice (some ⟨g, 0, none⟩) q.length D)).set 4 (.int .i64 sr)
  simpa [csK, tw3, rw'] using this

theorem AdK.step2 {F0 F1 F2 : List Nd → Int → Prop} {w wr : World} {L : List Value} {s : ByteArray} {t v : Int} {r : Ru} {rb cb VC : Nat} {VA : Option Addr} {ns : List ByteArray} {f : Int} (h : AdK F0 F1 F2 w L s t v r rb cb VC VA ns f 2 wr) {base g D : Nat} {q : List PN} {sr : Int} (hbase : cb < base) (hT : NT base wr g D q) (hF : F2 (q.map PN.nd) sr) :
    AdK F0 F1 F2 w L s t v r rb cb VC VA ns f 3 ((wr.setCell ⟨cb, 5, none⟩ (.slice (some ⟨g, 0, none⟩) q.length D)).setCell ⟨cb, 6, none⟩ (.int .i64 sr)) := by
  obtain ⟨g0, D0, g1, D1, g2, D2, q0, q1, q2, s0, s1, s2, hL, h0, h1, h2⟩ := h
  refine ⟨g0, D0, g1, D1, g, D, q0, q1, q, s0, s1, sr, ?_, fun _ => ((h0 (by omega)).set (Nat.le_refl _) _ _).set (Nat.le_refl _) _ _, fun _ => ((h1 (by omega)).set (Nat.le_refl _) _ _).set (Nat.le_refl _) _ _, fun _ => (TreeF.set (⟨⟨base, hbase, hT⟩, hF⟩ : TreeF cb F2 wr g D q sr) (Nat.le_refl _) _ _).set (Nat.le_refl _) _ _⟩
  have := (hL.set 5 (.slice (some ⟨g, 0, none⟩) q.length D)).set 6 (.int .i64 sr)
  simpa [csK, tw3, rw'] using this

theorem AdK.next {F0 F1 F2 : List Nd → Int → Prop} {w wr w' : World} {L : List Value} {s : ByteArray} {t v : Int} {r : Ru} {rb cb VC k : Nat} {VA : Option Addr} {ns : List ByteArray} {f : Int} (h : AdK F0 F1 F2 w L s t v r rb cb VC VA ns f k wr) (hb : Below wr.heap.size wr w') : AdK F0 F1 F2 w L s t v r rb cb VC VA ns f k w' := by
  obtain ⟨g0, D0, g1, D1, g2, D2, q0, q1, q2, s0, s1, s2, hL, h0, h1, h2⟩ := h
  exact ⟨g0, D0, g1, D1, g2, D2, q0, q1, q2, s0, s1, s2, hL.next hb, fun h => (h0 h).below hb, fun h => (h1 h).below hb, fun h => (h2 h).below hb⟩

theorem AdK.ldl {F0 F1 F2 : List Nd → Int → Prop} {w wr : World} {L : List Value} {s : ByteArray} {t v : Int} {r : Ru} {rb cb VC k : Nat} {VA : Option Addr} {ns : List ByteArray} {f : Int} (h : AdK F0 F1 F2 w L s t v r rb cb VC VA ns f k wr) : ∃ cs, AdL w wr L s t v r rb cb VA VC ns cs := by
  obtain ⟨g0, D0, g1, D1, g2, D2, q0, q1, q2, s0, s1, s2, hL, _⟩ := h
  exact ⟨_, hL⟩

theorem AdK.cell {F0 F1 F2 : List Nd → Int → Prop} {w wr : World} {L : List Value} {s : ByteArray} {t v : Int} {r : Ru} {rb cb VC k : Nat} {VA : Option Addr} {ns : List ByteArray} {f : Int} (h : AdK F0 F1 F2 w L s t v r rb cb VC VA ns f k wr) {j : Nat} (hj : j < 8) : ∃ x, wr.cell? ⟨cb, j, none⟩ = some x := by
  obtain ⟨g0, D0, g1, D1, g2, D2, q0, q1, q2, s0, s1, s2, hL, _⟩ := h
  exact ⟨_, (hL.bc.cell j).trans (List.getElem?_eq_getElem (show j < (csK k VA ns.length VC g0 q0.length D0 s0 g1 q1.length D1 s1 g2 q2.length D2 s2 f).length from hj))⟩

/-- All three: the answer laid into its box. -/
theorem AdK.done {F0 F1 F2 : List Nd → Int → Prop} {w wr : World} {L : List Value} {s : ByteArray} {t v : Int} {r : Ru} {rb cb VC : Nat} {VA : Option Addr} {ns : List ByteArray} {f : Int} (h : AdK F0 F1 F2 w L s t v r rb cb VC VA ns f 3 wr) :
    ∃ (g0 D0 g1 D1 g2 D2 : Nat) (q0 q1 q2 : List PN) (s0 s1 s2 : Int), RowL wr cb 28 [.slice VA ns.length VC, .slice (some ⟨g0, 0, none⟩) q0.length D0, .int .i64 s0, .slice (some ⟨g1, 0, none⟩) q1.length D1, .int .i64 s1, .slice (some ⟨g2, 0, none⟩) q2.length D2, .int .i64 s2, .int .i64 f] ∧
      ∀ a0 a1 a2 a3 a4 a5 a6 a7, Below w.heap.size w (set8 wr (w.heap.size + 1 + 1) a0 a1 a2 a3 a4 a5 a6 a7) ∧ (set8 wr (w.heap.size + 1 + 1) a0 a1 a2 a3 a4 a5 a6 a7).ownsRow w.heap.size 9 1 (.slice VA ns.length VC) ns.length (strs ns) ∧ NT w.heap.size (set8 wr (w.heap.size + 1 + 1) a0 a1 a2 a3 a4 a5 a6 a7) g0 D0 q0 ∧ NT w.heap.size (set8 wr (w.heap.size + 1 + 1) a0 a1 a2 a3 a4 a5 a6 a7) g1 D1 q1 ∧ NT w.heap.size (set8 wr (w.heap.size + 1 + 1) a0 a1 a2 a3 a4 a5 a6 a7) g2 D2 q2 ∧ F0 (q0.map PN.nd) s0 ∧ F1 (q1.map PN.nd) s1 ∧ F2 (q2.map PN.nd) s2 := by
  obtain ⟨g0, D0, g1, D1, g2, D2, q0, q1, q2, s0, s1, s2, hL, h0, h1, h2⟩ := h
  obtain ⟨⟨b0, hb0, n0⟩, f0⟩ := h0 (by omega)
  obtain ⟨⟨b1, hb1, n1⟩, f1⟩ := h1 (by omega)
  obtain ⟨⟨b2, hb2, n2⟩, f2⟩ := h2 (by omega)
  have hl := hL.lo
  refine ⟨g0, D0, g1, D1, g2, D2, q0, q1, q2, s0, s1, s2, by simpa [csK, tw3, rw'] using hL.bc, fun a0 a1 a2 a3 a4 a5 a6 a7 => ⟨set8_below hL.st.below (by omega) _ _ _ _ _ _ _ _, ?_, ?_, ?_, ?_, f0, f1, f2⟩⟩
  · exact own_mono (own_of_block hL.own (fun k hk => set8_far _ _ _ _ _ _ _ _ _ _ k (by have := (hL.own.lt k hk).1; omega))) (by omega)
  · exact (n0.of_blocks fun k hk => set8_far _ _ _ _ _ _ _ _ _ _ k (by have := (n0.lt k hk).1; omega)).low (by omega)
  · exact (n1.of_blocks fun k hk => set8_far _ _ _ _ _ _ _ _ _ _ k (by have := (n1.lt k hk).1; omega)).low (by omega)
  · exact (n2.of_blocks fun k hk => set8_far _ _ _ _ _ _ _ _ _ _ k (by have := (n2.lt k hk).1; omega)).low (by omega)

/-- The box of the base that is made: laid behind the names. -/
theorem ad_late {w wd w3 : World} {L : List Value} {s : ByteArray} {t v : Int} {r : Ru} {rb VC : Nat} {VA : Option Addr} {ns : List ByteArray} {f : Value} (hD : AdS w wd L s t v) (hR : RowL wd rb 45 (ruV r)) (hl : w.heap.size + 3 ≤ rb) (hb : Below wd.heap.size wd w3) (hov : w3.ownsRow wd.heap.size 9 1 (.slice VA ns.length VC) ns.length (strs ns)) :
    ∃ cb VA' VC', (Value.pointer (some ⟨w3.heap.size, 0, none⟩)) = .pointer (some ⟨cb, 0, none⟩) ∧ AdL w (w3.alloc (.cells #[.slice VA ns.length VC, .slice none 0 0, .int .i64 0, .slice none 0 0, .int .i64 0, .slice none 0 0, .int .i64 0, f] 28)) L s t v r rb cb VA' VC' ns [.slice VA' ns.length VC', .slice none 0 0, .int .i64 0, .slice none 0 0, .int .i64 0, .slice none 0 0, .int .i64 0, f] := by
  have hlt := hR.lt
  have hz := hb.size
  have ha : ∀ o : Obj, Below w3.heap.size w3 (w3.alloc o) := fun o => (Below.refl _ _).alloc (Nat.le_refl _) o
  refine ⟨w3.heap.size, VA, VC, rfl, (hD.next hb).next (ha _), (hR.below hb hlt).below (ha _) (by omega), rowL_alloc w3 [.slice VA ns.length VC, .slice none 0 0, .int .i64 0, .slice none 0 0, .int .i64 0, .slice none 0 0, .int .i64 0, f] _, own_mono (own_next hov (ha _)) (by omega), fun hk => by have := (hov.lt _ hk).2; omega, by omega⟩

/-- Ahead of them. -/
theorem ad_early {w wd w3 : World} {L : List Value} {s : ByteArray} {t v : Int} {r : Ru} {rb VC : Nat} {VA : Option Addr} {ns : List ByteArray} {f : Value} (hD : AdS w wd L s t v) (hR : RowL wd rb 45 (ruV r)) (hl : w.heap.size + 3 ≤ rb) (hb : Below (wd.drew.alloc (.cells zb8.toArray 28)).heap.size (wd.drew.alloc (.cells zb8.toArray 28)) w3) (hov : w3.ownsRow (wd.drew.alloc (.cells zb8.toArray 28)).heap.size 9 1 (.slice VA ns.length VC) ns.length (strs ns)) :
    ∃ cb VA' VC', (Value.pointer (some ⟨wd.heap.size, 0, none⟩)) = .pointer (some ⟨cb, 0, none⟩) ∧ AdL w (set8 w3 wd.heap.size (.slice VA ns.length VC) (.slice none 0 0) (.int .i64 0) (.slice none 0 0) (.int .i64 0) (.slice none 0 0) (.int .i64 0) f) L s t v r rb cb VA' VC' ns [.slice VA' ns.length VC', .slice none 0 0, .int .i64 0, .slice none 0 0, .int .i64 0, .slice none 0 0, .int .i64 0, f] := by
  have hlt := hR.lt
  have hbw : Below wd.heap.size wd w3 := (((Below.refl wd.heap.size wd).drew).alloc (Nat.le_refl _) _).trans (hb.mono (by simp))
  have r0 : RowL w3 wd.heap.size 28 zb8 := RowL.below (rowL_alloc wd.drew zb8 _) hb (by simp)
  have ho : w3.ownsRow (wd.heap.size + 1) 9 1 (.slice VA ns.length VC) ns.length (strs ns) := by simpa using hov
  have hne : ∀ k, (Value.slice VA ns.length VC).ownBlock = some k → k ≠ wd.heap.size := fun k hk => by have := (ho.lt k hk).1; omega
  have hD3 := hD.next hbw
  have h1 := hD.bb.lt
  have h2 := hD.bp.lt
  have h3 := hD.bo.lt
  refine ⟨wd.heap.size, VA, VC, rfl, ⟨set8_below hD3.below (by omega) _ _ _ _ _ _ _ _, hD3.bb.of_block (set8_far _ _ _ _ _ _ _ _ _ _ _ (by omega)), hD3.bp.of_block (set8_far _ _ _ _ _ _ _ _ _ _ _ (by omega)), hD3.bo.of_block (set8_far _ _ _ _ _ _ _ _ _ _ _ (by omega))⟩, (hR.below hbw hlt).of_block (set8_far _ _ _ _ _ _ _ _ _ _ _ (by omega)), ((((((((r0.set 0 _).set 1 _).set 2 _).set 3 _).set 4 _).set 5 _).set 6 _).set 7 _), own_mono (own_of_block ho fun k hk => set8_far _ _ _ _ _ _ _ _ _ _ k (hne k hk)) (by omega), fun hk => hne _ hk rfl, by omega⟩


end Go.Proofs.YtlojfgdpmaigmaeGreatDoor

/- A tree knows these entries, key by key: in plain terms. -/
namespace Go.Proofs.YtlojfgdpmaigmaeGreatDoor
open Go.RowKit Plain

/-- A tree that may be, and what it knows. -/
structure Knows (ns : List Nd) (root : Int) (l : List En) : Prop where
  ok : treeC ns root = 0
  all : allL (ns.flatMap cont) = some l
  inc : l.Pairwise fun a b => a.key < b.key
  good : ∀ y ∈ l, Good y.ru

theorem fold_inc : ∀ (xs l l' : List En), (l.Pairwise fun a b => a.key < b.key) → xs.foldl insO (some l) = some l' → l'.Pairwise fun a b => a.key < b.key
  | [], l, l', hl, h => by
    cases h
    exact hl
  | x :: xs, l, l', hl, h => by
    rw [List.foldl_cons] at h
    cases hi : insO (some l) x with
    | none => rw [hi, fold_none] at h; cases h
    | some q =>
      rw [hi] at h
      exact fold_inc xs q l' (ins_inc hl (show ins l x = some q from hi)).1 h

theorem Knows.mk' {ns : List Nd} {root : Int} {l : List En} (h : treeC ns root = 0) (ha : allL (ns.flatMap cont) = some l) : Knows ns root l :=
  ⟨h, ha, fold_inc _ [] l (by simp) ha, (allL_facts (fun y hy => (tree_in h y hy).2) ha).1⟩

end Go.Proofs.YtlojfgdpmaigmaeGreatDoor

/- The numbers of a tree that may be are numbers. -/
namespace Go.Proofs.YtlojfgdpmaigmaeGreatDoor
open Go.RowKit Plain

def NB (N : Nat) (x : Nd) : Prop := (∀ z ∈ x.keys, 0 ≤ z ∧ z ≤ 1099511627776) ∧ ∀ z ∈ x.kids, 0 ≤ z ∧ z < N

theorem Sub_self {T m : Nat} {ns : List Nd} : ∀ {h : Nat} {p lo hi : Int} {P : List Int}, Sub T m ns h p lo hi P → 0 ≤ p ∧ p < ns.length
  | 0, _, _, _, _, hs => ⟨hs.1.1, hs.1.2.1⟩
  | _ + 1, _, _, _, _, hs => ⟨hs.1.1, hs.1.2.1⟩

theorem SubK_kids {T m : Nat} {ns : List Nd} {h : Nat} {hi : Int} : ∀ (kids keys : List Int) (lo : Int) (Q : List Int), keys.length + 1 = kids.length → SubK (Sub T m ns h) lo (ups kids keys hi) Q → ∀ d ∈ kids, 0 ≤ d ∧ d < ns.length
  | [], _, _, _, hk, _ => by simp at hk
  | [d], keys, lo, Q, hk, hQ => by
    obtain rfl : keys = [] := List.eq_nil_of_length_eq_zero (by simpa using hk)
    obtain ⟨Q1, Q2, rfl, h1, h2⟩ := hQ
    intro z hz
    obtain rfl : z = d := by simpa using hz
    exact Sub_self h1
  | d :: e :: ds, [], _, _, hk, _ => by simp at hk
  | d :: e :: ds, k :: ks, lo, Q, hk, hQ => by
    obtain ⟨Q1, Q2, rfl, h1, h2⟩ := hQ
    intro z hz
    rcases List.mem_cons.1 hz with rfl | hz
    · exact Sub_self h1
    · exact SubK_kids (e :: ds) ks k Q2 (by simpa using hk) h2 z hz

theorem Sub_nb {T m : Nat} {ns : List Nd} : ∀ (h : Nat) (p lo hi : Int) (P : List Int), 0 ≤ lo → hi ≤ 1099511627776 → Sub T m ns h p lo hi P → ∀ n ∈ P, NB ns.length (nth ns n)
  | 0, p, lo, hi, P, _, _, hs, n, hn => by
    obtain ⟨_, rfl, hl⟩ := hs
    obtain rfl : n = p := by simpa using hn
    unfold NB
    rw [hl.keys, hl.kids]
    exact ⟨by simp, by simp⟩
  | h + 1, p, lo, hi, P, hlo, hhi, hs, n, hn => by
    obtain ⟨_, Q, rfl, hin⟩ := hs
    rcases List.mem_cons.1 hn with rfl | hn
    · have hr := keys_rise (Sub_lt h) hin.keys hin.kids
      exact ⟨fun z hz => by have := hr.2.1 z hz; omega, SubK_kids _ _ _ _ hin.keys hin.kids⟩
    · have ih := Sub_nb (T := T) (m := m) (ns := ns) h
      have : ∀ (kids keys : List Int) (lo' : Int) (Q : List Int), 0 ≤ lo' → keys.length + 1 = kids.length → SubK (Sub T m ns h) lo' (ups kids keys hi) Q → ∀ n ∈ Q, NB ns.length (nth ns n) := by
        intro kids
        induction kids with
        | nil => intro keys lo' Q _ hk; simp at hk
        | cons d ds ihd =>
          intro keys lo' Q h0 hk hQ n hn
          have hr := keys_rise (Sub_lt h) hk hQ
          cases ds with
          | nil =>
            obtain rfl : keys = [] := List.eq_nil_of_length_eq_zero (by simpa using hk)
            obtain ⟨Q1, Q2, rfl, h1, h2⟩ := hQ
            cases h2
            rw [List.append_nil] at hn
            exact ih _ _ _ _ h0 hhi h1 n hn
          | cons e ds =>
            cases keys with
            | nil => simp at hk
            | cons k ks =>
              obtain ⟨Q1, Q2, rfl, h1, h2⟩ := hQ
              have hk1 := hr.2.1 k List.mem_cons_self
              rcases List.mem_append.1 hn with hn | hn
              · exact ih _ _ _ _ h0 (by omega) h1 n hn
              · exact ihd ks k Q2 (by omega) (by simpa using hk) h2 n hn
      exact this _ _ _ _ hlo hin.keys hin.kids n hn

theorem tree_nb {ns : List Nd} {root : Int} (h : treeC ns root = 0) : ∀ x ∈ ns, NB ns.length x := by
  rcases treeC_sub h with ⟨ht, P, hs, hp⟩ | ⟨he, rfl⟩
  · intro x hx
    obtain ⟨i, hi, rfl⟩ := List.getElem_of_mem hx
    have hm : (i : Int) ∈ P := hp.mem_iff.2 (placesF_mem.2 ⟨by omega, by omega⟩)
    have := Sub_nb ht _ _ _ _ (Int.le_refl _) (Int.le_refl _) hs (i : Int) hm
    have e : nth ns (i : Int) = ns[i] := by simp [nth, hi]
    rwa [e] at this
  · rw [he]
    intro x hx
    obtain rfl : x = leafOf [] := by simpa using hx
    exact ⟨by simp [leafOf], by simp [leafOf]⟩

theorem en_wf {y : En} (hk : 0 ≤ y.key ∧ y.key < 1099511627776) (hg : Good y.ru) : y.wf := by
  obtain ⟨b1, b2, b3, b4, b5, b6⟩ := check_bounds hg.1
  have e : y.ru = ⟨y.c, y.s, y.lo, y.hi, y.t, y.l⟩ := rfl
  have g := good_iff.1 hg
  simp only [e] at b1 b2 b3 b4 b5 b6 g
  exact ⟨WalkArith.wf_i64 (by omega), WalkArith.wf_i64 (by omega), WalkArith.wf_i64 (by omega), WalkArith.wf_i64 (by omega), WalkArith.wf_i64 (by omega), WalkArith.wf_i64 (by omega), WalkArith.wf_i64 (by omega)⟩

theorem treeC_wf {qs : List PN} {root : Int} (h : treeC (qs.map PN.nd) root = 0) : ∀ q ∈ qs, q.wf := by
  intro q hq
  have hm : q.nd ∈ qs.map PN.nd := List.mem_map.2 ⟨q, hq, rfl⟩
  obtain ⟨n1, n2⟩ := tree_nb h _ hm
  have hin : ∀ y ∈ cont q.nd, y.wf := fun y hy => by
    have := tree_in h y (List.mem_flatMap.2 ⟨_, hm, hy⟩)
    exact en_wf this.1 this.2
  have hl := (tree_each h).1
  refine ⟨fun y hy => hin y (List.mem_append_right _ hy), fun z hz => ?_, fun z hz => ?_, fun y hy => hin y (List.mem_append_left _ hy)⟩
  · have := n1 z hz
    exact WalkArith.wf_i64 (by omega)
  · have := n2 z hz
    exact WalkArith.wf_i64 (by omega)

end Go.Proofs.YtlojfgdpmaigmaeGreatDoor

/- A tree of few keys has few nodes: in plain terms. -/
namespace Go.Proofs.YtlojfgdpmaigmaeGreatDoor
open Go.RowKit Plain

/-- Keys of leaves, in their order: from lo on, below hi; each stands in a node at one of the places. -/
structure LeafK (ns : List Nd) (P : List Int) (lo hi : Int) (E : List Int) : Prop where
  inc : E.Pairwise (· < ·)
  bd : ∀ e ∈ E, lo ≤ e ∧ e < hi
  mem : ∀ e ∈ E, ∃ n ∈ P, ∃ y ∈ (nth ns n).ents, y.key = e

theorem leafK_app {ns : List Nd} {P Q E F : List Int} {lo u hi : Int} (h : LeafK ns P lo u E) (k : LeafK ns Q u hi F) (h1 : lo ≤ u) (h2 : u ≤ hi) : LeafK ns (P ++ Q) lo hi (E ++ F) := by
  refine ⟨List.pairwise_append.2 ⟨h.inc, k.inc, fun a ha b hb => ?_⟩, fun e he => ?_, fun e he => ?_⟩
  · have := h.bd a ha
    have := k.bd b hb
    omega
  · rcases List.mem_append.1 he with he | he
    · have := h.bd e he
      omega
    · have := k.bd e he
      omega
  · rcases List.mem_append.1 he with he | he
    · obtain ⟨n, hn, y, hy, q⟩ := h.mem e he
      exact ⟨n, List.mem_append_left _ hn, y, hy, q⟩
    · obtain ⟨n, hn, y, hy, q⟩ := k.mem e he
      exact ⟨n, List.mem_append_right _ hn, y, hy, q⟩

theorem SubK_leaves {ns : List Nd} {g : Rel} (hlt : ∀ d lo hi Q, g d lo hi Q → lo < hi) (hg : ∀ d lo hi Q, g d lo hi Q → ∃ E, LeafK ns Q lo hi E ∧ Q.length + 1 ≤ 2 * E.length) :
    ∀ (r : List (Int × Int)) (lo : Int) (Q : List Int), SubK g lo r Q → ∃ E, LeafK ns Q lo (endU lo r) E ∧ Q.length + r.length ≤ 2 * E.length
  | [], lo, Q, h => by
    cases h
    exact ⟨[], ⟨by simp, by simp, by simp⟩, by simp⟩
  | (d, u) :: r, lo, Q, h => by
    obtain ⟨Q1, Q2, rfl, h1, h2⟩ := h
    obtain ⟨E1, k1, n1⟩ := hg _ _ _ _ h1
    obtain ⟨E2, k2, n2⟩ := SubK_leaves hlt hg r u Q2 h2
    have l1 := hlt _ _ _ _ h1
    have l2 := (SubK_lt hlt h2).1
    refine ⟨E1 ++ E2, leafK_app k1 k2 (by omega) l2, ?_⟩
    simp only [List.length_append, List.length_cons]
    omega

theorem ups_length {kids keys : List Int} {hi : Int} (h : keys.length + 1 = kids.length) : (ups kids keys hi).length = kids.length := by
  unfold ups
  rw [List.length_zip, List.length_append]
  simp
  omega

theorem endU_upsL : ∀ (kids keys : List Int) (lo hi : Int), keys.length + 1 = kids.length → endU lo (ups kids keys hi) = hi
  | [], _, _, _, h => by simp at h
  | [d], [], lo, hi, _ => rfl
  | d :: e :: kids, [], lo, hi, h => by simp at h
  | [d], k :: keys, lo, hi, h => by simp at h
  | d :: e :: kids, k :: keys, lo, hi, h => endU_upsL (e :: kids) keys k hi (by simpa using h)

theorem Sub_leaves {T m : Nat} {ns : List Nd} : ∀ (h : Nat) (n lo hi : Int) (P : List Int), Sub T m ns h n lo hi P → ∃ E, LeafK ns P lo hi E ∧ P.length + 1 ≤ 2 * E.length
  | 0, n, lo, hi, P, hs => by
    obtain ⟨_, rfl, hl⟩ := hs
    obtain ⟨b1, b2⟩ := entsB_lt hl.ents
    refine ⟨(nth ns n).ents.map En.key, ⟨by rw [List.pairwise_map]; exact b2, fun e he => ?_, fun e he => ?_⟩, ?_⟩
    · obtain ⟨y, hy, rfl⟩ := List.mem_map.1 he
      exact b1 y hy
    · obtain ⟨y, hy, rfl⟩ := List.mem_map.1 he
      exact ⟨n, by simp, y, hy, rfl⟩
    · have : (nth ns n).ents.length ≠ 0 := fun e => hl.ne (List.eq_nil_of_length_eq_zero e)
      simp only [List.length_cons, List.length_nil, List.length_map]
      omega
  | h + 1, n, lo, hi, P, hs => by
    obtain ⟨_, Q, rfl, hi'⟩ := hs
    obtain ⟨E, k, q⟩ := SubK_leaves (fun d lo hi Q hq => Sub_lt h d lo hi Q hq) (fun d lo hi Q hq => Sub_leaves h d lo hi Q hq) _ _ _ hi'.kids
    rw [endU_upsL _ _ _ _ hi'.keys] at k
    rw [ups_length hi'.keys] at q
    refine ⟨E, ⟨k.inc, k.bd, fun e he => ?_⟩, ?_⟩
    · obtain ⟨p, hp, y, hy, q⟩ := k.mem e he
      exact ⟨p, List.mem_cons_of_mem _ hp, y, hy, q⟩
    · have := hi'.two
      simp only [List.length_cons]
      omega

theorem cntK_zero {k : Int} : ∀ {l : List En}, (∀ z ∈ l, z.key ≠ k) → cntK k l = 0
  | [], _ => rfl
  | y :: r, h => by
    have h1 := h y List.mem_cons_self
    have h2 := cntK_zero (l := r) fun z hz => h z (List.mem_cons_of_mem _ hz)
    simp only [cntK, if_neg h1, h2]
    omega

theorem cntK_mem {y : En} : ∀ {l : List En}, Pos l → y ∈ l → 1 ≤ cntK y.key l
  | [], _, h => by simp at h
  | z :: r, hp, h => by
    have hr : Pos r := fun x hx => hp x (List.mem_cons_of_mem _ hx)
    have h0 := cntK_nn (k := y.key) hr
    have hz := hp z List.mem_cons_self
    rcases List.mem_cons.1 h with rfl | h
    · simp only [cntK, if_true]
      omega
    · have := cntK_mem hr h
      simp only [cntK]
      split <;> omega

/-- Nodes that stand as a tree, each of whose keys is among these: there are few. -/
theorem few_of {ns : List Nd} {h : Nat} {root : Int} {P : List Int} {l : List En} (hs : Sub 6 4 ns h root 0 1099511627776 P) (hp : P.Perm (placesF 0 ns.length)) (hk : ∀ y ∈ ns.flatMap cont, 1 ≤ cntK y.key l) : ns.length + 1 ≤ 2 * l.length := by
  obtain ⟨E, k, q⟩ := Sub_leaves h _ _ _ _ hs
  have hlen : P.length = ns.length := by rw [hp.length_eq, placesF_length]
  have hle : E.length ≤ (l.map En.key).length := by
    refine nodup_le E _ (k.inc.imp fun h => by omega) fun e he => ?_
    obtain ⟨n, hn, y, hy, rfl⟩ := k.mem e he
    have hr := Sub_range h _ _ _ _ hs n hn
    have hm : nth ns n ∈ ns := by
      unfold nth
      rw [List.getD_eq_getElem?_getD, List.getElem?_eq_getElem (by omega)]
      exact List.getElem_mem _
    have h1 := hk y (List.mem_flatMap.2 ⟨_, hm, List.mem_append_right _ hy⟩)
    apply Classical.byContradiction
    intro hno
    rw [cntK_zero (fun z hz e => hno (List.mem_map.2 ⟨z, hz, e⟩))] at h1
    omega
  rw [List.length_map] at hle
  omega

/-- And so has what a Put makes of it. -/
theorem Knows.put_few {ns ns2 : List Nd} {root root2 key : Int} {r : Ru} {l ys : List En} (h : Knows ns root l) (hok : PutOk ns ns2 root2 (mkE key r)) (hi : ins l (mkE key r) = some ys) : ns2.length + 1 ≤ 2 * ys.length := by
  obtain ⟨ht, P, hs, hp⟩ := hok.sub
  have hgs : ∀ y ∈ ns.flatMap cont, Good y.ru := fun y hy => (tree_in h.ok y hy).2
  have hcnt := (allL_facts hgs h.all).2.2
  refine few_of hs hp fun y hy => ?_
  have h1 := cntK_mem hok.eqv.posm hy
  rw [← hok.eqv.cnt] at h1
  rw [ins_cnt hi, hcnt]
  simp only [cntK] at h1
  omega

end Go.Proofs.YtlojfgdpmaigmaeGreatDoor

/- A total: what all entries of a series come to, whichever buckets are asked. In plain terms. -/
namespace Go.Proofs.YtlojfgdpmaigmaeGreatDoor
open Go.RowKit Plain

/-- The key left out. -/
def z0 (x : En) : En := { x with key := 0 }
def tot (l : List En) : Ru × Int := l.foldl stepK (zro, 0)

theorem tot_z0 (l : List En) (s : Ru × Int) : (l.map z0).foldl stepK s = l.foldl stepK s := by
  induction l generalizing s with
  | nil => rfl
  | cons x r ih => exact ih _

theorem tot_ans {l : List En} (hg : ∀ y ∈ l, Good y.ru) : tot l = ansO (allL (l.map z0)) := by
  have h := relO_fold (key := 0) (l.map z0) (some []) (zro, 0) (.inl ⟨rfl, rfl⟩) (fun x hx => by
    obtain ⟨y, hy, rfl⟩ := List.mem_map.1 hx
    exact ⟨rfl, hg y hy⟩)
  rw [tot_z0] at h
  exact (relO_ans h).symm

theorem tot_eq {l m : List En} (hl : ∀ y ∈ l, Good y.ru) (hm : ∀ y ∈ m, Good y.ru) (h : Eqv (l.map z0) (m.map z0)) : tot l = tot m := by
  rw [tot_ans hl, tot_ans hm, h.eq]

theorem pos_good {l : List En} (h : ∀ y ∈ l, Good y.ru) : Pos l := fun y hy => (good_iff.1 (h y hy)).1.1
theorem pos_z0 {l : List En} (h : Pos l) : Pos (l.map z0) := fun y hy => by
  obtain ⟨x, hx, rfl⟩ := List.mem_map.1 hy
  exact h x hx

theorem z_ins {x : En} (hx : Good x.ru) : ∀ {o o' : List En}, (∀ y ∈ o, Good y.ru) → ins o x = some o' → Eqv ((o ++ [x]).map z0) (o'.map z0)
  | [], o', _, h => by
    cases h
    exact Eqv.refl (pos_z0 (pos_good (by simpa using hx)))
  | y :: r, o', hg, h => by
    have hy := hg y List.mem_cons_self
    have hr : ∀ z ∈ r, Good z.ru := fun z hz => hg z (List.mem_cons_of_mem _ hz)
    have hall : ∀ z ∈ (y :: r) ++ [x], Good z.ru := fun z hz => by
      rcases List.mem_append.1 hz with hz | hz
      · exact hg z hz
      · obtain rfl : z = x := by simpa using hz
        exact hx
    rcases Int.lt_trichotomy x.key y.key with hk | hk | hk
    · rw [ins_lt hk] at h
      cases h
      exact Eqv.of_perm ((List.perm_append_comm (l₁ := y :: r) (l₂ := [x])).map z0) (pos_z0 (pos_good hall))
    · rw [ins_eq hk.symm] at h
      split at h
      · rename_i hc
        cases h
        have hj := Eqv.join (x := z0 x) (y := z0 y) rfl hx hy hc
        have p1 : (((y :: r) ++ [x]).map z0).Perm ([z0 y, z0 x] ++ r.map z0) := by
          rw [List.map_append, List.map_cons]
          exact (List.perm_append_comm (l₁ := r.map z0) (l₂ := [z0 x])).cons (z0 y)
        have e1 : ((mkE x.key (jn y.ru x.ru) :: r).map z0) = [mkE (z0 x).key (jn (z0 y).ru (z0 x).ru)] ++ r.map z0 := rfl
        rw [e1]
        exact (Eqv.of_perm p1 (pos_z0 (pos_good hall))).trans (hj.app (pos_z0 (pos_good hr)))
      · cases h
    · rw [ins_gt hk] at h
      cases hi : ins r x with
      | none => rw [hi] at h; cases h
      | some r' =>
        rw [hi] at h
        cases h
        have ih := z_ins hx hr hi
        have := ih.app_left (r := [z0 y]) (fun z hz => by
          obtain rfl : z = z0 y := by simpa using hz
          exact (good_iff.1 hy).1.1)
        simpa using this

theorem z_fold : ∀ (xs o l : List En), (∀ y ∈ xs, Good y.ru) → (∀ y ∈ o, Good y.ru) → xs.foldl insO (some o) = some l → Eqv ((o ++ xs).map z0) (l.map z0)
  | [], o, l, _, ho, h => by
    cases h
    rw [List.append_nil]
    exact Eqv.refl (pos_z0 (pos_good ho))
  | x :: xs, o, l, hx, ho, h => by
    rw [List.foldl_cons] at h
    cases hi : insO (some o) x with
    | none => rw [hi, fold_none] at h; cases h
    | some o' =>
      rw [hi] at h
      have hi' : ins o x = some o' := hi
      have hx0 := hx x List.mem_cons_self
      have hxs : ∀ y ∈ xs, Good y.ru := fun y hy => hx y (List.mem_cons_of_mem _ hy)
      have ih := z_fold xs o' l hxs (ins_good hx0 ho hi').1 h
      have s := (z_ins hx0 ho hi').app (pos_z0 (pos_good hxs))
      rw [← List.map_append, ← List.map_append, List.append_assoc] at s
      exact s.trans ih

theorem z_all {xs l : List En} (hx : ∀ y ∈ xs, Good y.ru) (h : allL xs = some l) : Eqv (xs.map z0) (l.map z0) := by
  have := z_fold xs [] l hx (by simp) h
  simpa using this

def keyB (p a b : Int) (k : Int) : Bool := decide (k / 1048576 = p) && (decide (a ≤ k % 1048576) && decide (k % 1048576 ≤ b))

/-- Of a series, from a time on, up to another one. -/
def selK (p a b : Int) (x : En) : Bool := keyB p a b x.key

theorem bk_sel {p a b size : Int} (hs : size = 1 ∨ size = 60 ∨ size = 3600) (ha : a % size = 0) (hb : (b + 1) % size = 0) {x : En} : keyB p a b (bk size x).key = selK p a b x := by
  have e := bk_key x size
  simp only [kp, kt] at e
  rw [e]
  unfold selK keyB
  have h1 : (x.key / 1048576 * 1048576 + (x.key % 1048576 - x.key % 1048576 % size)) / 1048576 = x.key / 1048576 := by
    rcases hs with rfl | rfl | rfl <;> omega
  have h2 : (x.key / 1048576 * 1048576 + (x.key % 1048576 - x.key % 1048576 % size)) % 1048576 = x.key % 1048576 - x.key % 1048576 % size := by
    rcases hs with rfl | rfl | rfl <;> omega
  rw [h1, h2]
  have h3 : (a ≤ x.key % 1048576 - x.key % 1048576 % size ↔ a ≤ x.key % 1048576) := by
    rcases hs with rfl | rfl | rfl <;> omega
  have h4 : (x.key % 1048576 - x.key % 1048576 % size ≤ b ↔ x.key % 1048576 ≤ b) := by
    rcases hs with rfl | rfl | rfl <;> omega
  simp only [h3, h4]

theorem roll_sel {L M : List En} {p a b size : Int} (hs : size = 1 ∨ size = 60 ∨ size = 3600) (hg : ∀ y ∈ L, Good y.ru) (h : rollP size L = some M) (ha : a % size = 0) (hb : (b + 1) % size = 0) :
    Eqv ((L.filter (selK p a b)).map z0) ((M.filter (selK p a b)).map z0) := by
  have h1 := allL_filter (P := keyB p a b) (L.map (bk size)) [] M (by simp) h
  have e1 : ((L.map (bk size)).filter fun z => keyB p a b z.key) = (L.filter (selK p a b)).map (bk size) := by
    rw [List.filter_map]
    congr 1
    exact List.filter_congr fun x _ => bk_sel hs ha hb
  rw [e1] at h1
  have h2 := z_all (xs := (L.filter (selK p a b)).map (bk size)) (l := M.filter fun z => keyB p a b z.key) (fun y hy => by
    obtain ⟨x, hx, rfl⟩ := List.mem_map.1 hy
    exact hg x (List.mem_filter.1 hx).1) h1
  rw [List.map_map] at h2
  exact h2

/-- How the times from a on, up to b, are covered: with buckets of the step's size where they are within, with lesser ones at both ends. -/
def szN : Nat → Int
  | 0 => 1
  | 1 => 60
  | _ => 3600

def begN (t s : Int) : Int := t - t % s

def coverN : Nat → Int → Int → List (Nat × Int × Int)
  | 0, a, b => if b < a then [] else [(0, a, b)]
  | k + 1, a, b => if b < a then [] else
    if begN (b + 1) (szN (k + 1)) ≤ begN (a + szN (k + 1) - 1) (szN (k + 1)) then coverN k a b
    else coverN k a (begN (a + szN (k + 1) - 1) (szN (k + 1)) - 1) ++ (coverN k (begN (b + 1) (szN (k + 1))) b ++ [(k + 1, begN (a + szN (k + 1) - 1) (szN (k + 1)), begN (b + 1) (szN (k + 1)) - 1)])

/-- The entries that are gathered. -/
def gathN (L : Nat → List En) (p : Int) (c : List (Nat × Int × Int)) : List En := c.flatMap fun q => (L q.1).filter (selK p q.2.1 q.2.2)

theorem gath_append (L : Nat → List En) (p : Int) (c d : List (Nat × Int × Int)) : gathN L p (c ++ d) = gathN L p c ++ gathN L p d := List.flatMap_append

theorem split3 {l : List En} {p a b m n : Int} (h1 : a ≤ m) (h2 : m < n) (h3 : n ≤ b + 1) :
    (l.filter (selK p a b)).Perm (l.filter (selK p a (m - 1)) ++ (l.filter (selK p n b) ++ l.filter (selK p m (n - 1)))) := by
  induction l with
  | nil => simp
  | cons x r ih =>
    have hx : ∀ u v : Int, selK p u v x = true ↔ x.key / 1048576 = p ∧ u ≤ x.key % 1048576 ∧ x.key % 1048576 ≤ v := fun u v => by simp [selK, keyB]
    by_cases h : selK p a b x = true
    · obtain ⟨q1, q2, q3⟩ := (hx _ _).1 h
      rw [List.filter_cons_of_pos h]
      by_cases c1 : x.key % 1048576 < m
      · have k1 : selK p a (m - 1) x = true := (hx _ _).2 ⟨q1, q2, by omega⟩
        have k2 : ¬ selK p n b x = true := fun e => by have := (hx _ _).1 e; omega
        have k3 : ¬ selK p m (n - 1) x = true := fun e => by have := (hx _ _).1 e; omega
        rw [List.filter_cons_of_pos k1, List.filter_cons_of_neg k2, List.filter_cons_of_neg k3, List.cons_append]
        exact ih.cons x
      · by_cases c2 : n ≤ x.key % 1048576
        · have k1 : ¬ selK p a (m - 1) x = true := fun e => by have := (hx _ _).1 e; omega
          have k2 : selK p n b x = true := (hx _ _).2 ⟨q1, c2, q3⟩
          have k3 : ¬ selK p m (n - 1) x = true := fun e => by have := (hx _ _).1 e; omega
          rw [List.filter_cons_of_neg k1, List.filter_cons_of_pos k2, List.filter_cons_of_neg k3, List.cons_append]
          exact (ih.cons x).trans List.perm_middle.symm
        · have k1 : ¬ selK p a (m - 1) x = true := fun e => by have := (hx _ _).1 e; omega
          have k2 : ¬ selK p n b x = true := fun e => by have := (hx _ _).1 e; omega
          have k3 : selK p m (n - 1) x = true := (hx _ _).2 ⟨q1, by omega, by omega⟩
          rw [List.filter_cons_of_neg k1, List.filter_cons_of_neg k2, List.filter_cons_of_pos k3]
          refine (ih.cons x).trans ?_
          rw [← List.append_assoc, ← List.append_assoc]
          exact List.perm_middle.symm
    · rw [List.filter_cons_of_neg h]
      have k : ∀ u v : Int, a ≤ u → v ≤ b → ¬ selK p u v x = true := fun u v hu hv e => h ((hx _ _).2 (by have := (hx _ _).1 e; omega))
      rw [List.filter_cons_of_neg (k _ _ (by omega) (by omega)), List.filter_cons_of_neg (k _ _ (by omega) (by omega)), List.filter_cons_of_neg (k _ _ (by omega) (by omega))]
      exact ih

theorem sel_none {l : List En} {p a b : Int} (h : b < a) : l.filter (selK p a b) = [] := by
  rw [List.filter_eq_nil_iff]
  intro x _
  simp [selK, keyB]
  omega

theorem gath_ok {L : Nat → List En} (hg : ∀ k, ∀ y ∈ L k, Good y.ru) (hr : ∀ k, k ≤ 2 → rollP (szN k) (L 0) = some (L k)) (p : Int) :
    ∀ (k : Nat) (a b : Int), k ≤ 2 → 0 ≤ a → Eqv (((L 0).filter (selK p a b)).map z0) ((gathN L p (coverN k a b)).map z0)
  | 0, a, b, _, _ => by
    unfold coverN
    split
    · rename_i h
      rw [sel_none h]
      exact Eqv.refl (by intro y hy; simp at hy)
    · have : gathN L p [(0, a, b)] = (L 0).filter (selK p a b) := by simp [gathN]
      rw [this]
      exact Eqv.refl (pos_z0 (pos_good fun y hy => hg 0 y (List.mem_filter.1 hy).1))
  | k + 1, a, b, hk2, ha => by
    have hsz : szN (k + 1) = 60 ∨ szN (k + 1) = 3600 := by
      rcases (show k = 0 ∨ k = 1 by omega) with rfl | rfl
      · exact .inl rfl
      · exact .inr rfl
    unfold coverN
    split
    · rename_i h
      rw [sel_none h]
      exact Eqv.refl (by intro y hy; simp at hy)
    · split
      · exact gath_ok hg hr p k a b (by omega) ha
      · rename_i h1 h2
        have hr1 := hr (k + 1) hk2
        generalize hs : szN (k + 1) = s at *
        generalize hm : begN (a + s - 1) s = m at *
        generalize hn : begN (b + 1) s = n at *
        have hm' : a ≤ m ∧ m % s = 0 := by
          rw [← hm]; unfold begN
          rcases hsz with rfl | rfl <;> omega
        have hn' : n ≤ b + 1 ∧ n % s = 0 := by
          rw [← hn]; unfold begN
          rcases hsz with rfl | rfl <;> omega
        rw [gath_append, gath_append, List.map_append, List.map_append]
        have i1 := gath_ok hg hr p k a (m - 1) (by omega) ha
        have i2 := gath_ok hg hr p k n b (by omega) (by omega)
        have e3 : gathN L p [(k + 1, m, n - 1)] = (L (k + 1)).filter (selK p m (n - 1)) := by simp [gathN]
        rw [e3]
        have i3 := roll_sel (p := p) (a := m) (b := n - 1) (by rcases hsz with h | h <;> simp [h]) (hg 0) hr1 hm'.2 (by rw [show n - 1 + 1 = n by omega]; exact hn'.2)
        have hP : ∀ (j : Nat) (u v : Int), Pos (((L j).filter (selK p u v)).map z0) := fun j u v => pos_z0 (pos_good fun y hy => hg j y (List.mem_filter.1 hy).1)
        have p0 := (split3 (l := L 0) (p := p) (a := a) (b := b) (m := m) (n := n) hm'.1 (by omega) hn'.1).map z0
        rw [List.map_append, List.map_append] at p0
        refine (Eqv.of_perm p0 (hP 0 a b)).trans ?_
        have q2 := (i2.app (hP 0 m (n - 1))).trans ((i3.app_left i2.posm))
        exact (i1.app ((hP 0 n b).app (hP 0 m (n - 1)))).trans (q2.app_left i1.posm)

end Go.Proofs.YtlojfgdpmaigmaeGreatDoor
