/- What goes down a tree: each step, in plain terms. -/
import Derived.Test.YtlojfgdpmaigmacP16
import Derived.Test.YtlojfgdpmaigmacP13
import Derived.Test.YtlojfgdpmaigmacP20
import Derived.Test.YtlojfgdpmaigmacP07
import Derived.Test.YtlojfgdpmaigmacP02
import Derived.Test.YtlojfgdpmaigmacP25
import Derived.Test.YtlojfgdpmaigmacAdoptWalk2
namespace Go.Proofs.Ytlojfgdpmaigmac
open Go.RowKit Plain

def InvK (s : Ru × Int) : Prop := s = (zro, 0) ∨ (Good s.1 ∧ s.2 = 0) ∨ s.2 ≠ 0

theorem stepK_inv {s : Ru × Int} {x : En} (h : InvK s) (hx : Good x.ru) : InvK (stepK s x) ∧ ((stepK s x).2 = 0 → s.2 = 0 ∧ (stepK s x).1.c = s.1.c + x.c) := by
  unfold stepK
  rcases h with rfl | ⟨hg, h0⟩ | h0
  · rw [if_pos rfl, mrg_zro hx]
    exact ⟨.inr (.inl ⟨hx, rfl⟩), fun _ => ⟨rfl, by show x.c = 0 + x.c; omega⟩⟩
  · rw [if_pos h0, mrg_good hg hx]
    by_cases hc : s.1.c + x.ru.c ≤ 1073741824
    · rw [if_pos hc]
      exact ⟨.inr (.inl ⟨good_jn hg hx hc, rfl⟩), fun _ => ⟨h0, rfl⟩⟩
    · rw [if_neg hc]
      exact ⟨.inr (.inr (by decide)), fun h => absurd h (by decide)⟩
  · rw [if_neg h0]
    exact ⟨.inr (.inr h0), fun h => absurd h h0⟩

theorem stepK_cnt {k : Int} : ∀ (xs : List En) (s : Ru × Int), (∀ x ∈ xs, x.key = k ∧ Good x.ru) → InvK s → InvK (xs.foldl stepK s) ∧ ((xs.foldl stepK s).2 = 0 → s.2 = 0 ∧ (xs.foldl stepK s).1.c = s.1.c + cntK k xs)
  | [], s, _, h => ⟨h, fun h0 => ⟨h0, by simp [cntK]⟩⟩
  | x :: xs, s, hx, h => by
    obtain ⟨a, b⟩ := stepK_inv h (hx x List.mem_cons_self).2
    obtain ⟨c, d⟩ := stepK_cnt xs (stepK s x) (fun y hy => hx y (List.mem_cons_of_mem _ hy)) a
    refine ⟨c, fun h0 => ?_⟩
    obtain ⟨d1, d2⟩ := d h0
    obtain ⟨b1, b2⟩ := b d1
    refine ⟨b1, ?_⟩
    rw [List.foldl_cons, d2, b2, cntK, if_pos (hx x List.mem_cons_self).1]
    omega

theorem cntK_filter (k : Int) : ∀ l : List En, cntK k (l.filter (inR k (k + 1))) = cntK k l
  | [] => rfl
  | y :: r => by
    rw [List.filter_cons]
    by_cases h : y.key = k
    · rw [if_pos (by simp [inR, h]; omega), cntK, cntK, cntK_filter k r]
    · rw [if_neg (by simp [inR]; omega), cntK, if_neg h, cntK_filter k r]
      omega

/-- What a node knows of a key comes together: so it does if there is less. -/
theorem known_cnt {T m h : Nat} {ns : List Nd} {p lo hi : Int} {P : List Int} {k : Int} (hs : Sub T m ns h p lo hi P) (hh : h < 12) {s : Ru × Int} (e : (Wl ns k (k + 1) 12 p).foldl stepK (zro, 0) = s) : InvK s ∧ (s.2 = 0 → s.1.c = cntK k (cP ns P)) := by
  have hw : Wl ns k (k + 1) 12 p = (cP ns P).filter (inR k (k + 1)) := Sub_Wl h 12 p lo hi P hs hh
  obtain ⟨a, b⟩ := stepK_cnt (k := k) (Wl ns k (k + 1) 12 p) (zro, 0) (fun x hx => by
    rw [hw] at hx
    obtain ⟨h1, h2⟩ := List.mem_filter.1 hx
    have h3 : k ≤ x.key ∧ x.key < k + 1 := by simpa [inR] using h2
    exact ⟨by omega, (Sub_cont h p lo hi P hs x h1).2⟩) (.inl rfl)
  rw [e] at a b
  refine ⟨a, fun h0 => ?_⟩
  obtain ⟨_, b2⟩ := b h0
  rw [b2, hw, cntK_filter]
  show 0 + _ = _
  omega

theorem inv_most {s : Ru × Int} (h : InvK s) (h0 : s.2 = 0) : s.1.c ≤ 1073741824 := by
  rcases h with rfl | ⟨hg, _⟩ | h
  · decide
  · exact (good_iff.1 hg).1.2
  · exact absurd h0 h

/-- An entry went into a node, or below it. -/
structure SinkOk (T : Nat) (ns ns' : List Nd) (h : Nat) (p lo hi : Int) (P : List Int) (x : En) : Prop where
  sub : Sub T 4 ns' h p lo hi P
  len : ns'.length = ns.length
  same : ∀ n, n ∉ P → 0 ≤ n → nth ns' n = nth ns n
  eqv : Eqv (x :: cP ns P) (cP ns' P)
  few : (cP ns' P).length ≤ (cP ns P).length + 1

theorem leaf_sink {T : Nat} {ns : List Nd} {p lo hi : Int} {P : List Int} {x : En} (hs : Sub T 4 ns 0 p lo hi P) (hx : entB x lo hi = true) (hc : cntK x.key (cP ns P) + x.c ≤ 1073741824) (hT : (cP ns P).length + 1 ≤ T) :
    SinkOk T ns (ns.set p.toNat { nth ns p with ents := withE (nth ns p).ents x }) 0 p lo hi P x := by
  obtain ⟨hr, rfl, hl⟩ := hs
  have ec : cP ns [p] = (nth ns p).ents := by simp [cP, cont, hl.buf]
  rw [ec] at hc hT
  have hw := withE_ok hl.ents hx hc
  have hn := nth_set_self (y := { nth ns p with ents := withE (nth ns p).ents x }) hr.1 hr.2.1
  have hlen : (withE (nth ns p).ents x).length ≤ (nth ns p).ents.length + 1 := by rw [hw.len]; split <;> omega
  have ec' : cP (ns.set p.toNat { nth ns p with ents := withE (nth ns p).ents x }) [p] = withE (nth ns p).ents x := by
    rw [cP_cons, hn]
    simp [cP, cont, hl.buf]
  refine ⟨⟨⟨hr.1, by simpa using hr.2.1, hr.2.2⟩, rfl, ?_⟩, by simp, fun n hn0 h0 => nth_set_far hr.1 h0 (by simpa using hn0), ?_, ?_⟩
  · rw [hn]
    exact ⟨hl.leaf, hl.keys, hl.kids, hl.buf, hw.ne, by show (withE _ _).length ≤ T; omega, hw.ents⟩
  · rw [ec, ec']
    exact hw.eqv
  · rw [ec, ec']
    exact hlen

/-- The node's list of what waits is another one. -/
theorem Sub_setBuf {T h : Nat} {ns : List Nd} {p lo hi : Int} {P : List Int} {b : List En} (hs : Sub T 4 ns (h + 1) p lo hi P) (hP : P.Nodup) (hb : entsB b lo hi = true) (hf : b.length ≤ 8) :
    Sub T 4 (ns.set p.toNat { nth ns p with buf := b }) (h + 1) p lo hi P ∧ ∃ Q, P = p :: Q ∧ cP ns P = (nth ns p).buf ++ cP ns Q ∧ cP (ns.set p.toNat { nth ns p with buf := b }) P = b ++ cP ns Q := by
  obtain ⟨hr, Q, rfl, hin⟩ := hs
  have hn := nth_set_self (y := { nth ns p with buf := b }) hr.1 hr.2.1
  rw [List.nodup_cons] at hP
  have hQr := SubK_range hin.kids
  have hfar : ∀ n ∈ Q, nth (ns.set p.toNat { nth ns p with buf := b }) n = nth ns n := fun n hnQ => nth_set_far hr.1 (hQr n hnQ).1 (fun e => hP.1 (e ▸ hnQ))
  refine ⟨⟨⟨hr.1, by simpa using hr.2.1, hr.2.2⟩, Q, rfl, ?_⟩, Q, rfl, ?_, ?_⟩
  · rw [hn]
    exact ⟨hin.leaf, hin.ents, hin.two, hin.most, hin.keys, hf, hb, SubK_imp hin.kids fun d l u Q' q1 q2 => Sub_congr h d l u Q' q1 fun n hnQ => ⟨hfar n (q2 n hnQ), by simpa using (hQr n (q2 n hnQ)).2⟩⟩
  · rw [cP_cons]
    simp [cont, hin.ents]
  · rw [cP_cons, hn, cP_congr hfar]
    simp [cont, hin.ents]

theorem buf_sink {T h : Nat} {ns : List Nd} {p lo hi : Int} {P : List Int} {x : En} (hs : Sub T 4 ns (h + 1) p lo hi P) (hP : P.Nodup) (hx : entB x lo hi = true) (hc : cntK x.key (cP ns P) + x.c ≤ 1073741824) (hw : hasK (nth ns p).buf x.key = true ∨ (nth ns p).buf.length < 8) :
    SinkOk T ns (ns.set p.toNat { nth ns p with buf := withE (nth ns p).buf x }) (h + 1) p lo hi P x := by
  have hpos := Sub_pos hs
  obtain ⟨hr, Q, rfl, hin⟩ := hs
  have hQpos : Pos (cP ns Q) := by rw [cP_cons] at hpos; exact hpos.right
  have hcb : cntK x.key (nth ns p).buf + x.c ≤ 1073741824 := by
    have e : cP ns (p :: Q) = (nth ns p).buf ++ cP ns Q := by rw [cP_cons]; simp [cont, hin.ents]
    rw [e, cntK_append] at hc
    have := cntK_nn (k := x.key) hQpos
    omega
  have hwe := withE_ok hin.buf hx hcb
  have hlen : (withE (nth ns p).buf x).length ≤ 8 := by
    rw [hwe.len]
    have := hin.few
    rcases hw with e | e
    · rw [if_pos e]; exact this
    · split <;> omega
  have hlen2 : (withE (nth ns p).buf x).length ≤ (nth ns p).buf.length + 1 := by rw [hwe.len]; split <;> omega
  obtain ⟨s1, Q', hQ, e1, e2⟩ := Sub_setBuf (b := withE (nth ns p).buf x) ⟨hr, Q, rfl, hin⟩ hP hwe.ents hlen
  obtain rfl : Q = Q' := by simpa using hQ
  refine ⟨s1, by simp, fun n hn0 h0 => nth_set_far hr.1 h0 (fun e => hn0 (by simp [e])), ?_, ?_⟩
  · rw [e1, e2]
    exact hwe.eqv.app hQpos
  · rw [e1, e2]
    simp
    omega

theorem kid_sink {T h : Nat} {ns ns' : List Nd} {p lo hi l u d : Int} {P Qa Qd Qb : List Int} {x : En} (hs : Sub T 4 ns (h + 1) p lo hi P) (hP : P = p :: (Qa ++ Qd ++ Qb)) (hnd : P.Nodup)
    (hre : ∀ ns', ns'.length = ns.length → (∀ n, n ∉ Qd → 0 ≤ n → nth ns' n = nth ns n) → Sub T 4 ns' h d l u Qd → Sub T 4 ns' (h + 1) p lo hi P) (hk : SinkOk T ns ns' h d l u Qd x) : SinkOk T ns ns' (h + 1) p lo hi P x := by
  have hpos := Sub_pos hs
  have hrg := Sub_range _ _ _ _ _ hs
  subst hP
  have hnd2 := hnd
  rw [List.nodup_cons, List.nodup_append, List.nodup_append] at hnd
  obtain ⟨hpn, ⟨na, nd, nad⟩, nb, nab⟩ := hnd
  have e : ∀ ns : List Nd, cP ns (p :: (Qa ++ Qd ++ Qb)) = cont (nth ns p) ++ cP ns Qa ++ cP ns Qd ++ cP ns Qb := fun ns => by rw [cP_cons, cP_append, cP_append]; simp
  have c1 : nth ns' p = nth ns p := hk.same p (fun e => hpn (by simp [e])) (hrg p (by simp)).1
  have c2 : cP ns' Qa = cP ns Qa := cP_congr fun n hn => hk.same n (fun e => nad n hn n e rfl) (hrg n (by simp [hn])).1
  have c3 : cP ns' Qb = cP ns Qb := cP_congr fun n hn => hk.same n (fun e => nab n (List.mem_append_right _ e) n hn rfl) (hrg n (by simp [hn])).1
  refine ⟨hre ns' hk.len (fun n h1 h2 => hk.same n h1 h2) hk.sub, hk.len, fun n hn h0 => hk.same n (fun e => hn (by simp [e])) h0, ?_, ?_⟩
  · rw [e] at hpos
    rw [e, e, c1, c2, c3]
    have h1 := (hk.eqv.app hpos.right).app_left hpos.left.left
    refine Eqv.trans (Eqv.of_perm ?_ ?_) (h1.trans (Eqv.of_perm ?_ h1.posm))
    · generalize cont (nth ns p) ++ cP ns Qa = A
      show (x :: (A ++ cP ns Qd ++ cP ns Qb)).Perm (A ++ ((x :: cP ns Qd) ++ cP ns Qb))
      rw [List.append_assoc]
      exact (List.perm_middle (a := x) (l₁ := A) (l₂ := cP ns Qd ++ cP ns Qb)).symm
    · intro z hz
      rcases List.mem_cons.1 hz with rfl | hz
      · exact hk.eqv.posl _ List.mem_cons_self
      · exact hpos z hz
    · rw [List.append_assoc, List.append_assoc, List.append_assoc]
  · have := hk.few
    rw [e, e, c1, c2, c3]
    simp only [List.length_append]
    omega

theorem entsB_filter {hi : Int} (f : En → Bool) : ∀ {l : List En} {lo : Int}, entsB l lo hi = true → entsB (l.filter f) lo hi = true
  | [], _, _ => rfl
  | x :: r, lo, h => by
    simp only [entsB, Bool.and_eq_true] at h
    have h1 := entB_iff.1 h.1
    have ih := entsB_filter f h.2
    rw [List.filter_cons]
    split
    · simp only [entsB, Bool.and_eq_true]
      exact ⟨h.1, ih⟩
    · exact entsB_mono ih (by omega)

/-- What waited goes down: what is left to go. -/
structure DownOk (T : Nat) (ns ns' : List Nd) (h : Nat) (p lo hi : Int) (P : List Int) (rest : List En) : Prop where
  sub : Sub T 4 ns' (h + 1) p lo hi P
  len : ns'.length = ns.length
  same : ∀ n, n ∉ P → 0 ≤ n → nth ns' n = nth ns n
  eqv : Eqv (cP ns P) (rest ++ cP ns' P)
  few : (cP ns' P).length + rest.length ≤ (cP ns P).length
  keys : (nth ns' p).keys = (nth ns p).keys
  kids : (nth ns' p).kids = (nth ns p).kids

theorem down_start {T h : Nat} {ns : List Nd} {p lo hi : Int} {P : List Int} (hs : Sub T 4 ns (h + 1) p lo hi P) (hP : P.Nodup) (f : En → Bool) :
    DownOk T ns (ns.set p.toNat { nth ns p with buf := (nth ns p).buf.filter fun x => !f x }) h p lo hi P ((nth ns p).buf.filter f) := by
  have hpos := Sub_pos hs
  have hr := hs.1
  have hin := hs.2
  obtain ⟨Q0, hQ0, hin⟩ := hin
  have hfl : ((nth ns p).buf.filter fun x => !f x).length ≤ 8 := Nat.le_trans (List.length_filter_le _ _) hin.few
  obtain ⟨s1, Q, rfl, e1, e2⟩ := Sub_setBuf (b := (nth ns p).buf.filter fun x => !f x) hs hP (entsB_filter _ hin.buf) hfl
  have hperm : ((nth ns p).buf.filter f ++ (nth ns p).buf.filter fun x => !f x).Perm (nth ns p).buf := List.filter_append_perm f _
  have hn := nth_set_self (y := { nth ns p with buf := (nth ns p).buf.filter fun x => !f x }) hr.1 hr.2.1
  refine ⟨s1, by simp, fun n hn0 h0 => nth_set_far hr.1 h0 (fun e => hn0 (by simp [e])), ?_, ?_, by rw [hn], by rw [hn]⟩
  · rw [e1] at hpos
    rw [e1, e2, ← List.append_assoc]
    exact Eqv.of_perm (hperm.symm.append_right _) hpos
  · rw [e1, e2]
    have := hperm.length_eq
    simp only [List.length_append] at this ⊢
    omega

theorem down_step {T h : Nat} {ns ns1 ns2 : List Nd} {p lo hi : Int} {P : List Int} {x : En} {rest : List En} (hd : DownOk T ns ns1 h p lo hi P (x :: rest)) (hk : SinkOk T ns1 ns2 (h + 1) p lo hi P x) (hkeys : (nth ns2 p).keys = (nth ns1 p).keys) (hkids : (nth ns2 p).kids = (nth ns1 p).kids) : DownOk T ns ns2 h p lo hi P rest := by
  have hp := hd.eqv.posm
  have hpr : Pos rest := fun y hy => hp y (by simp [hy])
  refine ⟨hk.sub, hk.len.trans hd.len, fun n h1 h2 => (hk.same n h1 h2).trans (hd.same n h1 h2), ?_, ?_, hkeys.trans hd.keys, hkids.trans hd.kids⟩
  · refine hd.eqv.trans (Eqv.trans (Eqv.of_perm ?_ hp) (hk.eqv.app_left hpr))
    exact (List.perm_middle (a := x) (l₁ := rest) (l₂ := cP ns1 P)).symm
  · have h1 := hd.few
    have h2 := hk.few
    simp only [List.length_cons] at h1
    omega

end Go.Proofs.Ytlojfgdpmaigmac

/- A tree of entries, in plain terms. -/
namespace Go.Proofs.Ytlojfgdpmaigmac
open Go.RowKit Plain

def leafOf (xs : List En) : Nd := ⟨true, xs, [], [], []⟩
def ofN (xs : List En) : List Nd × Int := growN (splitN [leafOf xs] 0).2.length (splitN [leafOf xs] 0).1 0 (splitN [leafOf xs] 0).2

theorem nth_leaf (xs : List En) : nth [leafOf xs] 0 = leafOf xs := rfl

theorem leaf_top {xs : List En} (h : faultE xs = 0) (hne : xs ≠ []) : Top xs.length 4 [leafOf xs] 0 0 0 1099511627776 [0] :=
  ⟨⟨by decide, by simp, by decide⟩, rfl, rfl, rfl, rfl, rfl, hne, Nat.le_refl _, fault_entsB h⟩

theorem leaf_size (xs : List En) : sizeN (leafOf xs) = xs.length ∧ mostN (leafOf xs) = 6 ∧ partsN (leafOf xs) = (xs.length + 6 - 1) / 6 := by
  have a : sizeN (leafOf xs) = xs.length := by simp [sizeN, leafOf]
  have b : mostN (leafOf xs) = 6 := by simp [mostN, leafOf]
  exact ⟨a, b, by rw [partsN, a, b]⟩

theorem leaf_split (xs : List En) : (splitN [leafOf xs] 0).1.length ≤ (xs.length + 6) / 6 + 1 ∧ (splitN [leafOf xs] 0).2.length ≤ (xs.length + 6) / 6 := by
  obtain ⟨a, b, c⟩ := leaf_size xs
  unfold splitN
  rw [nth_leaf]
  split
  · simp
  · have hc : (cutsN (leafOf xs)).length = partsN (leafOf xs) := by unfold cutsN; exact cutsF_length _ _ _ _
    constructor
    · simp only [List.length_append, List.length_set, List.length_tail, partsL_length, hc, List.length_cons, List.length_nil, c]
      omega
    · simp only [List.length_zip, keysL_length, hc, placesF_length, c]
      omega

theorem leaf_row {xs : List En} (h : faultE xs = 0) : (splitN [leafOf xs] 0).2 = [] ∨ RowOk (splitN [leafOf xs] 0).1 0 0 (splitN [leafOf xs] 0).2 := by
  by_cases hne : xs = []
  · left
    subst hne
    unfold splitN
    rw [nth_leaf, if_pos (by decide)]
  · right
    have hs := split_ok (leaf_top h hne) (by simp)
    obtain ⟨Q, h1, h2⟩ := hs.sub
    have hle := hs.le
    refine ⟨Q, h1, h2.trans ?_⟩
    rw [show (splitN [leafOf xs] 0).1.length = 1 + ((splitN [leafOf xs] 0).1.length - [leafOf xs].length) by simp at hle ⊢; omega, placesF_append]
    exact List.Perm.of_eq (by simp [placesF])

theorem ofN_len (xs : List En) (h : faultE xs = 0) : (ofN xs).1.length ≤ 2 * ((xs.length + 6) / 6) + 1 := by
  obtain ⟨a, b⟩ := leaf_split xs
  rcases leaf_row h with e | hr
  · unfold ofN
    rw [e]
    simp [growN]
    omega
  · have := (grow_ok _ (Nat.le_refl _) hr).2.2
    unfold ofN
    omega

theorem ofN_ok {xs : List En} (h : faultE xs = 0) (hz : (ofN xs).1.length ≤ 2000) : treeC (ofN xs).1 (ofN xs).2 = 0 ∧ ((ofN xs).1.flatMap cont).Perm xs := by
  by_cases hne : xs = []
  · subst hne
    have e : ofN [] = ([leafOf []], 0) := by
      unfold ofN splitN
      rw [nth_leaf, if_pos (by decide)]
      rfl
    rw [e]
    exact ⟨by decide, List.Perm.refl _⟩
  · have hs := split_ok (leaf_top h hne) (by simp)
    obtain ⟨Q, h1, h2⟩ := hs.sub
    have hle := hs.le
    have hr : RowOk (splitN [leafOf xs] 0).1 0 0 (splitN [leafOf xs] 0).2 := by
      refine ⟨Q, h1, h2.trans ?_⟩
      rw [show (splitN [leafOf xs] 0).1.length = 1 + ((splitN [leafOf xs] 0).1.length - [leafOf xs].length) by simp at hle ⊢; omega, placesF_append]
      exact List.Perm.of_eq (by simp [placesF])
    obtain ⟨⟨h', Q', a, b⟩, c, _⟩ := grow_ok _ (Nat.le_refl _) hr
    exact ⟨Sub_treeC a b hz, c.trans (hs.cont.trans (by simp [cont, leafOf]))⟩

/-! ### What such a tree tells -/

theorem ins_lastO : ∀ {l : List En} {x : En}, (∀ y ∈ l, y.key < x.key) → ins l x = some (l ++ [x])
  | [], x, _ => rfl
  | y :: r, x, h => by
    rw [ins_gt (h y (by simp)), ins_lastO (fun z hz => h z (List.mem_cons_of_mem _ hz))]
    rfl

theorem foldl_sorted : ∀ (xs l : List En), (l ++ xs).Pairwise (fun x y => x.key < y.key) → xs.foldl insO (some l) = some (l ++ xs)
  | [], l, _ => by simp
  | x :: xs, l, h => by
    rw [List.foldl_cons]
    have e : insO (some l) x = some (l ++ [x]) := by
      show ins l x = _
      refine ins_lastO fun y hy => ?_
      rw [List.pairwise_append] at h
      exact h.2.2 y hy x (by simp)
    rw [e, foldl_sorted xs (l ++ [x]) (by simpa using h)]
    simp

theorem allL_sorted {xs : List En} (h : xs.Pairwise (fun x y => x.key < y.key)) : allL xs = some xs := by
  unfold allL
  have := foldl_sorted xs [] (by simpa using h)
  simpa using this

theorem lst_cont {ns : List Nd} : (ns.flatMap Nd.lst).Perm (ns.flatMap cont) := by
  induction ns with
  | nil => exact List.Perm.refl _
  | cons x r ih =>
    rw [List.flatMap_cons, List.flatMap_cons]
    refine List.Perm.append ?_ ih
    exact List.perm_append_comm

theorem allR_of {ns : List Nd} {xs : List En} (h : faultE xs = 0) (hp : (ns.flatMap cont).Perm xs) : allR 0 1099511627776 (ns.flatMap Nd.lst) = some xs := by
  have hB := fault_entsB h
  obtain ⟨hr, hs⟩ := entsB_lt hB
  have hgood := entsB_good hB
  have hpm : (ns.flatMap Nd.lst).Perm xs := lst_cont.trans hp
  have hin : ∀ x ∈ ns.flatMap Nd.lst, inR 0 1099511627776 x = true := by
    intro x hx
    have := hr x (hpm.mem_iff.1 hx)
    simp [inR]
    omega
  unfold allR
  rw [List.filter_eq_self.2 hin, allL_perm hpm (fun x hx => by
    have := (good_iff.1 (hgood x (hpm.mem_iff.1 hx))).1
    exact this.1)]
  exact allL_sorted hs

end Go.Proofs.Ytlojfgdpmaigmac

/- What Check tells of a tree: in parts. -/
namespace Go.Proofs.Ytlojfgdpmaigmac
open Go.RowKit Plain

theorem Wk_sub {ns : List Nd} {f h : Nat} {dp : Int} (hg : ∀ d lo hi S S' l, W ns f d lo hi S = some (S', l) → (∀ x ∈ l, x = dp) → ∃ P T, Sub 6 4 ns h d lo hi P ∧ S' = T ++ S ∧ (T.map (·.1)).Perm P) :
    ∀ (ds keys : List Int) (lo hi : Int) (S S' : St) (l : List Int), keys.length + 1 = ds.length → Wk (W ns f) ds keys lo hi S = some (S', l) → (∀ x ∈ l, x = dp) → ∃ Q T, SubK (Sub 6 4 ns h) lo (ups ds keys hi) Q ∧ S' = T ++ S ∧ (T.map (·.1)).Perm Q
  | [], _, _, _, _, _, _, hl, _, _ => by simp at hl
  | d :: ds, keys, lo, hi, S, S', l, hl, hr, ha => by
    unfold Wk at hr
    split at hr
    · cases hr
    · rename_i S1 l1 h1
      split at hr
      · cases hr
      · rename_i S2 l2 h2
        cases hr
        obtain ⟨P, T1, a1, rfl, a3⟩ := hg _ _ _ _ _ _ h1 (fun x hx => ha x (List.mem_append_left _ hx))
        cases keys with
        | nil =>
          obtain rfl : ds = [] := List.eq_nil_of_length_eq_zero (by simpa using hl.symm)
          simp only [Wk] at h2
          cases h2
          exact ⟨P, T1, ⟨P, [], by simp, a1, rfl⟩, rfl, a3⟩
        | cons k ks =>
          obtain ⟨Q2, T2, b1, b2, b3⟩ := Wk_sub hg ds ks k hi (T1 ++ S) _ l2 (by simpa using hl) h2 (fun x hx => ha x (List.mem_append_right _ hx))
          subst b2
          have hne : ds ≠ [] := fun e => by subst e; simp at hl
          obtain ⟨e, ds', rfl⟩ := List.exists_cons_of_ne_nil hne
          refine ⟨P ++ Q2, T2 ++ T1, ⟨P, Q2, rfl, a1, b1⟩, by simp, ?_⟩
          rw [List.map_append]
          exact (b3.append a3).trans List.perm_append_comm

theorem W_sub {ns : List Nd} : ∀ (f : Nat), f ≤ 11 → ∀ (n lo hi : Int) (S S' : St) (l : List Int) (dp : Int), W ns f n lo hi S = some (S', l) → (∀ x ∈ l, x = dp) → ∃ h P T, dp = 13 - (f : Int) + (h : Nat) ∧ Sub 6 4 ns h n lo hi P ∧ S' = T ++ S ∧ (T.map (·.1)).Perm P := by
  intro f
  induction f with
  | zero => intro _ n lo hi S S' l dp h; cases h
  | succ f ih =>
    intro hf n lo hi S S' l dp hW ha
    unfold W at hW
    split at hW
    · cases hW
    · rename_i hc
      have hr : 0 ≤ n ∧ n < ns.length ∧ lo < hi := ⟨by omega, by omega, by omega⟩
      split at hW
      · rename_i hlf
        split at hW
        · rename_i hl
          cases hW
          obtain ⟨h1, h2, h3, h4, h5, h6⟩ := leafB_iff.1 hl
          have hd := ha (12 - (f : Int)) (by simp)
          refine ⟨0, [n], [(n, 12 - (f : Int))], by omega, ⟨hr, rfl, hlf, h1, h2, h3, ?_, h4, h6⟩, rfl, by simp⟩
          rcases h5 with e | e
          · omega
          · exact e
        · cases hW
      · rename_i hlf
        split at hW
        · rename_i hi'
          obtain ⟨e1, e2, e3, e4, e5, e6⟩ := innerB_kids hi'
          have hne := (Wk_ds (fun d lo hi S S' l h => W_ds f (by omega) d lo hi S S' l h) _ _ _ _ _ _ _ hW).1 (fun e => by rw [e] at e2; simp at e2)
          -- the first kid tells how high it is
          have hcase : ∃ h : Nat, dp = 13 - (f : Int) + h := by
            cases hk : (ns.getD n.toNat default).kids with
            | nil => rw [hk] at e2; simp at e2
            | cons d ds =>
              rw [hk] at hW
              unfold Wk at hW
              split at hW
              · cases hW
              · rename_i S1 l1 h1
                split at hW
                · cases hW
                · cases hW
                  obtain ⟨h, _, _, e, _⟩ := ih (by omega) _ _ _ _ _ _ dp h1 (fun x hx => ha x (List.mem_append_left _ hx))
                  exact ⟨h, e⟩
          obtain ⟨h, hh⟩ := hcase
          obtain ⟨Q, T, b1, b2, b3⟩ := Wk_sub (h := h) (dp := dp) (fun d lo hi S S' l a b => by
            obtain ⟨h', P, T, e, c1, c2, c3⟩ := ih (by omega) d lo hi S S' l dp a b
            obtain rfl : h' = h := by omega
            exact ⟨P, T, c1, c2, c3⟩) _ _ _ _ _ _ _ e4 hW ha
          refine ⟨h + 1, n :: Q, T ++ [(n, 12 - (f : Int))], by omega, ⟨hr, Q, rfl, ?_⟩, by rw [b2]; simp, ?_⟩
          · exact ⟨Bool.eq_false_iff.2 hlf, e1, e2, e3, e4, e5, e6, b1⟩
          · rw [List.map_append]
            exact (b3.append_right _).trans List.perm_append_comm
        · cases hW

theorem perm_places {N : Nat} {L : List Int} (hn : L.Nodup) (hr : ∀ n ∈ L, 0 ≤ n ∧ n < (N : Int)) (hl : L.length = N) : L.Perm (placesF 0 N) := by
  rw [List.perm_ext_iff_of_nodup hn (placesF_nodup _ _)]
  intro a
  constructor
  · intro ha
    have := hr a ha
    exact placesF_mem.2 ⟨by omega, by omega⟩
  · intro ha
    apply Classical.byContradiction
    intro hna
    have h1 := nodup_le (a :: L) (placesF 0 N) (List.nodup_cons.2 ⟨hna, hn⟩) (fun x hx => by
      rcases List.mem_cons.1 hx with rfl | hx
      · exact ha
      · have := hr x hx
        exact placesF_mem.2 ⟨by omega, by omega⟩)
    rw [placesF_length] at h1
    simp at h1
    omega

/-- A tree that may be is a node with all below it; or there is nothing in it. -/
theorem treeC_sub {ns : List Nd} {root : Int} (h : treeC ns root = 0) : (∃ h P, Sub 6 4 ns h root 0 1099511627776 P ∧ P.Perm (placesF 0 ns.length)) ∨ (ns = [leafOf []] ∧ root = 0) := by
  unfold treeC at h
  split at h
  · omega
  · cases hW : W ns 12 root 0 1099511627776 [] with
    | none => rw [hW] at h; simp at h
    | some p =>
      obtain ⟨S, l⟩ := p
      rw [hW] at h
      simp only at h
      split at h
      · rename_i hc
        obtain ⟨hok, hlen⟩ := hc
        have hst := (W_st 12 _ _ _ _ _ _ hW ⟨by simp, by simp⟩).1
        have hperm : ∀ {P : List Int}, (S.map (·.1)).Perm P → P.Perm (placesF 0 ns.length) := fun {P} hp => by
          refine hp.symm.trans (perm_places hst.1 (fun n hn => ?_) (by simpa using hlen))
          obtain ⟨p, hp, rfl⟩ := List.mem_map.1 hn
          exact hst.2 p hp
        have hall : ∀ x ∈ l, x = l.headD 0 := fun x hx => by
          unfold okL at hok
          rw [if_pos rfl, List.all_eq_true] at hok
          simpa using hok x hx
        unfold W at hW
        split at hW
        · cases hW
        · rename_i hcc
          have hr : 0 ≤ root ∧ root < ns.length ∧ (0 : Int) < 1099511627776 := ⟨by omega, by omega, by decide⟩
          split at hW
          · rename_i hlf
            split at hW
            · rename_i hl
              cases hW
              obtain ⟨h1, h2, h3, h4, h5, h6⟩ := leafB_iff.1 hl
              by_cases hne : (ns.getD root.toNat default).ents = []
              · right
                simp at hlen
                obtain ⟨x, rfl⟩ : ∃ x, ns = [x] := List.length_eq_one_iff.1 hlen.symm
                have hr0 : root = 0 := by simp at hr; omega
                subst hr0
                refine ⟨?_, rfl⟩
                simp at h1 h2 h3 hne hlf
                cases x
                simp at h1 h2 h3 hne hlf
                subst h1 h2 h3 hne hlf
                rfl
              · left
                exact ⟨0, [root], ⟨hr, rfl, hlf, h1, h2, h3, hne, h4, h6⟩, hperm (by simp)⟩
            · cases hW
          · rename_i hlf
            split at hW
            · rename_i hi'
              obtain ⟨e1, e2, e3, e4, e5, e6⟩ := innerB_kids hi'
              left
              have hcase : ∃ h : Nat, l.headD 0 = 13 - (11 : Int) + h := by
                cases hk : (ns.getD root.toNat default).kids with
                | nil => rw [hk] at e2; simp at e2
                | cons d ds =>
                  have hW2 := hW
                  rw [hk] at hW2
                  unfold Wk at hW2
                  split at hW2
                  · cases hW2
                  · rename_i S1 l1 h1
                    split at hW2
                    · cases hW2
                    · cases hW2
                      obtain ⟨h, _, _, e, _⟩ := W_sub 11 (by omega) _ _ _ _ _ _ ((l1 ++ _).headD 0) h1 (fun x hx => hall x (List.mem_append_left _ hx))
                      exact ⟨h, e⟩
              obtain ⟨h, hh⟩ := hcase
              obtain ⟨Q, T, b1, b2, b3⟩ := Wk_sub (h := h) (dp := l.headD 0) (fun d lo hi S S' l' a b => by
                obtain ⟨h', P, T, e, c1, c2, c3⟩ := W_sub 11 (by omega) d lo hi S S' l' (l.headD 0) a b
                obtain rfl : h' = h := by omega
                exact ⟨P, T, c1, c2, c3⟩) _ _ _ _ _ _ _ e4 hW hall
              refine ⟨h + 1, root :: Q, ⟨hr, Q, rfl, ⟨Bool.eq_false_iff.2 hlf, e1, e2, e3, e4, e5, e6, b1⟩⟩, hperm ?_⟩
              rw [b2, List.map_append]
              exact (b3.append_right _).trans List.perm_append_comm
            · cases hW
      · omega

end Go.Proofs.Ytlojfgdpmaigmac

/- How many nodes there are when all that hold too much are split. In plain terms. -/
namespace Go.Proofs.Ytlojfgdpmaigmac
open Go.RowKit Plain

def wt (x : Nd) : Nat := if x.leaf = true then (if x.ents.length ≤ 6 then 6 else x.ents.length + 5) else 0
def wts : List Nd → Nat
  | [] => 0
  | x :: r => wt x + wts r

theorem wts_append : ∀ a b : List Nd, wts (a ++ b) = wts a + wts b
  | [], b => by simp [wts]
  | x :: r, b => by simp only [List.cons_append, wts, wts_append r b]; omega

theorem wts_set {ns : List Nd} {i : Nat} (hi : i < ns.length) (y : Nd) : wts (ns.set i y) + wt ns[i] = wts ns + wt y := by
  obtain ⟨e1, e2⟩ := set_split ns i y hi
  rw [e2]
  have : wts ns = wts (ns.take i ++ ns[i] :: ns.drop (i + 1)) := by rw [← e1]
  rw [this, wts_append, wts_append, wts, wts]
  omega

theorem partsL_wt {x : Nd} (hl : x.leaf = true) {mn s : Nat} : ∀ (bs : List Nat) (a : Nat), CutsOk mn 6 s a bs → wts (partsL x a bs) = 6 * bs.length
  | [], _, _ => rfl
  | b :: bs, a, h => by
    obtain ⟨_, h2, h3⟩ := h
    have e : wt (partN x a b) = 6 := by
      have hle : ((x.ents.drop a).take (b - a)).length ≤ 6 := by rw [List.length_take]; omega
      simp only [partN, hl, if_true, wt]
      rw [if_pos hle]
    rw [partsL, wts, e, partsL_wt hl bs b h3, List.length_cons]
    omega

theorem partsL_wt0 {x : Nd} (hl : x.leaf = false) : ∀ (bs : List Nat) (a : Nat), wts (partsL x a bs) = 0
  | [], _ => rfl
  | b :: bs, a => by
    have e : wt (partN x a b) = 0 := by simp [partN, hl, wt]
    rw [partsL, wts, e, partsL_wt0 hl bs b]

theorem splitN_wt (ns : List Nd) (p : Int) : wts (splitN ns p).1 ≤ wts ns := by
  unfold splitN
  split
  · exact Nat.le_refl _
  · rename_i hgt
    have hpn : p.toNat < ns.length := by
      apply Classical.byContradiction
      intro hn
      have e : nth ns p = default := by
        unfold nth
        rw [List.getD_eq_getElem?_getD, List.getElem?_eq_none (by omega)]
        rfl
      rw [e] at hgt
      exact hgt (by decide)
    have hx : ns[p.toNat] = nth ns p := by
      unfold nth
      rw [List.getD_eq_getElem?_getD, List.getElem?_eq_getElem hpn]
      rfl
    generalize hX : nth ns p = x at *
    have hlen : (partsL x 0 (cutsN x)).length = partsN x := by rw [partsL_length]; exact cutsF_length _ _ _ _
    have hsum : wts (partsL x 0 (cutsN x)) ≤ wt x := by
      cases hl : x.leaf with
      | false => rw [partsL_wt0 hl]; omega
      | true =>
        have hs : sizeN x = x.ents.length := by simp [sizeN, hl]
        have hm : mostN x = 6 := by simp [mostN, hl]
        rw [hs, hm] at hgt
        have hq : partsN x = (x.ents.length + 6 - 1) / 6 := by unfold partsN; rw [hs, hm]
        obtain ⟨q1, q2, q3, q4⟩ := parts_bounds (s := x.ents.length) (m := 6) (mn := 1) (.inl ⟨rfl, rfl⟩) (by omega)
        have hc : CutsOk 1 6 x.ents.length 0 (cutsN x) := by
          unfold cutsN
          rw [hs, hq]
          have := cutsF_ok (s := x.ents.length) (q := (x.ents.length + 6 - 1) / 6) (m := 6) (mn := 1) (by omega) q2 q3 ((x.ents.length + 6 - 1) / 6) 0 (by omega)
          rwa [beg_zero _ _ (by omega)] at this
        rw [partsL_wt hl _ _ hc, show (cutsN x).length = partsN x from cutsF_length _ _ _ _, hq]
        unfold wt
        rw [if_pos hl, if_neg (by omega)]
        omega
    simp only
    rw [wts_append]
    cases hp : partsL x 0 (cutsN x) with
    | nil =>
      have hq1 : partsN x = 0 := by rw [← hlen, hp]; rfl
      exfalso
      have : 1 ≤ mostN x := by unfold mostN; split <;> omega
      unfold partsN at hq1
      rcases Nat.div_eq_zero_iff.1 hq1 with e | e <;> omega
    | cons y ys =>
      rw [hp] at hsum
      have := wts_set hpn y
      rw [hx] at this
      simp only [List.headD_cons, List.tail_cons, wts] at hsum ⊢
      omega

theorem adopt_wt (ns : List Nd) (p : Int) (i : Nat) (more : List (Int × Int)) : wts (adoptAt ns p i more) = wts ns := by
  unfold adoptAt
  by_cases hpn : p.toNat < ns.length
  · have hx : ns[p.toNat] = nth ns p := by
      unfold nth
      rw [List.getD_eq_getElem?_getD, List.getElem?_eq_getElem hpn]
      rfl
    have := wts_set hpn (adoptN (nth ns p) i more)
    rw [hx] at this
    have e : wt (adoptN (nth ns p) i more) = wt (nth ns p) := rfl
    omega
  · rw [List.set_eq_of_length_le (by omega)]

theorem kidsN_wt {rec : List Nd → Int → List Nd × List (Int × Int)} (hr : ∀ ns p, wts (rec ns p).1 ≤ wts ns) (p : Int) : ∀ (i : Nat) (ns : List Nd), wts (kidsN rec p i ns) ≤ wts ns
  | 0, _ => Nat.le_refl _
  | i + 1, ns => by
    rw [kidsN]
    refine Nat.le_trans (kidsN_wt hr p i _) ?_
    rw [adopt_wt]
    exact hr ns _

theorem splitAllN_wt : ∀ (h : Nat) (ns : List Nd) (p : Int), wts (splitAllN h ns p).1 ≤ wts ns
  | 0, ns, p => splitN_wt ns p
  | h + 1, ns, p => Nat.le_trans (splitN_wt _ p) (kidsN_wt (splitAllN_wt h) p _ ns)

theorem growN_wt : ∀ (f : Nat) (ns : List Nd) (root : Int) (more : List (Int × Int)), wts (growN f ns root more).1 ≤ wts ns
  | 0, _, _, _ => Nat.le_refl _
  | f + 1, ns, root, more => by
    unfold growN
    split
    · exact Nat.le_refl _
    · refine Nat.le_trans (growN_wt f _ _ _) (Nat.le_trans (splitN_wt _ _) ?_)
      rw [wts_append]
      simp [wts, wt, newRoot]

def wtP (ns : List Nd) : List Int → Nat
  | [] => 0
  | n :: P => wt (nth ns n) + wtP ns P

theorem wtP_append (ns : List Nd) : ∀ a b : List Int, wtP ns (a ++ b) = wtP ns a + wtP ns b
  | [], b => by simp [wtP]
  | x :: r, b => by simp only [List.cons_append, wtP, wtP_append ns r b]; omega

theorem wtP_perm {ns : List Nd} {a b : List Int} (h : a.Perm b) : wtP ns a = wtP ns b := by
  induction h with
  | nil => rfl
  | cons x _ ih => simp only [wtP, ih]
  | swap x y l => simp only [wtP]; omega
  | trans _ _ h1 h2 => rw [h1, h2]

theorem wtP_places : ∀ (r pre : List Nd), wtP (pre ++ r) (placesF pre.length r.length) = wts r
  | [], _ => rfl
  | x :: r, pre => by
    have e : nth (pre ++ x :: r) (pre.length : Int) = x := by
      unfold nth
      simp
    have ih := wtP_places r (pre ++ [x])
    rw [List.append_assoc, List.length_append] at ih
    simp only [List.length_cons, placesF, wtP, wts]
    rw [e]
    simp only [List.length_singleton, List.singleton_append] at ih
    rw [ih]

/-- A tree has no more nodes than twice its leaves; each of these weighs. -/
theorem Sub_few {ns : List Nd} : ∀ (h : Nat) (d lo hi : Int) (P : List Int), Sub 6 4 ns h d lo hi P → 3 * (P.length + 1) ≤ wtP ns P
  | 0, d, lo, hi, P, hs => by
    obtain ⟨_, rfl, hl⟩ := hs
    have : wt (nth ns d) = 6 := by
      unfold wt
      rw [if_pos hl.leaf, if_pos hl.most]
    simp [wtP, this]
  | h + 1, d, lo, hi, P, hs => by
    obtain ⟨_, Q, rfl, hin⟩ := hs
    have ih := Sub_few (ns := ns) h
    have : ∀ (L : List (Int × Int)) (lo : Int) (Q : List Int), SubK (Sub 6 4 ns h) lo L Q → 3 * (Q.length + L.length) ≤ wtP ns Q := by
      intro L
      induction L with
      | nil => intro lo Q hQ; cases hQ; simp [wtP]
      | cons p r ihr =>
        obtain ⟨d, u⟩ := p
        rintro lo Q ⟨Q1, Q2, rfl, h1, h2⟩
        have a := ih _ _ _ _ h1
        have b := ihr _ _ h2
        rw [wtP_append]
        simp only [List.length_append, List.length_cons]
        omega
    have a := this _ _ _ hin.kids
    have b : (ups (nth ns d).kids (nth ns d).keys hi).length = (nth ns d).kids.length := by
      have := hin.keys
      simp [ups]
      omega
    have c := hin.two
    simp only [wtP, List.length_cons]
    omega

theorem tree_few {ns : List Nd} {h : Nat} {root : Int} {Q : List Int} (hs : Sub 6 4 ns h root 0 1099511627776 Q) (hp : Q.Perm (placesF 0 ns.length)) : 3 * (ns.length + 1) ≤ wts ns := by
  have a := Sub_few _ _ _ _ _ hs
  have b := wtP_places ns []
  rw [List.nil_append, List.length_nil] at b
  rw [wtP_perm hp, b, placesF_len hp] at a
  exact a

theorem wts_cont : ∀ ns : List Nd, wts ns ≤ (ns.flatMap cont).length + 6 * ns.length
  | [] => by simp [wts]
  | x :: r => by
    have ih := wts_cont r
    have : wt x ≤ x.ents.length + 6 := by
      unfold wt
      split
      · split <;> omega
      · omega
    rw [List.flatMap_cons, wts]
    simp only [List.length_append, List.length_cons, cont]
    omega

end Go.Proofs.Ytlojfgdpmaigmac

/- What Put makes of a tree: in plain terms. -/
namespace Go.Proofs.Ytlojfgdpmaigmac
open Go.RowKit Plain

theorem splitN_le (ns : List Nd) (p : Int) : ns.length ≤ (splitN ns p).1.length := by
  unfold splitN
  split
  · exact Nat.le_refl _
  · simp

theorem growN_le : ∀ (f : Nat) (ns : List Nd) (root : Int) (more : List (Int × Int)), ns.length ≤ (growN f ns root more).1.length
  | 0, _, _, _ => Nat.le_refl _
  | f + 1, ns, root, more => by
    unfold growN
    split
    · exact Nat.le_refl _
    · refine Nat.le_trans ?_ (growN_le f _ _ _)
      refine Nat.le_trans ?_ (splitN_le _ _)
      simp

/-- What grow makes of a tree whose leaves may hold too much. -/
def growAll (h : Nat) (ns : List Nd) (root : Int) : List Nd × Int := growN (splitAllN h ns root).2.length (splitAllN h ns root).1 root (splitAllN h ns root).2

structure GrownOk (ns : List Nd) (h : Nat) (root : Int) : Prop where
  row : RowOk (splitAllN h ns root).1 h root (splitAllN h ns root).2
  fine : (growAll h ns root).1.length ≤ 2000 → treeC (growAll h ns root).1 (growAll h ns root).2 = 0
  cont : ((growAll h ns root).1.flatMap cont).Perm (ns.flatMap cont)
  few : 3 * ((growAll h ns root).1.length + 1) ≤ wts ns
  part : (splitAllN h ns root).1.length + (splitAllN h ns root).2.length ≤ 2 * (growAll h ns root).1.length

theorem grown_ok {T h : Nat} {ns : List Nd} {root : Int} {P : List Int} (hs : Sub T 4 ns h root 0 1099511627776 P) (hp : P.Perm (placesF 0 ns.length)) : GrownOk ns h root := by
  have hnd : P.Nodup := hp.nodup_iff.2 (placesF_nodup _ _)
  have hok := splitAll_ok h ns root _ _ P hs hnd
  have hle := hok.le
  have hfew := hok.few
  have hrow : RowOk (splitAllN h ns root).1 h root (splitAllN h ns root).2 := by
    obtain ⟨Q', a, b⟩ := hok.sub
    refine ⟨Q', a, b.trans ((hp.append_right _).trans ?_)⟩
    have e := placesF_append 0 ns.length ((splitAllN h ns root).1.length - ns.length)
    rw [show ns.length + ((splitAllN h ns root).1.length - ns.length) = (splitAllN h ns root).1.length by omega, Nat.zero_add] at e
    rw [e]
  obtain ⟨⟨h', Q, c1, c2⟩, c3, c4⟩ := grow_ok (splitAllN h ns root).2.length (Nat.le_refl _) hrow
  have hw : wts (growAll h ns root).1 ≤ wts ns := Nat.le_trans (growN_wt _ _ _ _) (splitAllN_wt h ns root)
  have hl := growN_le (splitAllN h ns root).2.length (splitAllN h ns root).1 root (splitAllN h ns root).2
  refine ⟨hrow, fun hz => Sub_treeC c1 c2 hz, c3.trans hok.cont, Nat.le_trans (tree_few c1 c2) hw, ?_⟩
  unfold growAll
  omega

theorem Sub_nodup_ne {T h : Nat} {ns : List Nd} {root lo hi : Int} {P : List Int} (hs : Sub T 4 ns h root lo hi P) : 0 ≤ root ∧ root < ns.length := by
  cases h with
  | zero => exact ⟨hs.1.1, hs.1.2.1⟩
  | succ h => exact ⟨hs.1.1, hs.1.2.1⟩

theorem LeafOk.up {m m' : Nat} {x : Nd} {lo hi : Int} (h : LeafOk m x lo hi) (hm : m ≤ m') : LeafOk m' x lo hi := h.mono hm

theorem Sub_up {m m' mK : Nat} {ns : List Nd} (hm : m ≤ m') : ∀ (h : Nat) (d lo hi : Int) (P : List Int), Sub m mK ns h d lo hi P → Sub m' mK ns h d lo hi P
  | 0, _, _, _, _, hs => ⟨hs.1, hs.2.1, hs.2.2.mono hm⟩
  | h + 1, _, _, _, _, hs => by
    obtain ⟨hr, Q, rfl, hin⟩ := hs
    exact ⟨hr, Q, rfl, hin.imp fun d lo hi Q1 a _ => Sub_up hm h d lo hi Q1 a⟩

theorem cP_all {ns : List Nd} {P : List Int} (hp : P.Perm (placesF 0 ns.length)) : (cP ns P).Perm (ns.flatMap cont) := by
  have h1 : (cP ns P).Perm (cP ns (placesF 0 ns.length)) := hp.flatMap_right _
  have h2 : ∀ (r pre : List Nd), cP (pre ++ r) (placesF pre.length r.length) = r.flatMap cont := by
    intro r
    induction r with
    | nil => intro pre; rfl
    | cons x r ih =>
      intro pre
      have e : nth (pre ++ x :: r) (pre.length : Int) = x := by
        unfold nth
        simp
      have h := ih (pre ++ [x])
      rw [List.append_assoc, List.length_append] at h
      simp only [List.length_singleton, List.singleton_append] at h
      rw [List.length_cons, placesF, cP_cons, e, h, List.flatMap_cons]
  have h3 := h2 ns []
  rw [List.nil_append, List.length_nil] at h3
  rw [h3] at h1
  exact h1

end Go.Proofs.Ytlojfgdpmaigmac

/- A tree in memory of one's own: one list of a node is turned. -/
namespace Go.Proofs.Ytlojfgdpmaigmac
open Go.RowKit Plain

theorem blocks_eq (p : PN) : p.blocks = obk p.eA ++ (obk p.kA ++ (obk p.dA ++ obk p.bA)) := by
  unfold PN.blocks obk
  cases p.eA <;> cases p.kA <;> cases p.dA <;> cases p.bA <;> rfl

theorem flatN_setF (qs : List PN) (k j : Nat) (u : Value) (p : PN) (hk : k < qs.length) (hj : j < 5) (hp : p.vals = (qs[k]).vals.set j u) : (flatN qs).set (k * 5 + j) u = flatN (qs.set k p) := by
  obtain ⟨e1, e2⟩ := set_split qs k p hk
  have hl : (flatN (qs.take k)).length = k * 5 := by rw [flatN_length, List.length_take]; omega
  have hv : (qs[k]).vals.length = 5 := rfl
  rw [e2]
  conv => lhs; rw [e1]
  rw [flatN_append, flatN_append, flatN, flatN, List.set_append_right _ _ (by omega), hl, Nat.add_sub_cancel_left, List.set_append_left _ _ (by omega), hp]

theorem feet_turn {g k B : Nat} {qs : List PN} {p : PN} (hk : k < qs.length) (ha : (feet g qs).Nodup) (hn : p.blocks.Nodup) (hlt : ∀ b ∈ feet g qs, b < B) (hb : ∀ b ∈ p.blocks, b ∈ (qs[k]).blocks ∨ B ≤ b) :
    (feet g (qs.set k p)).Nodup ∧ ∀ b ∈ feet g (qs.set k p), b ∈ feet g qs ∨ B ≤ b := by
  obtain ⟨A, x, D, hq, hset, hx⟩ : ∃ A x D, qs = A ++ x :: D ∧ qs.set k p = A ++ p :: D ∧ qs[k] = x := ⟨_, _, _, (set_split qs k p hk).1, (set_split qs k p hk).2, rfl⟩
  rw [hx] at hb
  rw [hset]
  clear hset hx hk
  subst hq
  unfold feet at *
  simp only [List.flatMap_append, List.flatMap_cons, List.nodup_cons, List.nodup_append, List.mem_append, List.mem_cons, not_or] at *
  obtain ⟨⟨a1, a2, a3⟩, a4, ⟨a5, a6, a7⟩, a8⟩ := ha
  refine ⟨⟨⟨a1, fun h => ?_, a3⟩, a4, ⟨hn, a6, fun b h1 c h2 e => ?_⟩, fun b h1 c h2 e => ?_⟩, fun b h1 => ?_⟩
  · rcases hb g h with h | h
    · exact a2 h
    · have := hlt g (.inl rfl); omega
  · rcases hb b h1 with h | h
    · exact a7 b h c h2 e
    · have := hlt c (.inr (.inr (.inr h2))); omega
  · rcases h2 with h2 | h2
    · rcases hb c h2 with h | h
      · exact a8 b h1 c (.inl h) e
      · have := hlt b (.inr (.inl h1)); omega
    · exact a8 b h1 c (.inr h2) e
  · rcases h1 with h1 | h1 | h1 | h1
    · exact .inl (.inl h1)
    · exact .inl (.inr (.inl h1))
    · rcases hb b h1 with h | h
      · exact .inl (.inr (.inr (.inl h)))
      · exact .inr h
    · exact .inl (.inr (.inr (.inr h1)))

/-- What an entry's way down leaves of the memory. -/
structure SinkMem (base : Nat) (w : World) (g C : Nat) (qs : List PN) (w' : World) (qs' : List PN) : Prop where
  nt : NT base w' g C qs'
  len : qs'.length = qs.length
  kept : Kept (feet g qs) w w'
  fresh : ∀ b ∈ feet g qs', b ∈ feet g qs ∨ w.heap.size ≤ b

theorem SinkMem.trans {base g C : Nat} {w w1 w2 : World} {qs qs1 qs2 : List PN} (h : SinkMem base w g C qs w1 qs1) (k : SinkMem base w1 g C qs1 w2 qs2) : SinkMem base w g C qs w2 qs2 :=
  ⟨k.nt, k.len.trans h.len, h.kept.step k.kept h.fresh, fun b hb => by
    rcases k.fresh b hb with e | e
    · exact h.fresh b e
    · exact .inr (Nat.le_trans h.kept.size e)⟩

theorem SinkMem.of_below {base g C : Nat} {w w1 : World} {qs : List PN} (h : NT base w g C qs) (hb : Below w.heap.size w w1) : SinkMem base w g C qs w1 qs :=
  ⟨h.below hb (Nat.le_refl _), rfl, Kept.of_below hb, fun _ e => .inl e⟩

theorem NT.blocks_nodup {base g C k : Nat} {w : World} {qs : List PN} (h : NT base w g C qs) (hk : k < qs.length) : (qs[k]).blocks.Nodup ∧ (∀ b ∈ (qs[k]).blocks, b ∈ feet g qs) ∧ g ∉ (qs[k]).blocks ∧ ∀ q ∈ qs.take k ++ qs.drop (k + 1), ∀ b ∈ q.blocks, b ∉ (qs[k]).blocks := by
  have ha := h.apart
  obtain ⟨e1, -⟩ := set_split qs k qs[k] hk
  have hm : ∀ b ∈ (qs[k]).blocks, b ∈ feet g qs := fun b hb => List.mem_cons_of_mem _ (List.mem_flatMap.2 ⟨_, List.getElem_mem hk, hb⟩)
  refine ⟨?_, hm, ?_, ?_⟩
  · rw [e1] at ha
    unfold feet at ha
    simp only [List.flatMap_append, List.flatMap_cons, List.nodup_cons, List.nodup_append] at ha
    exact ha.2.2.1.1
  · intro hb
    rw [feet, List.nodup_cons] at ha
    exact ha.1 (List.mem_flatMap.2 ⟨_, List.getElem_mem hk, hb⟩)
  · intro q hq b hb hb2
    rw [e1] at ha
    unfold feet at ha
    simp only [List.flatMap_append, List.flatMap_cons, List.nodup_cons, List.nodup_append] at ha
    obtain ⟨_, _, ⟨_, _, a7⟩, a8⟩ := ha
    rcases List.mem_append.1 hq with hq | hq
    · exact a8 b (List.mem_flatMap.2 ⟨q, hq, hb⟩) b (List.mem_append_left _ hb2) rfl
    · exact a7 b hb2 b (List.mem_flatMap.2 ⟨q, hq, hb⟩) rfl

/-- One list of a node is another one, in its old block or in a new one. -/
theorem NT.turn {base g C k j : Nat} {w w1 : World} {qs : List PN} {p : PN} {u : Value} {A : Option Addr} (h : NT base w g C qs) (hk : k < qs.length) (hj : j < 5) (hp : p.vals = (qs[k]).vals.set j u) (hA : ∀ b ∈ obk A, b ∈ (qs[k]).blocks) (hkept : Kept (obk A) w w1)
    (hnd : p.blocks.Nodup) (hb : ∀ b ∈ p.blocks, b ∈ (qs[k]).blocks ∨ w.heap.size ≤ b) (hown : p.own base w1) : SinkMem base w g C qs (w1.setCell ⟨g, k * 5 + j, none⟩ u) (qs.set k p) := by
  obtain ⟨b1, b2, b3, b4⟩ := h.blocks_nodup hk
  have hfl := h.lt
  have hgA : g ∉ obk A := fun e => b3 (hA g e)
  have hgp : g ∉ p.blocks := fun e => by
    rcases hb g e with e | e
    · exact b3 e
    · have := (hfl g List.mem_cons_self).2; omega
  obtain ⟨f1, f2⟩ := feet_turn hk h.apart hnd (fun b hb => (hfl b hb).2) hb
  have hset : ∀ b, b ≠ g → (w1.setCell ⟨g, k * 5 + j, none⟩ u).heap[b]? = w1.heap[b]? := fun b hb => Below.heap_setCell _ _ _ _ hb
  have hg1 : w1.ownsRow base 62 5 (.slice (some ⟨g, 0, none⟩) qs.length C) qs.length (flatN qs) := own_of_block h.own fun b hb => by
    have e : b = g := by have : g = b := (by simpa [Value.ownBlock] using hb); omega
    subst e
    exact hkept.block _ (hfl _ List.mem_cons_self).2 hgA
  refine ⟨⟨?_, fun q hq => ?_, f1, by simpa using h.z⟩, by simp, ?_, f2⟩
  · rw [← flatN_setF qs k j u p hk hj hp, List.length_set]
    exact own_set hg1 _ _
  · rw [(set_split qs k p hk).2] at hq
    have hq' : q ∈ qs.take k ++ qs.drop (k + 1) ∨ q = p := by
      simp only [List.mem_append, List.mem_cons] at hq ⊢
      rcases hq with e | e | e
      · exact .inl (.inl e)
      · exact .inr e
      · exact .inl (.inr e)
    rcases hq' with hq' | rfl
    · have hqm : q ∈ qs := by
        rcases List.mem_append.1 hq' with e | e
        · exact List.mem_of_mem_take e
        · exact List.mem_of_mem_drop e
      refine (h.each q hqm).of_blocks fun b hbq => ?_
      have hbf : b ∈ feet g qs := List.mem_cons_of_mem _ (List.mem_flatMap.2 ⟨q, hqm, hbq⟩)
      have hbg : b ≠ g := fun e => by
        have ha := h.apart
        rw [feet, List.nodup_cons] at ha
        exact ha.1 (List.mem_flatMap.2 ⟨q, hqm, e ▸ hbq⟩)
      rw [hset b hbg]
      exact hkept.block b (hfl b hbf).2 (fun e => b4 q hq' b hbq (hA b e))
    · exact hown.of_blocks fun b hb => hset b (fun e => hgp (e ▸ hb))
  · exact (hkept.mono fun b hb => b2 b (hA b hb)).set (.inl List.mem_cons_self) _

theorem Moved.lies' {base n size C' : Nat} {t : TypeId} {A A' : Option Addr} {vs : List Value} {w w' : World} (h : Moved base t size n A A' C' vs w w') : ∀ b ∈ obk A', b ∈ obk A ∨ w.heap.size ≤ b := by
  intro k hk
  rw [mem_obk] at hk
  rcases h.lies with e | ⟨k', e, hk'⟩
  · left; rw [mem_obk, ← e]; exact hk
  · rw [e] at hk; cases hk; exact .inr hk'

theorem obk_nodup (A : Option Addr) : (obk A).Nodup := by cases A <;> simp [obk]

theorem nodup_swap {B : Nat} {X X' Y : List Nat} (h : (X ++ Y).Nodup) (hX : X'.Nodup) (hb : ∀ b ∈ X', b ∈ X ∨ B ≤ b) (hlt : ∀ b ∈ Y, b < B) : (X' ++ Y).Nodup := by
  rw [List.nodup_append] at *
  refine ⟨hX, h.2.1, fun a ha b hb2 e => ?_⟩
  rcases hb a ha with q | q
  · exact h.2.2 a q b hb2 e
  · have := hlt b hb2; omega

theorem NT.setEnts {base g C k C' : Nat} {w w1 : World} {qs : List PN} {A' : Option Addr} {l : List En} {q : PN} (h : NT base w g C qs) (hk : k < qs.length) (hqk : qs[k] = q) (hm : Moved base 53 7 l.length q.eA A' C' (flatE l) w w1) (hz : l.length * 56 ≤ 140737488351232) :
    SinkMem base w g C qs (w1.setCell ⟨g, k * 5 + 1, none⟩ (.slice A' l.length C')) (qs.set k { q with ents := l, eA := A', eC := C' }) := by
  obtain ⟨b1, b2, b3, b4⟩ := h.blocks_nodup hk
  have ho := h.each _ (List.getElem_mem hk)
  have hlt := ho.lt
  rw [hqk] at b1 ho hlt
  have hq := blocks_eq q
  rw [hq] at b1
  have hfar : ∀ b, b ∈ obk q.kA ∨ b ∈ obk q.dA ∨ b ∈ obk q.bA → w1.heap[b]? = w.heap[b]? := fun b hb => by
    have hbm : b ∈ obk q.kA ++ (obk q.dA ++ obk q.bA) := by simpa using hb
    refine hm.kept.block b (hlt b (by rw [hq]; exact List.mem_append_right _ hbm)).2 fun e => ?_
    exact (List.nodup_append.1 b1).2.2 b e b hbm rfl
  refine h.turn (A := q.eA) hk (by decide) (by rw [hqk]; rfl) (fun b hb => by rw [hqk, hq]; simp [hb]) hm.kept ?_ ?_ ?_
  · rw [blocks_eq]
    exact nodup_swap b1 (obk_nodup _) hm.lies' (fun b hb => (hlt b (by rw [hq]; exact List.mem_append_right _ hb)).2)
  · intro b hb
    rw [hqk, hq]
    rw [blocks_eq] at hb
    rcases List.mem_append.1 hb with hb | hb
    · rcases hm.lies' b hb with e | e
      · exact .inl (List.mem_append_left _ e)
      · exact .inr e
    · exact .inl (List.mem_append_right _ hb)
  · exact ⟨hm.own, own_of_block ho.k fun b hb => hfar b (.inl (obk_of hb)), own_of_block ho.d fun b hb => hfar b (.inr (.inl (obk_of hb))), own_of_block ho.b fun b hb => hfar b (.inr (.inr (obk_of hb))), hz, ho.kz, ho.dz, ho.bz⟩

theorem NT.setBuf {base g C k C' : Nat} {w w1 : World} {qs : List PN} {A' : Option Addr} {l : List En} {q : PN} (h : NT base w g C qs) (hk : k < qs.length) (hqk : qs[k] = q) (hmo : w1.ownsRow base 53 7 (.slice A' l.length C') l.length (flatE l)) (hmk : Kept (obk q.bA) w w1) (hml : ∀ b ∈ obk A', b ∈ obk q.bA ∨ w.heap.size ≤ b) (hz : l.length * 56 ≤ 140737488351232) :
    SinkMem base w g C qs (w1.setCell ⟨g, k * 5 + 4, none⟩ (.slice A' l.length C')) (qs.set k { q with buf := l, bA := A', bC := C' }) := by
  obtain ⟨b1, b2, b3, b4⟩ := h.blocks_nodup hk
  have ho := h.each _ (List.getElem_mem hk)
  have hlt := ho.lt
  rw [hqk] at b1 ho hlt
  have hq : ∀ b, b ∈ q.blocks ↔ b ∈ obk q.bA ++ (obk q.eA ++ (obk q.kA ++ obk q.dA)) := fun b => by
    rw [blocks_eq]
    simp only [List.mem_append]
    constructor
    · rintro (h | h | h | h)
      · exact .inr (.inl h)
      · exact .inr (.inr (.inl h))
      · exact .inr (.inr (.inr h))
      · exact .inl h
    · rintro (h | h | h | h)
      · exact .inr (.inr (.inr h))
      · exact .inl h
      · exact .inr (.inl h)
      · exact .inr (.inr (.inl h))
  have hperm : ∀ X : List Nat, (obk q.eA ++ (obk q.kA ++ (obk q.dA ++ X))).Perm (X ++ (obk q.eA ++ (obk q.kA ++ obk q.dA))) := fun X => by
    have e : obk q.eA ++ (obk q.kA ++ (obk q.dA ++ X)) = (obk q.eA ++ (obk q.kA ++ obk q.dA)) ++ X := by simp
    rw [e]
    exact List.perm_append_comm
  have b1' : (obk q.bA ++ (obk q.eA ++ (obk q.kA ++ obk q.dA))).Nodup := by
    rw [blocks_eq] at b1
    exact (hperm _).nodup_iff.1 b1
  have hfar : ∀ b, b ∈ obk q.eA ∨ b ∈ obk q.kA ∨ b ∈ obk q.dA → w1.heap[b]? = w.heap[b]? := fun b hb => by
    have hbm : b ∈ obk q.eA ++ (obk q.kA ++ obk q.dA) := by simpa using hb
    refine hmk.block b (hlt b ((hq b).2 (List.mem_append_right _ hbm))).2 fun e => ?_
    exact (List.nodup_append.1 b1').2.2 b e b hbm rfl
  refine h.turn (A := q.bA) hk (by decide) (by rw [hqk]; rfl) (fun b hb => by rw [hqk, hq]; simp [hb]) hmk ?_ ?_ ?_
  · rw [blocks_eq]
    refine (hperm _).nodup_iff.2 ?_
    exact nodup_swap b1' (obk_nodup _) hml (fun b hb => (hlt b ((hq b).2 (List.mem_append_right _ hb))).2)
  · intro b hb
    rw [hqk, hq]
    rw [blocks_eq] at hb
    have hb := (hperm _).mem_iff.1 hb
    rcases List.mem_append.1 hb with hb | hb
    · rcases hml b hb with e | e
      · exact .inl (List.mem_append_left _ e)
      · exact .inr e
    · exact .inl (List.mem_append_right _ hb)
  · exact ⟨own_of_block ho.e fun b hb => hfar b (.inl (obk_of hb)), own_of_block ho.k fun b hb => hfar b (.inr (.inl (obk_of hb))), own_of_block ho.d fun b hb => hfar b (.inr (.inr (obk_of hb))), hmo, ho.ez, ho.kz, ho.dz, hz⟩

end Go.Proofs.Ytlojfgdpmaigmac

/- A node of a tree in memory of one's own adopts the siblings of a kid. -/
namespace Go.Proofs.Ytlojfgdpmaigmac
open Go.RowKit Plain

theorem own_split {w : World} {base g C n : Nat} {e : TypeId} {size : Nat} {vs : List Value} (h : w.ownsRow base e size (.slice (some ⟨g, 0, none⟩) n C) n vs) : ∃ cur : List Value, RowL w g e cur ∧ cur.length = C * size ∧ cur.take (n * size) = vs ∧ n ≤ C ∧ C ≤ maxLen ∧ base ≤ g := by
  rcases h.2 with ⟨hv, _⟩ | ⟨g', cap, cur, hv, hb, hg, hl, hm, hs, ht⟩
  · cases hv
  · cases hv
    exact ⟨cur.toList, by unfold RowL; rw [hg], by simpa using hs, ht, hl, hm, hb⟩

theorem own_glue {w : World} {base g C n : Nat} {e : TypeId} {size : Nat} {vs cur : List Value} (hr : RowL w g e cur) (hl : cur.length = C * size) (ht : cur.take (n * size) = vs) (hn : n ≤ C) (hm : C ≤ maxLen) (hb : base ≤ g) (hv : vs.length = n * size) : w.ownsRow base e size (.slice (some ⟨g, 0, none⟩) n C) n vs :=
  ⟨hv, .inr ⟨g, C, cur.toArray, rfl, hb, hr, hn, hm, by simpa using hl, by simpa using ht⟩⟩

theorem keysAt_all (keys : List Int) (i : Nat) (more : List (Int × Int)) : keysAt keys i more more.length = keys.take i ++ more.map (·.1) ++ keys.drop i := by unfold keysAt; rw [List.take_length]
theorem kidsAt_all (kids : List Int) (i : Nat) (more : List (Int × Int)) : kidsAt kids i more more.length = kids.take (i + 1) ++ more.map (·.2) ++ kids.drop (i + 1) := by unfold kidsAt; rw [List.take_length]

theorem nodup_swap2 {B : Nat} {E K D K' D' X : List Nat} (h : (E ++ (K ++ (D ++ X))).Nodup) (hK : K'.Nodup) (hD : D'.Nodup) (hKD : ∀ b ∈ K', b ∉ D') (hk : ∀ b ∈ K', b ∈ K ∨ B ≤ b) (hd : ∀ b ∈ D', b ∈ D ∨ B ≤ b) (hlt : ∀ b ∈ E ++ (K ++ (D ++ X)), b < B) : (E ++ (K' ++ (D' ++ X))).Nodup := by
  simp only [List.nodup_append, List.mem_append] at h hlt ⊢
  obtain ⟨hE, ⟨_, ⟨_, hX, hDX⟩, hKDX⟩, hEK⟩ := h
  refine ⟨hE, ⟨hK, ⟨hD, hX, fun a ha b hb e => ?_⟩, fun a ha b hb e => ?_⟩, fun a ha b hb e => ?_⟩
  · rcases hd a ha with q | q
    · exact hDX a q b hb e
    · have := hlt b (.inr (.inr (.inr hb))); omega
  · rcases hb with hb | hb
    · exact hKD a ha (e ▸ hb)
    · rcases hk a ha with q | q
      · exact hKDX a q b (.inr hb) e
      · have := hlt b (.inr (.inr (.inr hb))); omega
  · rcases hb with hb | hb | hb
    · rcases hk b hb with q | q
      · exact hEK a ha b (.inl q) e
      · have := hlt a (.inl ha); omega
    · rcases hd b hb with q | q
      · exact hEK a ha b (.inr (.inl q)) e
      · have := hlt a (.inl ha); omega
    · exact hEK a ha b (.inr (.inr hb)) e

theorem adoptT (base tb g C : Nat) (qs : List PN) (root : Int) (k i : Nat) (mA : Option Addr) (mC : Nat) (more : List (Int × Int)) (w : World) (hT : TB base w tb g C qs root) (hk : k < qs.length) (hi : i < (qs[k]).kids.length) (hkl : (qs[k]).keys.length + 1 = (qs[k]).kids.length) (hB : base ≤ w.heap.size) (hm : RowAt w.heap.size w mA (flatS more)) (hmb : ∀ a, mA = some a → a.block ∉ feet g qs) (hz : ((qs[k]).kids.length + more.length + 1) * 8 ≤ 140737488351232) :
    Calls Try.prog 48 #[.pointer (some ⟨g, k * 5, none⟩), .int .i64 (i : Int), .slice mA more.length mC] w
      fun e w' => e = .returned (.tuple #[]) ∧ ∃ qs', TB base w' tb g C qs' root ∧ qs'.map PN.nd = adoptAt (qs.map PN.nd) (k : Int) i more ∧ qs'.length = qs.length ∧ Kept (feet g qs) w w' ∧ ∀ b ∈ feet g qs', b ∈ feet g qs ∨ w.heap.size ≤ b := by
  obtain ⟨b1, b2, b3, b4⟩ := hT.nt.blocks_nodup hk
  have ho := hT.nt.each _ (List.getElem_mem hk)
  have hlt := ho.lt
  have hfl := hT.nt.lt
  have hx := nth_map hk
  obtain ⟨cur, hrow, hcl, hct, hnC, hCm, hbg⟩ := own_split hT.nt.own
  obtain ⟨q, hq⟩ : ∃ q, qs[k] = q := ⟨_, rfl⟩
  have hcell : ∀ j, j < 5 → ∀ u, q.vals[j]? = some u → cur[k * 5 + j]? = some u := fun j hj u hu => by
    have := flatN_get qs k j hk hj
    rw [← hct, List.getElem?_take, if_pos (by omega), hq] at this
    rw [this]; exact hu
  rw [hq] at b1 b2 b3 b4 ho hlt hi hkl hz hx
  have hbe := blocks_eq q
  have hset2 : cur.set (k * 5 + 2) (.slice q.kA q.keys.length q.kC) = cur := by
    have h := hcell 2 (by decide) _ rfl
    obtain ⟨h1, h2⟩ := List.getElem?_eq_some_iff.1 h
    rw [← h2, List.set_getElem_self]
  have hset3 : cur.set (k * 5 + 3) (.slice q.dA q.kids.length q.dC) = cur := by
    have h := hcell 3 (by decide) _ rfl
    obtain ⟨h1, h2⟩ := List.getElem?_eq_some_iff.1 h
    rw [← h2, List.set_getElem_self]
  have hgk : g ∉ obk q.kA := fun e => b3 (by rw [hbe]; simp [e])
  have hgd : g ∉ obk q.dA := fun e => b3 (by rw [hbe]; simp [e])
  have hkd : ∀ b ∈ obk q.kA, b ∉ obk q.dA := fun b h1 h2 => by
    rw [hbe] at b1
    simp only [List.nodup_append, List.mem_append] at b1
    exact b1.2.1.2.2 b h1 b (.inl h2) rfl
  have hA : AdAt base w g (k * 5) 62 cur q.kA q.dA w q.kA q.kC q.keys q.dA q.dC q.kids :=
    ⟨by rw [hset2, hset3]; exact hrow, ho.k, ho.d, Kept.refl _ _, fun _ h => .inl h, fun _ h => .inl h, hkd, hgk, hgd⟩
  refine (adopt_any base g (k * 5) 62 cur q.kA q.kC q.keys q.dA q.dC q.kids i mA mC more w hA (by rw [hcl]; omega) hB hm (fun a ha => ?_) (by omega) (by omega) (by omega) hz).mono ?_
  · have := hmb a ha
    intro e
    simp only [List.cons_append, List.mem_cons, List.mem_append] at e
    rcases e with e | e | e
    · exact this (e ▸ List.mem_cons_self)
    · exact this (b2 _ (by rw [hbe]; simp [e]))
    · exact this (b2 _ (by rw [hbe]; simp [e]))
  · rintro e w' ⟨rfl, kA', kC', dA', dC', hA'⟩
    rw [keysAt_all, kidsAt_all] at hA'
    have hkl' : (q.keys.take i ++ more.map (·.1) ++ q.keys.drop i).length = q.keys.length + more.length := by simp; omega
    have hdl' : (q.kids.take (i + 1) ++ more.map (·.2) ++ q.kids.drop (i + 1)).length = q.kids.length + more.length := by simp; omega
    generalize hK : q.keys.take i ++ more.map (·.1) ++ q.keys.drop i = keys' at hA' hkl'
    generalize hD : q.kids.take (i + 1) ++ more.map (·.2) ++ q.kids.drop (i + 1) = kids' at hA' hdl'
    obtain ⟨p, hp⟩ : ∃ p : PN, p = { q with keys := keys', kA := kA', kC := kC', kids := kids', dA := dA', dC := dC' } := ⟨_, rfl⟩
    have hpb : p.blocks = obk q.eA ++ (obk kA' ++ (obk dA' ++ obk q.bA)) := by rw [blocks_eq, hp]
    have hblk : ∀ b ∈ p.blocks, b ∈ q.blocks ∨ w.heap.size ≤ b := by
      intro b hb
      rw [hpb] at hb
      rw [hbe]
      simp only [List.mem_append] at hb ⊢
      rcases hb with e | e | e | e
      · exact .inl (.inl e)
      · rcases hA'.lk b e with e | e
        · exact .inl (.inr (.inl e))
        · exact .inr e
      · rcases hA'.ld b e with e | e
        · exact .inl (.inr (.inr (.inl e)))
        · exact .inr e
      · exact .inl (.inr (.inr (.inr e)))
    have hnd : p.blocks.Nodup := by
      rw [hpb]
      rw [hbe] at b1 hlt
      exact nodup_swap2 b1 (obk_nodup _) (obk_nodup _) hA'.ne hA'.lk hA'.ld (fun b hb => (hlt b hb).2)
    obtain ⟨f1, f2⟩ := feet_turn (p := p) (B := w.heap.size) hk hT.nt.apart hnd (fun b hb => (hfl b hb).2) (by rw [hq]; exact hblk)
    have hfar : ∀ b, b ∈ feet g qs → b ≠ g → b ∉ obk q.kA → b ∉ obk q.dA → w'.heap[b]? = w.heap[b]? := fun b h1 h2 h3 h4 => hA'.kept.block b (hfl b h1).2 (by simp [h2, h3, h4])
    have hkept : Kept (feet g qs) w w' := hA'.kept.mono fun b hb => by
      simp only [List.cons_append, List.mem_cons, List.mem_append] at hb
      rcases hb with rfl | e | e
      · exact List.mem_cons_self
      · exact b2 _ (by rw [hbe]; simp [e])
      · exact b2 _ (by rw [hbe]; simp [e])
    have hgn : ∀ b ∈ q.blocks, b ≠ g := fun b hb e => b3 (e ▸ hb)
    refine ⟨rfl, qs.set k p, ⟨⟨?_, fun s hs => ?_, f1, by simpa using hT.nt.z⟩, ?_, ?_, hT.hb⟩, ?_, by simp, hkept, f2⟩
    · have e1 : p.vals = (q.vals.set 2 (.slice kA' keys'.length kC')).set 3 (.slice dA' kids'.length dC') := by rw [hp]; rfl
      have e2 : flatN (qs.set k p) = ((flatN qs).set (k * 5 + 2) (.slice kA' keys'.length kC')).set (k * 5 + 3) (.slice dA' kids'.length dC') := by
        obtain ⟨p1, hp1⟩ : ∃ p1 : PN, p1 = { q with keys := keys', kA := kA', kC := kC' } := ⟨_, rfl⟩
        have s1 := flatN_setF qs k 2 (.slice kA' keys'.length kC') p1 hk (by decide) (by rw [hq, hp1]; rfl)
        have s2 := flatN_setF (qs.set k p1) k 3 (.slice dA' kids'.length dC') p (by simpa using hk) (by decide) (by rw [List.getElem_set_self, hp, hp1]; rfl)
        rw [s1, s2, List.set_set]
      rw [e2, List.length_set]
      refine own_glue hA'.row (by simp [hcl]) ?_ hnC hCm hbg (by simp [flatN_length])
      rw [List.take_set, List.take_set, hct]
    · rw [(set_split qs k p hk).2] at hs
      have hs' : s ∈ qs.take k ++ qs.drop (k + 1) ∨ s = p := by
        simp only [List.mem_append, List.mem_cons] at hs ⊢
        rcases hs with e | e | e
        · exact .inl (.inl e)
        · exact .inr e
        · exact .inl (.inr e)
      rcases hs' with hs' | rfl
      · have hsm : s ∈ qs := by
          rcases List.mem_append.1 hs' with e | e
          · exact List.mem_of_mem_take e
          · exact List.mem_of_mem_drop e
        refine (hT.nt.each s hsm).of_blocks fun b hbs => ?_
        have hbf : b ∈ feet g qs := List.mem_cons_of_mem _ (List.mem_flatMap.2 ⟨s, hsm, hbs⟩)
        have hbg' : b ≠ g := fun e => by
          have ha := hT.nt.apart
          rw [feet, List.nodup_cons] at ha
          exact ha.1 (List.mem_flatMap.2 ⟨s, hsm, e ▸ hbs⟩)
        have hbq := b4 s hs' b hbs
        rw [hbe] at hbq
        simp only [List.mem_append, not_or] at hbq
        exact hfar b hbf hbg' hbq.2.1 hbq.2.2.1
      · have hrest : ∀ b, b ∈ obk q.eA ∨ b ∈ obk q.bA → w'.heap[b]? = w.heap[b]? := fun b hb => by
          have hbq : b ∈ q.blocks := by rw [hbe]; rcases hb with e | e <;> simp [e]
          rw [hbe] at b1
          simp only [List.nodup_append, List.mem_append] at b1
          refine hfar b (b2 b hbq) (hgn b hbq) (fun e => ?_) (fun e => ?_)
          · rcases hb with q1 | q1
            · exact b1.2.2 b q1 b (.inl e) rfl
            · exact b1.2.1.2.2 b e b (.inr q1) rfl
          · rcases hb with q1 | q1
            · exact b1.2.2 b q1 b (.inr (.inl e)) rfl
            · exact b1.2.1.2.1.2.2 b e b q1 rfl
        rw [hp]
        exact ⟨own_of_block ho.e fun b hb => hrest b (.inl (obk_of hb)), hA'.ok, hA'.od, own_of_block ho.b fun b hb => hrest b (.inr (obk_of hb)), ho.ez, by show keys'.length * 8 ≤ _; omega, by show kids'.length * 8 ≤ _; omega, ho.bz⟩
    · rw [List.length_set]
      exact hkept.row hT.box (fun e => hT.ne e)
    · intro e
      rcases f2 _ e with e | e
      · exact hT.ne e
      · have := hT.box.lt; omega
    · rw [List.map_set]
      unfold adoptAt
      rw [hx]
      show (qs.map PN.nd).set k p.nd = (qs.map PN.nd).set ((k : Int).toNat) (adoptN q.nd i more)
      congr 1
      rw [hp]
      unfold adoptN PN.nd
      simp only
      rw [hK, hD]

end Go.Proofs.Ytlojfgdpmaigmac

/- The walk of Of of package tree. -/
namespace Go.Proofs.Ytlojfgdpmaigmac
open Go.RowKit Plain

set_option maxHeartbeats 1000000 in
theorem checkEntry_any (key c s lo hi t l : Int) (w : World) :
    Calls Try.prog 28 #[.int .i64 key, .agg #[.int .i64 c, .int .i64 s, .int .i64 lo, .int .i64 hi, .int .i64 t, .int .i64 l]] w fun e w' => e = .returned (.int .i64 (entC ⟨key, c, s, lo, hi, t, l⟩)) ∧ Below w.heap.size w w' := by
  by_cases h1 : inB key 0 1099511627775 = true
  · by_cases h3 : c = 0
    · have E : Hid (entC ⟨key, c, s, lo, hi, t, l⟩ = 2) := by show _ = _; simp [entC, h3]
      subst h3
      go_enter Try.func28, Try.ntmps28
      go_wp2_with (first | (go_at_call 17; refine (kibO_any _ _).mono ?_; rintro e w1 ⟨rfl, h5⟩; subst w1))
      go_ret
      exact ⟨ret_int E.out.symm, (Below.refl _ _).alloc (Nat.le_refl _) _⟩
    · have h3' : (c == 0) = false := by simpa using h3
      have E : Hid (entC ⟨key, c, s, lo, hi, t, l⟩ = checkC c s lo hi t l) := by show _ = _; simp [entC, h1, h3]
      clear h3
      go_enter Try.func28, Try.ntmps28
      go_wp2_with (first | (go_at_call 17; refine (kibO_any _ _).mono ?_; rintro e w1 ⟨rfl, h5⟩; subst w1) | (go_at_call 31; refine (check_any _ _ _ _ _ _ _).mono ?_; rintro e w1 ⟨rfl, hb1⟩))
      go_ret
      exact ⟨ret_int E.out.symm, nextB ((Below.refl _ _).alloc (Nat.le_refl _) _) (Nat.le_refl _) hb1⟩
  · have h1' : inB key 0 1099511627775 = false := by simpa using h1
    have E : Hid (entC ⟨key, c, s, lo, hi, t, l⟩ = 2) := by show _ = _; simp [entC, h1]
    clear h1
    go_enter Try.func28, Try.ntmps28
    go_wp2_with (first | (go_at_call 17; refine (kibO_any _ _).mono ?_; rintro e w1 ⟨rfl, h5⟩; subst w1))
    go_ret
    exact ⟨ret_int E.out.symm, (Below.refl _ _).alloc (Nat.le_refl _) _⟩

set_option maxHeartbeats 400000 in
theorem newT_any (w : World) : Calls Try.prog 13 #[] w fun e w' => ∃ g, e = .returned (.agg #[.slice (some ⟨g, 0, none⟩) 1 1, .int .i64 0]) ∧ w.heap.size ≤ g ∧ RowL w' g 62 [.bool true, .slice none 0 0, .slice none 0 0, .slice none 0 0, .slice none 0 0] ∧ Below w.heap.size w w' := by
  go_enter Try.func13, Try.ntmps13
  go_wp2
  refine bodyPost_ret (v := .agg #[.slice (some ⟨w.heap.size + 1, 0, none⟩) 1 1, .int .i64 0]) (by simp [results, Try.results13, go_sem]) rfl ⟨w.heap.size + 1, rfl, by omega, ?_, two_below _ _ _⟩
  have h := rowL_alloc (w.alloc (.cells #[.slice (some ⟨w.heap.size + 1, 0, none⟩) 1 1, .int .i64 0] 26)) [.bool true, .slice none 0 0, .slice none 0 0, .slice none 0 0, .slice none 0 0] 62
  rwa [show (w.alloc (.cells #[.slice (some ⟨w.heap.size + 1, 0, none⟩) 1 1, .int .i64 0] 26)).heap.size = w.heap.size + 1 by simp] at h

theorem grow_z (base g C : Nat) (qs : List PN) (k : Nat) (z : Int) (n : Nat) (hz : Hid (z = (k : Int))) (hn : Hid (qs.length = n)) (ns1 : List Nd) (more1 : List (Int × Int)) (h1 : Nat) (R : List Nd × Int) (w : World) (hN : NT base w g C qs) (hB : base ≤ w.heap.size)
    (hcon : Hid (∀ (W : World) (tb : Nat), TB base W tb g C qs (k : Int) → base ≤ W.heap.size → Calls Try.prog 47 #[.pointer (some ⟨tb, 0, none⟩), .int .i64 (k : Int)] W fun e w' => ∃ vm g' C' qs', e = .returned vm ∧ GrowTo base W tb g qs (k : Int) ns1 more1 w' vm g' C' qs'))
    (hrow : more1 = [] ∨ RowOk ns1 h1 (k : Int) more1) (hfew : ns1.length + more1.length ≤ 999999) (hR : growN more1.length ns1 (k : Int) more1 = R) :
    Calls Try.prog 30 #[.agg #[.slice (some ⟨g, 0, none⟩) n C, .int .i64 z]] w
      fun e w' => Kept (feet g qs) w w' ∧ ((2000 < R.1.length ∧ e = .returned (.tuple #[.agg #[.slice none 0 0, .int .i64 0], .int .i64 1])) ∨
        (R.1.length ≤ 2000 ∧ ∃ g' C' qs', e = .returned (.tuple #[.agg #[.slice (some ⟨g', 0, none⟩) qs'.length C', .int .i64 R.2], .int .i64 0]) ∧ NT base w' g' C' qs' ∧ qs'.map PN.nd = R.1 ∧ ∀ b ∈ feet g' qs', b ∈ feet g qs ∨ w.heap.size ≤ b)) := by
  have e1 : z = (k : Int) := hz.out
  have e2 : qs.length = n := hn.out
  subst e1 e2
  exact grow_any base g C qs k ns1 more1 h1 R w hN hB hcon hrow hfew hR

/-- The variable in which the answer will lie. -/
structure ResAt (w wr : World) : Prop where
  row : RowL wr w.heap.size 26 [.slice none 0 0, .int .i64 0]

theorem ResAt.cells {w wr : World} (h : ResAt w wr) : wr.cell? ⟨w.heap.size, 0, none⟩ = some (.slice none 0 0) ∧ wr.cell? ⟨w.heap.size, 1, none⟩ = some (.int .i64 0) ∧ (∀ j, wr.frozen? ⟨w.heap.size, j, none⟩ = false) ∧ w.heap.size < wr.heap.size :=
  ⟨h.row.cell 0, h.row.cell 1, h.row.frozen, h.row.lt⟩

theorem of_next {w wr w1 : World} {o : Obj} {n : Nat} (hb : Below w.heap.size w wr) (hr : ResAt w wr) (hb1 : Below ((wr.alloc o).drewN n).heap.size ((wr.alloc o).drewN n) w1) : Below w.heap.size w w1 ∧ ResAt w w1 := by
  have h1 : Below wr.heap.size wr w1 := nextB (below_drewN ((Below.refl _ _).alloc (Nat.le_refl _) _) _) (Nat.le_refl _) hb1
  exact ⟨nextB hb (Nat.le_refl _) h1, ⟨hr.row.below h1 hr.row.lt⟩⟩

theorem of_res {w wr : World} (hr : ResAt w wr) : (∀ (o : Obj) (n : Nat), ((wr.alloc o).drewN n).cell? ⟨w.heap.size, 0, none⟩ = some (.slice none 0 0)) ∧ ∀ (o : Obj) (n : Nat), ((wr.alloc o).drewN n).cell? ⟨w.heap.size, 1, none⟩ = some (.int .i64 0) := by
  have hb : ∀ (o : Obj) (n : Nat), Below wr.heap.size wr ((wr.alloc o).drewN n) := fun o n => below_drewN ((Below.refl _ _).alloc (Nat.le_refl _) _) _
  exact ⟨fun o n => ((hb o n).cell (p := ⟨w.heap.size, 0, none⟩) hr.row.lt).trans (hr.row.cell 0), fun o n => ((hb o n).cell (p := ⟨w.heap.size, 1, none⟩) hr.row.lt).trans (hr.row.cell 1)⟩

/-- What Of may answer. -/
def OfP (xs : List En) (w : World) (e : Ending) (w' : World) : Prop :=
  Below w.heap.size w w' ∧
  ((∃ c : Int, c ≠ 0 ∧ e = .returned (.tuple #[.agg #[.slice none 0 0, .int .i64 0], .int .i64 c]) ∧ (c = faultE xs ∨ (faultE xs = 0 ∧ c = 1 ∧ 2900 < xs.length))) ∨
   (faultE xs = 0 ∧ ∃ g C' qs root, e = .returned (.tuple #[.agg #[.slice (some ⟨g, 0, none⟩) qs.length C', .int .i64 root], .int .i64 0]) ∧ NodesAt w'.heap.size w' (some ⟨g, 0, none⟩) qs ∧ treeC (qs.map PN.nd) root = 0 ∧ ((qs.map PN.nd).flatMap cont).Perm xs))

def leafPN (A : Option Addr) (C : Nat) (xs : List En) : PN := ⟨true, A, C, xs, none, 0, [], none, 0, [], none, 0, []⟩

theorem of_mem {w wr w1 w2 : World} {g C2 : Nat} {A2 : Option Addr} {xs : List En} {o : Obj} (hb : Below w.heap.size w wr) (hr : ResAt w wr) (hg : wr.heap.size ≤ g) (hrow : RowL w1 g 62 [.bool true, .slice none 0 0, .slice none 0 0, .slice none 0 0, .slice none 0 0]) (hb1 : Below wr.heap.size wr w1)
    (hb2 : Below ((w1.alloc o).drew).heap.size ((w1.alloc o).drew) w2) (o2 : w2.ownsRow ((w1.alloc o).drew).heap.size 53 7 (.slice A2 xs.length C2) xs.length (flatE xs)) (hz : xs.length * 56 ≤ 140737488351232) :
    NT (w.heap.size + 1) (w2.setCell ⟨g, 1, none⟩ (.slice A2 xs.length C2)) g 1 [leafPN A2 C2 xs] ∧ Below w.heap.size w (w2.setCell ⟨g, 1, none⟩ (.slice A2 xs.length C2)) ∧ ResAt w (w2.setCell ⟨g, 1, none⟩ (.slice A2 xs.length C2)) ∧ w.heap.size < g := by
  have hgl := hrow.lt
  have hwg : w.heap.size < g := Nat.lt_of_lt_of_le hr.row.lt hg
  have h12 : Below w1.heap.size w1 w2 := nextB ((Below.refl _ _).alloc (Nat.le_refl _) _).drew (Nat.le_refl _) hb2
  have hw2 : Below w.heap.size w w2 := nextB (nextB hb (Nat.le_refl _) hb1) (Nat.le_refl _) h12
  have hrow2 := hrow.below h12 hgl
  have hrow3 : RowL (w2.setCell ⟨g, 1, none⟩ (.slice A2 xs.length C2)) g 62 (flatN [leafPN A2 C2 xs]) := hrow2.set 1 (.slice A2 xs.length C2)
  have hge : ∀ b, (Value.slice A2 xs.length C2).ownBlock = some b → w1.heap.size < b := fun b hb => by
    have := (o2.lt b hb).1
    simp only [World.size_drew, World.size_alloc] at this
    omega
  have hob : ∀ b, b ≠ g → (w2.setCell ⟨g, 1, none⟩ (.slice A2 xs.length C2)).heap[b]? = w2.heap[b]? := fun b hb => Below.heap_setCell _ _ _ _ hb
  refine ⟨⟨⟨rfl, .inr ⟨g, 1, (flatN [leafPN A2 C2 xs]).toArray, rfl, hwg, hrow3, Nat.le_refl _, by decide, rfl, rfl⟩⟩, ?_, ?_, by show 1 * 104 ≤ _; decide⟩, hw2.setCell (p := ⟨g, 1, none⟩) (Nat.le_of_lt hwg) _, ⟨?_⟩, hwg⟩
  · intro q hq
    obtain rfl : q = leafPN A2 C2 xs := by simpa using hq
    refine ⟨?_, World.ownsRow_nil _ _ _ _, World.ownsRow_nil _ _ _ _, World.ownsRow_nil _ _ _ _, hz, by show 0 * 8 ≤ _; decide, by show 0 * 8 ≤ _; decide, by show 0 * 56 ≤ _; decide⟩
    have hs := hw2.size
    refine own_of_block (own_mono o2 ?_) fun b hb => hob b (by have := hge b hb; omega)
    simp only [World.size_drew, World.size_alloc]
    have := hb1.size
    have := hb.size
    omega
  · unfold feet PN.blocks leafPN
    cases A2 with
    | none => simp
    | some a =>
      have := hge a.block rfl
      simp
      omega
  · have hrl := hr.row.lt
    have h1 := hb1.size
    have r1 := hr.row.below hb1 hrl
    exact (r1.below h12 (by omega)).of_block (hob _ (by omega))

theorem leaf_pre {xs : List En} (h : faultE xs = 0) (hz : xs.length ≤ 12000) : SplitPre (leafOf xs) := by
  by_cases hne : xs = []
  · subst hne
    exact ⟨by decide, fun h => absurd h (by decide)⟩
  · have := Top_pre (leaf_top h hne)
    rw [nth_leaf] at this
    exact this (by rw [(leaf_size xs).1]; omega)

theorem of_con {base g C2 : Nat} {A2 : Option Addr} {xs : List En} (h : faultE xs = 0) (hz : xs.length ≤ 12000) : ∀ (W : World) (tb : Nat), TB base W tb g 1 [leafPN A2 C2 xs] ((0 : Nat) : Int) → base ≤ W.heap.size → Calls Try.prog 47 #[.pointer (some ⟨tb, 0, none⟩), .int .i64 ((0 : Nat) : Int)] W
    fun e w' => ∃ vm g' C' qs', e = .returned vm ∧ GrowTo base W tb g [leafPN A2 C2 xs] ((0 : Nat) : Int) (splitN [leafOf xs] 0).1 (splitN [leafOf xs] 0).2 w' vm g' C' qs' := by
  intro W tb hT hB
  have hp := (leaf_size xs).2.2
  refine (splitAll_leaf base tb g 1 [leafPN A2 C2 xs] ((0 : Nat) : Int) 0 W hT (by simp) (leaf_pre h hz) hB ?_ rfl).mono ?_
  · show (1 + partsN (leafOf xs) + 1) * 104 ≤ 140737488351232
    rw [hp]
    exact Nat.le_trans (Nat.mul_le_mul_right 104 (show _ ≤ 10000 by omega)) (by decide)
  · rintro e w' ⟨vm, g', C', qs', rfl, hs⟩
    exact ⟨vm, g', C', qs', rfl, hs.grow⟩

theorem of_few {xs : List En} (hz : xs.length ≤ 12000) : (splitN [leafOf xs] 0).1.length + (splitN [leafOf xs] 0).2.length ≤ 999999 := by
  have := leaf_split xs
  omega

theorem of_res4 {w W3 w4 : World} {g C2 : Nat} {A2 : Option Addr} {xs : List En} (h : NT (w.heap.size + 1) W3 g 1 [leafPN A2 C2 xs] ∧ Below w.heap.size w W3 ∧ ResAt w W3 ∧ w.heap.size < g) (hk : Kept (feet g [leafPN A2 C2 xs]) W3 w4) : Below w.heap.size w w4 ∧ ResAt w w4 := by
  obtain ⟨hN, hb, hr, _⟩ := h
  have hb4 : Below w.heap.size W3 w4 := hk.below hb.size (fun x hx => by have := (hN.lt x hx).1; omega)
  refine ⟨hb.trans hb4, ⟨hk.row hr.row ?_⟩⟩
  intro e
  have := (hN.lt _ e).1
  omega

theorem of_many {xs : List En} (h : faultE xs = 0) (hb : 2000 < (ofN xs).1.length) : 2900 < xs.length := by
  have := ofN_len xs h
  omega

theorem of_nodes {w w4 : World} {g C : Nat} {qs : List PN} (hN : NT (w.heap.size + 1) w4 g C qs) (v0 v1 : Value) : NodesAt ((w4.setCell ⟨w.heap.size, 0, none⟩ v0).setCell ⟨w.heap.size, 1, none⟩ v1).heap.size ((w4.setCell ⟨w.heap.size, 0, none⟩ v0).setCell ⟨w.heap.size, 1, none⟩ v1) (some ⟨g, 0, none⟩) qs := by
  have h : NT (w.heap.size + 1) ((w4.setCell ⟨w.heap.size, 0, none⟩ v0).setCell ⟨w.heap.size, 1, none⟩ v1) g C qs := hN.of_blocks fun b hb => by
    have hne : b ≠ w.heap.size := by have := (hN.lt b hb).1; omega
    exact (Below.heap_setCell _ _ _ _ hne).trans (Below.heap_setCell _ _ _ _ hne)
  exact h.nodes

end Go.Proofs.Ytlojfgdpmaigmac
