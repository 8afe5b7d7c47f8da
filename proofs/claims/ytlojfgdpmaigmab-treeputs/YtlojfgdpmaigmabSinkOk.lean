/- What goes down a tree: each step, in plain terms. -/
import Derived.Test.YtlojfgdpmaigmabP34
import Derived.Test.YtlojfgdpmaigmabGrowAll
namespace Go.Proofs.Ytlojfgdpmaigmab
open Go.RowKit Plain

def InvK (s : Ru × Int) : Prop := s = (zro, 0) ∨ (Good s.1 ∧ s.2 = 0) ∨ s.2 ≠ 0

theorem stepK_inv {s : Ru × Int} {x : En} (h : InvK s) (hx : Good x.ru) : InvK (stepK s x) ∧ ((stepK s x).2 = 0 → s.2 = 0 ∧ (stepK s x).1.c = s.1.c + x.c) := by
  unfold stepK
  rcases h with rfl | ⟨hg, h0⟩ | h0
  · rw [if_pos rfl, mrg_zro hx]
    exact ⟨.inr (.inl ⟨hx, rfl⟩), fun _ => ⟨rfl, by show x.c = 0 + x.c; omega⟩⟩
  · rw [if_pos h0, mrg_good hg hx]
    by_cases hc : s.1.c + x.ru.c ≤ 1073741824
    · rw [if_pos hc]
      exact ⟨.inr (.inl ⟨good_jn hg hx hc, rfl⟩), fun _ => ⟨h0, rfl⟩⟩
    · rw [if_neg hc]
      exact ⟨.inr (.inr (by decide)), fun h => absurd h (by decide)⟩
  · rw [if_neg h0]
    exact ⟨.inr (.inr h0), fun h => absurd h h0⟩

theorem stepK_cnt {k : Int} : ∀ (xs : List En) (s : Ru × Int), (∀ x ∈ xs, x.key = k ∧ Good x.ru) → InvK s → InvK (xs.foldl stepK s) ∧ ((xs.foldl stepK s).2 = 0 → s.2 = 0 ∧ (xs.foldl stepK s).1.c = s.1.c + cntK k xs)
  | [], s, _, h => ⟨h, fun h0 => ⟨h0, by simp [cntK]⟩⟩
  | x :: xs, s, hx, h => by
    obtain ⟨a, b⟩ := stepK_inv h (hx x List.mem_cons_self).2
    obtain ⟨c, d⟩ := stepK_cnt xs (stepK s x) (fun y hy => hx y (List.mem_cons_of_mem _ hy)) a
    refine ⟨c, fun h0 => ?_⟩
    obtain ⟨d1, d2⟩ := d h0
    obtain ⟨b1, b2⟩ := b d1
    refine ⟨b1, ?_⟩
    rw [List.foldl_cons, d2, b2, cntK, if_pos (hx x List.mem_cons_self).1]
    omega

theorem cntK_filter (k : Int) : ∀ l : List En, cntK k (l.filter (inR k (k + 1))) = cntK k l
  | [] => rfl
  | y :: r => by
    rw [List.filter_cons]
    by_cases h : y.key = k
    · rw [if_pos (by simp [inR, h]; omega), cntK, cntK, cntK_filter k r]
    · rw [if_neg (by simp [inR]; omega), cntK, if_neg h, cntK_filter k r]
      omega

/-- What a node knows of a key comes together: so it does if there is less. -/
theorem known_cnt {T m h : Nat} {ns : List Nd} {p lo hi : Int} {P : List Int} {k : Int} (hs : Sub T m ns h p lo hi P) (hh : h < 12) {s : Ru × Int} (e : (Wl ns k (k + 1) 12 p).foldl stepK (zro, 0) = s) : InvK s ∧ (s.2 = 0 → s.1.c = cntK k (cP ns P)) := by
  have hw : Wl ns k (k + 1) 12 p = (cP ns P).filter (inR k (k + 1)) := Sub_Wl h 12 p lo hi P hs hh
  obtain ⟨a, b⟩ := stepK_cnt (k := k) (Wl ns k (k + 1) 12 p) (zro, 0) (fun x hx => by
    rw [hw] at hx
    obtain ⟨h1, h2⟩ := List.mem_filter.1 hx
    have h3 : k ≤ x.key ∧ x.key < k + 1 := by simpa [inR] using h2
    exact ⟨by omega, (Sub_cont h p lo hi P hs x h1).2⟩) (.inl rfl)
  rw [e] at a b
  refine ⟨a, fun h0 => ?_⟩
  obtain ⟨_, b2⟩ := b h0
  rw [b2, hw, cntK_filter]
  show 0 + _ = _
  omega

theorem inv_most {s : Ru × Int} (h : InvK s) (h0 : s.2 = 0) : s.1.c ≤ 1073741824 := by
  rcases h with rfl | ⟨hg, _⟩ | h
  · decide
  · exact (good_iff.1 hg).1.2
  · exact absurd h0 h

/-- An entry went into a node, or below it. -/
structure SinkOk (T : Nat) (ns ns' : List Nd) (h : Nat) (p lo hi : Int) (P : List Int) (x : En) : Prop where
  sub : Sub T 4 ns' h p lo hi P
  len : ns'.length = ns.length
  same : ∀ n, n ∉ P → 0 ≤ n → nth ns' n = nth ns n
  eqv : Eqv (x :: cP ns P) (cP ns' P)
  few : (cP ns' P).length ≤ (cP ns P).length + 1

theorem leaf_sink {T : Nat} {ns : List Nd} {p lo hi : Int} {P : List Int} {x : En} (hs : Sub T 4 ns 0 p lo hi P) (hx : entB x lo hi = true) (hc : cntK x.key (cP ns P) + x.c ≤ 1073741824) (hT : (cP ns P).length + 1 ≤ T) :
    SinkOk T ns (ns.set p.toNat { nth ns p with ents := withE (nth ns p).ents x }) 0 p lo hi P x := by
  obtain ⟨hr, rfl, hl⟩ := hs
  have ec : cP ns [p] = (nth ns p).ents := by simp [cP, cont, hl.buf]
  rw [ec] at hc hT
  have hw := withE_ok hl.ents hx hc
  have hn := nth_set_self (y := { nth ns p with ents := withE (nth ns p).ents x }) hr.1 hr.2.1
  have hlen : (withE (nth ns p).ents x).length ≤ (nth ns p).ents.length + 1 := by rw [hw.len]; split <;> omega
  have ec' : cP (ns.set p.toNat { nth ns p with ents := withE (nth ns p).ents x }) [p] = withE (nth ns p).ents x := by
    rw [cP_cons, hn]
    simp [cP, cont, hl.buf]
  refine ⟨⟨⟨hr.1, by simpa using hr.2.1, hr.2.2⟩, rfl, ?_⟩, by simp, fun n hn0 h0 => nth_set_far hr.1 h0 (by simpa using hn0), ?_, ?_⟩
  · rw [hn]
    exact ⟨hl.leaf, hl.keys, hl.kids, hl.buf, hw.ne, by show (withE _ _).length ≤ T; omega, hw.ents⟩
  · rw [ec, ec']
    exact hw.eqv
  · rw [ec, ec']
    exact hlen

/-- The node's list of what waits is another one. -/
theorem Sub_setBuf {T h : Nat} {ns : List Nd} {p lo hi : Int} {P : List Int} {b : List En} (hs : Sub T 4 ns (h + 1) p lo hi P) (hP : P.Nodup) (hb : entsB b lo hi = true) (hf : b.length ≤ 8) :
    Sub T 4 (ns.set p.toNat { nth ns p with buf := b }) (h + 1) p lo hi P ∧ ∃ Q, P = p :: Q ∧ cP ns P = (nth ns p).buf ++ cP ns Q ∧ cP (ns.set p.toNat { nth ns p with buf := b }) P = b ++ cP ns Q := by
  obtain ⟨hr, Q, rfl, hin⟩ := hs
  have hn := nth_set_self (y := { nth ns p with buf := b }) hr.1 hr.2.1
  rw [List.nodup_cons] at hP
  have hQr := SubK_range hin.kids
  have hfar : ∀ n ∈ Q, nth (ns.set p.toNat { nth ns p with buf := b }) n = nth ns n := fun n hnQ => nth_set_far hr.1 (hQr n hnQ).1 (fun e => hP.1 (e ▸ hnQ))
  refine ⟨⟨⟨hr.1, by simpa using hr.2.1, hr.2.2⟩, Q, rfl, ?_⟩, Q, rfl, ?_, ?_⟩
  · rw [hn]
    exact ⟨hin.leaf, hin.ents, hin.two, hin.most, hin.keys, hf, hb, SubK_imp hin.kids fun d l u Q' q1 q2 => Sub_congr h d l u Q' q1 fun n hnQ => ⟨hfar n (q2 n hnQ), by simpa using (hQr n (q2 n hnQ)).2⟩⟩
  · rw [cP_cons]
    simp [cont, hin.ents]
  · rw [cP_cons, hn, cP_congr hfar]
    simp [cont, hin.ents]

theorem buf_sink {T h : Nat} {ns : List Nd} {p lo hi : Int} {P : List Int} {x : En} (hs : Sub T 4 ns (h + 1) p lo hi P) (hP : P.Nodup) (hx : entB x lo hi = true) (hc : cntK x.key (cP ns P) + x.c ≤ 1073741824) (hw : hasK (nth ns p).buf x.key = true ∨ (nth ns p).buf.length < 8) :
    SinkOk T ns (ns.set p.toNat { nth ns p with buf := withE (nth ns p).buf x }) (h + 1) p lo hi P x := by
  have hpos := Sub_pos hs
  obtain ⟨hr, Q, rfl, hin⟩ := hs
  have hQpos : Pos (cP ns Q) := by rw [cP_cons] at hpos; exact hpos.right
  have hcb : cntK x.key (nth ns p).buf + x.c ≤ 1073741824 := by
    have e : cP ns (p :: Q) = (nth ns p).buf ++ cP ns Q := by rw [cP_cons]; simp [cont, hin.ents]
    rw [e, cntK_append] at hc
    have := cntK_nn (k := x.key) hQpos
    omega
  have hwe := withE_ok hin.buf hx hcb
  have hlen : (withE (nth ns p).buf x).length ≤ 8 := by
    rw [hwe.len]
    have := hin.few
    rcases hw with e | e
    · rw [if_pos e]; exact this
    · split <;> omega
  have hlen2 : (withE (nth ns p).buf x).length ≤ (nth ns p).buf.length + 1 := by rw [hwe.len]; split <;> omega
  obtain ⟨s1, Q', hQ, e1, e2⟩ := Sub_setBuf (b := withE (nth ns p).buf x) ⟨hr, Q, rfl, hin⟩ hP hwe.ents hlen
  obtain rfl : Q = Q' := by simpa using hQ
  refine ⟨s1, by simp, fun n hn0 h0 => nth_set_far hr.1 h0 (fun e => hn0 (by simp [e])), ?_, ?_⟩
  · rw [e1, e2]
    exact hwe.eqv.app hQpos
  · rw [e1, e2]
    simp
    omega

theorem kid_sink {T h : Nat} {ns ns' : List Nd} {p lo hi l u d : Int} {P Qa Qd Qb : List Int} {x : En} (hs : Sub T 4 ns (h + 1) p lo hi P) (hP : P = p :: (Qa ++ Qd ++ Qb)) (hnd : P.Nodup)
    (hre : ∀ ns', ns'.length = ns.length → (∀ n, n ∉ Qd → 0 ≤ n → nth ns' n = nth ns n) → Sub T 4 ns' h d l u Qd → Sub T 4 ns' (h + 1) p lo hi P) (hk : SinkOk T ns ns' h d l u Qd x) : SinkOk T ns ns' (h + 1) p lo hi P x := by
  have hpos := Sub_pos hs
  have hrg := Sub_range _ _ _ _ _ hs
  subst hP
  have hnd2 := hnd
  rw [List.nodup_cons, List.nodup_append, List.nodup_append] at hnd
  obtain ⟨hpn, ⟨na, nd, nad⟩, nb, nab⟩ := hnd
  have e : ∀ ns : List Nd, cP ns (p :: (Qa ++ Qd ++ Qb)) = cont (nth ns p) ++ cP ns Qa ++ cP ns Qd ++ cP ns Qb := fun ns => by rw [cP_cons, cP_append, cP_append]; simp
  have c1 : nth ns' p = nth ns p := hk.same p (fun e => hpn (by simp [e])) (hrg p (by simp)).1
  have c2 : cP ns' Qa = cP ns Qa := cP_congr fun n hn => hk.same n (fun e => nad n hn n e rfl) (hrg n (by simp [hn])).1
  have c3 : cP ns' Qb = cP ns Qb := cP_congr fun n hn => hk.same n (fun e => nab n (List.mem_append_right _ e) n hn rfl) (hrg n (by simp [hn])).1
  refine ⟨hre ns' hk.len (fun n h1 h2 => hk.same n h1 h2) hk.sub, hk.len, fun n hn h0 => hk.same n (fun e => hn (by simp [e])) h0, ?_, ?_⟩
  · rw [e] at hpos
    rw [e, e, c1, c2, c3]
    have h1 := (hk.eqv.app hpos.right).app_left hpos.left.left
    refine Eqv.trans (Eqv.of_perm ?_ ?_) (h1.trans (Eqv.of_perm ?_ h1.posm))
    · generalize cont (nth ns p) ++ cP ns Qa = A
      show (x :: (A ++ cP ns Qd ++ cP ns Qb)).Perm (A ++ ((x :: cP ns Qd) ++ cP ns Qb))
      rw [List.append_assoc]
      exact (List.perm_middle (a := x) (l₁ := A) (l₂ := cP ns Qd ++ cP ns Qb)).symm
    · intro z hz
      rcases List.mem_cons.1 hz with rfl | hz
      · exact hk.eqv.posl _ List.mem_cons_self
      · exact hpos z hz
    · rw [List.append_assoc, List.append_assoc, List.append_assoc]
  · have := hk.few
    rw [e, e, c1, c2, c3]
    simp only [List.length_append]
    omega

theorem entsB_filter {hi : Int} (f : En → Bool) : ∀ {l : List En} {lo : Int}, entsB l lo hi = true → entsB (l.filter f) lo hi = true
  | [], _, _ => rfl
  | x :: r, lo, h => by
    simp only [entsB, Bool.and_eq_true] at h
    have h1 := entB_iff.1 h.1
    have ih := entsB_filter f h.2
    rw [List.filter_cons]
    split
    · simp only [entsB, Bool.and_eq_true]
      exact ⟨h.1, ih⟩
    · exact entsB_mono ih (by omega)

/-- What waited goes down: what is left to go. -/
structure DownOk (T : Nat) (ns ns' : List Nd) (h : Nat) (p lo hi : Int) (P : List Int) (rest : List En) : Prop where
  sub : Sub T 4 ns' (h + 1) p lo hi P
  len : ns'.length = ns.length
  same : ∀ n, n ∉ P → 0 ≤ n → nth ns' n = nth ns n
  eqv : Eqv (cP ns P) (rest ++ cP ns' P)
  few : (cP ns' P).length + rest.length ≤ (cP ns P).length
  keys : (nth ns' p).keys = (nth ns p).keys
  kids : (nth ns' p).kids = (nth ns p).kids

theorem down_start {T h : Nat} {ns : List Nd} {p lo hi : Int} {P : List Int} (hs : Sub T 4 ns (h + 1) p lo hi P) (hP : P.Nodup) (f : En → Bool) :
    DownOk T ns (ns.set p.toNat { nth ns p with buf := (nth ns p).buf.filter fun x => !f x }) h p lo hi P ((nth ns p).buf.filter f) := by
  have hpos := Sub_pos hs
  have hr := hs.1
  have hin := hs.2
  obtain ⟨Q0, hQ0, hin⟩ := hin
  have hfl : ((nth ns p).buf.filter fun x => !f x).length ≤ 8 := Nat.le_trans (List.length_filter_le _ _) hin.few
  obtain ⟨s1, Q, rfl, e1, e2⟩ := Sub_setBuf (b := (nth ns p).buf.filter fun x => !f x) hs hP (entsB_filter _ hin.buf) hfl
  have hperm : ((nth ns p).buf.filter f ++ (nth ns p).buf.filter fun x => !f x).Perm (nth ns p).buf := List.filter_append_perm f _
  have hn := nth_set_self (y := { nth ns p with buf := (nth ns p).buf.filter fun x => !f x }) hr.1 hr.2.1
  refine ⟨s1, by simp, fun n hn0 h0 => nth_set_far hr.1 h0 (fun e => hn0 (by simp [e])), ?_, ?_, by rw [hn], by rw [hn]⟩
  · rw [e1] at hpos
    rw [e1, e2, ← List.append_assoc]
    exact Eqv.of_perm (hperm.symm.append_right _) hpos
  · rw [e1, e2]
    have := hperm.length_eq
    simp only [List.length_append] at this ⊢
    omega

theorem down_step {T h : Nat} {ns ns1 ns2 : List Nd} {p lo hi : Int} {P : List Int} {x : En} {rest : List En} (hd : DownOk T ns ns1 h p lo hi P (x :: rest)) (hk : SinkOk T ns1 ns2 (h + 1) p lo hi P x) (hkeys : (nth ns2 p).keys = (nth ns1 p).keys) (hkids : (nth ns2 p).kids = (nth ns1 p).kids) : DownOk T ns ns2 h p lo hi P rest := by
  have hp := hd.eqv.posm
  have hpr : Pos rest := fun y hy => hp y (by simp [hy])
  refine ⟨hk.sub, hk.len.trans hd.len, fun n h1 h2 => (hk.same n h1 h2).trans (hd.same n h1 h2), ?_, ?_, hkeys.trans hd.keys, hkids.trans hd.kids⟩
  · refine hd.eqv.trans (Eqv.trans (Eqv.of_perm ?_ hp) (hk.eqv.app_left hpr))
    exact (List.perm_middle (a := x) (l₁ := rest) (l₂ := cP ns1 P)).symm
  · have h1 := hd.few
    have h2 := hk.few
    simp only [List.length_cons] at h1
    omega

end Go.Proofs.Ytlojfgdpmaigmab
