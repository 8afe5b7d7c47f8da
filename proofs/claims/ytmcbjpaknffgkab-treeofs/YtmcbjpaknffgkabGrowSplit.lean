/- A node that is split: what stands there then. -/
import Derived.Test.YtmcbjpaknffgkabGrowCut
namespace Go.Proofs.Ytmcbjpaknffgkab
open Go.RowKit Plain

def sizeN (x : Nd) : Nat := if x.leaf = true then x.ents.length else x.kids.length
def mostN (x : Nd) : Nat := if x.leaf = true then 6 else 4
def partsN (x : Nd) : Nat := (sizeN x + mostN x - 1) / mostN x

/-- From the i-th cut on, k of them. -/
def cutsF (s q : Nat) : Nat → Nat → List Nat
  | _, 0 => []
  | i, k + 1 => beg s q (i + 1) :: cutsF s q (i + 1) k

def placesF (N : Nat) : Nat → List Int
  | 0 => []
  | k + 1 => (N : Int) :: placesF (N + 1) k

theorem placesF_length : ∀ (N k : Nat), (placesF N k).length = k
  | _, 0 => rfl
  | N, k + 1 => by simp [placesF, placesF_length (N + 1) k]

theorem placesF_mem : ∀ {N k : Nat} {n : Int}, n ∈ placesF N k ↔ (N : Int) ≤ n ∧ n < N + k
  | N, 0, n => by simp [placesF]
  | N, k + 1, n => by
    simp only [placesF, List.mem_cons]
    rw [placesF_mem]
    omega

theorem placesF_nodup : ∀ (N k : Nat), (placesF N k).Nodup
  | _, 0 => List.nodup_nil
  | N, k + 1 => by
    rw [placesF, List.nodup_cons]
    refine ⟨fun h => ?_, placesF_nodup (N + 1) k⟩
    have := placesF_mem.1 h
    omega

theorem placesF_append : ∀ (N a b : Nat), placesF N (a + b) = placesF N a ++ placesF (N + a) b
  | N, 0, b => by simp [placesF]
  | N, a + 1, b => by
    rw [show a + 1 + b = (a + b) + 1 by omega, placesF, placesF, placesF_append (N + 1) a b, show N + 1 + a = N + (a + 1) by omega]
    rfl

/-- The list of the cuts. -/
def cutsN (x : Nd) : List Nat := cutsF (sizeN x) (partsN x) 0 (partsN x)

def splitN (ns : List Nd) (p : Int) : List Nd × List (Int × Int) :=
  if sizeN (nth ns p) ≤ mostN (nth ns p) then (ns, [])
  else (ns.set p.toNat ((partsL (nth ns p) 0 (cutsN (nth ns p))).headD default) ++ (partsL (nth ns p) 0 (cutsN (nth ns p))).tail, (keysL (nth ns p) (cutsN (nth ns p))).zip (placesF ns.length (partsN (nth ns p) - 1)))

theorem cutsF_ok {s q m mn : Nat} (hq : 1 ≤ q) (hm : s ≤ q * m) (hmn : q * mn ≤ s) : ∀ (k i : Nat), i + k = q → CutsOk mn m s (beg s q i) (cutsF s q i k)
  | 0, i, h => by
    obtain rfl : i = q := by omega
    exact beg_last s i hq
  | k + 1, i, h => by
    obtain ⟨h1, h2⟩ := beg_next s q i m mn hq hm hmn
    exact ⟨h1, h2, cutsF_ok hq hm hmn k (i + 1) (by omega)⟩

theorem cutsF_length (s q : Nat) : ∀ (k i : Nat), (cutsF s q i k).length = k
  | 0, _ => rfl
  | k + 1, i => by simp [cutsF, cutsF_length s q k (i + 1)]

theorem parts_bounds {s m mn : Nat} (hm : mn = 1 ∧ m = 6 ∨ mn = 2 ∧ m = 4) (hs : m < s) : 2 ≤ (s + m - 1) / m ∧ s ≤ ((s + m - 1) / m) * m ∧ ((s + m - 1) / m) * mn ≤ s ∧ (s + m - 1) / m ≤ s := by
  rcases hm with ⟨rfl, rfl⟩ | ⟨rfl, rfl⟩ <;> omega

theorem partsL_length (x : Nd) : ∀ (bs : List Nat) (a : Nat), (partsL x a bs).length = bs.length
  | [], _ => rfl
  | b :: bs, _ => by simp [partsL, partsL_length x bs b]

theorem keysL_length (x : Nd) : ∀ (bs : List Nat), (keysL x bs).length = bs.length - 1
  | [] => rfl
  | [_] => rfl
  | b :: c :: bs => by
    have := keysL_length x (c :: bs)
    simp [keysL, this]

def At (ns : List Nd) : List Int → List Nd → Prop
  | [], [] => True
  | d :: ds, x :: xs => (nth ns d = x ∧ 0 ≤ d ∧ d < ns.length) ∧ At ns ds xs
  | _, _ => False

theorem nth_append_left {A B : List Nd} {n : Int} (h0 : 0 ≤ n) (h : n < A.length) : nth (A ++ B) n = nth A n := by
  unfold nth
  rw [List.getD_eq_getElem?_getD, List.getD_eq_getElem?_getD, List.getElem?_append_left (by omega)]

theorem At_tail : ∀ (xs A : List Nd), At (A ++ xs) (placesF A.length xs.length) xs
  | [], _ => trivial
  | x :: xs, A => by
    refine ⟨⟨?_, by omega, by simp; omega⟩, ?_⟩
    · unfold nth
      simp
    · have := At_tail xs (A ++ [x])
      rw [List.append_assoc, List.length_append] at this
      exact this

/-- Parts that stand at their places are kids in a row. -/
theorem pcs_sub {ns' : List Nd} {h : Nat} {hi : Int} {G : Nd → Int → Int → List Int → Prop} {Z : List Int} (hG : ∀ d x lo hi Q, (∀ n ∈ Q, n ∈ Z) → lo < hi → G x lo hi Q → nth ns' d = x → 0 ≤ d → d < ns'.length → Sub 6 4 ns' h d lo hi (d :: Q)) :
    ∀ (xs : List Nd) (ds : List Int) (lo : Int) (ks : List Int) (Qs : List (List Int)), PcsOk G hi lo xs ks Qs → At ns' ds xs → (∀ Q ∈ Qs, ∀ n ∈ Q, n ∈ Z) → ∃ Q', SubK (Sub 6 4 ns' h) lo (ups ds ks hi) Q' ∧ Q'.Perm (ds ++ Qs.flatten)
  | [], _, _, _, _, hp, _, _ => hp.elim
  | [x], ds, lo, ks, Qs, hp, ha, hz => by
    obtain ⟨rfl, Q, rfl, hlt, hg⟩ := hp
    match ds, ha with
    | [d], ha =>
      refine ⟨d :: Q, ⟨d :: Q, [], by simp, hG d x lo hi Q (hz Q (by simp)) hlt hg ha.1.1 ha.1.2.1 ha.1.2.2, rfl⟩, by simp⟩
  | x :: y :: xs, ds, lo, ks, Qs, hp, ha, hz => by
    obtain ⟨k, ks', Q, Qs', rfl, rfl, hlt, hg, hp'⟩ := hp
    match ds, ha with
    | d :: ds, ha =>
      obtain ⟨Q', h1, h2⟩ := pcs_sub hG (y :: xs) ds k ks' Qs' hp' ha.2 (fun Q hQ => hz Q (List.mem_cons_of_mem _ hQ))
      refine ⟨d :: Q ++ Q', ⟨d :: Q, Q', rfl, hG d x lo k Q (hz Q (by simp)) hlt hg ha.1.1 ha.1.2.1 ha.1.2.2, h1⟩, ?_⟩
      show (d :: (Q ++ Q')).Perm (d :: (ds ++ (Q ++ Qs'.flatten)))
      exact ((h2.append_left Q).trans (List.perm_append_comm_assoc _ _ _)).cons d

theorem set_split {α : Type} (l : List α) (i : Nat) (y : α) (hi : i < l.length) : l = l.take i ++ l[i] :: l.drop (i + 1) ∧ l.set i y = l.take i ++ y :: l.drop (i + 1) := by
  constructor
  · rw [← List.drop_eq_getElem_cons hi, List.take_append_drop]
  · exact List.set_eq_take_append_cons_drop ▸ by simp [hi]

/-- What split leaves. -/
structure SplitOk (ns ns' : List Nd) (h : Nat) (p lo hi : Int) (P : List Int) (more : List (Int × Int)) : Prop where
  sub : ∃ Q', SubK (Sub 6 4 ns' h) lo (ups (p :: more.map (·.2)) (more.map (·.1)) hi) Q' ∧ Q'.Perm (P ++ placesF ns.length (ns'.length - ns.length))
  le : ns.length ≤ ns'.length
  same : ∀ n, n ∉ P → 0 ≤ n → n < ns.length → nth ns' n = nth ns n
  cont : (ns'.flatMap cont).Perm (ns.flatMap cont)
  few : more.length ≤ ns'.length - ns.length

theorem set_cont {ns xs : List Nd} {i : Nat} {y : Nd} (hi : i < ns.length) (h : (cont y ++ xs.flatMap cont).Perm (cont ns[i])) : ((ns.set i y ++ xs).flatMap cont).Perm (ns.flatMap cont) := by
  obtain ⟨e1, e2⟩ := set_split ns i y hi
  rw [e2]
  conv => rhs; rw [e1]
  simp only [List.flatMap_append, List.flatMap_cons, List.append_assoc]
  refine List.Perm.append_left _ ?_
  refine List.Perm.trans ?_ (h.append_right _)
  rw [List.append_assoc]
  exact List.Perm.append_left _ List.perm_append_comm

theorem nth_set_ne {ns xs : List Nd} {p n : Int} {y : Nd} (hp : 0 ≤ p) (h0 : 0 ≤ n) (hn : n < ns.length) (hne : n ≠ p) : nth (ns.set p.toNat y ++ xs) n = nth ns n := by
  rw [nth_append_left h0 (by simpa using hn)]
  unfold nth
  rw [List.getD_eq_getElem?_getD, List.getD_eq_getElem?_getD, List.getElem?_set_ne (by omega)]

theorem zip_split {ks ps : List Int} (h : ks.length = ps.length) : (ks.zip ps).map (·.1) = ks ∧ (ks.zip ps).map (·.2) = ps := by
  constructor
  · exact List.map_fst_zip (by omega)
  · exact List.map_snd_zip (by omega)

theorem split_pcs {ns : List Nd} {p : Int} {h : Nat} {lo hi : Int} {Q : List Int} {x : Nd} {G : Nd → Int → Int → List Int → Prop} {bs : List Nat} {Qs : List (List Int)} {q : Nat} (hx : nth ns p = x) (hp0 : 0 ≤ p) (hp1 : p < ns.length)
    (hbs : bs.length = q) (hq : 2 ≤ q) (hQ : Q = Qs.flatten) (hP : PcsOk G hi lo (partsL x 0 bs) (keysL x bs) Qs) (hC : ((partsL x 0 bs).flatMap cont).Perm (cont x))
    (hG : ∀ ns' : List Nd, (∀ n, n ≠ p → 0 ≤ n → n < ns.length → nth ns' n = nth ns n) → ns.length ≤ ns'.length → ∀ d x lo hi Q1, (∀ n ∈ Q1, n ∈ Q) → lo < hi → G x lo hi Q1 → nth ns' d = x → 0 ≤ d → d < ns'.length → Sub 6 4 ns' h d lo hi (d :: Q1)) :
    SplitOk ns (ns.set p.toNat ((partsL x 0 bs).headD default) ++ (partsL x 0 bs).tail) h p lo hi (p :: Q) ((keysL x bs).zip (placesF ns.length (q - 1))) := by
  have hlen := partsL_length x bs 0
  have hkl := keysL_length x bs
  obtain ⟨e1, e2⟩ := zip_split (ks := keysL x bs) (ps := placesF ns.length (q - 1)) (by rw [hkl, placesF_length, hbs])
  cases hps : partsL x 0 bs with
  | nil => rw [hps] at hlen; simp at hlen; omega
  | cons y xs =>
    rw [hps] at hlen hP hC
    have hxl : xs.length = q - 1 := by simp at hlen; omega
    simp only [List.headD_cons, List.tail_cons]
    have hsl : (ns.set p.toNat y).length = ns.length := by simp
    have hsame : ∀ n, n ≠ p → 0 ≤ n → n < ns.length → nth (ns.set p.toNat y ++ xs) n = nth ns n := fun n a b c => nth_set_ne hp0 b c a
    have hle : ns.length ≤ (ns.set p.toNat y ++ xs).length := by simp
    have hat : At (ns.set p.toNat y ++ xs) (p :: placesF ns.length (q - 1)) (y :: xs) := by
      refine ⟨⟨?_, hp0, by simp; omega⟩, ?_⟩
      · rw [nth_append_left hp0 (by simpa using hp1)]
        unfold nth
        rw [List.getD_eq_getElem?_getD, List.getElem?_set_self (by omega)]
        rfl
      · have := At_tail xs (ns.set p.toNat y)
        rw [hsl, hxl] at this
        exact this
    obtain ⟨Q', h1, h2⟩ := pcs_sub (Z := Q) (hG _ hsame hle) (y :: xs) (p :: placesF ns.length (q - 1)) lo (keysL x bs) Qs hP hat (fun Q1 hQ1 n hn => by rw [hQ]; exact List.mem_flatten.2 ⟨Q1, hQ1, hn⟩)
    have hdl : (ns.set p.toNat y ++ xs).length - ns.length = q - 1 := by simp; omega
    refine ⟨⟨Q', ?_, ?_⟩, hle, fun n hn => hsame n (fun e => hn (by simp [e])), ?_, ?_⟩
    · rw [e1, e2]
      exact h1
    · rw [hdl, hQ]
      refine h2.trans ?_
      show (p :: (placesF ns.length (q - 1) ++ Qs.flatten)).Perm (p :: (Qs.flatten ++ placesF ns.length (q - 1)))
      exact List.perm_append_comm.cons p
    · refine set_cont (by omega) ?_
      have : ns[p.toNat]'(by omega) = x := by
        rw [← hx]
        unfold nth
        rw [List.getD_eq_getElem?_getD, List.getElem?_eq_getElem (by omega)]
        rfl
      rw [this]
      exact hC
    · rw [hdl, List.length_zip, hkl, placesF_length]
      omega

theorem split_ok {mL mK : Nat} {ns : List Nd} {h : Nat} {p lo hi : Int} {P : List Int} (ht : Top mL mK ns h p lo hi P) (hn : P.Nodup) : SplitOk ns (splitN ns p).1 h p lo hi P (splitN ns p).2 := by
  cases h with
  | zero =>
    obtain ⟨⟨hp0, hp1, hlh⟩, rfl, hl⟩ := ht
    unfold splitN
    have hs : sizeN (nth ns p) = (nth ns p).ents.length := by simp [sizeN, hl.leaf]
    have hm : mostN (nth ns p) = 6 := by simp [mostN, hl.leaf]
    split
    · rename_i hle
      rw [hs, hm] at hle
      exact ⟨⟨[p], ⟨[p], [], by simp, ⟨⟨hp0, hp1, hlh⟩, rfl, hl.leaf, hl.keys, hl.kids, hl.buf, hl.ne, hle, hl.ents⟩, rfl⟩, by simp [placesF]⟩, Nat.le_refl _, fun _ _ _ _ => rfl, List.Perm.refl _, by simp⟩
    · rename_i hgt
      rw [hs, hm] at hgt
      obtain ⟨b1, b2, b3, b4⟩ := parts_bounds (s := (nth ns p).ents.length) (.inl ⟨rfl, rfl⟩) (by omega)
      have hpn : partsN (nth ns p) = ((nth ns p).ents.length + 6 - 1) / 6 := by rw [partsN, hs, hm]
      rw [← hpn] at b1 b2 b3 b4
      have hcut : CutsOk 1 6 (nth ns p).ents.length 0 (cutsN (nth ns p)) := by
        have := cutsF_ok (s := (nth ns p).ents.length) (q := partsN (nth ns p)) (m := 6) (mn := 1) (by omega) b2 b3 (partsN (nth ns p)) 0 (by omega)
        rw [beg_zero _ _ (by omega)] at this
        unfold cutsN
        rw [hs]
        exact this
      have hbl : (cutsN (nth ns p)).length = partsN (nth ns p) := by unfold cutsN; exact cutsF_length _ _ _ _
      obtain ⟨hP, hC⟩ := cut_leaf (hi := hi) hl.leaf (cutsN (nth ns p)) 0 lo (by omega) hcut (by simpa using hl.ents) hlh
      refine split_pcs rfl hp0 hp1 hbl b1 (Qs := (cutsN (nth ns p)).map fun _ => []) (by simp) hP ?_ ?_
      · rw [hC]
        simp [cont, hl.buf]
      · rintro ns' _ _ d x lo hi Q1 _ hlt ⟨g1, rfl⟩ rfl h0 h1
        exact ⟨⟨h0, h1, hlt⟩, rfl, g1⟩
  | succ h =>
    obtain ⟨⟨hp0, hp1, hlh⟩, Q, rfl, hl⟩ := ht
    unfold splitN
    have hs : sizeN (nth ns p) = (nth ns p).kids.length := by simp [sizeN, hl.leaf]
    have hm : mostN (nth ns p) = 4 := by simp [mostN, hl.leaf]
    split
    · rename_i hle
      rw [hs, hm] at hle
      exact ⟨⟨p :: Q, ⟨p :: Q, [], by simp, ⟨⟨hp0, hp1, hlh⟩, Q, rfl, hl.leaf, hl.ents, hl.two, hle, hl.keys, hl.few, hl.buf, hl.kids⟩, rfl⟩, by simp [placesF]⟩, Nat.le_refl _, fun _ _ _ _ => rfl, List.Perm.refl _, by simp⟩
    · rename_i hgt
      rw [hs, hm] at hgt
      obtain ⟨b1, b2, b3, b4⟩ := parts_bounds (s := (nth ns p).kids.length) (.inr ⟨rfl, rfl⟩) (by omega)
      have hpn : partsN (nth ns p) = ((nth ns p).kids.length + 4 - 1) / 4 := by rw [partsN, hs, hm]
      rw [← hpn] at b1 b2 b3 b4
      have hcut : CutsOk 2 4 (nth ns p).kids.length 0 (cutsN (nth ns p)) := by
        have := cutsF_ok (s := (nth ns p).kids.length) (q := partsN (nth ns p)) (m := 4) (mn := 2) (by omega) b2 b3 (partsN (nth ns p)) 0 (by omega)
        rw [beg_zero _ _ (by omega)] at this
        unfold cutsN
        rw [hs]
        exact this
      have hbl : (cutsN (nth ns p)).length = partsN (nth ns p) := by unfold cutsN; exact cutsF_length _ _ _ _
      have hw0 : waitA (nth ns p) 0 = 0 := by simp [waitA]
      obtain ⟨⟨Qs, hQs, hP⟩, hC⟩ := cut_inner (hi := hi) (Sub_lt h) hl.leaf hl.keys hl.few (cutsN (nth ns p)) 0 lo Q (by omega) hcut (by simpa using hl.kids) (by rw [hw0]; simpa using hl.buf) (.inl rfl)
      refine split_pcs rfl hp0 hp1 hbl b1 hQs hP ?_ ?_
      · rw [hC, hw0]
        simp [cont, hl.ents]
      · intro ns' hsame hle d x lo hi Q1 hsub hlt g1 hd h0 h1
        refine ⟨⟨h0, h1, hlt⟩, Q1, rfl, ?_⟩
        rw [hd]
        refine g1.imp fun d lo hi Q2 a b => Sub_congr h d lo hi Q2 a fun n hn' => ?_
        have hr := SubK_range hl.kids n (hsub n (b n hn'))
        refine ⟨hsame n (fun e => (List.nodup_cons.1 hn).1 (e ▸ hsub n (b n hn'))) hr.1 hr.2, by omega⟩

end Go.Proofs.Ytmcbjpaknffgkab
