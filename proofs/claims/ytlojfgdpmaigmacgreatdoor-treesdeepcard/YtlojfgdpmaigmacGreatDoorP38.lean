/- All nodes that hold too much, from the leaves up: in plain terms. -/
import Derived.Test.YtlojfgdpmaigmacGreatDoorGrowLoop
import Derived.Test.YtlojfgdpmaigmacGreatDoorP24
namespace Go.Proofs.YtlojfgdpmaigmacGreatDoor
open Go.RowKit Plain

def adoptAt (ns : List Nd) (p : Int) (i : Nat) (more : List (Int × Int)) : List Nd := ns.set p.toNat (adoptN (nth ns p) i more)

/-- The kids, from the last one on, each with its siblings. -/
def kidsN (rec : List Nd → Int → List Nd × List (Int × Int)) (p : Int) : Nat → List Nd → List Nd
  | 0, ns => ns
  | i + 1, ns => kidsN rec p i (adoptAt (rec ns ((nth ns p).kids.getD i 0)).1 p i (rec ns ((nth ns p).kids.getD i 0)).2)

def splitAllN : Nat → List Nd → Int → List Nd × List (Int × Int)
  | 0, ns, p => splitN ns p
  | h + 1, ns, p => splitN (kidsN (splitAllN h) p (nth ns p).kids.length ns) p

theorem zip_app {α β : Type} {a a' : List α} {b b' : List β} (h : a.length = b.length) : (a ++ a').zip (b ++ b') = a.zip b ++ a'.zip b' := List.zip_append h

/-- A kid's siblings, right behind it. -/
theorem ups_adopt {kids keys places mkeys : List Int} {hi : Int} {i : Nat} (hk : keys.length + 1 = kids.length) (hi' : i < kids.length) (hl : places.length = mkeys.length) :
    ups (kids.take (i + 1) ++ places ++ kids.drop (i + 1)) (keys.take i ++ mkeys ++ keys.drop i) hi = (ups kids keys hi).take i ++ ups (kids[i] :: places) mkeys ((keys ++ [hi])[i]'(by simp; omega)) ++ (ups kids keys hi).drop (i + 1) := by
  unfold ups
  have hlk : i < (keys ++ [hi]).length := by simp; omega
  have e1 : kids.take (i + 1) = kids.take i ++ [kids[i]] := List.take_succ_eq_append_getElem hi'
  have e2 : keys.drop i ++ [hi] = (keys ++ [hi])[i] :: (keys ++ [hi]).drop (i + 1) := by
    rw [← List.drop_eq_getElem_cons hlk, List.drop_append_of_le_length (by omega)]
  have e3 : (keys ++ [hi]).take i = keys.take i := List.take_append_of_le_length (by omega)
  have l1 : (kids.take i).length = (keys.take i).length := by simp; omega
  have a1 : kids.take (i + 1) ++ places ++ kids.drop (i + 1) = kids.take i ++ ((kids[i] :: places) ++ kids.drop (i + 1)) := by rw [e1, List.append_assoc, List.append_assoc]; rfl
  have a2 : keys.take i ++ mkeys ++ keys.drop i ++ [hi] = keys.take i ++ ((mkeys ++ [(keys ++ [hi])[i]]) ++ (keys ++ [hi]).drop (i + 1)) := by
    rw [List.append_assoc, List.append_assoc, e2]
    simp
  rw [a1, a2, zip_app l1, zip_app (by simp [hl]), take_zip', drop_zip', e3, List.append_assoc]

theorem nth_set_self {ns : List Nd} {p : Int} {y : Nd} (h0 : 0 ≤ p) (h1 : p < ns.length) : nth (ns.set p.toNat y) p = y := by
  unfold nth
  rw [List.getD_eq_getElem?_getD, List.getElem?_set_self (by omega)]
  rfl
theorem nth_set_far {ns : List Nd} {p n : Int} {y : Nd} (h0 : 0 ≤ p) (hn : 0 ≤ n) (hne : n ≠ p) : nth (ns.set p.toNat y) n = nth ns n := by
  unfold nth
  rw [List.getD_eq_getElem?_getD, List.getD_eq_getElem?_getD, List.getElem?_set_ne (by omega)]

theorem adopt_cont {ns : List Nd} {p : Int} {i : Nat} {more : List (Int × Int)} (h0 : 0 ≤ p) (h1 : p < ns.length) : ((adoptAt ns p i more).flatMap cont).Perm (ns.flatMap cont) := by
  have hx : ns[p.toNat]'(by omega) = nth ns p := by
    unfold nth
    rw [List.getD_eq_getElem?_getD, List.getElem?_eq_getElem (by omega)]
    rfl
  have := set_cont (ns := ns) (xs := []) (i := p.toNat) (y := adoptN (nth ns p) i more) (by omega) (by rw [hx]; simp [cont, adoptN])
  simpa [adoptAt] using this

/-- What stands behind the kids from i on. -/
structure KidsOk (mL : Nat) (ns0 ns : List Nd) (h : Nat) (p lo hi : Int) (P : List Int) (x : Nd) (i : Nat) : Prop where
  len : i ≤ x.kids.length
  at' : ∃ kids keys : List Int, ∃ T : List (Int × Int), ∃ Q1 Q2 : List Int, nth ns p = { x with kids := kids, keys := keys } ∧ keys.length + 1 = kids.length ∧ x.kids.length ≤ kids.length ∧ kids.take i = x.kids.take i ∧ ups kids keys hi = (ups x.kids x.keys hi).take i ++ T ∧
    SubK (Sub mL 4 ns h) lo ((ups x.kids x.keys hi).take i) Q1 ∧ SubK (Sub 6 4 ns h) (endU lo ((ups x.kids x.keys hi).take i)) T Q2 ∧ (p :: (Q1 ++ Q2)).Perm (P ++ placesF ns0.length (ns.length - ns0.length))
  le : ns0.length ≤ ns.length
  same : ∀ n, n ∉ P → 0 ≤ n → n < ns0.length → nth ns n = nth ns0 n
  cont : (ns.flatMap cont).Perm (ns0.flatMap cont)

theorem take_succ_ups {kids keys : List Int} {hi : Int} {i : Nat} (hk : keys.length + 1 = kids.length) (hi' : i < kids.length) : (ups kids keys hi).take (i + 1) = (ups kids keys hi).take i ++ [(kids[i], (keys ++ [hi])[i]'(by simp; omega))] := by
  have hl : i < (ups kids keys hi).length := by simp [ups]; omega
  rw [List.take_succ_eq_append_getElem hl]
  congr 2
  exact (List.getElem?_eq_some_iff.1 (ups_get hk hi')).2

theorem kids_step {mL : Nat} {ns0 ns : List Nd} {h : Nat} {p lo hi : Int} {P : List Int} {x : Nd} {i : Nat} {R : List Nd × List (Int × Int)} (hx : x.keys.length + 1 = x.kids.length) (hp0 : 0 ≤ p) (hp1 : p < ns0.length) (hpP : p ∈ P) (hP : P.Nodup) (hPr : ∀ n ∈ P, 0 ≤ n ∧ n < ns0.length)
    (hK : KidsOk mL ns0 ns h p lo hi P x (i + 1)) (hR : ∀ lo u Qd, Sub mL 4 ns h ((nth ns p).kids.getD i 0) lo u Qd → Qd.Nodup → SplitOk ns R.1 h ((nth ns p).kids.getD i 0) lo u Qd R.2) :
    KidsOk mL ns0 (adoptAt R.1 p i R.2) h p lo hi P x i := by
  obtain ⟨kids, keys, T, Q1, Q2, hn, hkl, hle, htk, hU, s1, s2, hpm⟩ := hK.at'
  have hix : i < x.kids.length := hK.len
  have hik : i < kids.length := by omega
  have hd : (nth ns p).kids.getD i 0 = x.kids[i] := by
    have e : kids[i] = x.kids[i] := by
      have h1 : (kids.take (i + 1))[i]? = (x.kids.take (i + 1))[i]? := by rw [htk]
      rw [List.getElem?_take, List.getElem?_take, if_pos (by omega), if_pos (by omega), List.getElem?_eq_getElem hik, List.getElem?_eq_getElem hix] at h1
      simpa using h1
    rw [hn]
    simp [hik, e]
  rw [hd] at hR
  rw [take_succ_ups hx hix, SubK_append] at s1
  obtain ⟨Qa, Qd, rfl, s1a, Qd', Qe, rfl, s1d, hQe⟩ := s1
  cases hQe
  rw [List.append_nil] at hpm
  rw [take_succ_ups hx hix, endU_last] at s2
  have hnd : (p :: (Qa ++ Qd' ++ Q2)).Nodup := hpm.nodup_iff.2 (List.nodup_append.2 ⟨hP, placesF_nodup _ _, fun a ha b hb e => by
    have h1 := (hPr a ha).2
    have h2 := (placesF_mem.1 hb).1
    omega⟩)
  have hnd2 := hnd
  rw [List.nodup_cons, List.nodup_append, List.nodup_append] at hnd
  obtain ⟨hpn, ⟨na, nd', nad⟩, n2, nad2⟩ := hnd
  have hs := hR _ _ _ s1d nd'
  obtain ⟨Q', t1, t2⟩ := hs.sub
  have hsle := hs.le
  have hle0 := hK.le
  have hpn' : p ∉ Qd' := fun e => hpn (by simp [e])
  have hpl : p < ns.length := by omega
  have hpR : nth R.1 p = nth ns p := hs.same p hpn' hp0 hpl
  have hpRl : p < R.1.length := by omega
  have hnR : nth (adoptAt R.1 p i R.2) p = adoptN (nth R.1 p) i R.2 := nth_set_self hp0 hpRl
  have hfar : ∀ n, 0 ≤ n → n ≠ p → nth (adoptAt R.1 p i R.2) n = nth R.1 n := fun n h0 hne => nth_set_far hp0 h0 hne
  have hlen : (adoptAt R.1 p i R.2).length = R.1.length := by simp [adoptAt]
  have hr1 := SubK_range s1a
  have hr2 := SubK_range s2
  have hml : (R.2.map (·.2)).length = (R.2.map (·.1)).length := by simp
  refine ⟨by omega, ⟨kids.take (i + 1) ++ R.2.map (·.2) ++ kids.drop (i + 1), keys.take i ++ R.2.map (·.1) ++ keys.drop i, ups (x.kids[i] :: R.2.map (·.2)) (R.2.map (·.1)) ((x.keys ++ [hi])[i]'(by simp; omega)) ++ T, Qa, Q' ++ Q2, ?_, ?_, ?_, ?_, ?_, ?_, ?_, ?_⟩, by omega, ?_, ?_⟩
  · rw [hnR, hpR, hn]
    rfl
  · simp; omega
  · simp; omega
  · rw [List.append_assoc, List.take_append_of_le_length (by simp; omega), List.take_take, Nat.min_eq_left (by omega)]
    have := congrArg (List.take i) htk
    rwa [List.take_take, List.take_take, Nat.min_eq_left (by omega)] at this
  · have hkd : kids[i] = x.kids[i] := by
      have h1 : (kids.take (i + 1))[i]? = (x.kids.take (i + 1))[i]? := by rw [htk]
      rw [List.getElem?_take, List.getElem?_take, if_pos (by omega), if_pos (by omega), List.getElem?_eq_getElem hik, List.getElem?_eq_getElem hix] at h1
      simpa using h1
    have hUi : (ups kids keys hi).take (i + 1) = (ups x.kids x.keys hi).take (i + 1) := by
      rw [hU]
      have hl : ((ups x.kids x.keys hi).take (i + 1)).length = i + 1 := by simp [ups]; omega
      exact List.take_left' hl
    have hTd : (ups kids keys hi).drop (i + 1) = T := by
      rw [hU]
      have hl : ((ups x.kids x.keys hi).take (i + 1)).length = i + 1 := by simp [ups]; omega
      exact List.drop_left' hl
    have hTi : (ups kids keys hi).take i = (ups x.kids x.keys hi).take i := by
      have := congrArg (List.take i) hUi
      rwa [List.take_take, List.take_take, Nat.min_eq_left (by omega)] at this
    have hup : (keys ++ [hi])[i]'(by simp; omega) = (x.keys ++ [hi])[i]'(by simp; omega) := by
      have a := take_succ_ups (hi := hi) hkl hik
      have b := take_succ_ups (hi := hi) hx hix
      rw [hUi, b, hTi] at a
      have := List.append_cancel_left a
      simp at this
      exact this.2.symm
    rw [ups_adopt hkl hik hml, hTd, hTi, hkd, List.append_assoc]
    simp only [hup]
  · refine SubK_imp s1a fun d l u Qq a b => Sub_congr h d l u Qq a fun n hn' => ?_
    have hr := hr1 n (b n hn')
    have hne : n ≠ p := fun e => hpn (by rw [← e]; simp [b n hn'])
    have hnot : n ∉ Qd' := fun e => nad n (b n hn') n e rfl
    exact ⟨(hfar n hr.1 hne).trans (hs.same n hnot hr.1 hr.2), by rw [hlen]; omega⟩
  · rw [SubK_append]
    refine ⟨Q', Q2, rfl, ?_, ?_⟩
    · refine SubK_imp t1 fun d l u Qq a b => Sub_congr h d l u Qq a fun n hn' => ?_
      have hm := t2.mem_iff.1 (b n hn')
      have hr : 0 ≤ n ∧ n < R.1.length := SubK_range t1 n (b n hn')
      have hne : n ≠ p := by
        rintro rfl
        rcases List.mem_append.1 hm with e | e
        · exact hpn' e
        · have := (placesF_mem.1 e).1; omega
      exact ⟨hfar n hr.1 hne, by rw [hlen]; exact hr.2⟩
    · rw [endU_ups (by simp)]
      refine SubK_imp s2 fun d l u Qq a b => Sub_congr h d l u Qq a fun n hn' => ?_
      have hr := hr2 n (b n hn')
      have hne : n ≠ p := fun e => hpn (by rw [← e]; simp [b n hn'])
      have hnot : n ∉ Qd' := fun e => nad2 n (List.mem_append_right _ e) n (b n hn') rfl
      exact ⟨(hfar n hr.1 hne).trans (hs.same n hnot hr.1 hr.2), by rw [hlen]; omega⟩
  · rw [hlen, show R.1.length - ns0.length = (ns.length - ns0.length) + (R.1.length - ns.length) by omega, placesF_append, show ns0.length + (ns.length - ns0.length) = ns.length by omega]
    rw [← List.append_assoc P]
    refine List.Perm.trans ?_ (hpm.append_right _)
    show (p :: (Qa ++ (Q' ++ Q2))).Perm (p :: (Qa ++ Qd' ++ Q2 ++ placesF ns.length (R.1.length - ns.length)))
    refine List.Perm.cons p ?_
    simp only [List.append_assoc]
    refine List.Perm.append_left Qa ?_
    refine (t2.append_right Q2).trans ?_
    simp only [List.append_assoc]
    exact List.Perm.append_left Qd' List.perm_append_comm
  · intro n hnP h0 h1
    have hne : n ≠ p := fun e => hnP (e ▸ hpP)
    have hnot : n ∉ Qd' := by
      intro e
      have : n ∈ P ++ placesF ns0.length (ns.length - ns0.length) := hpm.mem_iff.1 (by simp [e])
      rcases List.mem_append.1 this with e' | e'
      · exact hnP e'
      · have := (placesF_mem.1 e').1; omega
    exact (hfar n h0 hne).trans ((hs.same n hnot h0 (by omega)).trans (hK.same n hnP h0 h1))
  · exact (adopt_cont hp0 hpRl).trans (hs.cont.trans hK.cont)

theorem kidsN_ok {mL : Nat} {ns0 : List Nd} {h : Nat} {p lo hi : Int} {P : List Int} {x : Nd} {rec : List Nd → Int → List Nd × List (Int × Int)} (hx : x.keys.length + 1 = x.kids.length) (hp0 : 0 ≤ p) (hp1 : p < ns0.length) (hpP : p ∈ P) (hP : P.Nodup) (hPr : ∀ n ∈ P, 0 ≤ n ∧ n < ns0.length)
    (hrec : ∀ ns d lo u Qd, Sub mL 4 ns h d lo u Qd → Qd.Nodup → SplitOk ns (rec ns d).1 h d lo u Qd (rec ns d).2) :
    ∀ (i : Nat) (ns : List Nd), KidsOk mL ns0 ns h p lo hi P x i → KidsOk mL ns0 (kidsN rec p i ns) h p lo hi P x 0
  | 0, _, hK => hK
  | i + 1, ns, hK => kidsN_ok hx hp0 hp1 hpP hP hPr hrec i _ (kids_step hx hp0 hp1 hpP hP hPr hK fun lo u Qd a b => hrec ns _ lo u Qd a b)

/-- All of a tree's nodes that hold too much are split: what is left is a row of nodes that hold enough. -/
theorem splitAll_ok {mL : Nat} : ∀ (h : Nat) (ns : List Nd) (p lo hi : Int) (P : List Int), Sub mL 4 ns h p lo hi P → P.Nodup → SplitOk ns (splitAllN h ns p).1 h p lo hi P (splitAllN h ns p).2
  | 0, ns, p, lo, hi, P, hs, hP => split_ok (mK := 4) (mL := mL) (show Top mL 4 ns 0 p lo hi P from hs) hP
  | h + 1, ns, p, lo, hi, P, hs, hP => by
    have hPr := Sub_range _ _ _ _ _ hs
    obtain ⟨hr, Q, rfl, hin⟩ := hs
    have hul : (ups (nth ns p).kids (nth ns p).keys hi).take (nth ns p).kids.length = ups (nth ns p).kids (nth ns p).keys hi := List.take_of_length_le (by simp [ups]; omega)
    have hK : KidsOk mL ns ns h p lo hi (p :: Q) (nth ns p) (nth ns p).kids.length := by
      refine ⟨Nat.le_refl _, ⟨(nth ns p).kids, (nth ns p).keys, [], Q, [], rfl, hin.keys, Nat.le_refl _, rfl, ?_, ?_, rfl, ?_⟩, Nat.le_refl _, fun _ _ _ _ => rfl, List.Perm.refl _⟩
      · rw [hul, List.append_nil]
      · rw [hul]; exact hin.kids
      · simp [placesF]
    have hK0 := kidsN_ok (rec := splitAllN h) hin.keys hr.1 hr.2.1 (by simp) hP hPr (fun ns d lo u Qd a b => splitAll_ok h ns d lo u Qd a b) _ _ hK
    show SplitOk ns (splitN (kidsN (splitAllN h) p (nth ns p).kids.length ns) p).1 (h + 1) p lo hi (p :: Q) (splitN (kidsN (splitAllN h) p (nth ns p).kids.length ns) p).2
    generalize kidsN (splitAllN h) p (nth ns p).kids.length ns = ns1 at hK0 ⊢
    obtain ⟨kids, keys, T, Q1, Q2, hn, hkl, hle, -, hU, s1, s2, hpm⟩ := hK0.at'
    have hle1 := hK0.le
    cases s1
    rw [List.take_zero] at hU s2
    rw [List.nil_append] at hU hpm
    have htwo := hin.two
    have hp1 := hr.2.1
    have hnd : (p :: Q2).Nodup := hpm.nodup_iff.2 (List.nodup_append.2 ⟨hP, placesF_nodup _ _, fun a ha b hb e => by
      have h1 := (hPr a ha).2
      have h2 := (placesF_mem.1 hb).1
      omega⟩)
    have htop : Top 6 kids.length ns1 (h + 1) p lo hi (p :: Q2) := by
      refine ⟨⟨hr.1, by omega, hr.2.2⟩, Q2, rfl, ?_⟩
      rw [hn]
      exact ⟨hin.leaf, hin.ents, by show 2 ≤ kids.length; omega, Nat.le_refl _, hkl, hin.few, hin.buf, by show SubK _ lo (ups kids keys hi) Q2; rw [hU]; exact s2⟩
    have hs := split_ok htop hnd
    have hle2 := hs.le
    have hfew := hs.few
    obtain ⟨Q', t1, t2⟩ := hs.sub
    refine ⟨⟨Q', t1, t2.trans ?_⟩, by omega, ?_, hs.cont.trans hK0.cont, by omega⟩
    · rw [show (splitN ns1 p).1.length - ns.length = (ns1.length - ns.length) + ((splitN ns1 p).1.length - ns1.length) by omega, placesF_append, show ns.length + (ns1.length - ns.length) = ns1.length by omega, ← List.append_assoc (p :: Q)]
      exact hpm.append_right _
    · intro n hnP h0 h1
      refine (hs.same n ?_ h0 (by omega)).trans (hK0.same n hnP h0 h1)
      intro e
      rcases List.mem_append.1 (hpm.mem_iff.1 e) with e' | e'
      · exact hnP e'
      · have := (placesF_mem.1 e').1; omega

end Go.Proofs.YtlojfgdpmaigmacGreatDoor

/- slices.Insert of one entry, in a list of one's own. -/
namespace Go.Proofs.YtlojfgdpmaigmacGreatDoor
open Go.RowKit Plain Go.Shelf

theorem ins_gets (cs vs : List Value) (i j : Nat) (hi : i ≤ cs.length) : (cs.take i ++ (vs ++ cs.drop i))[j]? = if j < i then cs[j]? else if j < i + vs.length then vs[j - i]? else cs[j - vs.length]? := by
  have hl : (cs.take i).length = i := by rw [List.length_take]; omega
  by_cases h1 : j < i
  · rw [List.getElem?_append_left (by omega), List.getElem?_take, if_pos h1, if_pos h1]
  · rw [List.getElem?_append_right (by omega), hl, if_neg h1]
    by_cases h2 : j < i + vs.length
    · rw [if_pos h2, List.getElem?_append_left (by omega)]
    · rw [if_neg h2, List.getElem?_append_right (by omega), List.getElem?_drop, show i + (j - i - vs.length) = j - vs.length by omega]

/-- In place: the last ones move, then the new ones come. -/
theorem ovr_shifts {cur cs vs : List Value} {i : Nat} (ht : cur.take cs.length = cs) (hi : i ≤ cs.length) (hr : cs.length + vs.length ≤ cur.length) : (ovr (ovr cur (i + vs.length) (cs.drop i)) i vs).take (cs.length + vs.length) = cs.take i ++ (vs ++ cs.drop i) := by
  apply List.ext_getElem?
  intro j
  rw [ins_gets cs vs i j hi, List.getElem?_take]
  by_cases hj : j < cs.length + vs.length
  · rw [if_pos hj, ovr_get _ _ _ _ (by rw [ovr_length]; omega)]
    by_cases h2 : j < i
    · rw [if_neg (by omega), if_pos h2, ovr_get _ _ _ _ (by simp; omega), if_neg (by omega), take_get ht (by omega)]
    · by_cases h1 : j < i + vs.length
      · rw [if_pos (by omega), if_neg h2, if_pos h1]
      · rw [if_neg (by omega), if_neg h2, if_neg h1, ovr_get _ _ _ _ (by simp; omega), if_pos (by simp; omega), List.getElem?_drop, show i + (j - (i + vs.length)) = j - vs.length by omega]
  · rw [if_neg hj, if_neg (by omega), if_neg (by omega), List.getElem?_eq_none (by omega)]

/-- In new memory: what is ahead stands there, the rest comes. -/
theorem ovr_fills {cur cs vs : List Value} {i : Nat} (ht : cur.take i = cs.take i) (hi : i ≤ cs.length) (hr : cs.length + vs.length ≤ cur.length) : (ovr (ovr cur i vs) (i + vs.length) (cs.drop i)).take (cs.length + vs.length) = cs.take i ++ (vs ++ cs.drop i) := by
  apply List.ext_getElem?
  intro j
  rw [ins_gets cs vs i j hi, List.getElem?_take]
  by_cases hj : j < cs.length + vs.length
  · rw [if_pos hj, ovr_get _ _ _ _ (by rw [ovr_length]; simp; omega)]
    by_cases h1 : i + vs.length ≤ j
    · rw [if_pos (by simp; omega), if_neg (by omega), if_neg (by omega), List.getElem?_drop, show i + (j - (i + vs.length)) = j - vs.length by omega]
    · rw [if_neg (by omega), ovr_get _ _ _ _ (by omega)]
      by_cases h2 : j < i
      · rw [if_neg (by omega), if_pos h2]
        have h : (cur.take i)[j]? = (cs.take i)[j]? := by rw [ht]
        rwa [List.getElem?_take, List.getElem?_take, if_pos h2, if_pos h2] at h
      · rw [if_pos (by omega), if_neg h2, if_pos (by omega)]
  · rw [if_neg hj, if_neg (by omega), if_neg (by omega), List.getElem?_eq_none (by omega)]

theorem run_copy_cellsN {P : Program} (w : World) (dT sT ty elem : TypeId) (k b o dLen dCap : Nat) (a : Addr) (sLen sCap : Nat) (cs : List Value)
    (hu : P.underlying dT = some (.slice elem)) (hs : (P.info? elem).map (·.size) = some k) (hn : cs.length = Nat.min sLen dLen * k)
    (hsrc : ∀ j v, cs[j]? = some v → w.cell? (a.add j) = some v) (hc : ∀ j, j < cs.length → (w.cell? ⟨b, o + j, none⟩).isSome = true) (hf : ∀ j, j < cs.length → w.frozen? ⟨b, o + j, none⟩ = false) (h1 : ∀ v ∈ cs, v.oneCell' = true) :
    (Builtin.copy_ #[dT, sT] ty #[.slice (some ⟨b, o, none⟩) dLen dCap, .slice (some a) sLen sCap]).run P w = .ok (goInt (Nat.min sLen dLen)) (w.setCells b o cs) := by
  have hl := run_loadCells_list (P := P) w a cs hsrc
  have hst := run_storeCells_cells (P := P) b o cs 0 w (by simpa using hc) (by simpa using hf) h1
  rw [hn] at hl
  cases hq : P.info? elem with
  | none => simp [hq] at hs
  | some i =>
    have hi : i.size = k := by simpa [hq] using hs
    simp only [Nat.min_def] at hl ⊢
    simp [Builtin.copy_, run_underlying hu, Builtin.lenOf, Builtin.firstCells, sizeOf, typeInfo, hq, hi, hl, hst, Nat.min_def]

theorem flatE_single (x : En) : flatE [x] = x.vals := by simp [flatE]

theorem newsE {w : World} {vb : Nat} {x : En} (hv : RowL w vb 40 x.vals) : ∀ j u, (flatE [x])[j]? = some u → w.cell? (Addr.add ⟨vb, 0, none⟩ j) = some u := by
  intro j u hu
  rw [WideShapes.add_plain, Nat.zero_add, hv.cell]
  rwa [flatE_single] at hu

theorem moved_lies {base n g cap : Nat} {t : TypeId} {size : Nat} {A : Option Addr} {n0 C0 : Nat} {vs : List Value} {w w1 : World} (hown : w1.ownsRow base t size (.slice (some ⟨g, 0, none⟩) n cap) n vs) (hgrow : w.grownBy w1 (Value.slice A n0 C0).ownBlock) (hat : (Value.slice A n0 C0).ownBlock = some g ∨ g = w.heap.size) :
    Moved base t size n A (some ⟨g, 0, none⟩) cap vs w w1 := by
  have e : ∀ k, (Value.slice A n0 C0).ownBlock = some k → A.map Addr.block = some k := by
    intro k hk
    cases A <;> simp_all [Value.ownBlock]
  refine ⟨hown, ⟨hgrow.os, hgrow.tape, hgrow.output, hgrow.size, fun k hk hx => hgrow.block k hk (fun h => hx ?_)⟩, ?_⟩
  · simp [obk, e k h.symm]
  · rcases hat with h | h
    · left; rw [e g h]; rfl
    · right; exact ⟨g, rfl, by omega⟩

set_option maxRecDepth 20000 in
set_option maxHeartbeats 4000000 in
theorem insertE_end (base : Nat) (A : Option Addr) (C vb vc : Nat) (xs : List En) (x : En) (w : World) (ho : w.ownsRow base 40 7 (.slice A xs.length C) xs.length (flatE xs)) (hv : RowL w vb 40 x.vals) (hB : base ≤ w.heap.size) (hz : (xs.length + 1) * 56 ≤ 140737488351232) :
    Calls Tryz.prog 96 #[.slice A xs.length C, .int .i64 (xs.length : Int), .slice (some ⟨vb, 0, none⟩) 1 vc] w
      fun e w' => ∃ A' C', e = .returned (.slice A' (xs.length + 1) C') ∧ Moved base 40 7 (xs.length + 1) A A' C' (flatE (xs ++ [x])) w w' := by
  obtain ⟨i0, hi0, hz0, hz1, hz2⟩ := info_parts infoE
  have hnews := newsE hv
  have hcap : xs.length ≤ C ∧ C ≤ maxLen := by
    obtain ⟨A', C', h1, _, h2, h3, _⟩ := own_row ho
    cases h1
    exact ⟨h2, h3⟩
  have hc63 : C ≤ 9223372036854775807 := by have := hcap.2; unfold maxLen at this; omega
  have hc0 : (xs.length : Int) ≤ (C : Int) := by have := hcap.1; omega
  have hml : xs.length + 1 ≤ maxLen := by unfold maxLen; omega
  have HE : Hid (flatE (xs ++ [x]) = flatE xs ++ flatE [x]) := flatE_append _ _
  clear hv hcap
  cases A with
  | none =>
    go_enter Tryz.func96, Tryz.ntmps96
    go_wp2_with (at_builtin; refine wpList_append_lies _ rfl _ _ 33 rfl base 40 i0 _ 7 56 Tryz.underlying33 hi0 hz0 hz1 hz2 rfl (by decide) (.slice none xs.length C) xs.length (flatE xs) rfl ho ⟨vb, 0, none⟩ 1 vc (flatE [x]) rfl rfl hnews (flatE_one _) (by decide) hml (by omega) hB w.heap.size rfl ?_; intro g cap w1 hown hgrow hat hlt)
    go_ret
    exact ⟨_, _, rfl, by rw [HE.out]; exact moved_lies hown hgrow hat⟩
  | some ad =>
    go_enter Tryz.func96, Tryz.ntmps96
    go_wp2_with (at_builtin; refine wpList_append_lies _ rfl _ _ 33 rfl base 40 i0 _ 7 56 Tryz.underlying33 hi0 hz0 hz1 hz2 rfl (by decide) (.slice (some ad) xs.length C) xs.length (flatE xs) rfl ho ⟨vb, 0, none⟩ 1 vc (flatE [x]) rfl rfl hnews (flatE_one _) (by decide) hml (by omega) hB w.heap.size rfl ?_; intro g cap w1 hown hgrow hat hlt)
    all_goals
      go_ret
      exact ⟨_, _, rfl, by rw [HE.out]; exact moved_lies hown hgrow hat⟩

theorem sizeE : (Tryz.prog.info? 40).map (·.size) = some 7 := by
  obtain ⟨i0, hi0, _, h1, _⟩ := info_parts infoE
  rw [hi0]
  simp [h1]

set_option maxRecDepth 100000 in
set_option maxHeartbeats 4000000 in
/-- There is room, and it is not the end: in place. -/
theorem insertE_shift (g n c i vb vc : Nat) (cs vs : List Value) (w : World) (hi : i < n) (hroom : n + 1 ≤ c) (hc63 : c ≤ 9223372036854775807) (hvb : vb ≠ g) (hcl : cs.length = n * 7) (hvl : vs.length = 7)
    (hcs : ∀ j v, cs[j]? = some v → w.cell? ⟨g, j, none⟩ = some v) (hsp : ∀ j, j < (n + 1) * 7 → (w.cell? ⟨g, j, none⟩).isSome = true) (hfz : ∀ j, w.frozen? ⟨g, j, none⟩ = false)
    (hvs : ∀ j v, vs[j]? = some v → w.cell? ⟨vb, j, none⟩ = some v) (h1c : ∀ v ∈ cs, v.oneCell' = true) (h1v : ∀ v ∈ vs, v.oneCell' = true)
    (tA tB : TypeId) (kA kB : Nat) (hsa : w.shape? vb = some (tA, kA)) (hsb : w.shape? g = some (tB, kB)) (hkB : kB ≠ 0) (hfa : ∀ j, w.frozen? ⟨vb, j, none⟩ = false) :
    Calls Tryz.prog 96 #[.slice (some ⟨g, 0, none⟩) n c, .int .i64 (i : Int), .slice (some ⟨vb, 0, none⟩) 1 vc] w fun e w' =>
      e = .returned (.slice (some ⟨g, 0, none⟩) (n + 1) c) ∧ w' = (w.drew.setCells g ((i + 1) * 7) (cs.drop (i * 7))).setCells g (i * 7) vs := by
  have hz2 : ¬ ((i : Int) = (n : Int)) := by omega
  have hov : ∀ lb cb, (callFunc 121 #[.slice (some ⟨vb, 0, none⟩) 1 vc, .slice (some ⟨g, (i + 1) * 7, none⟩) lb cb]).run Tryz.prog w = .ok (.value (.bool false)) w := fun lb cb => by
    rw [run_callFunc_extern Tryz.func121 (by kernel_rfl) (by kernel_rfl) (by kernel_rfl) (e := Extern.SlicesOverlaps.overlaps #[33, 33] #[4]) (by kernel_rfl),
      Lib.run_overlaps_apart w 33 4 40 Tryz.underlying33 7 Tryz.sizeOf40 ⟨vb, 0, none⟩ ⟨g, (i + 1) * 7, none⟩ 1 vc lb cb hvb tA tB kA kB hsa hsb hkB (hfa _) (hfa _)]
    rfl
  have hdl : (cs.drop (i * 7)).length = (n - i) * 7 := by rw [List.length_drop, hcl]; omega
  have hcp1 : ∀ ty dc sc, (Builtin.copy_ #[33, 33] ty #[.slice (some ⟨g, (i + 1) * 7, none⟩) (n - i) dc, .slice (some ⟨g, i * 7, none⟩) (n + 1 - i) sc]).run Tryz.prog w.drew = .ok (goInt (Nat.min (n + 1 - i) (n - i))) (w.drew.setCells g ((i + 1) * 7) (cs.drop (i * 7))) := fun ty dc sc =>
    run_copy_cellsN w.drew _ _ ty 40 7 g ((i + 1) * 7) (n - i) dc ⟨g, i * 7, none⟩ (n + 1 - i) sc (cs.drop (i * 7)) Tryz.underlying33 sizeE (by rw [hdl]; simp only [Nat.min_def]; split <;> omega)
      (fun j v hj => by rw [Addr.add_lit]; exact hcs (i * 7 + j) v (by rwa [List.getElem?_drop] at hj))
      (fun j hj => hsp _ (by omega)) (fun j hj => hfz _) (fun v hv => h1c v (List.mem_of_mem_drop hv))
  obtain ⟨W1, hW1⟩ : ∃ W1, W1 = w.drew.setCells g ((i + 1) * 7) (cs.drop (i * 7)) := ⟨_, rfl⟩
  have hsp1 : ∀ k, k < (n + 1) * 7 → (W1.cell? ⟨g, k, none⟩).isSome = true := fun k hk => by
    rw [hW1]
    exact isSome_setCells g (cs.drop (i * 7)) ((i + 1) * 7) w.drew (fun j hj => hsp _ (by omega)) _ (hsp k hk)
  have hcp2 : ∀ (W : World), (∀ x, W.cell? x = W1.cell? x) → (∀ x, W.frozen? x = W1.frozen? x) → ∀ ty dc, (Builtin.copy_ #[33, 33] ty #[.slice (some ⟨g, i * 7, none⟩) (n + 1 - i) dc, .slice (some ⟨vb, 0, none⟩) 1 vc]).run Tryz.prog W = .ok (goInt (Nat.min 1 (n + 1 - i))) (W.setCells g (i * 7) vs) := fun W hWc hWf ty dc =>
    run_copy_cellsN W _ _ ty 40 7 g (i * 7) (n + 1 - i) dc ⟨vb, 0, none⟩ 1 vc vs Tryz.underlying33 sizeE (by rw [hvl]; simp only [Nat.min_def]; split <;> omega)
      (fun j v hj => by
        rw [Addr.add_lit, hWc, hW1, World.cell?_setCells_out g _ _ _ _ (fun h _ => absurd h hvb), Nat.zero_add]
        exact hvs j v hj)
      (fun j hj => by rw [hWc]; exact hsp1 _ (by omega)) (fun j hj => by rw [hWf, hW1, World.frozen?_setCells]; exact hfz _) h1v
  rw [← hW1] at hcp1
  have hin : i ≤ n := by omega
  have hb2 : ¬ (c = i + 1) := by omega
  have hb4 : ¬ (c = i) := by omega
  have hw1 : IntKind.i64.wrap ((i : Int) + 1) = (i : Int) + 1 := by rw [IntKind.wrap_i64]; omega
  have hb1 : (0 : Int) ≤ (i : Int) + 1 := by omega
  have htn : ((i : Int) + 1).toNat = i + 1 := by omega
  have hb3 : (i : Int) + 1 ≤ (n : Int) + 1 := by omega
  have hb5 : (i : Int) ≤ (n : Int) + 1 := by omega
  go_enter Tryz.func96, Tryz.ntmps96
  go_wp2_with (simp only [hov])
  go_region_law (refine step_copy_runI rfl _ _ 33 33 rfl _ _ (by simp [Act.eval, Act.put]) (by simp [Act.eval, Act.put]) (hcp1 _ _ _) ?_)
  go_wp2_with (at_builtin; refine wpList_copy_runI _ rfl _ _ 33 33 rfl _ _ rfl rfl (hcp2 _ (fun _ => rfl) (fun _ => rfl) _ _) ?_)
  go_ret
  first | exact ⟨rfl, rfl⟩ | exact ⟨rfl, by rw [hW1]⟩

def zroE : Value := .agg #[.int .i64 0, .int .i64 0, .int .i64 0, .int .i64 0, .int .i64 0, .int .i64 0, .int .i64 0]
def rowG (cs : List Value) (i n G : Nat) : Array Value := (cs.take (i * 7)).toArray ++ Builtin.zeroCells zroE.cells (n + 1 - i) ++ Builtin.zeroCells zroE.cells (G - (n + 1))

theorem rowG_size {cs : List Value} {i n G : Nat} (hi : i ≤ n) (hcl : cs.length = n * 7) (hG : n + 1 ≤ G) : (rowG cs i n G).size = G * 7 := by
  unfold rowG
  rw [Array.size_append, Array.size_append, size_zeroCells, size_zeroCells]
  simp [zroE, Value.cells, hcl]
  omega

theorem rowG_take {cs : List Value} {i n G : Nat} (hi : i ≤ n) (hcl : cs.length = n * 7) : (rowG cs i n G).toList.take (i * 7) = cs.take (i * 7) := by
  unfold rowG
  rw [Array.toList_append, Array.toList_append, List.append_assoc]
  exact List.take_left' (by rw [List.length_take]; omega)

set_option maxRecDepth 100000 in
set_option maxHeartbeats 4000000 in
/-- There is no room, and it is not the end: a new row. -/
theorem insertE_grow (g n c i vb vc : Nat) (cs vs : List Value) (w : World) (hi : i < n) (hnc : n ≤ c) (hroom : c < n + 1) (hbig : (n + 1) * 56 ≤ 140737488355328) (hcl : cs.length = n * 7) (hvl : vs.length = 7)
    (hcs : ∀ j v, cs[j]? = some v → w.cell? ⟨g, j, none⟩ = some v) (hvs : ∀ j v, vs[j]? = some v → w.cell? ⟨vb, j, none⟩ = some v) (h1c : ∀ v ∈ cs, v.oneCell' = true) (h1v : ∀ v ∈ vs, v.oneCell' = true) :
    Calls Tryz.prog 96 #[.slice (some ⟨g, 0, none⟩) n c, .int .i64 (i : Int), .slice (some ⟨vb, 0, none⟩) 1 vc] w fun e w' =>
      ∃ G, n + 1 ≤ G ∧ G ≤ maxLen ∧ e = .returned (.slice (some ⟨w.heap.size, 0, none⟩) (n + 1) G) ∧
      w' = (((w.alloc (.cells (rowG cs i n G) 40)).drew.setCells w.heap.size (i * 7) vs).drew).setCells w.heap.size ((i + 1) * 7) (cs.drop (i * 7)) := by
  obtain ⟨i0, hi0, hz0, hzs, hzb⟩ := info_parts infoE
  have hz2 : ¬ ((i : Int) = (n : Int)) := by omega
  have hz3 : (c : Int) < (n : Int) + 1 := by omega
  have hbw : g < w.heap.size := block_lt_of_cell (hcs 0 _ (List.getElem?_eq_getElem (by omega)))
  have hvw : vb < w.heap.size := block_lt_of_cell (hvs 0 _ (List.getElem?_eq_getElem (by omega)))
  have hkk : (n : Int) + 1 - (i : Int) = ((n + 1 - i : Nat) : Int) := by omega
  have hik : i + (n + 1 - i) = n + 1 := by omega
  have hold : (Builtin.firstCells i0.size i (.slice (some ⟨g, 0, none⟩) i c)).run Tryz.prog w.drew = .ok (cs.take (i * 7)).toArray w.drew := by
    rw [hzs]
    exact run_firstCells_some w.drew 7 i ⟨g, 0, none⟩ i c (cs.take (i * 7)) (by rw [List.length_take]; omega) (fun j v hj => by
      rw [Addr.add_lit, Nat.zero_add]
      rw [List.getElem?_take] at hj
      split at hj
      · exact hcs j v hj
      · cases hj)
  have hrz : ∀ ty, (Builtin.append_ #[33, 3] ty #[.slice (some ⟨g, 0, none⟩) i c, .int .i64 ((n : Int) + 1 - (i : Int))]).run Tryz.prog w =
      .ok (.slice (some ⟨w.heap.size, 0, none⟩) (n + 1) (grownCap w (n + 1) c 40)) (w.drew.alloc (.cells (rowG cs i n (grownCap w (n + 1) c 40)) 40)) := fun ty => by
    have h := Lib.run_append_grow_zeros w 33 3 ty 40 i0 _ .i64 .i64 Tryz.underlying33 Tryz.underlying3 hi0 hz0 (some ⟨g, 0, none⟩) i c (cs.take (i * 7)) hold (n + 1 - i) (by omega) (by omega) (by omega) (by omega) (by rw [hzb]; omega) (by rw [hzb, hik]; exact growslice_fits hroom hbig)
    rw [hik] at h
    rw [hkk]
    exact h
  obtain ⟨G, hG⟩ : ∃ G, G = grownCap w (n + 1) c 40 := ⟨_, rfl⟩
  have hGn : n + 1 ≤ G := by rw [hG]; exact grownCap_ge w _ _ _
  have hGm : G ≤ maxLen := by rw [hG]; exact grownCap_le_maxLen w (n + 1) c _ (by unfold maxLen; omega)
  rw [← hG] at hrz
  suffices hS : Calls Tryz.prog 96 #[.slice (some ⟨g, 0, none⟩) n c, .int .i64 (i : Int), .slice (some ⟨vb, 0, none⟩) 1 vc] w (fun e w' => e = .returned (.slice (some ⟨w.heap.size, 0, none⟩) (n + 1) G) ∧ w' = (((w.alloc (.cells (rowG cs i n G) 40)).drew.setCells w.heap.size (i * 7) vs).drew).setCells w.heap.size ((i + 1) * 7) (cs.drop (i * 7))) from hS.mono fun e w' h => ⟨G, hGn, hGm, h.1, h.2⟩
  have hRl := rowG_size (i := i) (G := G) (Nat.le_of_lt hi) hcl hGn
  obtain ⟨ROW, hROW⟩ : ∃ ROW : Array Value, ROW = rowG cs i n G := ⟨_, rfl⟩
  rw [← hROW] at hrz hRl ⊢
  obtain ⟨W1, hW1⟩ : ∃ W1, W1 = w.drew.alloc (.cells ROW 40) := ⟨_, rfl⟩
  rw [← hW1] at hrz
  have hN : ∀ j, j < (n + 1) * 7 → (W1.cell? ⟨w.heap.size, j, none⟩).isSome = true := fun j hj => by
    rw [hW1, World.cell?_alloc_at (w := w.drew) ROW _ w.heap.size j rfl, Array.getElem?_eq_getElem (by omega)]; rfl
  have hNf : ∀ j, W1.frozen? ⟨w.heap.size, j, none⟩ = false := fun j => by rw [hW1]; exact World.frozen?_alloc_at (w := w.drew) ROW _ w.heap.size j rfl
  have hOb : ∀ j v, w.cell? ⟨g, j, none⟩ = some v → W1.cell? ⟨g, j, none⟩ = some v := fun j v h => by rw [hW1, World.cell?_alloc_past (w := w.drew) _ g j hbw]; exact h
  have hOv : ∀ j v, w.cell? ⟨vb, j, none⟩ = some v → W1.cell? ⟨vb, j, none⟩ = some v := fun j v h => by rw [hW1, World.cell?_alloc_past (w := w.drew) _ vb j hvw]; exact h
  have hcpA : ∀ (W : World), (∀ x, W.cell? x = W1.cell? x) → (∀ x, W.frozen? x = W1.frozen? x) → ∀ ty dc, (Builtin.copy_ #[33, 33] ty #[.slice (some ⟨w.heap.size, i * 7, none⟩) (n + 1 - i) dc, .slice (some ⟨vb, 0, none⟩) 1 vc]).run Tryz.prog W = .ok (goInt (Nat.min 1 (n + 1 - i))) (W.setCells w.heap.size (i * 7) vs) := fun W hWc hWf ty dc =>
    run_copy_cellsN W _ _ ty 40 7 w.heap.size (i * 7) (n + 1 - i) dc ⟨vb, 0, none⟩ 1 vc vs Tryz.underlying33 sizeE (by rw [hvl]; simp only [Nat.min_def]; split <;> omega)
      (fun j v hj => by rw [Addr.add_lit, Nat.zero_add, hWc]; exact hOv _ v (hvs j v hj))
      (fun j hj => by rw [hWc]; exact hN _ (by omega)) (fun j hj => by rw [hWf]; exact hNf _) h1v
  have hG63 : G ≤ 9223372036854775807 := by unfold maxLen at hGm; omega
  have hGi : ¬ (G = i) := by omega
  have hGim : ¬ (G = i + 1) := by omega
  have hci : ¬ (c = i) := by omega
  have hbN : g ≠ w.heap.size := by omega
  have hdl : (cs.drop (i * 7)).length = (n - i) * 7 := by rw [List.length_drop, hcl]; omega
  have hcpB : ∀ (W : World), (∀ x, W.cell? x = (W1.setCells w.heap.size (i * 7) vs).cell? x) → (∀ x, W.frozen? x = (W1.setCells w.heap.size (i * 7) vs).frozen? x) → ∀ ty dc sc, (Builtin.copy_ #[33, 33] ty #[.slice (some ⟨w.heap.size, (i + 1) * 7, none⟩) (n - i) dc, .slice (some ⟨g, i * 7, none⟩) (n - i) sc]).run Tryz.prog W = .ok (goInt (Nat.min (n - i) (n - i))) (W.setCells w.heap.size ((i + 1) * 7) (cs.drop (i * 7))) := fun W hWc hWf ty dc sc =>
    run_copy_cellsN W _ _ ty 40 7 w.heap.size ((i + 1) * 7) (n - i) dc ⟨g, i * 7, none⟩ (n - i) sc (cs.drop (i * 7)) Tryz.underlying33 sizeE (by rw [hdl]; simp only [Nat.min_def]; split <;> omega)
      (fun j v hj => by
        rw [Addr.add_lit, hWc, World.cell?_setCells_out _ _ _ _ _ (fun h _ => absurd h hbN)]
        exact hOb _ v (hcs (i * 7 + j) v (by rwa [List.getElem?_drop] at hj)))
      (fun j hj => by rw [hWc]; exact isSome_setCells _ _ _ _ (fun t ht => hN _ (by omega)) _ (hN _ (by omega)))
      (fun j hj => by rw [hWf, World.frozen?_setCells]; exact hNf _) (fun v hv => h1c v (List.mem_of_mem_drop hv))
  subst hW1
  have hE1 : ∀ x, ((w.alloc (.cells ROW 40)).drew).cell? x = (w.drew.alloc (.cells ROW 40)).cell? x := fun x => rfl
  have hE2 : ∀ x, ((w.alloc (.cells ROW 40)).drew).frozen? x = (w.drew.alloc (.cells ROW 40)).frozen? x := fun x => rfl
  have hF1 : ∀ x, (((w.alloc (.cells ROW 40)).drew.setCells w.heap.size (i * 7) vs).drew).cell? x = ((w.drew.alloc (.cells ROW 40)).setCells w.heap.size (i * 7) vs).cell? x := fun x => rfl
  have hF2 : ∀ x, (((w.alloc (.cells ROW 40)).drew.setCells w.heap.size (i * 7) vs).drew).frozen? x = ((w.drew.alloc (.cells ROW 40)).setCells w.heap.size (i * 7) vs).frozen? x := fun x => rfl
  have hw1 : IntKind.i64.wrap ((i : Int) + 1) = (i : Int) + 1 := by rw [IntKind.wrap_i64]; omega
  have hb1 : (0 : Int) ≤ (i : Int) + 1 := by omega
  have hin : i ≤ n := by omega
  have htn : ((i : Int) + 1).toNat = i + 1 := by omega
  have hb3 : (i : Int) ≤ (n : Int) := by omega
  have hb4 : (i : Int) + 1 ≤ (n : Int) + 1 := by omega
  clear hkk hik hold hROW hG hRl
  go_enter Tryz.func96, Tryz.ntmps96
  go_wp2_with (first
    | (at_builtin; refine Lib.wpList_append_run _ rfl _ _ _ _ rfl _ _ rfl rfl _ _ (hrz _) ?_)
    | (at_builtin; refine wpList_copy_runI _ rfl _ _ 33 33 rfl _ _ rfl rfl (hcpA _ hE1 hE2 _ _) ?_)
    | (at_builtin; refine wpList_copy_runI _ rfl _ _ 33 33 rfl _ _ rfl rfl (hcpB _ (fun _ => rfl) (fun _ => rfl) _ _ _) ?_))
  go_region_law (refine step_copy_runI rfl _ _ 33 33 rfl (.slice (some ⟨w.heap.size, (i + 1) * 7, none⟩) (n - i) (G - (i + 1))) (.slice (some ⟨g, i * 7, none⟩) (n - i) (c - i)) (by simp [Act.eval, Act.put]) (by simp [Act.eval, Act.put]) (hcpB _ hF1 hF2 3 (G - (i + 1)) (c - i)) ?_)
  go_wp2
  go_ret
  exact ⟨rfl, rfl⟩

end Go.Proofs.YtlojfgdpmaigmacGreatDoor

/- slices.Insert of one entry, in a list of one's own: all roads. -/
namespace Go.Proofs.YtlojfgdpmaigmacGreatDoor
open Go.RowKit Plain Go.Shelf

theorem flatE_ins (xs : List En) (i : Nat) (x : En) : flatE (xs.take i ++ x :: xs.drop i) = (flatE xs).take (i * 7) ++ (x.vals ++ (flatE xs).drop (i * 7)) := by
  rw [flatE_append, ← flatE_take, ← flatE_drop]
  rfl

theorem moved_newN {base n C size : Nat} {t : TypeId} {A : Option Addr} {vs : List Value} {w w' : World} {cur : Array Value} (hb : base ≤ w.heap.size) (hg : w'.heap[w.heap.size]? = some (.cells cur t (0, 0))) (hn : n ≤ C) (hm : C ≤ maxLen) (hs : cur.size = C * size) (hl : vs.length = n * size) (ht : cur.toList.take (n * size) = vs)
    (hk : Kept (obk A) w w') : Moved base t size n A (some ⟨w.heap.size, 0, none⟩) C vs w w' :=
  ⟨⟨hl, .inr ⟨w.heap.size, C, cur, rfl, hb, hg, hn, hm, hs, ht⟩⟩, hk, .inr ⟨w.heap.size, rfl, Nat.le_refl _⟩⟩

theorem moved_oldN {base n C g size : Nat} {t : TypeId} {vs : List Value} {w w' : World} {cur : Array Value} (hb : base ≤ g) (hg : w'.heap[g]? = some (.cells cur t (0, 0))) (hn : n ≤ C) (hm : C ≤ maxLen) (hs : cur.size = C * size) (hl : vs.length = n * size) (ht : cur.toList.take (n * size) = vs)
    (hk : Kept [g] w w') : Moved base t size n (some ⟨g, 0, none⟩) (some ⟨g, 0, none⟩) C vs w w' :=
  ⟨⟨hl, .inr ⟨g, C, cur, rfl, hb, hg, hn, hm, hs, ht⟩⟩, hk, .inl rfl⟩

theorem insertE_any (base : Nat) (A : Option Addr) (C vb vc : Nat) (xs : List En) (i : Nat) (x : En) (w : World) (ho : w.ownsRow base 40 7 (.slice A xs.length C) xs.length (flatE xs)) (hi : i ≤ xs.length) (hv : RowL w vb 40 x.vals) (hvb : vb ∉ obk A) (hB : base ≤ w.heap.size) (hz : (xs.length + 1) * 56 ≤ 140737488351232) :
    Calls Tryz.prog 96 #[.slice A xs.length C, .int .i64 (i : Int), .slice (some ⟨vb, 0, none⟩) 1 vc] w
      fun e w' => ∃ A' C', e = .returned (.slice A' (xs.length + 1) C') ∧ Moved base 40 7 (xs.length + 1) A A' C' (flatE (xs.take i ++ x :: xs.drop i)) w w' := by
  by_cases hin : i < xs.length
  · rcases ho.2 with ⟨hn, hn0⟩ | ⟨g, cap, cur, hn, hb, hg, hl, hm, hs, ht⟩
    · omega
    · simp only [Value.slice.injEq] at hn
      obtain ⟨rfl, -, rfl⟩ := hn
      have hvg : vb ≠ g := fun e => hvb (by simp [obk, e])
      have hil := flatE_length xs
      have hcl : cur.toList.length = C * 7 := by simpa using hs
      have hcell : ∀ j, w.cell? ⟨g, j, none⟩ = cur.toList[j]? := fun j => by simp [World.cell?, hg]
      have hcs : ∀ j v, (flatE xs)[j]? = some v → w.cell? ⟨g, j, none⟩ = some v := fun j v hj => by
        rw [hcell, ← hj, ← ht, List.getElem?_take, if_pos]
        have := (List.getElem?_eq_some_iff.1 hj).1
        omega
      have hvs : ∀ j v, (x.vals)[j]? = some v → w.cell? ⟨vb, j, none⟩ = some v := fun j v hj => by rw [hv.cell]; exact hj
      have hfz : ∀ j, w.frozen? ⟨g, j, none⟩ = false := fun j => by simp [World.frozen?, hg]
      have h1v : ∀ v ∈ x.vals, v.oneCell' = true := by
        have := flatE_one [x]
        rwa [flatE_single] at this
      have hvl : x.vals.length = 7 := rfl
      have e7 : (i + 1) * 7 = i * 7 + x.vals.length := by rw [hvl]; omega
      have e8 : (xs.length + 1) * 7 = (flatE xs).length + x.vals.length := by rw [hvl, hil]; omega
      have hlen : (flatE (xs.take i ++ x :: xs.drop i)).length = (xs.length + 1) * 7 := by rw [flatE_length]; simp; omega
      rw [flatE_ins] at hlen ⊢
      generalize x.vals = vv at *
      by_cases hroom : xs.length + 1 ≤ C
      · refine (insertE_shift g xs.length C i vb vc (flatE xs) vv w hin hroom (by unfold maxLen at hm; omega) hvg hil hvl hcs (fun j hj => by rw [hcell, List.getElem?_eq_getElem (by omega)]; rfl) hfz hvs (flatE_one xs) h1v 40 40 7 (C * 7)
          (by unfold World.shape?; rw [show w.heap[vb]? = _ from hv]; simp [hvl]) (by unfold World.shape?; rw [hg]; simp [hs]) (by omega) hv.frozen).mono ?_
        rintro e w' ⟨rfl, rfl⟩
        have h1 := setCells_at g 40 ((flatE xs).drop (i * 7)) ((i + 1) * 7) cur w.drew hg
        have h2 := setCells_at g 40 vv (i * 7) _ _ h1
        refine ⟨_, _, rfl, moved_oldN hb h2 hroom hm (by simp [ovr_length, hs]) hlen ?_ ?_⟩
        · rw [e7, e8]
          exact ovr_shifts (by rw [hil]; exact ht) (by omega) (by rw [hcl, hil, hvl]; omega)
        · exact (((Kept.refl _ w).drew).trans (setCells_kept g _ _ _)).trans (setCells_kept g _ _ _)
      · refine (insertE_grow g xs.length C i vb vc (flatE xs) vv w hin hl (by omega) (by omega) hil hvl hcs hvs (flatE_one xs) h1v).mono ?_
        rintro e w' ⟨G, hG, hGm, rfl, rfl⟩
        have hRs := rowG_size (i := i) (Nat.le_of_lt hin) hil hG
        have hRt := rowG_take (G := G) (Nat.le_of_lt hin) hil
        generalize rowG (flatE xs) i xs.length G = ROW at hRs hRt ⊢
        have h0 : (w.alloc (.cells ROW 40)).drew.heap[w.heap.size]? = some (.cells ROW 40 (0, 0)) := heap_alloc_new w _
        have h1 := setCells_at w.heap.size 40 vv (i * 7) ROW _ h0
        have h2 := setCells_at w.heap.size 40 ((flatE xs).drop (i * 7)) ((i + 1) * 7) _ ((w.alloc (.cells ROW 40)).drew.setCells w.heap.size (i * 7) vv).drew h1
        refine ⟨_, _, rfl, moved_newN (by omega) h2 hG hGm (by simp [ovr_length, hRs]) hlen ?_ ?_⟩
        · rw [e7, e8]
          exact ovr_fills (cur := ROW.toList) hRt (by omega) (by rw [hil, hvl]; simp [hRs]; omega)
        · have k1 := (((Kept.refl [w.heap.size] w).alloc (.cells ROW 40)).drew.trans (setCells_kept w.heap.size vv (i * 7) _)).drew.trans (setCells_kept w.heap.size ((flatE xs).drop (i * 7)) ((i + 1) * 7) _)
          exact ⟨k1.os, k1.tape, k1.output, k1.size, fun k hk _ => k1.block k hk (by simp; omega)⟩
  · obtain rfl : i = xs.length := by omega
    rw [List.take_length, List.drop_length]
    exact insertE_end base A C vb vc xs x w ho hv hB hz

end Go.Proofs.YtlojfgdpmaigmacGreatDoor
