/- All nodes that hold too much, from the leaves up: in plain terms. -/
import Derived.Test.YtlojfgdpmaigmacGreatDoorP16
import Derived.Test.YtlojfgdpmaigmacGreatDoorP17
import Derived.Test.YtlojfgdpmaigmacGreatDoorP18
namespace Go.Proofs.YtlojfgdpmaigmacGreatDoor
open Go.RowKit Plain

def adoptAt (ns : List Nd) (p : Int) (i : Nat) (more : List (Int × Int)) : List Nd := ns.set p.toNat (adoptN (nth ns p) i more)

/-- The kids, from the last one on, each with its siblings. -/
def kidsN (rec : List Nd → Int → List Nd × List (Int × Int)) (p : Int) : Nat → List Nd → List Nd
  | 0, ns => ns
  | i + 1, ns => kidsN rec p i (adoptAt (rec ns ((nth ns p).kids.getD i 0)).1 p i (rec ns ((nth ns p).kids.getD i 0)).2)

def splitAllN : Nat → List Nd → Int → List Nd × List (Int × Int)
  | 0, ns, p => splitN ns p
  | h + 1, ns, p => splitN (kidsN (splitAllN h) p (nth ns p).kids.length ns) p

theorem zip_app {α β : Type} {a a' : List α} {b b' : List β} (h : a.length = b.length) : (a ++ a').zip (b ++ b') = a.zip b ++ a'.zip b' := List.zip_append h

/-- A kid's siblings, right behind it. -/
theorem ups_adopt {kids keys places mkeys : List Int} {hi : Int} {i : Nat} (hk : keys.length + 1 = kids.length) (hi' : i < kids.length) (hl : places.length = mkeys.length) :
    ups (kids.take (i + 1) ++ places ++ kids.drop (i + 1)) (keys.take i ++ mkeys ++ keys.drop i) hi = (ups kids keys hi).take i ++ ups (kids[i] :: places) mkeys ((keys ++ [hi])[i]'(by simp; omega)) ++ (ups kids keys hi).drop (i + 1) := by
  unfold ups
  have hlk : i < (keys ++ [hi]).length := by simp; omega
  have e1 : kids.take (i + 1) = kids.take i ++ [kids[i]] := List.take_succ_eq_append_getElem hi'
  have e2 : keys.drop i ++ [hi] = (keys ++ [hi])[i] :: (keys ++ [hi]).drop (i + 1) := by
    rw [← List.drop_eq_getElem_cons hlk, List.drop_append_of_le_length (by omega)]
  have e3 : (keys ++ [hi]).take i = keys.take i := List.take_append_of_le_length (by omega)
  have l1 : (kids.take i).length = (keys.take i).length := by simp; omega
  have a1 : kids.take (i + 1) ++ places ++ kids.drop (i + 1) = kids.take i ++ ((kids[i] :: places) ++ kids.drop (i + 1)) := by rw [e1, List.append_assoc, List.append_assoc]; rfl
  have a2 : keys.take i ++ mkeys ++ keys.drop i ++ [hi] = keys.take i ++ ((mkeys ++ [(keys ++ [hi])[i]]) ++ (keys ++ [hi]).drop (i + 1)) := by
    rw [List.append_assoc, List.append_assoc, e2]
    simp
  rw [a1, a2, zip_app l1, zip_app (by simp [hl]), take_zip', drop_zip', e3, List.append_assoc]

theorem nth_set_self {ns : List Nd} {p : Int} {y : Nd} (h0 : 0 ≤ p) (h1 : p < ns.length) : nth (ns.set p.toNat y) p = y := by
  unfold nth
  rw [List.getD_eq_getElem?_getD, List.getElem?_set_self (by omega)]
  rfl
theorem nth_set_far {ns : List Nd} {p n : Int} {y : Nd} (h0 : 0 ≤ p) (hn : 0 ≤ n) (hne : n ≠ p) : nth (ns.set p.toNat y) n = nth ns n := by
  unfold nth
  rw [List.getD_eq_getElem?_getD, List.getD_eq_getElem?_getD, List.getElem?_set_ne (by omega)]

theorem adopt_cont {ns : List Nd} {p : Int} {i : Nat} {more : List (Int × Int)} (h0 : 0 ≤ p) (h1 : p < ns.length) : ((adoptAt ns p i more).flatMap cont).Perm (ns.flatMap cont) := by
  have hx : ns[p.toNat]'(by omega) = nth ns p := by
    unfold nth
    rw [List.getD_eq_getElem?_getD, List.getElem?_eq_getElem (by omega)]
    rfl
  have := set_cont (ns := ns) (xs := []) (i := p.toNat) (y := adoptN (nth ns p) i more) (by omega) (by rw [hx]; simp [cont, adoptN])
  simpa [adoptAt] using this

/-- What stands behind the kids from i on. -/
structure KidsOk (mL : Nat) (ns0 ns : List Nd) (h : Nat) (p lo hi : Int) (P : List Int) (x : Nd) (i : Nat) : Prop where
  len : i ≤ x.kids.length
  at' : ∃ kids keys : List Int, ∃ T : List (Int × Int), ∃ Q1 Q2 : List Int, nth ns p = { x with kids := kids, keys := keys } ∧ keys.length + 1 = kids.length ∧ x.kids.length ≤ kids.length ∧ kids.take i = x.kids.take i ∧ ups kids keys hi = (ups x.kids x.keys hi).take i ++ T ∧
    SubK (Sub mL 4 ns h) lo ((ups x.kids x.keys hi).take i) Q1 ∧ SubK (Sub 6 4 ns h) (endU lo ((ups x.kids x.keys hi).take i)) T Q2 ∧ (p :: (Q1 ++ Q2)).Perm (P ++ placesF ns0.length (ns.length - ns0.length))
  le : ns0.length ≤ ns.length
  same : ∀ n, n ∉ P → 0 ≤ n → n < ns0.length → nth ns n = nth ns0 n
  cont : (ns.flatMap cont).Perm (ns0.flatMap cont)

theorem take_succ_ups {kids keys : List Int} {hi : Int} {i : Nat} (hk : keys.length + 1 = kids.length) (hi' : i < kids.length) : (ups kids keys hi).take (i + 1) = (ups kids keys hi).take i ++ [(kids[i], (keys ++ [hi])[i]'(by simp; omega))] := by
  have hl : i < (ups kids keys hi).length := by simp [ups]; omega
  rw [List.take_succ_eq_append_getElem hl]
  congr 2
  exact (List.getElem?_eq_some_iff.1 (ups_get hk hi')).2

theorem kids_step {mL : Nat} {ns0 ns : List Nd} {h : Nat} {p lo hi : Int} {P : List Int} {x : Nd} {i : Nat} {R : List Nd × List (Int × Int)} (hx : x.keys.length + 1 = x.kids.length) (hp0 : 0 ≤ p) (hp1 : p < ns0.length) (hpP : p ∈ P) (hP : P.Nodup) (hPr : ∀ n ∈ P, 0 ≤ n ∧ n < ns0.length)
    (hK : KidsOk mL ns0 ns h p lo hi P x (i + 1)) (hR : ∀ lo u Qd, Sub mL 4 ns h ((nth ns p).kids.getD i 0) lo u Qd → Qd.Nodup → SplitOk ns R.1 h ((nth ns p).kids.getD i 0) lo u Qd R.2) :
    KidsOk mL ns0 (adoptAt R.1 p i R.2) h p lo hi P x i := by
  obtain ⟨kids, keys, T, Q1, Q2, hn, hkl, hle, htk, hU, s1, s2, hpm⟩ := hK.at'
  have hix : i < x.kids.length := hK.len
  have hik : i < kids.length := by omega
  have hd : (nth ns p).kids.getD i 0 = x.kids[i] := by
    have e : kids[i] = x.kids[i] := by
      have h1 : (kids.take (i + 1))[i]? = (x.kids.take (i + 1))[i]? := by rw [htk]
      rw [List.getElem?_take, List.getElem?_take, if_pos (by omega), if_pos (by omega), List.getElem?_eq_getElem hik, List.getElem?_eq_getElem hix] at h1
      simpa using h1
    rw [hn]
    simp [hik, e]
  rw [hd] at hR
  rw [take_succ_ups hx hix, SubK_append] at s1
  obtain ⟨Qa, Qd, rfl, s1a, Qd', Qe, rfl, s1d, hQe⟩ := s1
  cases hQe
  rw [List.append_nil] at hpm
  rw [take_succ_ups hx hix, endU_last] at s2
  have hnd : (p :: (Qa ++ Qd' ++ Q2)).Nodup := hpm.nodup_iff.2 (List.nodup_append.2 ⟨hP, placesF_nodup _ _, fun a ha b hb e => by
    have h1 := (hPr a ha).2
    have h2 := (placesF_mem.1 hb).1
    omega⟩)
  have hnd2 := hnd
  rw [List.nodup_cons, List.nodup_append, List.nodup_append] at hnd
  obtain ⟨hpn, ⟨na, nd', nad⟩, n2, nad2⟩ := hnd
  have hs := hR _ _ _ s1d nd'
  obtain ⟨Q', t1, t2⟩ := hs.sub
  have hsle := hs.le
  have hle0 := hK.le
  have hpn' : p ∉ Qd' := fun e => hpn (by simp [e])
  have hpl : p < ns.length := by omega
  have hpR : nth R.1 p = nth ns p := hs.same p hpn' hp0 hpl
  have hpRl : p < R.1.length := by omega
  have hnR : nth (adoptAt R.1 p i R.2) p = adoptN (nth R.1 p) i R.2 := nth_set_self hp0 hpRl
  have hfar : ∀ n, 0 ≤ n → n ≠ p → nth (adoptAt R.1 p i R.2) n = nth R.1 n := fun n h0 hne => nth_set_far hp0 h0 hne
  have hlen : (adoptAt R.1 p i R.2).length = R.1.length := by simp [adoptAt]
  have hr1 := SubK_range s1a
  have hr2 := SubK_range s2
  have hml : (R.2.map (·.2)).length = (R.2.map (·.1)).length := by simp
  refine ⟨by omega, ⟨kids.take (i + 1) ++ R.2.map (·.2) ++ kids.drop (i + 1), keys.take i ++ R.2.map (·.1) ++ keys.drop i, ups (x.kids[i] :: R.2.map (·.2)) (R.2.map (·.1)) ((x.keys ++ [hi])[i]'(by simp; omega)) ++ T, Qa, Q' ++ Q2, ?_, ?_, ?_, ?_, ?_, ?_, ?_, ?_⟩, by omega, ?_, ?_⟩
  · rw [hnR, hpR, hn]
    rfl
  · simp; omega
  · simp; omega
  · rw [List.append_assoc, List.take_append_of_le_length (by simp; omega), List.take_take, Nat.min_eq_left (by omega)]
    have := congrArg (List.take i) htk
    rwa [List.take_take, List.take_take, Nat.min_eq_left (by omega)] at this
  · have hkd : kids[i] = x.kids[i] := by
      have h1 : (kids.take (i + 1))[i]? = (x.kids.take (i + 1))[i]? := by rw [htk]
      rw [List.getElem?_take, List.getElem?_take, if_pos (by omega), if_pos (by omega), List.getElem?_eq_getElem hik, List.getElem?_eq_getElem hix] at h1
      simpa using h1
    have hUi : (ups kids keys hi).take (i + 1) = (ups x.kids x.keys hi).take (i + 1) := by
      rw [hU]
      have hl : ((ups x.kids x.keys hi).take (i + 1)).length = i + 1 := by simp [ups]; omega
      exact List.take_left' hl
    have hTd : (ups kids keys hi).drop (i + 1) = T := by
      rw [hU]
      have hl : ((ups x.kids x.keys hi).take (i + 1)).length = i + 1 := by simp [ups]; omega
      exact List.drop_left' hl
    have hTi : (ups kids keys hi).take i = (ups x.kids x.keys hi).take i := by
      have := congrArg (List.take i) hUi
      rwa [List.take_take, List.take_take, Nat.min_eq_left (by omega)] at this
    have hup : (keys ++ [hi])[i]'(by simp; omega) = (x.keys ++ [hi])[i]'(by simp; omega) := by
      have a := take_succ_ups (hi := hi) hkl hik
      have b := take_succ_ups (hi := hi) hx hix
      rw [hUi, b, hTi] at a
      have := List.append_cancel_left a
      simp at this
      exact this.2.symm
    rw [ups_adopt hkl hik hml, hTd, hTi, hkd, List.append_assoc]
    simp only [hup]
  · refine SubK_imp s1a fun d l u Qq a b => Sub_congr h d l u Qq a fun n hn' => ?_
    have hr := hr1 n (b n hn')
    have hne : n ≠ p := fun e => hpn (by rw [← e]; simp [b n hn'])
    have hnot : n ∉ Qd' := fun e => nad n (b n hn') n e rfl
    exact ⟨(hfar n hr.1 hne).trans (hs.same n hnot hr.1 hr.2), by rw [hlen]; omega⟩
  · rw [SubK_append]
    refine ⟨Q', Q2, rfl, ?_, ?_⟩
    · refine SubK_imp t1 fun d l u Qq a b => Sub_congr h d l u Qq a fun n hn' => ?_
      have hm := t2.mem_iff.1 (b n hn')
      have hr : 0 ≤ n ∧ n < R.1.length := SubK_range t1 n (b n hn')
      have hne : n ≠ p := by
        rintro rfl
        rcases List.mem_append.1 hm with e | e
        · exact hpn' e
        · have := (placesF_mem.1 e).1; omega
      exact ⟨hfar n hr.1 hne, by rw [hlen]; exact hr.2⟩
    · rw [endU_ups (by simp)]
      refine SubK_imp s2 fun d l u Qq a b => Sub_congr h d l u Qq a fun n hn' => ?_
      have hr := hr2 n (b n hn')
      have hne : n ≠ p := fun e => hpn (by rw [← e]; simp [b n hn'])
      have hnot : n ∉ Qd' := fun e => nad2 n (List.mem_append_right _ e) n (b n hn') rfl
      exact ⟨(hfar n hr.1 hne).trans (hs.same n hnot hr.1 hr.2), by rw [hlen]; omega⟩
  · rw [hlen, show R.1.length - ns0.length = (ns.length - ns0.length) + (R.1.length - ns.length) by omega, placesF_append, show ns0.length + (ns.length - ns0.length) = ns.length by omega]
    rw [← List.append_assoc P]
    refine List.Perm.trans ?_ (hpm.append_right _)
    show (p :: (Qa ++ (Q' ++ Q2))).Perm (p :: (Qa ++ Qd' ++ Q2 ++ placesF ns.length (R.1.length - ns.length)))
    refine List.Perm.cons p ?_
    simp only [List.append_assoc]
    refine List.Perm.append_left Qa ?_
    refine (t2.append_right Q2).trans ?_
    simp only [List.append_assoc]
    exact List.Perm.append_left Qd' List.perm_append_comm
  · intro n hnP h0 h1
    have hne : n ≠ p := fun e => hnP (e ▸ hpP)
    have hnot : n ∉ Qd' := by
      intro e
      have : n ∈ P ++ placesF ns0.length (ns.length - ns0.length) := hpm.mem_iff.1 (by simp [e])
      rcases List.mem_append.1 this with e' | e'
      · exact hnP e'
      · have := (placesF_mem.1 e').1; omega
    exact (hfar n h0 hne).trans ((hs.same n hnot h0 (by omega)).trans (hK.same n hnP h0 h1))
  · exact (adopt_cont hp0 hpRl).trans (hs.cont.trans hK.cont)

theorem kidsN_ok {mL : Nat} {ns0 : List Nd} {h : Nat} {p lo hi : Int} {P : List Int} {x : Nd} {rec : List Nd → Int → List Nd × List (Int × Int)} (hx : x.keys.length + 1 = x.kids.length) (hp0 : 0 ≤ p) (hp1 : p < ns0.length) (hpP : p ∈ P) (hP : P.Nodup) (hPr : ∀ n ∈ P, 0 ≤ n ∧ n < ns0.length)
    (hrec : ∀ ns d lo u Qd, Sub mL 4 ns h d lo u Qd → Qd.Nodup → SplitOk ns (rec ns d).1 h d lo u Qd (rec ns d).2) :
    ∀ (i : Nat) (ns : List Nd), KidsOk mL ns0 ns h p lo hi P x i → KidsOk mL ns0 (kidsN rec p i ns) h p lo hi P x 0
  | 0, _, hK => hK
  | i + 1, ns, hK => kidsN_ok hx hp0 hp1 hpP hP hPr hrec i _ (kids_step hx hp0 hp1 hpP hP hPr hK fun lo u Qd a b => hrec ns _ lo u Qd a b)

/-- All of a tree's nodes that hold too much are split: what is left is a row of nodes that hold enough. -/
theorem splitAll_ok {mL : Nat} : ∀ (h : Nat) (ns : List Nd) (p lo hi : Int) (P : List Int), Sub mL 4 ns h p lo hi P → P.Nodup → SplitOk ns (splitAllN h ns p).1 h p lo hi P (splitAllN h ns p).2
  | 0, ns, p, lo, hi, P, hs, hP => split_ok (mK := 4) (mL := mL) (show Top mL 4 ns 0 p lo hi P from hs) hP
  | h + 1, ns, p, lo, hi, P, hs, hP => by
    have hPr := Sub_range _ _ _ _ _ hs
    obtain ⟨hr, Q, rfl, hin⟩ := hs
    have hul : (ups (nth ns p).kids (nth ns p).keys hi).take (nth ns p).kids.length = ups (nth ns p).kids (nth ns p).keys hi := List.take_of_length_le (by simp [ups]; omega)
    have hK : KidsOk mL ns ns h p lo hi (p :: Q) (nth ns p) (nth ns p).kids.length := by
      refine ⟨Nat.le_refl _, ⟨(nth ns p).kids, (nth ns p).keys, [], Q, [], rfl, hin.keys, Nat.le_refl _, rfl, ?_, ?_, rfl, ?_⟩, Nat.le_refl _, fun _ _ _ _ => rfl, List.Perm.refl _⟩
      · rw [hul, List.append_nil]
      · rw [hul]; exact hin.kids
      · simp [placesF]
    have hK0 := kidsN_ok (rec := splitAllN h) hin.keys hr.1 hr.2.1 (by simp) hP hPr (fun ns d lo u Qd a b => splitAll_ok h ns d lo u Qd a b) _ _ hK
    show SplitOk ns (splitN (kidsN (splitAllN h) p (nth ns p).kids.length ns) p).1 (h + 1) p lo hi (p :: Q) (splitN (kidsN (splitAllN h) p (nth ns p).kids.length ns) p).2
    generalize kidsN (splitAllN h) p (nth ns p).kids.length ns = ns1 at hK0 ⊢
    obtain ⟨kids, keys, T, Q1, Q2, hn, hkl, hle, -, hU, s1, s2, hpm⟩ := hK0.at'
    have hle1 := hK0.le
    cases s1
    rw [List.take_zero] at hU s2
    rw [List.nil_append] at hU hpm
    have htwo := hin.two
    have hp1 := hr.2.1
    have hnd : (p :: Q2).Nodup := hpm.nodup_iff.2 (List.nodup_append.2 ⟨hP, placesF_nodup _ _, fun a ha b hb e => by
      have h1 := (hPr a ha).2
      have h2 := (placesF_mem.1 hb).1
      omega⟩)
    have htop : Top 6 kids.length ns1 (h + 1) p lo hi (p :: Q2) := by
      refine ⟨⟨hr.1, by omega, hr.2.2⟩, Q2, rfl, ?_⟩
      rw [hn]
      exact ⟨hin.leaf, hin.ents, by show 2 ≤ kids.length; omega, Nat.le_refl _, hkl, hin.few, hin.buf, by show SubK _ lo (ups kids keys hi) Q2; rw [hU]; exact s2⟩
    have hs := split_ok htop hnd
    have hle2 := hs.le
    have hfew := hs.few
    obtain ⟨Q', t1, t2⟩ := hs.sub
    refine ⟨⟨Q', t1, t2.trans ?_⟩, by omega, ?_, hs.cont.trans hK0.cont, by omega⟩
    · rw [show (splitN ns1 p).1.length - ns.length = (ns1.length - ns.length) + ((splitN ns1 p).1.length - ns1.length) by omega, placesF_append, show ns.length + (ns1.length - ns.length) = ns1.length by omega, ← List.append_assoc (p :: Q)]
      exact hpm.append_right _
    · intro n hnP h0 h1
      refine (hs.same n ?_ h0 (by omega)).trans (hK0.same n hnP h0 h1)
      intro e
      rcases List.mem_append.1 (hpm.mem_iff.1 e) with e' | e'
      · exact hnP e'
      · have := (placesF_mem.1 e').1; omega

end Go.Proofs.YtlojfgdpmaigmacGreatDoor

/- slices.Reverse over entries: its walk. -/
namespace Go.Proofs.YtlojfgdpmaigmacGreatDoor
open Go.RowKit Plain Go.Shelf

theorem kept_set1 {g : Nat} {w wr : World} (h : Kept [g] w wr) (a : Nat) (v : Value) : Kept [g] w (wr.setCell ⟨g, a, none⟩ v) :=
  ⟨h.os, h.tape, h.output, by simpa using h.size, fun k hk hne => (Below.heap_setCell _ _ _ _ (show k ≠ g from fun e => hne (by simp [e]))).trans (h.block k hk hne)⟩

theorem kept_set7 {g : Nat} {w wr : World} (h : Kept [g] w wr) (a : Nat) (x : En) : Kept [g] w (setE7 wr g a x) := by
  unfold setE7
  exact kept_set1 (kept_set1 (kept_set1 (kept_set1 (kept_set1 (kept_set1 (kept_set1 h _ _) _ _) _ _) _ _) _ _) _ _) _ _

theorem rv_at {xs : List En} {i k : Nat} (h : 2 * i ≤ xs.length) (hk : k < xs.length) (h1 : ¬ (k < i ∨ xs.length - 1 - k < i)) : (rvN i xs)[k]'(by rw [rvN_length]; exact hk) = xs.getD k default := by
  have e := rvN_get xs i h k hk
  rw [if_neg h1, List.getElem?_eq_getElem (by rw [rvN_length]; exact hk)] at e
  rw [List.getD_eq_getElem?_getD, ← e]
  rfl

theorem rv_en {base g C i k : Nat} {xs : List En} {w : World} (h : w.ownsRow base 40 7 (.slice (some ⟨g, 0, none⟩) xs.length C) xs.length (flatE (rvN i xs))) (hi : 2 * i ≤ xs.length) (hk : k < xs.length) (h1 : ¬ (k < i ∨ xs.length - 1 - k < i)) : EnAt w g (k * 7) (xs.getD k default) ∧ g < w.heap.size := by
  obtain ⟨b, o, e, hb, hen⟩ := (own_ok h).1.en (k := k) (by rw [rvN_length]; exact hk)
  cases e
  rw [rv_at hi hk h1, Nat.zero_add] at hen
  exact ⟨hen, hb⟩

theorem rv_step {base g C i j : Nat} {xs : List En} {w : World} (h : w.ownsRow base 40 7 (.slice (some ⟨g, 0, none⟩) xs.length C) xs.length (flatE (rvN i xs))) (hi : i < xs.length) (hj : j = xs.length - 1 - i) :
    (setE7 (setE7 w g (i * 7) (xs.getD j default)) g (j * 7) (xs.getD i default)).ownsRow base 40 7 (.slice (some ⟨g, 0, none⟩) xs.length C) xs.length (flatE (rvN (i + 1) xs)) := by
  have hl := rvN_length i xs
  have h1 : w.ownsRow base 40 7 (.slice (some ⟨g, 0, none⟩) (rvN i xs).length C) (rvN i xs).length (flatE (rvN i xs)) := by rw [hl]; exact h
  have h2 := own_set7 (x := xs.getD j default) h1 (i := i) (by omega)
  have h3 := own_set7 (x := xs.getD i default) h2 (i := j) (by rw [List.length_set]; omega)
  rw [List.length_set, List.length_set, hl] at h3
  subst hj
  exact h3

theorem own_drew {W : World} {base n : Nat} {e : TypeId} {size : Nat} {v : Value} {vs : List Value} (h : W.ownsRow base e size v n vs) : W.drew.ownsRow base e size v n vs := own_of_block h (fun _ _ => rfl)
theorem kept_drew {ex : List Nat} {w W : World} (h : Kept ex w W) : Kept ex w W.drew := ⟨h.os, h.tape, h.output, h.size, h.block⟩

theorem hideR {p : Prop} (h : p) : Hid p := h

set_option maxRecDepth 20000 in
set_option maxHeartbeats 2000000 in
theorem reverse_any (base g C : Nat) (xs : List En) (w : World) (hz : xs.length ≤ 1000000) (h : w.ownsRow base 40 7 (.slice (some ⟨g, 0, none⟩) xs.length C) xs.length (flatE xs)) :
    Calls Tryz.prog 18 #[.slice (some ⟨g, 0, none⟩) xs.length C] w
      fun e w' => e = .returned (.tuple #[]) ∧ w'.ownsRow base 40 7 (.slice (some ⟨g, 0, none⟩) xs.length C) xs.length (flatE xs.reverse) ∧ Kept [g] w w' := by
  have k0 : IntKind.i64.wrap ((xs.length : Int) - 1) = (xs.length : Int) - 1 := by rw [IntKind.wrap_i64]; omega
  go_enter Tryz.func18, Tryz.ntmps18
  go_wp2_with fail
  go_loopw [2, 3] (fun vi vj wr => ∃ i : Nat, vi = .int .i64 (i : Int) ∧ vj = .int .i64 ((xs.length : Int) - 1 - i) ∧ 2 * i ≤ xs.length ∧ wr.ownsRow base 40 7 (.slice (some ⟨g, 0, none⟩) xs.length C) xs.length (flatE (rvN i xs)) ∧ Kept [g] w wr) (fun vi _ _ => xs.length - (intOf vi).toNat)
  case atStart => exact ⟨0, rfl, by simp, by omega, h, Kept.refl _ _⟩
  case round =>
    obtain ⟨i, rfl, rfl, hi, hown, hkp⟩ := hrel
    by_cases hlt : (i : Int) < (xs.length : Int) - 1 - i
    · obtain ⟨j, hj⟩ : ∃ j : Nat, j = xs.length - 1 - i := ⟨_, rfl⟩
      have hji : (xs.length : Int) - 1 - i = (j : Int) := by omega
      rw [hji] at hlt ⊢
      have hil : i < xs.length := by omega
      have hjl : j < xs.length := by omega
      obtain ⟨ei, lg⟩ := rv_en hown hi hil (by omega)
      obtain ⟨ej, -⟩ := rv_en hown hi hjl (by omega)
      obtain ⟨c0, c1, c2, c3, c4, c5, c6⟩ := ei
      obtain ⟨d0, d1, d2, d3, d4, d5, d6⟩ := ej
      have HS := hideR (rv_step hown hil hj)
      have HK := hideR (kept_set7 (kept_set7 hkp (i * 7) (xs.getD j default)) (j * 7) (xs.getD i default))
      have fz : ∀ o, wr.frozen? ⟨g, o, none⟩ = false := fun o => hown.frozenAt o
      have q0 : (0 : Int) ≤ (i : Int) := by omega
      have q1 : (i : Int) < (xs.length : Int) := by omega
      have q2 : (0 : Int) ≤ (j : Int) := by omega
      have q3 : (j : Int) < (xs.length : Int) := by omega
      have k1 : IntKind.i64.wrap ((i : Int) + 1) = (i : Int) + 1 := by rw [IntKind.wrap_i64]; omega
      have k2 : IntKind.i64.wrap ((j : Int) - 1) = (j : Int) - 1 := by rw [IntKind.wrap_i64]; omega
      have n00 : ¬ i * 7 = j * 7 := by omega
      have n01 : ¬ i * 7 = j * 7 + 1 := by omega
      have n02 : ¬ i * 7 = j * 7 + 2 := by omega
      have n03 : ¬ i * 7 = j * 7 + 3 := by omega
      have n04 : ¬ i * 7 = j * 7 + 4 := by omega
      have n05 : ¬ i * 7 = j * 7 + 5 := by omega
      have n06 : ¬ i * 7 = j * 7 + 6 := by omega
      have n10 : ¬ i * 7 + 1 = j * 7 := by omega
      have n11 : ¬ i * 7 + 1 = j * 7 + 1 := by omega
      have n12 : ¬ i * 7 + 1 = j * 7 + 2 := by omega
      have n13 : ¬ i * 7 + 1 = j * 7 + 3 := by omega
      have n14 : ¬ i * 7 + 1 = j * 7 + 4 := by omega
      have n15 : ¬ i * 7 + 1 = j * 7 + 5 := by omega
      have n16 : ¬ i * 7 + 1 = j * 7 + 6 := by omega
      have n20 : ¬ i * 7 + 2 = j * 7 := by omega
      have n21 : ¬ i * 7 + 2 = j * 7 + 1 := by omega
      have n22 : ¬ i * 7 + 2 = j * 7 + 2 := by omega
      have n23 : ¬ i * 7 + 2 = j * 7 + 3 := by omega
      have n24 : ¬ i * 7 + 2 = j * 7 + 4 := by omega
      have n25 : ¬ i * 7 + 2 = j * 7 + 5 := by omega
      have n26 : ¬ i * 7 + 2 = j * 7 + 6 := by omega
      have n30 : ¬ i * 7 + 3 = j * 7 := by omega
      have n31 : ¬ i * 7 + 3 = j * 7 + 1 := by omega
      have n32 : ¬ i * 7 + 3 = j * 7 + 2 := by omega
      have n33 : ¬ i * 7 + 3 = j * 7 + 3 := by omega
      have n34 : ¬ i * 7 + 3 = j * 7 + 4 := by omega
      have n35 : ¬ i * 7 + 3 = j * 7 + 5 := by omega
      have n36 : ¬ i * 7 + 3 = j * 7 + 6 := by omega
      have n40 : ¬ i * 7 + 4 = j * 7 := by omega
      have n41 : ¬ i * 7 + 4 = j * 7 + 1 := by omega
      have n42 : ¬ i * 7 + 4 = j * 7 + 2 := by omega
      have n43 : ¬ i * 7 + 4 = j * 7 + 3 := by omega
      have n44 : ¬ i * 7 + 4 = j * 7 + 4 := by omega
      have n45 : ¬ i * 7 + 4 = j * 7 + 5 := by omega
      have n46 : ¬ i * 7 + 4 = j * 7 + 6 := by omega
      have n50 : ¬ i * 7 + 5 = j * 7 := by omega
      have n51 : ¬ i * 7 + 5 = j * 7 + 1 := by omega
      have n52 : ¬ i * 7 + 5 = j * 7 + 2 := by omega
      have n53 : ¬ i * 7 + 5 = j * 7 + 3 := by omega
      have n54 : ¬ i * 7 + 5 = j * 7 + 4 := by omega
      have n55 : ¬ i * 7 + 5 = j * 7 + 5 := by omega
      have n56 : ¬ i * 7 + 5 = j * 7 + 6 := by omega
      have n60 : ¬ i * 7 + 6 = j * 7 := by omega
      have n61 : ¬ i * 7 + 6 = j * 7 + 1 := by omega
      have n62 : ¬ i * 7 + 6 = j * 7 + 2 := by omega
      have n63 : ¬ i * 7 + 6 = j * 7 + 3 := by omega
      have n64 : ¬ i * 7 + 6 = j * 7 + 4 := by omega
      have n65 : ¬ i * 7 + 6 = j * 7 + 5 := by omega
      have n66 : ¬ i * 7 + 6 = j * 7 + 6 := by omega
      have HJ := hideR hj
      have HI := hideR hi
      clear hj hji hown hkp hi
      generalize xs.getD i default = x at *
      generalize xs.getD j default = y at *
      obtain ⟨xk, xc, xs1, xlo, xhi, xt, xl⟩ := x
      obtain ⟨yk, yc, ys1, ylo, yhi, yt, yl⟩ := y
      simp only at c0 c1 c2 c3 c4 c5 c6 d0 d1 d2 d3 d4 d5 d6
      simp only [setE7] at HS HK
      have HR : Hid ((j : Int) - 1 = (xs.length : Int) - 1 - ((i + 1 : Nat) : Int) ∧ 2 * (i + 1) ≤ xs.length) := by
        have := HJ.out
        have := HI.out
        constructor <;> omega
      go_wp2_with fail
      go_region
      all_goals
        go_wp2_with fail
        go_roundw
        case rel =>
          go_light
          exact ⟨i + 1, by go_num, by rw [HR.out.1], HR.out.2, own_drew HS.out, kept_drew HK.out⟩
        case measure => simp [intOf]; omega
    · go_wp2_with fail
      go_end0
      rw [rvN_end xs i hi (by omega)] at hown
      exact ⟨rfl, hown, hkp⟩

end Go.Proofs.YtlojfgdpmaigmacGreatDoor
