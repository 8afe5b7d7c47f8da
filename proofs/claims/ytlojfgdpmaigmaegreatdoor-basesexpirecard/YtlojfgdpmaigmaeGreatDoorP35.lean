/- All nodes that hold too much, from the leaves up: in plain terms. -/
import Derived.Test.YtlojfgdpmaigmaeGreatDoorP30
import Derived.Test.YtlojfgdpmaigmaeGreatDoorP32
import Derived.Test.YtlojfgdpmaigmaeGreatDoorP33
import Derived.Test.YtlojfgdpmaigmaeGreatDoorP19
import Derived.Test.YtlojfgdpmaigmaeGreatDoorP16
import Derived.Test.YtlojfgdpmaigmaeGreatDoorP15
namespace Go.Proofs.YtlojfgdpmaigmaeGreatDoor
open Go.RowKit Plain

def adoptAt (ns : List Nd) (p : Int) (i : Nat) (more : List (Int × Int)) : List Nd := ns.set p.toNat (adoptN (nth ns p) i more)

/-- The kids, from the last one on, each with its siblings. -/
def kidsN (rec : List Nd → Int → List Nd × List (Int × Int)) (p : Int) : Nat → List Nd → List Nd
  | 0, ns => ns
  | i + 1, ns => kidsN rec p i (adoptAt (rec ns ((nth ns p).kids.getD i 0)).1 p i (rec ns ((nth ns p).kids.getD i 0)).2)

def splitAllN : Nat → List Nd → Int → List Nd × List (Int × Int)
  | 0, ns, p => splitN ns p
  | h + 1, ns, p => splitN (kidsN (splitAllN h) p (nth ns p).kids.length ns) p

theorem zip_app {α β : Type} {a a' : List α} {b b' : List β} (h : a.length = b.length) : (a ++ a').zip (b ++ b') = a.zip b ++ a'.zip b' := List.zip_append h

/-- A kid's siblings, right behind it. -/
theorem ups_adopt {kids keys places mkeys : List Int} {hi : Int} {i : Nat} (hk : keys.length + 1 = kids.length) (hi' : i < kids.length) (hl : places.length = mkeys.length) :
    ups (kids.take (i + 1) ++ places ++ kids.drop (i + 1)) (keys.take i ++ mkeys ++ keys.drop i) hi = (ups kids keys hi).take i ++ ups (kids[i] :: places) mkeys ((keys ++ [hi])[i]'(by simp; omega)) ++ (ups kids keys hi).drop (i + 1) := by
  unfold ups
  have hlk : i < (keys ++ [hi]).length := by simp; omega
  have e1 : kids.take (i + 1) = kids.take i ++ [kids[i]] := List.take_succ_eq_append_getElem hi'
  have e2 : keys.drop i ++ [hi] = (keys ++ [hi])[i] :: (keys ++ [hi]).drop (i + 1) := by
    rw [← List.drop_eq_getElem_cons hlk, List.drop_append_of_le_length (by omega)]
  have e3 : (keys ++ [hi]).take i = keys.take i := List.take_append_of_le_length (by omega)
  have l1 : (kids.take i).length = (keys.take i).length := by simp; omega
  have a1 : kids.take (i + 1) ++ places ++ kids.drop (i + 1) = kids.take i ++ ((kids[i] :: places) ++ kids.drop (i + 1)) := by rw [e1, List.append_assoc, List.append_assoc]; rfl
  have a2 : keys.take i ++ mkeys ++ keys.drop i ++ [hi] = keys.take i ++ ((mkeys ++ [(keys ++ [hi])[i]]) ++ (keys ++ [hi]).drop (i + 1)) := by
    rw [List.append_assoc, List.append_assoc, e2]
    simp
  rw [a1, a2, zip_app l1, zip_app (by simp [hl]), take_zip', drop_zip', e3, List.append_assoc]

theorem nth_set_self {ns : List Nd} {p : Int} {y : Nd} (h0 : 0 ≤ p) (h1 : p < ns.length) : nth (ns.set p.toNat y) p = y := by
  unfold nth
  rw [List.getD_eq_getElem?_getD, List.getElem?_set_self (by omega)]
  rfl
theorem nth_set_far {ns : List Nd} {p n : Int} {y : Nd} (h0 : 0 ≤ p) (hn : 0 ≤ n) (hne : n ≠ p) : nth (ns.set p.toNat y) n = nth ns n := by
  unfold nth
  rw [List.getD_eq_getElem?_getD, List.getD_eq_getElem?_getD, List.getElem?_set_ne (by omega)]

theorem adopt_cont {ns : List Nd} {p : Int} {i : Nat} {more : List (Int × Int)} (h0 : 0 ≤ p) (h1 : p < ns.length) : ((adoptAt ns p i more).flatMap cont).Perm (ns.flatMap cont) := by
  have hx : ns[p.toNat]'(by omega) = nth ns p := by
    unfold nth
    rw [List.getD_eq_getElem?_getD, List.getElem?_eq_getElem (by omega)]
    rfl
  have := set_cont (ns := ns) (xs := []) (i := p.toNat) (y := adoptN (nth ns p) i more) (by omega) (by rw [hx]; simp [cont, adoptN])
  simpa [adoptAt] using this

/-- What stands behind the kids from i on. -/
structure KidsOk (mL : Nat) (ns0 ns : List Nd) (h : Nat) (p lo hi : Int) (P : List Int) (x : Nd) (i : Nat) : Prop where
  len : i ≤ x.kids.length
  at' : ∃ kids keys : List Int, ∃ T : List (Int × Int), ∃ Q1 Q2 : List Int, nth ns p = { x with kids := kids, keys := keys } ∧ keys.length + 1 = kids.length ∧ x.kids.length ≤ kids.length ∧ kids.take i = x.kids.take i ∧ ups kids keys hi = (ups x.kids x.keys hi).take i ++ T ∧
    SubK (Sub mL 4 ns h) lo ((ups x.kids x.keys hi).take i) Q1 ∧ SubK (Sub 6 4 ns h) (endU lo ((ups x.kids x.keys hi).take i)) T Q2 ∧ (p :: (Q1 ++ Q2)).Perm (P ++ placesF ns0.length (ns.length - ns0.length))
  le : ns0.length ≤ ns.length
  same : ∀ n, n ∉ P → 0 ≤ n → n < ns0.length → nth ns n = nth ns0 n
  cont : (ns.flatMap cont).Perm (ns0.flatMap cont)

theorem take_succ_ups {kids keys : List Int} {hi : Int} {i : Nat} (hk : keys.length + 1 = kids.length) (hi' : i < kids.length) : (ups kids keys hi).take (i + 1) = (ups kids keys hi).take i ++ [(kids[i], (keys ++ [hi])[i]'(by simp; omega))] := by
  have hl : i < (ups kids keys hi).length := by simp [ups]; omega
  rw [List.take_succ_eq_append_getElem hl]
  congr 2
  exact (List.getElem?_eq_some_iff.1 (ups_get hk hi')).2

theorem kids_step {mL : Nat} {ns0 ns : List Nd} {h : Nat} {p lo hi : Int} {P : List Int} {x : Nd} {i : Nat} {R : List Nd × List (Int × Int)} (hx : x.keys.length + 1 = x.kids.length) (hp0 : 0 ≤ p) (hp1 : p < ns0.length) (hpP : p ∈ P) (hP : P.Nodup) (hPr : ∀ n ∈ P, 0 ≤ n ∧ n < ns0.length)
    (hK : KidsOk mL ns0 ns h p lo hi P x (i + 1)) (hR : ∀ lo u Qd, Sub mL 4 ns h ((nth ns p).kids.getD i 0) lo u Qd → Qd.Nodup → SplitOk ns R.1 h ((nth ns p).kids.getD i 0) lo u Qd R.2) :
    KidsOk mL ns0 (adoptAt R.1 p i R.2) h p lo hi P x i := by
  obtain ⟨kids, keys, T, Q1, Q2, hn, hkl, hle, htk, hU, s1, s2, hpm⟩ := hK.at'
  have hix : i < x.kids.length := hK.len
  have hik : i < kids.length := by omega
  have hd : (nth ns p).kids.getD i 0 = x.kids[i] := by
    have e : kids[i] = x.kids[i] := by
      have h1 : (kids.take (i + 1))[i]? = (x.kids.take (i + 1))[i]? := by rw [htk]
      rw [List.getElem?_take, List.getElem?_take, if_pos (by omega), if_pos (by omega), List.getElem?_eq_getElem hik, List.getElem?_eq_getElem hix] at h1
      simpa using h1
    rw [hn]
    simp [hik, e]
  rw [hd] at hR
  rw [take_succ_ups hx hix, SubK_append] at s1
  obtain ⟨Qa, Qd, rfl, s1a, Qd', Qe, rfl, s1d, hQe⟩ := s1
  cases hQe
  rw [List.append_nil] at hpm
  rw [take_succ_ups hx hix, endU_last] at s2
  have hnd : (p :: (Qa ++ Qd' ++ Q2)).Nodup := hpm.nodup_iff.2 (List.nodup_append.2 ⟨hP, placesF_nodup _ _, fun a ha b hb e => by
    have h1 := (hPr a ha).2
    have h2 := (placesF_mem.1 hb).1
    omega⟩)
  have hnd2 := hnd
  rw [List.nodup_cons, List.nodup_append, List.nodup_append] at hnd
  obtain ⟨hpn, ⟨na, nd', nad⟩, n2, nad2⟩ := hnd
  have hs := hR _ _ _ s1d nd'
  obtain ⟨Q', t1, t2⟩ := hs.sub
  have hsle := hs.le
  have hle0 := hK.le
  have hpn' : p ∉ Qd' := fun e => hpn (by simp [e])
  have hpl : p < ns.length := by omega
  have hpR : nth R.1 p = nth ns p := hs.same p hpn' hp0 hpl
  have hpRl : p < R.1.length := by omega
  have hnR : nth (adoptAt R.1 p i R.2) p = adoptN (nth R.1 p) i R.2 := nth_set_self hp0 hpRl
  have hfar : ∀ n, 0 ≤ n → n ≠ p → nth (adoptAt R.1 p i R.2) n = nth R.1 n := fun n h0 hne => nth_set_far hp0 h0 hne
  have hlen : (adoptAt R.1 p i R.2).length = R.1.length := by simp [adoptAt]
  have hr1 := SubK_range s1a
  have hr2 := SubK_range s2
  have hml : (R.2.map (·.2)).length = (R.2.map (·.1)).length := by simp
  refine ⟨by omega, ⟨kids.take (i + 1) ++ R.2.map (·.2) ++ kids.drop (i + 1), keys.take i ++ R.2.map (·.1) ++ keys.drop i, ups (x.kids[i] :: R.2.map (·.2)) (R.2.map (·.1)) ((x.keys ++ [hi])[i]'(by simp; omega)) ++ T, Qa, Q' ++ Q2, ?_, ?_, ?_, ?_, ?_, ?_, ?_, ?_⟩, by omega, ?_, ?_⟩
  · rw [hnR, hpR, hn]
    rfl
  · simp; omega
  · simp; omega
  · rw [List.append_assoc, List.take_append_of_le_length (by simp; omega), List.take_take, Nat.min_eq_left (by omega)]
    have := congrArg (List.take i) htk
    rwa [List.take_take, List.take_take, Nat.min_eq_left (by omega)] at this
  · have hkd : kids[i] = x.kids[i] := by
      have h1 : (kids.take (i + 1))[i]? = (x.kids.take (i + 1))[i]? := by rw [htk]
      rw [List.getElem?_take, List.getElem?_take, if_pos (by omega), if_pos (by omega), List.getElem?_eq_getElem hik, List.getElem?_eq_getElem hix] at h1
      simpa using h1
    have hUi : (ups kids keys hi).take (i + 1) = (ups x.kids x.keys hi).take (i + 1) := by
      rw [hU]
      have hl : ((ups x.kids x.keys hi).take (i + 1)).length = i + 1 := by simp [ups]; omega
      exact List.take_left' hl
    have hTd : (ups kids keys hi).drop (i + 1) = T := by
      rw [hU]
      have hl : ((ups x.kids x.keys hi).take (i + 1)).length = i + 1 := by simp [ups]; omega
      exact List.drop_left' hl
    have hTi : (ups kids keys hi).take i = (ups x.kids x.keys hi).take i := by
      have := congrArg (List.take i) hUi
      rwa [List.take_take, List.take_take, Nat.min_eq_left (by omega)] at this
    have hup : (keys ++ [hi])[i]'(by simp; omega) = (x.keys ++ [hi])[i]'(by simp; omega) := by
      have a := take_succ_ups (hi := hi) hkl hik
      have b := take_succ_ups (hi := hi) hx hix
      rw [hUi, b, hTi] at a
      have := List.append_cancel_left a
      simp at this
      exact this.2.symm
    rw [ups_adopt hkl hik hml, hTd, hTi, hkd, List.append_assoc]
    simp only [hup]
  · refine SubK_imp s1a fun d l u Qq a b => Sub_congr h d l u Qq a fun n hn' => ?_
    have hr := hr1 n (b n hn')
    have hne : n ≠ p := fun e => hpn (by rw [← e]; simp [b n hn'])
    have hnot : n ∉ Qd' := fun e => nad n (b n hn') n e rfl
    exact ⟨(hfar n hr.1 hne).trans (hs.same n hnot hr.1 hr.2), by rw [hlen]; omega⟩
  · rw [SubK_append]
    refine ⟨Q', Q2, rfl, ?_, ?_⟩
    · refine SubK_imp t1 fun d l u Qq a b => Sub_congr h d l u Qq a fun n hn' => ?_
      have hm := t2.mem_iff.1 (b n hn')
      have hr : 0 ≤ n ∧ n < R.1.length := SubK_range t1 n (b n hn')
      have hne : n ≠ p := by
        rintro rfl
        rcases List.mem_append.1 hm with e | e
        · exact hpn' e
        · have := (placesF_mem.1 e).1; omega
      exact ⟨hfar n hr.1 hne, by rw [hlen]; exact hr.2⟩
    · rw [endU_ups (by simp)]
      refine SubK_imp s2 fun d l u Qq a b => Sub_congr h d l u Qq a fun n hn' => ?_
      have hr := hr2 n (b n hn')
      have hne : n ≠ p := fun e => hpn (by rw [← e]; simp [b n hn'])
      have hnot : n ∉ Qd' := fun e => nad2 n (List.mem_append_right _ e) n (b n hn') rfl
      exact ⟨(hfar n hr.1 hne).trans (hs.same n hnot hr.1 hr.2), by rw [hlen]; omega⟩
  · rw [hlen, show R.1.length - ns0.length = (ns.length - ns0.length) + (R.1.length - ns.length) by omega, placesF_append, show ns0.length + (ns.length - ns0.length) = ns.length by omega]
    rw [← List.append_assoc P]
    refine List.Perm.trans ?_ (hpm.append_right _)
    show (p :: (Qa ++ (Q' ++ Q2))).Perm (p :: (Qa ++ Qd' ++ Q2 ++ placesF ns.length (R.1.length - ns.length)))
    refine List.Perm.cons p ?_
    simp only [List.append_assoc]
    refine List.Perm.append_left Qa ?_
    refine (t2.append_right Q2).trans ?_
    simp only [List.append_assoc]
    exact List.Perm.append_left Qd' List.perm_append_comm
  · intro n hnP h0 h1
    have hne : n ≠ p := fun e => hnP (e ▸ hpP)
    have hnot : n ∉ Qd' := by
      intro e
      have : n ∈ P ++ placesF ns0.length (ns.length - ns0.length) := hpm.mem_iff.1 (by simp [e])
      rcases List.mem_append.1 this with e' | e'
      · exact hnP e'
      · have := (placesF_mem.1 e').1; omega
    exact (hfar n h0 hne).trans ((hs.same n hnot h0 (by omega)).trans (hK.same n hnP h0 h1))
  · exact (adopt_cont hp0 hpRl).trans (hs.cont.trans hK.cont)

theorem kidsN_ok {mL : Nat} {ns0 : List Nd} {h : Nat} {p lo hi : Int} {P : List Int} {x : Nd} {rec : List Nd → Int → List Nd × List (Int × Int)} (hx : x.keys.length + 1 = x.kids.length) (hp0 : 0 ≤ p) (hp1 : p < ns0.length) (hpP : p ∈ P) (hP : P.Nodup) (hPr : ∀ n ∈ P, 0 ≤ n ∧ n < ns0.length)
    (hrec : ∀ ns d lo u Qd, Sub mL 4 ns h d lo u Qd → Qd.Nodup → SplitOk ns (rec ns d).1 h d lo u Qd (rec ns d).2) :
    ∀ (i : Nat) (ns : List Nd), KidsOk mL ns0 ns h p lo hi P x i → KidsOk mL ns0 (kidsN rec p i ns) h p lo hi P x 0
  | 0, _, hK => hK
  | i + 1, ns, hK => kidsN_ok hx hp0 hp1 hpP hP hPr hrec i _ (kids_step hx hp0 hp1 hpP hP hPr hK fun lo u Qd a b => hrec ns _ lo u Qd a b)

/-- All of a tree's nodes that hold too much are split: what is left is a row of nodes that hold enough. -/
theorem splitAll_ok {mL : Nat} : ∀ (h : Nat) (ns : List Nd) (p lo hi : Int) (P : List Int), Sub mL 4 ns h p lo hi P → P.Nodup → SplitOk ns (splitAllN h ns p).1 h p lo hi P (splitAllN h ns p).2
  | 0, ns, p, lo, hi, P, hs, hP => split_ok (mK := 4) (mL := mL) (show Top mL 4 ns 0 p lo hi P from hs) hP
  | h + 1, ns, p, lo, hi, P, hs, hP => by
    have hPr := Sub_range _ _ _ _ _ hs
    obtain ⟨hr, Q, rfl, hin⟩ := hs
    have hul : (ups (nth ns p).kids (nth ns p).keys hi).take (nth ns p).kids.length = ups (nth ns p).kids (nth ns p).keys hi := List.take_of_length_le (by simp [ups]; omega)
    have hK : KidsOk mL ns ns h p lo hi (p :: Q) (nth ns p) (nth ns p).kids.length := by
      refine ⟨Nat.le_refl _, ⟨(nth ns p).kids, (nth ns p).keys, [], Q, [], rfl, hin.keys, Nat.le_refl _, rfl, ?_, ?_, rfl, ?_⟩, Nat.le_refl _, fun _ _ _ _ => rfl, List.Perm.refl _⟩
      · rw [hul, List.append_nil]
      · rw [hul]; exact hin.kids
      · simp [placesF]
    have hK0 := kidsN_ok (rec := splitAllN h) hin.keys hr.1 hr.2.1 (by simp) hP hPr (fun ns d lo u Qd a b => splitAll_ok h ns d lo u Qd a b) _ _ hK
    show SplitOk ns (splitN (kidsN (splitAllN h) p (nth ns p).kids.length ns) p).1 (h + 1) p lo hi (p :: Q) (splitN (kidsN (splitAllN h) p (nth ns p).kids.length ns) p).2
    generalize kidsN (splitAllN h) p (nth ns p).kids.length ns = ns1 at hK0 ⊢
    obtain ⟨kids, keys, T, Q1, Q2, hn, hkl, hle, -, hU, s1, s2, hpm⟩ := hK0.at'
    have hle1 := hK0.le
    cases s1
    rw [List.take_zero] at hU s2
    rw [List.nil_append] at hU hpm
    have htwo := hin.two
    have hp1 := hr.2.1
    have hnd : (p :: Q2).Nodup := hpm.nodup_iff.2 (List.nodup_append.2 ⟨hP, placesF_nodup _ _, fun a ha b hb e => by
      have h1 := (hPr a ha).2
      have h2 := (placesF_mem.1 hb).1
      omega⟩)
    have htop : Top 6 kids.length ns1 (h + 1) p lo hi (p :: Q2) := by
      refine ⟨⟨hr.1, by omega, hr.2.2⟩, Q2, rfl, ?_⟩
      rw [hn]
      exact ⟨hin.leaf, hin.ents, by show 2 ≤ kids.length; omega, Nat.le_refl _, hkl, hin.few, hin.buf, by show SubK _ lo (ups kids keys hi) Q2; rw [hU]; exact s2⟩
    have hs := split_ok htop hnd
    have hle2 := hs.le
    have hfew := hs.few
    obtain ⟨Q', t1, t2⟩ := hs.sub
    refine ⟨⟨Q', t1, t2.trans ?_⟩, by omega, ?_, hs.cont.trans hK0.cont, by omega⟩
    · rw [show (splitN ns1 p).1.length - ns.length = (ns1.length - ns.length) + ((splitN ns1 p).1.length - ns1.length) by omega, placesF_append, show ns.length + (ns1.length - ns.length) = ns1.length by omega, ← List.append_assoc (p :: Q)]
      exact hpm.append_right _
    · intro n hnP h0 h1
      refine (hs.same n ?_ h0 (by omega)).trans (hK0.same n hnP h0 h1)
      intro e
      rcases List.mem_append.1 (hpm.mem_iff.1 e) with e' | e'
      · exact hnP e'
      · have := (placesF_mem.1 e').1; omega

end Go.Proofs.YtlojfgdpmaigmaeGreatDoor

/- The walk of grow: roots above roots. -/
namespace Go.Proofs.YtlojfgdpmaigmaeGreatDoor
open Go.RowKit Plain

def lenV : Value → Nat
  | .slice _ n _ => n
  | _ => 0

/-- What splitAll, or split, leaves in memory; some blocks of the tree's may have turned. -/
structure GrowTo (base : Nat) (w : World) (tb g : Nat) (qs : List PN) (root : Int) (ns' : List Nd) (more : List (Int × Int)) (w' : World) (vm : Value) (g' C' : Nat) (qs' : List PN) : Prop where
  tree : TB base w' tb g' C' qs' root
  nds : qs'.map PN.nd = ns'
  more : w'.ownsRow w.heap.size 156 2 vm more.length (flatS more)
  apart : ∀ b, vm.ownBlock = some b → b ∉ tb :: feet g' qs'
  kept : Kept (tb :: feet g qs) w w'
  old : ∀ b ∈ feet g' qs', b ∈ feet g qs ∨ w.heap.size ≤ b

theorem SplitTo.grow {base : Nat} {w : World} {tb g : Nat} {qs : List PN} {root : Int} {ns' : List Nd} {more : List (Int × Int)} {w' : World} {vm : Value} {g' C' : Nat} {qs' : List PN} (h : SplitTo base w tb g qs root ns' more w' vm g' C' qs') : GrowTo base w tb g qs root ns' more w' vm g' C' qs' :=
  ⟨h.tree, h.nds, h.more, h.apart, h.kept.mono (by intro k hk; simp only [List.mem_cons, List.not_mem_nil, or_false] at hk; rcases hk with rfl | rfl; exact List.mem_cons_self; exact List.mem_cons_of_mem _ List.mem_cons_self), h.old⟩

/-- What stands where the loop of grow begins a round. -/
structure GrAt (base : Nat) (w0 : World) (tb g : Nat) (qs : List PN) (R : List Nd × Int) (N : Nat) (wr : World) (vm : Value) (g' C' : Nat) (qs' : List PN) (root : Int) (more : List (Int × Int)) : Prop where
  tree : TB base wr tb g' C' qs' root
  owns : wr.ownsRow w0.heap.size 156 2 vm more.length (flatS more)
  apart : ∀ b, vm.ownBlock = some b → b ∉ tb :: feet g' qs'
  kept : Kept (tb :: feet g qs) w0 wr
  old : ∀ b ∈ feet g' qs', b ∈ feet g qs ∨ w0.heap.size ≤ b
  row : more = [] ∨ ∃ h, RowOk (qs'.map PN.nd) h root more
  fin : growN more.length (qs'.map PN.nd) root more = R
  few : qs'.length + more.length ≤ N

theorem growN_fuel : ∀ (f f' : Nat) (ns : List Nd) (root : Int) (more : List (Int × Int)), more.length ≤ f → more.length ≤ f' → growN f ns root more = growN f' ns root more := by
  intro f
  induction f with
  | zero =>
    intro f' ns root more h1 h2
    obtain rfl : more = [] := List.eq_nil_of_length_eq_zero (by omega)
    cases f' <;> simp [growN]
  | succ f ih =>
    intro f' ns root more h1 h2
    cases f' with
    | zero =>
      obtain rfl : more = [] := List.eq_nil_of_length_eq_zero (by omega)
      simp [growN]
    | succ f' =>
      unfold growN
      split
      · rfl
      · rename_i hm
        have hml : 1 ≤ more.length := by cases more with | nil => exact absurd rfl hm | cons => simp
        have hl := (splitN_more ns root more).1
        exact ih f' _ _ _ (by omega) (by omega)

theorem growN_step (ns : List Nd) (root : Int) (more : List (Int × Int)) (hm : more ≠ []) : growN more.length ns root more = growN (splitN (ns ++ [newRoot root more]) ns.length).2.length (splitN (ns ++ [newRoot root more]) ns.length).1 ns.length (splitN (ns ++ [newRoot root more]) ns.length).2 := by
  have hml : 1 ≤ more.length := by cases more with | nil => exact absurd rfl hm | cons => simp
  obtain ⟨f, hf⟩ : ∃ f, more.length = f + 1 := ⟨more.length - 1, by omega⟩
  rw [hf, growN, if_neg hm]
  have hl := (splitN_more ns root more).1
  exact growN_fuel _ _ _ _ _ (by omega) (Nat.le_refl _)

/-- The node that is laid above. -/
theorem adAt_root {base : Nat} {wr : World} (root : Int) (hB : base ≤ wr.heap.size) :
    AdAt base ((wr.alloc (.cells #[.int .i64 root] 3)).alloc (.cells #[.bool false, .slice none 0 0, .slice none 0 0, .slice (some ⟨wr.heap.size, 0, none⟩) 1 1, .slice none 0 0] 112)) (wr.heap.size + 1) 0 112 [.bool false, .slice none 0 0, .slice none 0 0, .slice (some ⟨wr.heap.size, 0, none⟩) 1 1, .slice none 0 0] none (some ⟨wr.heap.size, 0, none⟩)
      ((wr.alloc (.cells #[.int .i64 root] 3)).alloc (.cells #[.bool false, .slice none 0 0, .slice none 0 0, .slice (some ⟨wr.heap.size, 0, none⟩) 1 1, .slice none 0 0] 112)) none 0 [] (some ⟨wr.heap.size, 0, none⟩) 1 [root] := by
  have s1 : (wr.alloc (.cells #[.int .i64 root] 3)).heap.size = wr.heap.size + 1 := by simp
  have r2 := rowL_alloc (wr.alloc (.cells #[.int .i64 root] 3)) [.bool false, .slice none 0 0, .slice none 0 0, .slice (some ⟨wr.heap.size, 0, none⟩) 1 1, .slice none 0 0] 112
  rw [s1] at r2
  have r1 : RowL ((wr.alloc (.cells #[.int .i64 root] 3)).alloc (.cells #[.bool false, .slice none 0 0, .slice none 0 0, .slice (some ⟨wr.heap.size, 0, none⟩) 1 1, .slice none 0 0] 112)) wr.heap.size 3 [.int .i64 root] := (rowL_alloc wr [.int .i64 root] 3).of_block (Below.heap_alloc _ _ _ (by simp))
  refine ⟨r2, World.ownsRow_nil _ _ _ _, ⟨rfl, .inr ⟨wr.heap.size, 1, #[.int .i64 root], rfl, hB, r1, Nat.le_refl _, by decide, rfl, rfl⟩⟩, Kept.refl _ _, by simp [obk], fun k hk => .inl hk, by simp [obk], by simp [obk], by simp [obk]⟩

theorem adopt_z (base nb no : Nat) (t : TypeId) (vs : List Value) (kA : Option Addr) (kC : Nat) (keys : List Int) (dA : Option Addr) (dC : Nat) (kids : List Int) (i : Nat) (z : Int) (mA : Option Addr) (mC : Nat) (more : List (Int × Int)) (w : World) (hzi : Hid (z = (i : Int)))
    (hA : AdAt base w nb no t vs kA dA w kA kC keys dA dC kids) (hvl : no + 3 < vs.length) (hB : base ≤ w.heap.size) (hm : RowAt w.heap.size w mA (flatS more)) (hmb : ∀ a, mA = some a → a.block ∉ nb :: obk kA ++ obk dA)
    (hi : i ≤ keys.length) (hi' : i + 1 ≤ kids.length) (hkz : (keys.length + more.length + 1) * 8 ≤ 140737488351232) (hdz : (kids.length + more.length + 1) * 8 ≤ 140737488351232) (ks ds : List Int) (hks : keysAt keys i more more.length = ks) (hds : kidsAt kids i more more.length = ds) :
    Calls Tryz.prog 103 #[.pointer (some ⟨nb, no, none⟩), .int .i64 z, .slice mA more.length mC] w
      fun e w' => e = .returned (.tuple #[]) ∧ ∃ kA' kC' dA' dC', AdAt base w nb no t vs kA dA w' kA' kC' ks dA' dC' ds := by
  have e : z = (i : Int) := hzi.out
  subst e hks hds
  exact adopt_any base nb no t vs kA kC keys dA dC kids i mA mC more w hA hvl hB hm hmb hi hi' hkz hdz

theorem keysAt_root (more : List (Int × Int)) : keysAt [] 0 more more.length = more.map (·.1) := by simp [keysAt]
theorem kidsAt_root (root : Int) (more : List (Int × Int)) : kidsAt [root] 0 more more.length = root :: more.map (·.2) := by simp [kidsAt]

theorem row_pre {ns : List Nd} {h : Nat} {root : Int} {more : List (Int × Int)} (hr : RowOk ns h root more) (hm : more ≠ []) (hz : more.length ≤ 999999) : SplitPre (newRoot root more) := by
  obtain ⟨Q, hQ, hp⟩ := hr.sub
  have hml : 1 ≤ more.length := by cases more with | nil => exact absurd rfl hm | cons => simp
  have hQ' : SubK (Sub 6 4 (ns ++ [newRoot root more]) h) 0 (ups (root :: more.map (·.2)) (more.map (·.1)) 1099511627776) Q :=
    SubK_imp hQ fun d lo hi Q1 a b => Sub_congr h d lo hi Q1 a fun n hn => by
      have hm := placesF_mem.1 (hp.mem_iff.1 (b n hn))
      exact ⟨nth_append_left (by omega) (by omega), by simp; omega⟩
  have htop : Top 0 (more.length + 1) (ns ++ [newRoot root more]) (h + 1) ns.length 0 1099511627776 ((ns.length : Int) :: Q) := by
    refine ⟨⟨by omega, by simp; omega, by decide⟩, Q, rfl, ?_⟩
    rw [nth_last]
    exact ⟨rfl, rfl, by simp [newRoot]; omega, by simp [newRoot], by simp [newRoot], by simp [newRoot], rfl, hQ'⟩
  have := Top_pre htop
  rw [nth_last] at this
  exact this (by simp [sizeN, newRoot]; omega)

theorem partsN_root (root : Int) (more : List (Int × Int)) : partsN (newRoot root more) ≤ more.length + 1 := by
  have hs : sizeN (newRoot root more) = more.length + 1 := by simp [sizeN, newRoot]
  have hm : mostN (newRoot root more) = 4 := by simp [mostN, newRoot]
  rw [partsN, hs, hm]
  omega

/-- The new root, as it is handed to add. -/
def rootPN (kA : Option Addr) (kC : Nat) (ks : List Int) (dA : Option Addr) (dC : Nat) (ds : List Int) : PN := ⟨false, none, 0, [], kA, kC, ks, dA, dC, ds, none, 0, []⟩

theorem rootPN_own {base : Nat} {w w' : World} {nb no : Nat} {t : TypeId} {vs : List Value} {kA0 dA0 kA dA : Option Addr} {kC dC : Nat} {ks ds : List Int} (h : AdAt base w nb no t vs kA0 dA0 w' kA kC ks dA dC ds) (hk : ks.length * 8 ≤ 140737488351232) (hd : ds.length * 8 ≤ 140737488351232) :
    (rootPN kA kC ks dA dC ds).own base w' ∧ (rootPN kA kC ks dA dC ds).blocks.Nodup ∧ ∀ b ∈ (rootPN kA kC ks dA dC ds).blocks, b ∈ obk kA ∨ b ∈ obk dA := by
  refine ⟨⟨World.ownsRow_nil _ _ _ _, h.ok, h.od, World.ownsRow_nil _ _ _ _, by simp [rootPN], hk, hd, by simp [rootPN]⟩, ?_, ?_⟩
  · have hne := h.ne
    unfold PN.blocks rootPN
    cases kA <;> cases dA <;> simp_all [obk]
  · intro b hb
    unfold PN.blocks rootPN at hb
    cases kA <;> cases dA <;> simp_all [obk]

theorem more_new {wr : World} {H n : Nat} {t : TypeId} {mA : Option Addr} {mC : Nat} {vs : List Value} (h : wr.ownsRow H t 2 (.slice mA n mC) n vs) : ∀ a, mA = some a → a.block ∉ (wr.heap.size + 1) :: obk none ++ obk (some ⟨wr.heap.size, 0, none⟩) := by
  rintro a rfl
  have := (own_lt h a.block rfl).2
  simp [obk]
  omega

theorem small_r {ks ds : List Int} {more : List (Int × Int)} (root : Int) (hm : more.length ≤ 999999) (hks : more.map (·.1) = ks) (hds : root :: more.map (·.2) = ds) :
    (([] : List Int).length + more.length + 1) * 8 ≤ 140737488351232 ∧ ([root].length + more.length + 1) * 8 ≤ 140737488351232 ∧ ks.length * 8 ≤ 140737488351232 ∧ ds.length * 8 ≤ 140737488351232 := by
  subst hks hds
  simp
  omega

theorem GrAt.below {base : Nat} {w0 : World} {tb g : Nat} {qs : List PN} {R : List Nd × Int} {N : Nat} {wr : World} {vm : Value} {g' C' : Nat} {qs' : List PN} {root : Int} {more : List (Int × Int)} (h : GrAt base w0 tb g qs R N wr vm g' C' qs' root more) (b : Nat) (hb : b ∈ tb :: feet g' qs') : b < wr.heap.size ∧ (b ∈ tb :: feet g qs ∨ w0.heap.size ≤ b) := by
  refine ⟨h.tree.lt b hb, ?_⟩
  rcases List.mem_cons.1 hb with rfl | hb
  · exact .inl List.mem_cons_self
  · rcases h.old b hb with h1 | h1
    · exact .inl (List.mem_cons_of_mem _ h1)
    · exact .inr h1

section
variable {base : Nat} {w0 : World} {tb g : Nat} {qs : List PN} {R : List Nd × Int} {N : Nat} {wr : World} {vm : Value} {g' C' : Nat} {qs' : List PN} {root : Int} {more : List (Int × Int)}

theorem tree5 {W w5 : World} (h : GrAt base w0 tb g qs R N wr vm g' C' qs' root more) (hW : Below wr.heap.size wr W) (hk : Kept ((wr.heap.size + 1) :: obk none ++ obk (some ⟨wr.heap.size, 0, none⟩)) W w5) : TB base w5 tb g' C' qs' root := by
  refine h.tree.of_blocks fun b hb => ?_
  have hl := h.tree.lt b hb
  have hs := hW.size
  rw [hk.block b (by omega) (by simp [obk]; omega), hW.block b hl]

theorem root_apart {W w5 : World} {t : TypeId} {vs : List Value} {kA dA : Option Addr} {kC dC : Nat} {ks ds : List Int} (h : GrAt base w0 tb g qs R N wr vm g' C' qs' root more) (hW : Below wr.heap.size wr W) (hA : AdAt base W (wr.heap.size + 1) 0 t vs none (some ⟨wr.heap.size, 0, none⟩) w5 kA kC ks dA dC ds) :
    (∀ b ∈ (rootPN kA kC ks dA dC ds).blocks, b ∉ feet g' qs') ∧ tb ∉ (rootPN kA kC ks dA dC ds).blocks := by
  have hs := hW.size
  have hge : ∀ b ∈ (rootPN kA kC ks dA dC ds).blocks, wr.heap.size ≤ b := by
    intro b hb
    have hb' : b ∈ obk kA ∨ b ∈ obk dA := by
      unfold PN.blocks rootPN at hb
      cases kA <;> cases dA <;> simp_all [obk]
    rcases hb' with e | e
    · rcases hA.lk b e with e | e
      · simp [obk] at e
      · omega
    · rcases hA.ld b e with e | e
      · simp [obk] at e; omega
      · omega
  refine ⟨fun b hb e => ?_, fun e => ?_⟩
  · have h1 := hge b hb
    have h2 := h.tree.lt b (List.mem_cons_of_mem _ e)
    omega
  · have h1 := hge tb e
    have h2 := h.tree.lt tb List.mem_cons_self
    omega

theorem few_z {a m : Nat} (h : a + m ≤ 999999) : (a + 1) * 104 ≤ 140737488351232 := Nat.le_trans (Nat.mul_le_mul_right 104 (show a + 1 ≤ 1000000 by omega)) (by decide)

theorem root_nd {kA dA : Option Addr} {kC dC : Nat} {ks ds : List Int} (hkd : more.map (·.1) = ks ∧ root :: more.map (·.2) = ds) : (rootPN kA kC ks dA dC ds).nd = newRoot root more := by
  obtain ⟨rfl, rfl⟩ := hkd
  rfl

theorem last_nd {q : PN} (h : qs'.length < (qs' ++ [q]).length) : (qs' ++ [q])[qs'.length] = q := by simp

theorem root_pre {kA dA : Option Addr} {kC dC : Nat} {ks ds : List Int} {hl : qs'.length < (qs' ++ [rootPN kA kC ks dA dC ds]).length} (h : GrAt base w0 tb g qs R N wr vm g' C' qs' root more) (hm : more ≠ []) (hkd : more.map (·.1) = ks ∧ root :: more.map (·.2) = ds) (hz : more.length ≤ 999999) : SplitPre ((qs' ++ [rootPN kA kC ks dA dC ds])[qs'.length]).nd := by
  rw [last_nd hl, root_nd hkd]
  obtain ⟨h1, hr⟩ := h.row.resolve_left hm
  exact row_pre hr hm hz

theorem few_z2 {kA dA : Option Addr} {kC dC : Nat} {ks ds : List Int} {hl : qs'.length < (qs' ++ [rootPN kA kC ks dA dC ds]).length} (h : qs'.length + more.length ≤ 999999) (hkd : more.map (·.1) = ks ∧ root :: more.map (·.2) = ds) : ((qs' ++ [rootPN kA kC ks dA dC ds]).length + partsN ((qs' ++ [rootPN kA kC ks dA dC ds])[qs'.length]).nd + 1) * 104 ≤ 140737488351232 := by
  rw [last_nd hl, root_nd hkd]
  have := partsN_root root more
  exact Nat.le_trans (Nat.mul_le_mul_right 104 (show _ ≤ 1000002 by simp; omega)) (by decide)

theorem base6 {W w5 w6 : World} {ex ex2 : List Nat} {v : Value} (h : base ≤ W.heap.size) (h5 : Kept ex W w5) (h6 : Kept ex2 w5 w6) : base ≤ (w6.setCell ⟨tb, 1, none⟩ v).heap.size := by
  have a := h5.size
  have b := h6.size
  simp
  omega

theorem gr_step {W w5 w6 w7 : World} {t : TypeId} {vs : List Value} {mA kA dA : Option Addr} {mC kC dC g2 C2 g7 C7 : Nat} {ks ds : List Int} {vm7 : Value} {qs7 : List PN} (h : GrAt base w0 tb g qs R N wr (.slice mA more.length mC) g' C' qs' root more) (hm : more ≠ []) (hW : Below wr.heap.size wr W)
    (hA : AdAt base W (wr.heap.size + 1) 0 t vs none (some ⟨wr.heap.size, 0, none⟩) w5 kA kC ks dA dC ds) (hkd : more.map (·.1) = ks ∧ root :: more.map (·.2) = ds) (_hT6 : TB base w6 tb g2 C2 (qs' ++ [rootPN kA kC ks dA dC ds]) root) (hk6 : Kept [tb, g'] w5 w6) (hg6 : g2 = g' ∨ w5.heap.size ≤ g2)
    (hs : SplitTo base (w6.setCell ⟨tb, 1, none⟩ (.int .i64 (qs'.length : Int))) tb g2 (qs' ++ [rootPN kA kC ks dA dC ds]) (qs'.length : Int) (splitN ((qs' ++ [rootPN kA kC ks dA dC ds]).map PN.nd) (qs'.length : Int)).1 (splitN ((qs' ++ [rootPN kA kC ks dA dC ds]).map PN.nd) (qs'.length : Int)).2 w7 vm7 g7 C7 qs7) :
    GrAt base w0 tb g qs R N w7 vm7 g7 C7 qs7 (qs'.length : Int) (splitN ((qs' ++ [rootPN kA kC ks dA dC ds]).map PN.nd) (qs'.length : Int)).2 ∧ lenV vm7 < lenV (.slice mA more.length mC) := by
  have hml : 1 ≤ more.length := by cases more with | nil => exact absurd rfl hm | cons => simp
  have hap := root_apart h hW hA
  have hnd : (qs' ++ [rootPN kA kC ks dA dC ds]).map PN.nd = qs'.map PN.nd ++ [newRoot root more] := by rw [List.map_append, List.map_cons, List.map_nil, root_nd hkd]
  have hll : (qs'.length : Int) = ((qs'.map PN.nd).length : Int) := by rw [List.length_map]
  have e1 : splitN ((qs' ++ [rootPN kA kC ks dA dC ds]).map PN.nd) (qs'.length : Int) = splitN (qs'.map PN.nd ++ [newRoot root more]) ((qs'.map PN.nd).length : Int) := by rw [hnd, ← hll]
  rw [e1] at hs ⊢
  obtain ⟨l1, l2⟩ := splitN_more (qs'.map PN.nd) root more
  have s0 := h.kept.size
  have sW := hW.size
  have s5 := hA.kept.size
  have s6 := hk6.size
  have hW6 : (w6.setCell ⟨tb, 1, none⟩ (.int .i64 (qs'.length : Int))).heap.size = w6.heap.size := by simp
  have hl7 : qs7.length = (splitN (qs'.map PN.nd ++ [newRoot root more]) ((qs'.map PN.nd).length : Int)).1.length := by rw [← hs.nds, List.length_map]
  have hg'b := h.below g' (List.mem_cons_of_mem _ List.mem_cons_self)
  have hge : ∀ b ∈ (rootPN kA kC ks dA dC ds).blocks, wr.heap.size ≤ b := by
    intro b hb
    have hb' : b ∈ obk kA ∨ b ∈ obk dA := by
      unfold PN.blocks rootPN at hb
      cases kA <;> cases dA <;> simp_all [obk]
    rcases hb' with e | e
    · rcases hA.lk b e with e | e
      · simp [obk] at e
      · omega
    · rcases hA.ld b e with e | e
      · simp [obk] at e; omega
      · omega
  have hg2 : g2 ∈ feet g qs ∨ w0.heap.size ≤ g2 := by
    rcases hg6 with rfl | hg6
    · exact h.old _ List.mem_cons_self
    · exact .inr (by omega)
  have hold2 : ∀ b ∈ feet g2 (qs' ++ [rootPN kA kC ks dA dC ds]), b ∈ feet g qs ∨ w0.heap.size ≤ b := by
    intro b hb
    rcases feet_snoc (g := g') hb with rfl | hb | hb
    · exact hg2
    · exact h.old b hb
    · exact .inr (Nat.le_trans s0 (hge b hb))
  refine ⟨⟨hs.tree, own_mono hs.more (by rw [hW6]; omega), hs.apart, ?_, fun b hb => ?_, ?_, ?_, ?_⟩, ?_⟩
  · have k1 : Kept (tb :: feet g qs) w0 W := h.kept.step (Kept.of_below hW (ex := [])) (by simp)
    have k2 : Kept (tb :: feet g qs) w0 w5 := k1.step hA.kept (fun b hb => by
      right
      simp [obk] at hb
      omega)
    have k3 : Kept (tb :: feet g qs) w0 w6 := k2.step hk6 (fun b hb => by
      simp only [List.mem_cons, List.not_mem_nil, or_false] at hb
      rcases hb with rfl | rfl
      · exact .inl List.mem_cons_self
      · rcases h.old _ List.mem_cons_self with e | e
        · exact .inl (List.mem_cons_of_mem _ e)
        · exact .inr e)
    have k4 := k3.set (.inl List.mem_cons_self) (j := 1) (.int .i64 (qs'.length : Int))
    exact k4.step hs.kept (fun b hb => by
      simp only [List.mem_cons, List.not_mem_nil, or_false] at hb
      rcases hb with rfl | rfl
      · exact .inl List.mem_cons_self
      · rcases hg2 with e | e
        · exact .inl (List.mem_cons_of_mem _ e)
        · exact .inr e)
  · rcases hs.old b hb with e | e
    · exact hold2 b e
    · rw [hW6] at e
      exact .inr (by omega)
  · obtain ⟨h1, hr⟩ := h.row.resolve_left hm
    have := (row_step hr hm).1
    refine .inr ⟨h1 + 1, ?_⟩
    rw [hs.nds, hll]
    exact this
  · rw [hs.nds, hll, ← growN_step _ _ _ hm]
    exact h.fin
  · have hf := h.few
    rw [hl7, l1, l2, List.length_map]
    omega
  · obtain ⟨A, Cc, hv, _⟩ := own_row hs.more
    rw [hv, l1]
    show (more.length + 4) / 4 - 1 < more.length
    omega
end

theorem grow_kept {g : Nat} {qs : List PN} {w w0 wr : World} {base : Nat} (hfl : ∀ k ∈ feet g qs, base ≤ k ∧ k < w.heap.size) (hb : Below w.heap.size w w0) (hs : w0.heap.size = w.heap.size + 2) (hk : Kept (w.heap.size :: feet g qs) w0 wr) (v0 v1 : Value) :
    Kept (feet g qs) w ((wr.setCell ⟨w.heap.size + 1, 0, none⟩ v0).setCell ⟨w.heap.size + 1, 1, none⟩ v1) := by
  have k1 : Kept (feet g qs) w wr := (Kept.of_below hb).step hk (fun b h => by
    rcases List.mem_cons.1 h with rfl | h
    · exact .inr (Nat.le_refl _)
    · exact .inl h)
  have _ := hfl
  have _ := hs
  exact (k1.set (.inr (by omega)) v0).set (.inr (by omega)) v1

set_option maxRecDepth 20000 in
set_option maxHeartbeats 4000000 in
theorem grow_any (base g C : Nat) (qs : List PN) (k : Nat) (ns1 : List Nd) (more1 : List (Int × Int)) (h1 : Nat) (R : List Nd × Int) (w : World) (hN : NT base w g C qs) (hB : base ≤ w.heap.size)
    (hcon : Hid (∀ (W : World) (tb : Nat), TB base W tb g C qs (k : Int) → base ≤ W.heap.size → Calls Tryz.prog 102 #[.pointer (some ⟨tb, 0, none⟩), .int .i64 (k : Int)] W fun e w' => ∃ vm g' C' qs', e = .returned vm ∧ GrowTo base W tb g qs (k : Int) ns1 more1 w' vm g' C' qs'))
    (hrow : more1 = [] ∨ RowOk ns1 h1 (k : Int) more1) (hfew : ns1.length + more1.length ≤ 999999) (hR : growN more1.length ns1 (k : Int) more1 = R) :
    Calls Tryz.prog 79 #[.agg #[.slice (some ⟨g, 0, none⟩) qs.length C, .int .i64 (k : Int)]] w
      fun e w' => Kept (feet g qs) w w' ∧ ((2000 < R.1.length ∧ e = .returned (.tuple #[.agg #[.slice none 0 0, .int .i64 0], .int .i64 1])) ∨
        (R.1.length ≤ 2000 ∧ ∃ g' C' qs', e = .returned (.tuple #[.agg #[.slice (some ⟨g', 0, none⟩) qs'.length C', .int .i64 R.2], .int .i64 0]) ∧ NT base w' g' C' qs' ∧ qs'.map PN.nd = R.1 ∧ ∀ b ∈ feet g' qs', b ∈ feet g qs ∨ w.heap.size ≤ b)) := by
  have hfl := hN.lt
  have hTB : ∀ o2 : Obj, TB base ((w.alloc (.cells #[.slice (some ⟨g, 0, none⟩) qs.length C, .int .i64 (k : Int)] 25)).alloc o2) w.heap.size g C qs (k : Int) := fun o2 => by
    have hb : Below w.heap.size w ((w.alloc (.cells #[.slice (some ⟨g, 0, none⟩) qs.length C, .int .i64 (k : Int)] 25)).alloc o2) := two_below _ _ _
    exact ⟨hN.below hb (Nat.le_refl _), (rowL_alloc w [.slice (some ⟨g, 0, none⟩) qs.length C, .int .i64 (k : Int)] 25).of_block (Below.heap_alloc _ _ _ (by simp)), fun e => by have := (hfl _ e).2; omega, hB⟩
  have HN := hideC hN
  have HW := hideC (And.intro hrow (And.intro hfew hR))
  clear hN hrow hfew hR
  go_enter Tryz.func79, Tryz.ntmps79
  go_wp2_with (go_at_call 102; refine (hcon.out _ _ (hTB _) (by simp; omega)).mono ?_; rintro e w1 ⟨vm, g1, C1, qs1, rfl, hg1⟩)
  obtain ⟨w0, hw0⟩ : ∃ w0, ((w.alloc (.cells #[.slice (some ⟨g, 0, none⟩) qs.length C, .int .i64 (k : Int)] 25)).alloc (.cells #[.slice none 0 0, .int .i64 0] 25)) = w0 := ⟨_, rfl⟩
  rw [hw0] at hg1
  have hs0 : w0.heap.size = w.heap.size + 2 := by rw [← hw0]; simp
  have hb0 : Below w.heap.size w w0 := by rw [← hw0]; exact two_below _ _ _
  have hres : RowL w0 (w.heap.size + 1) 25 [.slice none 0 0, .int .i64 0] := by
    have h := rowL_alloc (w.alloc (.cells #[.slice (some ⟨g, 0, none⟩) qs.length C, .int .i64 (k : Int)] 25)) [.slice none 0 0, .int .i64 0] 25
    rw [show (w.alloc (.cells #[.slice (some ⟨g, 0, none⟩) qs.length C, .int .i64 (k : Int)] 25)).heap.size = w.heap.size + 1 by simp] at h
    rw [← hw0]
    exact h
  have H0 := hideC (And.intro hs0 (And.intro hb0 hres))
  have hst : GrAt base w0 w.heap.size g qs R 999999 w1 vm g1 C1 qs1 (k : Int) more1 := by
    obtain ⟨q1, q2, q3⟩ := HW.out
    have hl : qs1.length = ns1.length := by rw [← hg1.nds, List.length_map]
    exact ⟨hg1.tree, hg1.more, hg1.apart, hg1.kept, hg1.old, q1.imp_right (fun q => ⟨h1, by rw [hg1.nds]; exact q⟩), by rw [hg1.nds]; exact q3, by omega⟩
  have HST := hideC hst
  have hsz1 : w.heap.size + 2 ≤ w0.heap.size := by omega
  clear hw0 hs0 hb0 hres hg1 hTB hst
  go_loopw [4] (fun vm wr => ∃ g' C' qs' root more, GrAt base w0 w.heap.size g qs R 999999 wr vm g' C' qs' root more) (fun vm _ => lenV vm)
  case atStart => exact ⟨g1, C1, qs1, _, more1, HST.out⟩
  case round =>
    obtain ⟨g', C', qs', root, more, hga⟩ := hrel
    obtain ⟨mA, mC, hvm, -, -, -, -⟩ := own_row hga.owns
    by_cases hm : more = []
    · subst hm
      have hRe : (qs'.map PN.nd, root) = R := hga.fin
      have hl : R.1.length = qs'.length := by rw [← hRe, List.length_map]
      have hr2 : R.2 = root := by rw [← hRe]
      have hv0 : u4 = .slice mA 0 mC := hvm
      subst hv0
      have c0 := hga.tree.box.cell 0
      have c1 := hga.tree.box.cell 1
      simp only [List.getElem?_cons_zero, List.getElem?_cons_succ] at c0 c1
      have hrs : RowL wr (w.heap.size + 1) 25 [.slice none 0 0, .int .i64 0] := hga.kept.row H0.out.2.2 (by
        intro e
        rcases List.mem_cons.1 e with e | e
        · omega
        · have := (hfl _ e).2; omega)
      have r0 := hrs.cell 0
      have r1 := hrs.cell 1
      have rf := hrs.frozen
      simp only [List.getElem?_cons_zero, List.getElem?_cons_succ] at r0 r1
      have tlt := hga.tree.box.lt
      have rlt := hrs.lt
      have HK := hideC (fun v0 v1 => grow_kept (hfl := hfl) H0.out.2.1 H0.out.1 hga.kept v0 v1)
      have HE := hideC (And.intro hRe (And.intro hl hr2))
      have HGA := hideC hga
      have nel : ¬ w.heap.size + 1 = w.heap.size := by omega
      clear hga hRe hl hr2 hvm hrs
      by_cases hbig : 2000 < qs'.length
      · have hbig' : (2000 : Int) < (qs'.length : Int) := by omega
        go_wp2_with fail
        refine bodyPost_ret (v := .tuple #[.agg #[.slice none 0 0, .int .i64 0], .int .i64 1]) (by simp [results, Tryz.results79, go_sem, r0, r1]) rfl ⟨HK.out _ _, .inl ⟨by rw [HE.out.2.1]; exact hbig, rfl⟩⟩
      · have hbig' : ¬ (2000 : Int) < (qs'.length : Int) := by omega
        go_wp2_with fail
        refine bodyPost_ret (v := .tuple #[.agg #[.slice (some ⟨g', 0, none⟩) qs'.length C', .int .i64 root], .int .i64 0]) (by simp [results, Tryz.results79, go_sem, r0, r1]) rfl ⟨HK.out _ _, .inr ⟨by rw [HE.out.2.1]; omega, g', C', qs', by rw [HE.out.2.2], ?_, by rw [← HE.out.1], ?_⟩⟩
        · refine HGA.out.tree.nt.of_blocks fun b hb => ?_
          have hne : b ≠ w.heap.size + 1 := by
            intro e
            rcases HGA.out.old b hb with h | h
            · have := (hfl b h).2; omega
            · omega
          exact (Below.heap_setCell _ _ _ _ hne).trans (Below.heap_setCell _ _ _ _ hne)
        · intro b hb
          rcases HGA.out.old b hb with h | h
          · exact .inl h
          · exact .inr (by omega)
    · have hml : 1 ≤ more.length := by cases more with | nil => exact absurd rfl hm | cons => simp
      have hml' : (0 : Int) < (more.length : Int) := by omega
      have hmN : more.length ≤ 999999 := Nat.le_trans (Nat.le_add_left _ _) hga.few
      subst hvm
      have c0 := hga.tree.box.cell 0
      have c1 := hga.tree.box.cell 1
      simp only [List.getElem?_cons_zero, List.getElem?_cons_succ] at c0 c1
      have tlt := hga.tree.box.lt
      have fz := hga.tree.box.frozen
      have HGA := hideC hga
      clear hga
      have hBr : base ≤ wr.heap.size := Nat.le_trans hB (Nat.le_trans H0.out.2.1.size HGA.out.kept.size)
      have hW := two_below wr (.cells #[.int .i64 root] 3) (.cells #[.bool false, .slice none 0 0, .slice none 0 0, .slice (some ⟨wr.heap.size, 0, none⟩) 1 1, .slice none 0 0] 112)
      have hmr := hideC ((own_ok HGA.out.owns).1.go hW (Nat.le_refl _) (Nat.le_refl _))
      have hmb := hideC (more_new HGA.out.owns)
      have HAD := hideC (adAt_root (wr := wr) root hBr)
      obtain ⟨ks, hks⟩ : ∃ ks, more.map (·.1) = ks := ⟨_, rfl⟩
      obtain ⟨ds, hds⟩ : ∃ ds, root :: more.map (·.2) = ds := ⟨_, rfl⟩
      have HKD := hideC (And.intro hks hds)
      have HZ := hideC (small_r root hmN hks hds)
      have hBW : base ≤ ((wr.alloc (.cells #[.int .i64 root] 3)).alloc (.cells #[.bool false, .slice none 0 0, .slice none 0 0, .slice (some ⟨wr.heap.size, 0, none⟩) 1 1, .slice none 0 0] 112)).heap.size := Nat.le_trans hBr hW.size
      have HWb := hideC hW
      clear hks hds hW
      go_wp2_with (first
        | (go_at_call 103; refine (adopt_z base (wr.heap.size + 1) 0 112 [.bool false, .slice none 0 0, .slice none 0 0, .slice (some ⟨wr.heap.size, 0, none⟩) 1 1, .slice none 0 0] none 0 [] (some ⟨wr.heap.size, 0, none⟩) 1 [root] 0 0 mA mC more _ (show (0 : Int) = ((0 : Nat) : Int) from rfl) HAD.out (by simp) hBW hmr.out hmb.out (Nat.le_refl _) (Nat.le_refl _) HZ.out.1 HZ.out.2.1 ks ds (by rw [keysAt_root]; exact HKD.out.1) (by rw [kidsAt_root]; exact HKD.out.2)).mono ?_; rintro e w5 ⟨rfl, kA, kC, dA, dC, hA5⟩; have r5 := hA5.row; have e0 := r5.cell 0; have e1 := r5.cell 1; have e2 := r5.cell 2; have e3 := r5.cell 3; have e4 := r5.cell 4; simp only [List.set_cons_zero, List.set_cons_succ, List.getElem?_cons_zero, List.getElem?_cons_succ, Nat.zero_add] at e0 e1 e2 e3 e4; have HA5 := hideC hA5; clear hA5 r5)
        | (go_at_call 104; refine (add_any base w.heap.size g' C' qs' root (rootPN kA kC ks dA dC ds) _ (tree5 HGA.out HWb.out HA5.out.kept) (rootPN_own HA5.out HZ.out.2.2.1 HZ.out.2.2.2).1 (rootPN_own HA5.out HZ.out.2.2.1 HZ.out.2.2.2).2.1 (root_apart HGA.out HWb.out HA5.out).1 (root_apart HGA.out HWb.out HA5.out).2 (few_z HGA.out.few) (Nat.le_trans hBW HA5.out.kept.size)).mono ?_; rintro e w6 ⟨rfl, g2, C2, hT6, hk6, hg6⟩; have f1 := hT6.box.cell 1; have ff := hT6.box.frozen 1; simp only [List.getElem?_cons_zero, List.getElem?_cons_succ] at f1; have f0 := hT6.box.cell 0; simp only [List.getElem?_cons_zero] at f0; have HT6 := hideC (And.intro hT6 (And.intro hk6 hg6)); have tl6 := hT6.box.lt; clear hT6 hk6 hg6)
        | (go_at_call 105; refine (split_any base w.heap.size g2 C2 (qs' ++ [rootPN kA kC ks dA dC ds]) (qs'.length : Int) qs'.length _ (HT6.out.1.setRoot _) (by simp) (root_pre HGA.out hm HKD.out hmN) (base6 hBW HA5.out.kept HT6.out.2.1) (few_z2 HGA.out.few HKD.out)).mono ?_; rintro e w7 ⟨vm7, g7, C7, qs7, rfl, hs7⟩))
      go_roundw
      case rel => exact ⟨g7, C7, qs7, _, _, (gr_step HGA.out hm HWb.out HA5.out HKD.out HT6.out.1 HT6.out.2.1 HT6.out.2.2 hs7).1⟩
      case measure =>
        have := (gr_step HGA.out hm HWb.out HA5.out HKD.out HT6.out.1 HT6.out.2.1 HT6.out.2.2 hs7).2
        exact this

end Go.Proofs.YtlojfgdpmaigmaeGreatDoor

/- What is wrong with entries: the document's words, and those of package tree. -/
namespace Go.Proofs.YtlojfgdpmaigmaeGreatDoor
open Go.RowKit Plain

theorem kibO_any (key : Int) (w : World) : Calls Tryz.prog 95 #[.int .i64 key] w fun e w' => e = .returned (.bool (inB key 0 1099511627775)) ∧ w' = w := by
  by_cases h1 : 0 ≤ key <;> by_cases h2 : key < 1099511627776 <;>
  · go_enter Tryz.func95, Tryz.ntmps95
    go_wp2
    go_ret
    refine ⟨?_, rfl⟩
    have q : inB key 0 1099511627775 = (decide (0 ≤ key) && decide (key < 1099511627776)) := by
      unfold inB
      congr 1
      exact decide_eq_decide.2 (by omega)
    rw [q]
    simp [h1, h2]

def entC (x : En) : Int := if inB x.key 0 1099511627775 = true ∧ ¬ x.c = 0 then checkC x.c x.s x.lo x.hi x.t x.l else 2
def ordB (xs : List En) (k : Nat) : Bool := decide (0 < k) && decide ((xs.getD k default).key ≤ (xs.getD (k - 1) default).key)
def fltAt (xs : List En) (k : Nat) : Int := if ordB xs k = true then 8 else entC (xs.getD k default)
def fltF (xs : List En) : Nat → Nat → Int
  | 0, _ => 0
  | f + 1, k => if fltAt xs k = 0 then fltF xs f (k + 1) else fltAt xs k
/-- The first entry that is refused tells. -/
def faultE (xs : List En) : Int := fltF xs xs.length 0

theorem flt_go {xs : List En} {k : Nat} (hk : k < xs.length) (h : faultE xs = fltF xs (xs.length - k) k) (h0 : fltAt xs k = 0) : faultE xs = fltF xs (xs.length - (k + 1)) (k + 1) := by
  rw [h, show xs.length - k = (xs.length - (k + 1)) + 1 by omega, fltF, if_pos h0]
theorem flt_stop {xs : List En} {k : Nat} (hk : k < xs.length) (h : faultE xs = fltF xs (xs.length - k) k) (h0 : fltAt xs k ≠ 0) : faultE xs = fltAt xs k := by
  rw [h, show xs.length - k = (xs.length - (k + 1)) + 1 by omega, fltF, if_neg h0]
theorem flt_end {xs : List En} (h : faultE xs = fltF xs (xs.length - xs.length) xs.length) : faultE xs = 0 := by
  rw [h, Nat.sub_self]; rfl

theorem flt_all {xs : List En} : ∀ (f k : Nat), k + f = xs.length → fltF xs f k = 0 → ∀ j, k ≤ j → j < xs.length → fltAt xs j = 0
  | 0, k, hk, _, j, h1, h2 => by omega
  | f + 1, k, hk, h, j, h1, h2 => by
    rw [fltF] at h
    split at h
    · rename_i h0
      by_cases e : j = k
      · rw [e]; exact h0
      · exact flt_all f (k + 1) (by omega) h j (by omega) h2
    · rename_i h0; exact absurd h h0

theorem fault_entsB {xs : List En} (h : faultE xs = 0) : entsB xs 0 1099511627776 = true := by
  have ha := flt_all xs.length 0 (by omega) h
  have : ∀ (f k : Nat), k + f = xs.length → entsB (xs.drop k) (lowAt xs 0 k) 1099511627776 = true := by
    intro f
    induction f with
    | zero => intro k hk; rw [List.drop_eq_nil_of_le (by omega)]; rfl
    | succ f ih =>
      intro k hk
      have hlt : k < xs.length := by omega
      rw [entsB_drop hlt, ih (k + 1) (by omega), Bool.and_true]
      have h0 := ha k (by omega) hlt
      unfold fltAt at h0
      split at h0
      · omega
      · rename_i ho
        have hg : xs.getD k default = xs[k] := by simp [hlt]
        rw [hg] at h0
        unfold entC at h0
        split at h0
        · rename_i hc
          have h1 : 0 ≤ xs[k].key ∧ xs[k].key ≤ 1099511627775 := by simpa [inB] using hc.1
          have hl : lowAt xs 0 k ≤ xs[k].key := by
            unfold lowAt
            split
            · exact h1.1
            · rename_i hk0
              simp only [ordB, Bool.and_eq_true, decide_eq_true_eq, not_and, hg] at ho
              have := ho (by omega)
              omega
          have hh : xs[k].key < 1099511627776 := by omega
          simp [entB, hl, hh, hc.2, h0]
        · omega
  have := this xs.length 0 (by omega)
  simpa [lowAt] using this

theorem ordB_zero (xs : List En) : ordB xs 0 = false := by simp [ordB]
theorem ordB_succ {xs : List En} {m : Nat} (h : m + 1 < xs.length) : ordB xs (m + 1) = decide (xs[m + 1].key ≤ (xs[m]'(by omega)).key) := by
  simp [ordB, h, show m < xs.length by omega]

theorem flt_at {xs : List En} {k : Nat} (hk : k < xs.length) (ho : ordB xs k = false) : fltAt xs k = entC xs[k] := by
  unfold fltAt
  rw [ho]
  simp [hk]

end Go.Proofs.YtlojfgdpmaigmaeGreatDoor

/- A tree of entries, in plain terms. -/
namespace Go.Proofs.YtlojfgdpmaigmaeGreatDoor
open Go.RowKit Plain

def leafOf (xs : List En) : Nd := ⟨true, xs, [], [], []⟩
def ofN (xs : List En) : List Nd × Int := growN (splitN [leafOf xs] 0).2.length (splitN [leafOf xs] 0).1 0 (splitN [leafOf xs] 0).2

theorem nth_leaf (xs : List En) : nth [leafOf xs] 0 = leafOf xs := rfl

theorem leaf_top {xs : List En} (h : faultE xs = 0) (hne : xs ≠ []) : Top xs.length 4 [leafOf xs] 0 0 0 1099511627776 [0] :=
  ⟨⟨by decide, by simp, by decide⟩, rfl, rfl, rfl, rfl, rfl, hne, Nat.le_refl _, fault_entsB h⟩

theorem leaf_size (xs : List En) : sizeN (leafOf xs) = xs.length ∧ mostN (leafOf xs) = 6 ∧ partsN (leafOf xs) = (xs.length + 6 - 1) / 6 := by
  have a : sizeN (leafOf xs) = xs.length := by simp [sizeN, leafOf]
  have b : mostN (leafOf xs) = 6 := by simp [mostN, leafOf]
  exact ⟨a, b, by rw [partsN, a, b]⟩

theorem leaf_split (xs : List En) : (splitN [leafOf xs] 0).1.length ≤ (xs.length + 6) / 6 + 1 ∧ (splitN [leafOf xs] 0).2.length ≤ (xs.length + 6) / 6 := by
  obtain ⟨a, b, c⟩ := leaf_size xs
  unfold splitN
  rw [nth_leaf]
  split
  · simp
  · have hc : (cutsN (leafOf xs)).length = partsN (leafOf xs) := by unfold cutsN; exact cutsF_length _ _ _ _
    constructor
    · simp only [List.length_append, List.length_set, List.length_tail, partsL_length, hc, List.length_cons, List.length_nil, c]
      omega
    · simp only [List.length_zip, keysL_length, hc, placesF_length, c]
      omega

theorem leaf_row {xs : List En} (h : faultE xs = 0) : (splitN [leafOf xs] 0).2 = [] ∨ RowOk (splitN [leafOf xs] 0).1 0 0 (splitN [leafOf xs] 0).2 := by
  by_cases hne : xs = []
  · left
    subst hne
    unfold splitN
    rw [nth_leaf, if_pos (by decide)]
  · right
    have hs := split_ok (leaf_top h hne) (by simp)
    obtain ⟨Q, h1, h2⟩ := hs.sub
    have hle := hs.le
    refine ⟨Q, h1, h2.trans ?_⟩
    rw [show (splitN [leafOf xs] 0).1.length = 1 + ((splitN [leafOf xs] 0).1.length - [leafOf xs].length) by simp at hle ⊢; omega, placesF_append]
    exact List.Perm.of_eq (by simp [placesF])

theorem ofN_len (xs : List En) (h : faultE xs = 0) : (ofN xs).1.length ≤ 2 * ((xs.length + 6) / 6) + 1 := by
  obtain ⟨a, b⟩ := leaf_split xs
  rcases leaf_row h with e | hr
  · unfold ofN
    rw [e]
    simp [growN]
    omega
  · have := (grow_ok _ (Nat.le_refl _) hr).2.2
    unfold ofN
    omega

theorem ofN_ok {xs : List En} (h : faultE xs = 0) (hz : (ofN xs).1.length ≤ 2000) : treeC (ofN xs).1 (ofN xs).2 = 0 ∧ ((ofN xs).1.flatMap cont).Perm xs := by
  by_cases hne : xs = []
  · subst hne
    have e : ofN [] = ([leafOf []], 0) := by
      unfold ofN splitN
      rw [nth_leaf, if_pos (by decide)]
      rfl
    rw [e]
    exact ⟨by decide, List.Perm.refl _⟩
  · have hs := split_ok (leaf_top h hne) (by simp)
    obtain ⟨Q, h1, h2⟩ := hs.sub
    have hle := hs.le
    have hr : RowOk (splitN [leafOf xs] 0).1 0 0 (splitN [leafOf xs] 0).2 := by
      refine ⟨Q, h1, h2.trans ?_⟩
      rw [show (splitN [leafOf xs] 0).1.length = 1 + ((splitN [leafOf xs] 0).1.length - [leafOf xs].length) by simp at hle ⊢; omega, placesF_append]
      exact List.Perm.of_eq (by simp [placesF])
    obtain ⟨⟨h', Q', a, b⟩, c, _⟩ := grow_ok _ (Nat.le_refl _) hr
    exact ⟨Sub_treeC a b hz, c.trans (hs.cont.trans (by simp [cont, leafOf]))⟩

/-! ### What such a tree tells -/

theorem ins_lastO : ∀ {l : List En} {x : En}, (∀ y ∈ l, y.key < x.key) → ins l x = some (l ++ [x])
  | [], x, _ => rfl
  | y :: r, x, h => by
    rw [ins_gt (h y (by simp)), ins_lastO (fun z hz => h z (List.mem_cons_of_mem _ hz))]
    rfl

theorem foldl_sorted : ∀ (xs l : List En), (l ++ xs).Pairwise (fun x y => x.key < y.key) → xs.foldl insO (some l) = some (l ++ xs)
  | [], l, _ => by simp
  | x :: xs, l, h => by
    rw [List.foldl_cons]
    have e : insO (some l) x = some (l ++ [x]) := by
      show ins l x = _
      refine ins_lastO fun y hy => ?_
      rw [List.pairwise_append] at h
      exact h.2.2 y hy x (by simp)
    rw [e, foldl_sorted xs (l ++ [x]) (by simpa using h)]
    simp

theorem allL_sorted {xs : List En} (h : xs.Pairwise (fun x y => x.key < y.key)) : allL xs = some xs := by
  unfold allL
  have := foldl_sorted xs [] (by simpa using h)
  simpa using this

theorem lst_cont {ns : List Nd} : (ns.flatMap Nd.lst).Perm (ns.flatMap cont) := by
  induction ns with
  | nil => exact List.Perm.refl _
  | cons x r ih =>
    rw [List.flatMap_cons, List.flatMap_cons]
    refine List.Perm.append ?_ ih
    exact List.perm_append_comm

theorem allR_of {ns : List Nd} {xs : List En} (h : faultE xs = 0) (hp : (ns.flatMap cont).Perm xs) : allR 0 1099511627776 (ns.flatMap Nd.lst) = some xs := by
  have hB := fault_entsB h
  obtain ⟨hr, hs⟩ := entsB_lt hB
  have hgood := entsB_good hB
  have hpm : (ns.flatMap Nd.lst).Perm xs := lst_cont.trans hp
  have hin : ∀ x ∈ ns.flatMap Nd.lst, inR 0 1099511627776 x = true := by
    intro x hx
    have := hr x (hpm.mem_iff.1 hx)
    simp [inR]
    omega
  unfold allR
  rw [List.filter_eq_self.2 hin, allL_perm hpm (fun x hx => by
    have := (good_iff.1 (hgood x (hpm.mem_iff.1 hx))).1
    exact this.1)]
  exact allL_sorted hs

end Go.Proofs.YtlojfgdpmaigmaeGreatDoor

/- What Check tells of a tree: in parts. -/
namespace Go.Proofs.YtlojfgdpmaigmaeGreatDoor
open Go.RowKit Plain

theorem Wk_sub {ns : List Nd} {f h : Nat} {dp : Int} (hg : ∀ d lo hi S S' l, W ns f d lo hi S = some (S', l) → (∀ x ∈ l, x = dp) → ∃ P T, Sub 6 4 ns h d lo hi P ∧ S' = T ++ S ∧ (T.map (·.1)).Perm P) :
    ∀ (ds keys : List Int) (lo hi : Int) (S S' : St) (l : List Int), keys.length + 1 = ds.length → Wk (W ns f) ds keys lo hi S = some (S', l) → (∀ x ∈ l, x = dp) → ∃ Q T, SubK (Sub 6 4 ns h) lo (ups ds keys hi) Q ∧ S' = T ++ S ∧ (T.map (·.1)).Perm Q
  | [], _, _, _, _, _, _, hl, _, _ => by simp at hl
  | d :: ds, keys, lo, hi, S, S', l, hl, hr, ha => by
    unfold Wk at hr
    split at hr
    · cases hr
    · rename_i S1 l1 h1
      split at hr
      · cases hr
      · rename_i S2 l2 h2
        cases hr
        obtain ⟨P, T1, a1, rfl, a3⟩ := hg _ _ _ _ _ _ h1 (fun x hx => ha x (List.mem_append_left _ hx))
        cases keys with
        | nil =>
          obtain rfl : ds = [] := List.eq_nil_of_length_eq_zero (by simpa using hl.symm)
          simp only [Wk] at h2
          cases h2
          exact ⟨P, T1, ⟨P, [], by simp, a1, rfl⟩, rfl, a3⟩
        | cons k ks =>
          obtain ⟨Q2, T2, b1, b2, b3⟩ := Wk_sub hg ds ks k hi (T1 ++ S) _ l2 (by simpa using hl) h2 (fun x hx => ha x (List.mem_append_right _ hx))
          subst b2
          have hne : ds ≠ [] := fun e => by subst e; simp at hl
          obtain ⟨e, ds', rfl⟩ := List.exists_cons_of_ne_nil hne
          refine ⟨P ++ Q2, T2 ++ T1, ⟨P, Q2, rfl, a1, b1⟩, by simp, ?_⟩
          rw [List.map_append]
          exact (b3.append a3).trans List.perm_append_comm

theorem W_sub {ns : List Nd} : ∀ (f : Nat), f ≤ 11 → ∀ (n lo hi : Int) (S S' : St) (l : List Int) (dp : Int), W ns f n lo hi S = some (S', l) → (∀ x ∈ l, x = dp) → ∃ h P T, dp = 13 - (f : Int) + (h : Nat) ∧ Sub 6 4 ns h n lo hi P ∧ S' = T ++ S ∧ (T.map (·.1)).Perm P := by
  intro f
  induction f with
  | zero => intro _ n lo hi S S' l dp h; cases h
  | succ f ih =>
    intro hf n lo hi S S' l dp hW ha
    unfold W at hW
    split at hW
    · cases hW
    · rename_i hc
      have hr : 0 ≤ n ∧ n < ns.length ∧ lo < hi := ⟨by omega, by omega, by omega⟩
      split at hW
      · rename_i hlf
        split at hW
        · rename_i hl
          cases hW
          obtain ⟨h1, h2, h3, h4, h5, h6⟩ := leafB_iff.1 hl
          have hd := ha (12 - (f : Int)) (by simp)
          refine ⟨0, [n], [(n, 12 - (f : Int))], by omega, ⟨hr, rfl, hlf, h1, h2, h3, ?_, h4, h6⟩, rfl, by simp⟩
          rcases h5 with e | e
          · omega
          · exact e
        · cases hW
      · rename_i hlf
        split at hW
        · rename_i hi'
          obtain ⟨e1, e2, e3, e4, e5, e6⟩ := innerB_kids hi'
          have hne := (Wk_ds (fun d lo hi S S' l h => W_ds f (by omega) d lo hi S S' l h) _ _ _ _ _ _ _ hW).1 (fun e => by rw [e] at e2; simp at e2)
          -- the first kid tells how high it is
          have hcase : ∃ h : Nat, dp = 13 - (f : Int) + h := by
            cases hk : (ns.getD n.toNat default).kids with
            | nil => rw [hk] at e2; simp at e2
            | cons d ds =>
              rw [hk] at hW
              unfold Wk at hW
              split at hW
              · cases hW
              · rename_i S1 l1 h1
                split at hW
                · cases hW
                · cases hW
                  obtain ⟨h, _, _, e, _⟩ := ih (by omega) _ _ _ _ _ _ dp h1 (fun x hx => ha x (List.mem_append_left _ hx))
                  exact ⟨h, e⟩
          obtain ⟨h, hh⟩ := hcase
          obtain ⟨Q, T, b1, b2, b3⟩ := Wk_sub (h := h) (dp := dp) (fun d lo hi S S' l a b => by
            obtain ⟨h', P, T, e, c1, c2, c3⟩ := ih (by omega) d lo hi S S' l dp a b
            obtain rfl : h' = h := by omega
            exact ⟨P, T, c1, c2, c3⟩) _ _ _ _ _ _ _ e4 hW ha
          refine ⟨h + 1, n :: Q, T ++ [(n, 12 - (f : Int))], by omega, ⟨hr, Q, rfl, ?_⟩, by rw [b2]; simp, ?_⟩
          · exact ⟨Bool.eq_false_iff.2 hlf, e1, e2, e3, e4, e5, e6, b1⟩
          · rw [List.map_append]
            exact (b3.append_right _).trans List.perm_append_comm
        · cases hW

theorem perm_places {N : Nat} {L : List Int} (hn : L.Nodup) (hr : ∀ n ∈ L, 0 ≤ n ∧ n < (N : Int)) (hl : L.length = N) : L.Perm (placesF 0 N) := by
  rw [List.perm_ext_iff_of_nodup hn (placesF_nodup _ _)]
  intro a
  constructor
  · intro ha
    have := hr a ha
    exact placesF_mem.2 ⟨by omega, by omega⟩
  · intro ha
    apply Classical.byContradiction
    intro hna
    have h1 := nodup_le (a :: L) (placesF 0 N) (List.nodup_cons.2 ⟨hna, hn⟩) (fun x hx => by
      rcases List.mem_cons.1 hx with rfl | hx
      · exact ha
      · have := hr x hx
        exact placesF_mem.2 ⟨by omega, by omega⟩)
    rw [placesF_length] at h1
    simp at h1
    omega

/-- A tree that may be is a node with all below it; or there is nothing in it. -/
theorem treeC_sub {ns : List Nd} {root : Int} (h : treeC ns root = 0) : (∃ h P, Sub 6 4 ns h root 0 1099511627776 P ∧ P.Perm (placesF 0 ns.length)) ∨ (ns = [leafOf []] ∧ root = 0) := by
  unfold treeC at h
  split at h
  · omega
  · cases hW : W ns 12 root 0 1099511627776 [] with
    | none => rw [hW] at h; simp at h
    | some p =>
      obtain ⟨S, l⟩ := p
      rw [hW] at h
      simp only at h
      split at h
      · rename_i hc
        obtain ⟨hok, hlen⟩ := hc
        have hst := (W_st 12 _ _ _ _ _ _ hW ⟨by simp, by simp⟩).1
        have hperm : ∀ {P : List Int}, (S.map (·.1)).Perm P → P.Perm (placesF 0 ns.length) := fun {P} hp => by
          refine hp.symm.trans (perm_places hst.1 (fun n hn => ?_) (by simpa using hlen))
          obtain ⟨p, hp, rfl⟩ := List.mem_map.1 hn
          exact hst.2 p hp
        have hall : ∀ x ∈ l, x = l.headD 0 := fun x hx => by
          unfold okL at hok
          rw [if_pos rfl, List.all_eq_true] at hok
          simpa using hok x hx
        unfold W at hW
        split at hW
        · cases hW
        · rename_i hcc
          have hr : 0 ≤ root ∧ root < ns.length ∧ (0 : Int) < 1099511627776 := ⟨by omega, by omega, by decide⟩
          split at hW
          · rename_i hlf
            split at hW
            · rename_i hl
              cases hW
              obtain ⟨h1, h2, h3, h4, h5, h6⟩ := leafB_iff.1 hl
              by_cases hne : (ns.getD root.toNat default).ents = []
              · right
                simp at hlen
                obtain ⟨x, rfl⟩ : ∃ x, ns = [x] := List.length_eq_one_iff.1 hlen.symm
                have hr0 : root = 0 := by simp at hr; omega
                subst hr0
                refine ⟨?_, rfl⟩
                simp at h1 h2 h3 hne hlf
                cases x
                simp at h1 h2 h3 hne hlf
                subst h1 h2 h3 hne hlf
                rfl
              · left
                exact ⟨0, [root], ⟨hr, rfl, hlf, h1, h2, h3, hne, h4, h6⟩, hperm (by simp)⟩
            · cases hW
          · rename_i hlf
            split at hW
            · rename_i hi'
              obtain ⟨e1, e2, e3, e4, e5, e6⟩ := innerB_kids hi'
              left
              have hcase : ∃ h : Nat, l.headD 0 = 13 - (11 : Int) + h := by
                cases hk : (ns.getD root.toNat default).kids with
                | nil => rw [hk] at e2; simp at e2
                | cons d ds =>
                  have hW2 := hW
                  rw [hk] at hW2
                  unfold Wk at hW2
                  split at hW2
                  · cases hW2
                  · rename_i S1 l1 h1
                    split at hW2
                    · cases hW2
                    · cases hW2
                      obtain ⟨h, _, _, e, _⟩ := W_sub 11 (by omega) _ _ _ _ _ _ ((l1 ++ _).headD 0) h1 (fun x hx => hall x (List.mem_append_left _ hx))
                      exact ⟨h, e⟩
              obtain ⟨h, hh⟩ := hcase
              obtain ⟨Q, T, b1, b2, b3⟩ := Wk_sub (h := h) (dp := l.headD 0) (fun d lo hi S S' l' a b => by
                obtain ⟨h', P, T, e, c1, c2, c3⟩ := W_sub 11 (by omega) d lo hi S S' l' (l.headD 0) a b
                obtain rfl : h' = h := by omega
                exact ⟨P, T, c1, c2, c3⟩) _ _ _ _ _ _ _ e4 hW hall
              refine ⟨h + 1, root :: Q, ⟨hr, Q, rfl, ⟨Bool.eq_false_iff.2 hlf, e1, e2, e3, e4, e5, e6, b1⟩⟩, hperm ?_⟩
              rw [b2, List.map_append]
              exact (b3.append_right _).trans List.perm_append_comm
            · cases hW
      · omega

end Go.Proofs.YtlojfgdpmaigmaeGreatDoor

/- The walk of Of of package tree. -/
namespace Go.Proofs.YtlojfgdpmaigmaeGreatDoor
open Go.RowKit Plain

set_option maxHeartbeats 1000000 in
theorem checkEntry_any (key c s lo hi t l : Int) (w : World) :
    Calls Tryz.prog 75 #[.int .i64 key, .agg #[.int .i64 c, .int .i64 s, .int .i64 lo, .int .i64 hi, .int .i64 t, .int .i64 l]] w fun e w' => e = .returned (.int .i64 (entC ⟨key, c, s, lo, hi, t, l⟩)) ∧ Below w.heap.size w w' := by
  by_cases h1 : inB key 0 1099511627775 = true
  · by_cases h3 : c = 0
    · have E : Hid (entC ⟨key, c, s, lo, hi, t, l⟩ = 2) := by show _ = _; simp [entC, h3]
      subst h3
      go_enter Tryz.func75, Tryz.ntmps75
      go_wp2_with (first | (go_at_call 95; refine (kibO_any _ _).mono ?_; rintro e w1 ⟨rfl, h5⟩; subst w1))
      go_ret
      exact ⟨ret_int E.out.symm, (Below.refl _ _).alloc (Nat.le_refl _) _⟩
    · have h3' : (c == 0) = false := by simpa using h3
      have E : Hid (entC ⟨key, c, s, lo, hi, t, l⟩ = checkC c s lo hi t l) := by show _ = _; simp [entC, h1, h3]
      clear h3
      go_enter Tryz.func75, Tryz.ntmps75
      go_wp2_with (first | (go_at_call 95; refine (kibO_any _ _).mono ?_; rintro e w1 ⟨rfl, h5⟩; subst w1) | (go_at_call 66; refine (check_any _ _ _ _ _ _ _).mono ?_; rintro e w1 ⟨rfl, hb1⟩))
      go_ret
      exact ⟨ret_int E.out.symm, nextB ((Below.refl _ _).alloc (Nat.le_refl _) _) (Nat.le_refl _) hb1⟩
  · have h1' : inB key 0 1099511627775 = false := by simpa using h1
    have E : Hid (entC ⟨key, c, s, lo, hi, t, l⟩ = 2) := by show _ = _; simp [entC, h1]
    clear h1
    go_enter Tryz.func75, Tryz.ntmps75
    go_wp2_with (first | (go_at_call 95; refine (kibO_any _ _).mono ?_; rintro e w1 ⟨rfl, h5⟩; subst w1))
    go_ret
    exact ⟨ret_int E.out.symm, (Below.refl _ _).alloc (Nat.le_refl _) _⟩

set_option maxHeartbeats 400000 in
theorem newT_any (w : World) : Calls Tryz.prog 47 #[] w fun e w' => ∃ g, e = .returned (.agg #[.slice (some ⟨g, 0, none⟩) 1 1, .int .i64 0]) ∧ w.heap.size ≤ g ∧ RowL w' g 112 [.bool true, .slice none 0 0, .slice none 0 0, .slice none 0 0, .slice none 0 0] ∧ Below w.heap.size w w' := by
  go_enter Tryz.func47, Tryz.ntmps47
  go_wp2
  refine bodyPost_ret (v := .agg #[.slice (some ⟨w.heap.size + 1, 0, none⟩) 1 1, .int .i64 0]) (by simp [results, Tryz.results47, go_sem]) rfl ⟨w.heap.size + 1, rfl, by omega, ?_, two_below _ _ _⟩
  have h := rowL_alloc (w.alloc (.cells #[.slice (some ⟨w.heap.size + 1, 0, none⟩) 1 1, .int .i64 0] 25)) [.bool true, .slice none 0 0, .slice none 0 0, .slice none 0 0, .slice none 0 0] 112
  rwa [show (w.alloc (.cells #[.slice (some ⟨w.heap.size + 1, 0, none⟩) 1 1, .int .i64 0] 25)).heap.size = w.heap.size + 1 by simp] at h

theorem grow_z (base g C : Nat) (qs : List PN) (k : Nat) (z : Int) (n : Nat) (hz : Hid (z = (k : Int))) (hn : Hid (qs.length = n)) (ns1 : List Nd) (more1 : List (Int × Int)) (h1 : Nat) (R : List Nd × Int) (w : World) (hN : NT base w g C qs) (hB : base ≤ w.heap.size)
    (hcon : Hid (∀ (W : World) (tb : Nat), TB base W tb g C qs (k : Int) → base ≤ W.heap.size → Calls Tryz.prog 102 #[.pointer (some ⟨tb, 0, none⟩), .int .i64 (k : Int)] W fun e w' => ∃ vm g' C' qs', e = .returned vm ∧ GrowTo base W tb g qs (k : Int) ns1 more1 w' vm g' C' qs'))
    (hrow : more1 = [] ∨ RowOk ns1 h1 (k : Int) more1) (hfew : ns1.length + more1.length ≤ 999999) (hR : growN more1.length ns1 (k : Int) more1 = R) :
    Calls Tryz.prog 79 #[.agg #[.slice (some ⟨g, 0, none⟩) n C, .int .i64 z]] w
      fun e w' => Kept (feet g qs) w w' ∧ ((2000 < R.1.length ∧ e = .returned (.tuple #[.agg #[.slice none 0 0, .int .i64 0], .int .i64 1])) ∨
        (R.1.length ≤ 2000 ∧ ∃ g' C' qs', e = .returned (.tuple #[.agg #[.slice (some ⟨g', 0, none⟩) qs'.length C', .int .i64 R.2], .int .i64 0]) ∧ NT base w' g' C' qs' ∧ qs'.map PN.nd = R.1 ∧ ∀ b ∈ feet g' qs', b ∈ feet g qs ∨ w.heap.size ≤ b)) := by
  have e1 : z = (k : Int) := hz.out
  have e2 : qs.length = n := hn.out
  subst e1 e2
  exact grow_any base g C qs k ns1 more1 h1 R w hN hB hcon hrow hfew hR

/-- The variable in which the answer will lie. -/
structure ResAt (w wr : World) : Prop where
  row : RowL wr w.heap.size 25 [.slice none 0 0, .int .i64 0]

theorem ResAt.cells {w wr : World} (h : ResAt w wr) : wr.cell? ⟨w.heap.size, 0, none⟩ = some (.slice none 0 0) ∧ wr.cell? ⟨w.heap.size, 1, none⟩ = some (.int .i64 0) ∧ (∀ j, wr.frozen? ⟨w.heap.size, j, none⟩ = false) ∧ w.heap.size < wr.heap.size :=
  ⟨h.row.cell 0, h.row.cell 1, h.row.frozen, h.row.lt⟩

theorem of_next {w wr w1 : World} {o : Obj} {n : Nat} (hb : Below w.heap.size w wr) (hr : ResAt w wr) (hb1 : Below ((wr.alloc o).drewN n).heap.size ((wr.alloc o).drewN n) w1) : Below w.heap.size w w1 ∧ ResAt w w1 := by
  have h1 : Below wr.heap.size wr w1 := nextB (below_drewN ((Below.refl _ _).alloc (Nat.le_refl _) _) _) (Nat.le_refl _) hb1
  exact ⟨nextB hb (Nat.le_refl _) h1, ⟨hr.row.below h1 hr.row.lt⟩⟩

theorem of_res {w wr : World} (hr : ResAt w wr) : (∀ (o : Obj) (n : Nat), ((wr.alloc o).drewN n).cell? ⟨w.heap.size, 0, none⟩ = some (.slice none 0 0)) ∧ ∀ (o : Obj) (n : Nat), ((wr.alloc o).drewN n).cell? ⟨w.heap.size, 1, none⟩ = some (.int .i64 0) := by
  have hb : ∀ (o : Obj) (n : Nat), Below wr.heap.size wr ((wr.alloc o).drewN n) := fun o n => below_drewN ((Below.refl _ _).alloc (Nat.le_refl _) _) _
  exact ⟨fun o n => ((hb o n).cell (p := ⟨w.heap.size, 0, none⟩) hr.row.lt).trans (hr.row.cell 0), fun o n => ((hb o n).cell (p := ⟨w.heap.size, 1, none⟩) hr.row.lt).trans (hr.row.cell 1)⟩

/-- What Of may answer. -/
def OfP (xs : List En) (w : World) (e : Ending) (w' : World) : Prop :=
  Below w.heap.size w w' ∧
  ((∃ c : Int, c ≠ 0 ∧ e = .returned (.tuple #[.agg #[.slice none 0 0, .int .i64 0], .int .i64 c]) ∧ (c = faultE xs ∨ (faultE xs = 0 ∧ c = 1 ∧ 2900 < xs.length))) ∨
   (faultE xs = 0 ∧ ∃ g C' qs root, e = .returned (.tuple #[.agg #[.slice (some ⟨g, 0, none⟩) qs.length C', .int .i64 root], .int .i64 0]) ∧ NT w.heap.size w' g C' qs ∧ treeC (qs.map PN.nd) root = 0 ∧ ((qs.map PN.nd).flatMap cont).Perm xs))

def leafPN (A : Option Addr) (C : Nat) (xs : List En) : PN := ⟨true, A, C, xs, none, 0, [], none, 0, [], none, 0, []⟩

theorem of_mem {w wr w1 w2 : World} {g C2 : Nat} {A2 : Option Addr} {xs : List En} {o : Obj} (hb : Below w.heap.size w wr) (hr : ResAt w wr) (hg : wr.heap.size ≤ g) (hrow : RowL w1 g 112 [.bool true, .slice none 0 0, .slice none 0 0, .slice none 0 0, .slice none 0 0]) (hb1 : Below wr.heap.size wr w1)
    (hb2 : Below ((w1.alloc o).drew).heap.size ((w1.alloc o).drew) w2) (o2 : w2.ownsRow ((w1.alloc o).drew).heap.size 73 7 (.slice A2 xs.length C2) xs.length (flatE xs)) (hz : xs.length * 56 ≤ 140737488351232) :
    NT (w.heap.size + 1) (w2.setCell ⟨g, 1, none⟩ (.slice A2 xs.length C2)) g 1 [leafPN A2 C2 xs] ∧ Below w.heap.size w (w2.setCell ⟨g, 1, none⟩ (.slice A2 xs.length C2)) ∧ ResAt w (w2.setCell ⟨g, 1, none⟩ (.slice A2 xs.length C2)) ∧ w.heap.size < g := by
  have hgl := hrow.lt
  have hwg : w.heap.size < g := Nat.lt_of_lt_of_le hr.row.lt hg
  have h12 : Below w1.heap.size w1 w2 := nextB ((Below.refl _ _).alloc (Nat.le_refl _) _).drew (Nat.le_refl _) hb2
  have hw2 : Below w.heap.size w w2 := nextB (nextB hb (Nat.le_refl _) hb1) (Nat.le_refl _) h12
  have hrow2 := hrow.below h12 hgl
  have hrow3 : RowL (w2.setCell ⟨g, 1, none⟩ (.slice A2 xs.length C2)) g 112 (flatN [leafPN A2 C2 xs]) := hrow2.set 1 (.slice A2 xs.length C2)
  have hge : ∀ b, (Value.slice A2 xs.length C2).ownBlock = some b → w1.heap.size < b := fun b hb => by
    have := (o2.lt b hb).1
    simp only [World.size_drew, World.size_alloc] at this
    omega
  have hob : ∀ b, b ≠ g → (w2.setCell ⟨g, 1, none⟩ (.slice A2 xs.length C2)).heap[b]? = w2.heap[b]? := fun b hb => Below.heap_setCell _ _ _ _ hb
  refine ⟨⟨⟨rfl, .inr ⟨g, 1, (flatN [leafPN A2 C2 xs]).toArray, rfl, hwg, hrow3, Nat.le_refl _, by decide, rfl, rfl⟩⟩, ?_, ?_, by show 1 * 104 ≤ _; decide⟩, hw2.setCell (p := ⟨g, 1, none⟩) (Nat.le_of_lt hwg) _, ⟨?_⟩, hwg⟩
  · intro q hq
    obtain rfl : q = leafPN A2 C2 xs := by simpa using hq
    refine ⟨?_, World.ownsRow_nil _ _ _ _, World.ownsRow_nil _ _ _ _, World.ownsRow_nil _ _ _ _, hz, by show 0 * 8 ≤ _; decide, by show 0 * 8 ≤ _; decide, by show 0 * 56 ≤ _; decide⟩
    have hs := hw2.size
    refine own_of_block (own_mono o2 ?_) fun b hb => hob b (by have := hge b hb; omega)
    simp only [World.size_drew, World.size_alloc]
    have := hb1.size
    have := hb.size
    omega
  · unfold feet PN.blocks leafPN
    cases A2 with
    | none => simp
    | some a =>
      have := hge a.block rfl
      simp
      omega
  · have hrl := hr.row.lt
    have h1 := hb1.size
    have r1 := hr.row.below hb1 hrl
    exact (r1.below h12 (by omega)).of_block (hob _ (by omega))

theorem leaf_pre {xs : List En} (h : faultE xs = 0) (hz : xs.length ≤ 12000) : SplitPre (leafOf xs) := by
  by_cases hne : xs = []
  · subst hne
    exact ⟨by decide, fun h => absurd h (by decide)⟩
  · have := Top_pre (leaf_top h hne)
    rw [nth_leaf] at this
    exact this (by rw [(leaf_size xs).1]; omega)

theorem of_con {base g C2 : Nat} {A2 : Option Addr} {xs : List En} (h : faultE xs = 0) (hz : xs.length ≤ 12000) : ∀ (W : World) (tb : Nat), TB base W tb g 1 [leafPN A2 C2 xs] ((0 : Nat) : Int) → base ≤ W.heap.size → Calls Tryz.prog 102 #[.pointer (some ⟨tb, 0, none⟩), .int .i64 ((0 : Nat) : Int)] W
    fun e w' => ∃ vm g' C' qs', e = .returned vm ∧ GrowTo base W tb g [leafPN A2 C2 xs] ((0 : Nat) : Int) (splitN [leafOf xs] 0).1 (splitN [leafOf xs] 0).2 w' vm g' C' qs' := by
  intro W tb hT hB
  have hp := (leaf_size xs).2.2
  refine (splitAll_leaf base tb g 1 [leafPN A2 C2 xs] ((0 : Nat) : Int) 0 W hT (by simp) (leaf_pre h hz) hB ?_ rfl).mono ?_
  · show (1 + partsN (leafOf xs) + 1) * 104 ≤ 140737488351232
    rw [hp]
    exact Nat.le_trans (Nat.mul_le_mul_right 104 (show _ ≤ 10000 by omega)) (by decide)
  · rintro e w' ⟨vm, g', C', qs', rfl, hs⟩
    exact ⟨vm, g', C', qs', rfl, hs.grow⟩

theorem of_few {xs : List En} (hz : xs.length ≤ 12000) : (splitN [leafOf xs] 0).1.length + (splitN [leafOf xs] 0).2.length ≤ 999999 := by
  have := leaf_split xs
  omega

theorem of_res4 {w W3 w4 : World} {g C2 : Nat} {A2 : Option Addr} {xs : List En} (h : NT (w.heap.size + 1) W3 g 1 [leafPN A2 C2 xs] ∧ Below w.heap.size w W3 ∧ ResAt w W3 ∧ w.heap.size < g) (hk : Kept (feet g [leafPN A2 C2 xs]) W3 w4) : Below w.heap.size w w4 ∧ ResAt w w4 := by
  obtain ⟨hN, hb, hr, _⟩ := h
  have hb4 : Below w.heap.size W3 w4 := hk.below hb.size (fun x hx => by have := (hN.lt x hx).1; omega)
  refine ⟨hb.trans hb4, ⟨hk.row hr.row ?_⟩⟩
  intro e
  have := (hN.lt _ e).1
  omega

theorem of_many {xs : List En} (h : faultE xs = 0) (hb : 2000 < (ofN xs).1.length) : 2900 < xs.length := by
  have := ofN_len xs h
  omega

theorem nt_low {base base' g C : Nat} {w : World} {qs : List PN} (h : NT base w g C qs) (hb : base' ≤ base) : NT base' w g C qs :=
  ⟨own_mono h.own hb, fun q hq => ⟨own_mono (h.each q hq).e hb, own_mono (h.each q hq).k hb, own_mono (h.each q hq).d hb, own_mono (h.each q hq).b hb, (h.each q hq).ez, (h.each q hq).kz, (h.each q hq).dz, (h.each q hq).bz⟩, h.apart, h.z⟩

theorem of_nodes {w w4 : World} {g C : Nat} {qs : List PN} (hN : NT (w.heap.size + 1) w4 g C qs) (v0 v1 : Value) : NT w.heap.size ((w4.setCell ⟨w.heap.size, 0, none⟩ v0).setCell ⟨w.heap.size, 1, none⟩ v1) g C qs := by
  have h : NT (w.heap.size + 1) ((w4.setCell ⟨w.heap.size, 0, none⟩ v0).setCell ⟨w.heap.size, 1, none⟩ v1) g C qs := hN.of_blocks fun b hb => by
    have hne : b ≠ w.heap.size := by have := (hN.lt b hb).1; omega
    exact (Below.heap_setCell _ _ _ _ hne).trans (Below.heap_setCell _ _ _ _ hne)
  exact nt_low h (by omega)

set_option maxRecDepth 20000 in
set_option maxHeartbeats 4000000 in
theorem of_any (A : Option Addr) (C : Nat) (xs : List En) (w : World) (h : RowAt w.heap.size w A (flatE xs)) (hA : A = none → C = 0) (hz : xs.length * 56 ≤ 140737488351232) :
    Calls Tryz.prog 56 #[.slice A xs.length C] w (OfP xs w) := by
  have hr0 : ResAt w (w.alloc (.cells #[.slice none 0 0, .int .i64 0] 25)) := ⟨rowL_alloc w [.slice none 0 0, .int .i64 0] 25⟩
  go_enter Tryz.func56, Tryz.ntmps56
  go_wp2_with fail
  go_loopw [10] (fun i wr => ∃ k : Nat, k ≤ xs.length ∧ i = .int .i64 k ∧ Hid (faultE xs = fltF xs (xs.length - k) k) ∧ Below w.heap.size w wr ∧ ResAt w wr) (fun i _ => xs.length - (intOf i).toNat)
  case atStart => exact ⟨0, Nat.zero_le _, rfl, rfl, (Below.refl _ _).alloc (Nat.le_refl _) _, hr0⟩
  case round =>
    obtain ⟨k, hk, rfl, HR, hb, hr⟩ := hrel
    obtain ⟨r0, r1, rf, rl⟩ := hr.cells
    by_cases hlt : k < xs.length
    · obtain ⟨b, o, rfl, hbl, c0, c1, c2, c3, c4, c5, c6⟩ := (h.below hb (Nat.le_refl _)).en hlt
      have hbw : b < wr.heap.size := Nat.lt_of_lt_of_le hbl hb.size
      have HP : Hid ((k = 0) ∨ ∃ m, k = m + 1 ∧ ∃ hm : m < xs.length, wr.cell? ⟨b, o + m * 7, none⟩ = some (.int .i64 xs[m].key)) := by
        cases k with
        | zero => exact .inl rfl
        | succ m =>
          have hm : m < xs.length := by omega
          obtain ⟨b', o', hA, _, d0, _⟩ := (h.below hb (Nat.le_refl _)).en hm
          cases hA
          exact .inr ⟨m, rfl, hm, d0⟩
      have HGO := hideC (flt_go hlt HR.out)
      have HSTOP := hideC (flt_stop hlt HR.out)
      by_cases ho : ordB xs k = true
      · rcases HP.out with hk0 | ⟨m, hkm, hm, cm⟩
        · rw [hk0, ordB_zero] at ho; cases ho
        · subst hkm
          have hle : xs[m + 1].key ≤ xs[m].key := by rw [ordB_succ hlt] at ho; simpa using ho
          have HE : Hid (faultE xs = 8) := by
            have e8 : fltAt xs (m + 1) = 8 := by unfold fltAt; rw [if_pos ho]
            have := HSTOP.out (by rw [e8]; decide)
            rw [e8] at this
            exact this
          have hk0' : decide (0 < m + 1) = true := by simp
          clear HGO HSTOP HP ho
          generalize xs[m + 1] = x at *
          generalize xs[m].key = pk at *
          go_wp2_with fail
          go_quiet (fail)
          go_wp2
          refine bodyPost_ret (v := .tuple #[.agg #[.slice none 0 0, .int .i64 0], .int .i64 8]) (by simp [results, Tryz.results56, go_sem, (of_res hr).1, (of_res hr).2]) rfl ⟨?_, .inl ⟨8, by decide, rfl, .inl HE.out.symm⟩⟩
          exact ((below_drewN (hb.alloc hb.size _) _).setCell (p := ⟨w.heap.size, 0, none⟩) (Nat.le_refl _) _).setCell (p := ⟨w.heap.size, 1, none⟩) (Nat.le_refl _) _
      · have ho' : ordB xs k = false := by simpa using ho
        have hf := flt_at hlt ho'
        have HO : Hid (∀ m (hm : m < xs.length), k = m + 1 → ¬ xs[k].key ≤ xs[m].key) := by
          rintro m hm rfl
          rw [ordB_succ hlt] at ho'
          simpa using ho'
        rw [hf] at HGO HSTOP
        clear hf
        rcases HP.out with hk0 | ⟨m, hkm, hm, cm⟩
        · have hk0' : decide (0 < k) = false := by simp; omega
          have HK0 : Hid (k = 0) := hk0
          clear hk0 HP ho ho' HO
          generalize xs[k] = x at *
          obtain ⟨key, c, s, xlo, xhi, t, l⟩ := x
          simp only at c0 c1 c2 c3 c4 c5 c6
          by_cases h1 : entC ⟨key, c, s, xlo, xhi, t, l⟩ = 0
          · have HY := hideC (HGO.out h1)
            have hcon := hideC (fun W => checkEntry_any key c s xlo xhi t l W)
            rw [h1] at hcon
            clear HGO HSTOP h1
            go_wp2_with fail
            go_quiet (fail)
            go_wp2_with (first | (go_at_call 75; refine (hcon.out _).mono ?_; rintro e w1 ⟨rfl, hb1⟩))
            go_roundw
            case rel => exact ⟨k + 1, by omega, by go_num, HY.out, of_next hb hr hb1⟩
            case measure => simp [intOf]; omega
          · have HE : Hid (faultE xs = entC ⟨key, c, s, xlo, xhi, t, l⟩) := HSTOP.out h1
            have hcon := hideC (fun W => checkEntry_any key c s xlo xhi t l W)
            generalize entC ⟨key, c, s, xlo, xhi, t, l⟩ = cc at *
            have h1' : (cc != 0) = true := by simpa using h1
            have HC : Hid (cc ≠ 0) := h1
            clear HGO HSTOP h1
            go_wp2_with fail
            go_quiet (fail)
            go_wp2_with (first | (go_at_call 75; refine (hcon.out _).mono ?_; rintro e w1 ⟨rfl, hb1⟩; obtain ⟨q0, q1, qf, ql⟩ := (of_next hb hr hb1).2.cells))
            refine bodyPost_ret (v := .tuple #[.agg #[.slice none 0 0, .int .i64 0], .int .i64 cc]) (by simp [results, Tryz.results56, go_sem, q0, q1]) rfl ⟨?_, .inl ⟨cc, HC.out, rfl, .inl HE.out.symm⟩⟩
            exact ((of_next hb hr hb1).1.setCell (p := ⟨w.heap.size, 0, none⟩) (Nat.le_refl _) _).setCell (p := ⟨w.heap.size, 1, none⟩) (Nat.le_refl _) _
        · have hn := HO.out m hm hkm
          subst hkm
          have hk0' : decide (0 < m + 1) = true := by simp
          clear HP ho ho' HO
          generalize xs[m + 1] = x at *
          generalize xs[m].key = pk at *
          obtain ⟨key, c, s, xlo, xhi, t, l⟩ := x
          simp only at c0 c1 c2 c3 c4 c5 c6 hn
          by_cases h1 : entC ⟨key, c, s, xlo, xhi, t, l⟩ = 0
          · have HY := hideC (HGO.out h1)
            have hcon := hideC (fun W => checkEntry_any key c s xlo xhi t l W)
            rw [h1] at hcon
            clear HGO HSTOP h1
            go_wp2_with fail
            go_quiet (fail)
            go_wp2_with (first | (go_at_call 75; refine (hcon.out _).mono ?_; rintro e w1 ⟨rfl, hb1⟩))
            go_roundw
            case rel => exact ⟨m + 1 + 1, by omega, by go_num, HY.out, of_next hb hr hb1⟩
            case measure => simp [intOf]; omega
          · have HE : Hid (faultE xs = entC ⟨key, c, s, xlo, xhi, t, l⟩) := HSTOP.out h1
            have hcon := hideC (fun W => checkEntry_any key c s xlo xhi t l W)
            generalize entC ⟨key, c, s, xlo, xhi, t, l⟩ = cc at *
            have h1' : (cc != 0) = true := by simpa using h1
            have HC : Hid (cc ≠ 0) := h1
            clear HGO HSTOP h1
            go_wp2_with fail
            go_quiet (fail)
            go_wp2_with (first | (go_at_call 75; refine (hcon.out _).mono ?_; rintro e w1 ⟨rfl, hb1⟩; obtain ⟨q0, q1, qf, ql⟩ := (of_next hb hr hb1).2.cells))
            refine bodyPost_ret (v := .tuple #[.agg #[.slice none 0 0, .int .i64 0], .int .i64 cc]) (by simp [results, Tryz.results56, go_sem, q0, q1]) rfl ⟨?_, .inl ⟨cc, HC.out, rfl, .inl HE.out.symm⟩⟩
            exact ((of_next hb hr hb1).1.setCell (p := ⟨w.heap.size, 0, none⟩) (Nat.le_refl _) _).setCell (p := ⟨w.heap.size, 1, none⟩) (Nat.le_refl _) _
    · obtain rfl : k = xs.length := by omega
      have HE : Hid (faultE xs = 0) := flt_end HR.out
      by_cases hbig : 12000 < xs.length
      · have hbig' : (12000 : Int) < (xs.length : Int) := by omega
        go_wp2_with fail
        refine bodyPost_ret (v := .tuple #[.agg #[.slice none 0 0, .int .i64 0], .int .i64 1]) (by simp [results, Tryz.results56, go_sem, r0, r1]) rfl ⟨?_, .inl ⟨1, by decide, rfl, .inr ⟨HE.out, rfl, by omega⟩⟩⟩
        exact (hb.setCell (p := ⟨w.heap.size, 0, none⟩) (Nat.le_refl _) _).setCell (p := ⟨w.heap.size, 1, none⟩) (Nat.le_refl _) _
      · have hbig' : ¬ (12000 : Int) < (xs.length : Int) := by omega
        have hx := hideC ((h.below hb (Nat.le_refl _)).mono hb.size)
        have HRS := hideC hr
        go_upto_region 13 with (go_at_call 47; refine (newT_any _).mono ?_; rintro e w1 ⟨g, rfl, hg, hrow, hb1⟩)
        have gl := hrow.lt
        have bx0 : (w1.alloc (.cells #[.slice (some ⟨g, 0, none⟩) 1 1, .int .i64 0] 25)).cell? ⟨w1.heap.size, 0, none⟩ = some (.slice (some ⟨g, 0, none⟩) 1 1) := (rowL_alloc w1 [.slice (some ⟨g, 0, none⟩) 1 1, .int .i64 0] 25).cell 0
        have bx1 : (w1.alloc (.cells #[.slice (some ⟨g, 0, none⟩) 1 1, .int .i64 0] 25)).cell? ⟨w1.heap.size, 1, none⟩ = some (.int .i64 0) := (rowL_alloc w1 [.slice (some ⟨g, 0, none⟩) 1 1, .int .i64 0] 25).cell 1
        have g1 := hrow.cell 1
        simp only [List.getElem?_cons_zero, List.getElem?_cons_succ] at g1
        have gf := hrow.frozen
        have ne1 : ¬ w1.heap.size = g := by omega
        have KS : ∀ (W : World) (b o j : Nat) (v : Value), ¬ b = g → (W.setCell ⟨g, j, none⟩ v).cell? ⟨b, o, none⟩ = W.cell? ⟨b, o, none⟩ := fun W b o j v hb => World.cell?_setCell_far _ _ _ _ (fun e => hb e.symm)
        have HB1 := hideC hb1
        have HRW := hideC hrow
        clear hrow
        have G1 : Below wr.heap.size wr ((w1.alloc (.cells #[.slice (some ⟨g, 0, none⟩) 1 1, .int .i64 0] 25)).drew) := (nextB hb1 (Nat.le_refl _) ((Below.refl _ _).alloc (Nat.le_refl _) _)).drew
        go_region_held3 (fun w' => w'.cell? ⟨w1.heap.size, 0, none⟩ = some (.slice (some ⟨g, 0, none⟩) 1 1) ∧ w'.cell? ⟨w1.heap.size, 1, none⟩ = some (.int .i64 0)) (go_keep)
          (first
            | (go_at_call 81; refine (freshE_any _ _ xs _ (hx.out.go G1 (Nat.le_refl _) (Nat.le_refl _)) hA hz).mono ?_; rintro e w2 ⟨v2, rfl, o2, hb2⟩; obtain ⟨A2, C2, rfl, -⟩ := own_row o2; obtain ⟨T2, F2⟩ := bcells (hb2.mono (show w1.heap.size + 1 ≤ _ by simp)); have x1 : w2.cell? ⟨g, 1, none⟩ = some (.slice none 0 0) := (T2 g 1 (by omega)).trans ((World.cell?_of_block (a := ⟨g, 1, none⟩) (Below.heap_alloc _ _ _ gl)).trans g1); have xf : w2.frozen? ⟨g, 1, none⟩ = false := (F2 g 1 (by omega)).trans ((World.frozen?_of_block (a := ⟨g, 1, none⟩) (Below.heap_alloc _ _ _ gl)).trans (gf 1)); have z2 : w1.heap.size < w2.heap.size := Nat.lt_of_lt_of_le (by simp) hb2.size))
        have HM := hideC (of_mem hb HRS.out hg HRW.out hb1 hb2 o2 hz)
        have HCON := hideC (of_con (A2 := A2) (C2 := C2) (g := g) (base := w.heap.size + 1) HE.out (Nat.le_of_not_lt hbig))
        have HFEW := hideC (of_few (xs := xs) (Nat.le_of_not_lt hbig))
        have hcell := ‹(w2.setCell ⟨g, 1, none⟩ (.slice A2 xs.length C2)).cell? ⟨w1.heap.size, 0, none⟩ = some (.slice (some ⟨g, 0, none⟩) 1 1) ∧ (w2.setCell ⟨g, 1, none⟩ (.slice A2 xs.length C2)).cell? ⟨w1.heap.size, 1, none⟩ = some (.int .i64 0)›
        obtain ⟨W3, hW3⟩ : ∃ W3, w2.setCell ⟨g, 1, none⟩ (.slice A2 xs.length C2) = W3 := ⟨_, rfl⟩
        rw [hW3] at HM hcell ⊢
        obtain ⟨y0, y1⟩ := hcell
        have z3 : w1.heap.size < W3.heap.size := by rw [← hW3]; simpa using z2
        clear hW3 T2 F2 x1 xf o2 hb2 KS bx0 bx1 g1 gf G1 z2
        go_wp2_with (first
          | (go_at_call 79; refine (grow_z (w.heap.size + 1) g 1 [leafPN A2 C2 xs] 0 0 1 (show (0 : Int) = ((0 : Nat) : Int) from rfl) (show [leafPN A2 C2 xs].length = 1 from rfl) (splitN [leafOf xs] 0).1 (splitN [leafOf xs] 0).2 0 (ofN xs) _ HM.out.1 HM.out.2.2.1.row.lt HCON.out (leaf_row HE.out) HFEW.out rfl).mono ?_; rintro e w4 ⟨hk4, hE4⟩; obtain ⟨s0, s1, sf, sl⟩ := (of_res4 HM.out hk4).2.cells; rcases hE4 with ⟨hbigR, rfl⟩ | ⟨hsm, g5, C5, qs5, rfl, hN5, hnd5, hold5⟩))
        · have hb4 := (of_res4 HM.out hk4).1
          refine bodyPost_ret (v := .tuple #[.agg #[.slice none 0 0, .int .i64 0], .int .i64 1]) (by simp [results, Tryz.results56, go_sem, s0, s1]) rfl ⟨?_, .inl ⟨1, by decide, rfl, .inr ⟨HE.out, rfl, of_many HE.out hbigR⟩⟩⟩
          exact (hb4.setCell (p := ⟨w.heap.size, 0, none⟩) (Nat.le_refl _) _).setCell (p := ⟨w.heap.size, 1, none⟩) (Nat.le_refl _) _
        · have hb4 := (of_res4 HM.out hk4).1
          refine bodyPost_ret (v := .tuple #[.agg #[.slice (some ⟨g5, 0, none⟩) qs5.length C5, .int .i64 (ofN xs).2], .int .i64 0]) (by simp [results, Tryz.results56, go_sem, s0, s1]) rfl ⟨?_, .inr ⟨HE.out, g5, C5, qs5, (ofN xs).2, rfl, of_nodes hN5 _ _, ?_, ?_⟩⟩
          · exact (hb4.setCell (p := ⟨w.heap.size, 0, none⟩) (Nat.le_refl _) _).setCell (p := ⟨w.heap.size, 1, none⟩) (Nat.le_refl _) _
          · rw [hnd5]; exact (ofN_ok HE.out hsm).1
          · rw [hnd5]; exact (ofN_ok HE.out hsm).2

end Go.Proofs.YtlojfgdpmaigmaeGreatDoor
