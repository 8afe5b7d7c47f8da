/- How many nodes there are when all that hold too much are split. In plain terms. -/
import Derived.Test.YtlojfgdpmaigmacGreatDoorP28
import Derived.Test.YtlojfgdpmaigmacGreatDoorP33
import Derived.Test.YtlojfgdpmaigmacGreatDoorP31
namespace Go.Proofs.YtlojfgdpmaigmacGreatDoor
open Go.RowKit Plain

def wt (x : Nd) : Nat := if x.leaf = true then (if x.ents.length ≤ 6 then 6 else x.ents.length + 5) else 0
def wts : List Nd → Nat
  | [] => 0
  | x :: r => wt x + wts r

theorem wts_append : ∀ a b : List Nd, wts (a ++ b) = wts a + wts b
  | [], b => by simp [wts]
  | x :: r, b => by simp only [List.cons_append, wts, wts_append r b]; omega

theorem wts_set {ns : List Nd} {i : Nat} (hi : i < ns.length) (y : Nd) : wts (ns.set i y) + wt ns[i] = wts ns + wt y := by
  obtain ⟨e1, e2⟩ := set_split ns i y hi
  rw [e2]
  have : wts ns = wts (ns.take i ++ ns[i] :: ns.drop (i + 1)) := by rw [← e1]
  rw [this, wts_append, wts_append, wts, wts]
  omega

theorem partsL_wt {x : Nd} (hl : x.leaf = true) {mn s : Nat} : ∀ (bs : List Nat) (a : Nat), CutsOk mn 6 s a bs → wts (partsL x a bs) = 6 * bs.length
  | [], _, _ => rfl
  | b :: bs, a, h => by
    obtain ⟨_, h2, h3⟩ := h
    have e : wt (partN x a b) = 6 := by
      have hle : ((x.ents.drop a).take (b - a)).length ≤ 6 := by rw [List.length_take]; omega
      simp only [partN, hl, if_true, wt]
      rw [if_pos hle]
    rw [partsL, wts, e, partsL_wt hl bs b h3, List.length_cons]
    omega

theorem partsL_wt0 {x : Nd} (hl : x.leaf = false) : ∀ (bs : List Nat) (a : Nat), wts (partsL x a bs) = 0
  | [], _ => rfl
  | b :: bs, a => by
    have e : wt (partN x a b) = 0 := by simp [partN, hl, wt]
    rw [partsL, wts, e, partsL_wt0 hl bs b]

theorem splitN_wt (ns : List Nd) (p : Int) : wts (splitN ns p).1 ≤ wts ns := by
  unfold splitN
  split
  · exact Nat.le_refl _
  · rename_i hgt
    have hpn : p.toNat < ns.length := by
      apply Classical.byContradiction
      intro hn
      have e : nth ns p = default := by
        unfold nth
        rw [List.getD_eq_getElem?_getD, List.getElem?_eq_none (by omega)]
        rfl
      rw [e] at hgt
      exact hgt (by decide)
    have hx : ns[p.toNat] = nth ns p := by
      unfold nth
      rw [List.getD_eq_getElem?_getD, List.getElem?_eq_getElem hpn]
      rfl
    generalize hX : nth ns p = x at *
    have hlen : (partsL x 0 (cutsN x)).length = partsN x := by rw [partsL_length]; exact cutsF_length _ _ _ _
    have hsum : wts (partsL x 0 (cutsN x)) ≤ wt x := by
      cases hl : x.leaf with
      | false => rw [partsL_wt0 hl]; omega
      | true =>
        have hs : sizeN x = x.ents.length := by simp [sizeN, hl]
        have hm : mostN x = 6 := by simp [mostN, hl]
        rw [hs, hm] at hgt
        have hq : partsN x = (x.ents.length + 6 - 1) / 6 := by unfold partsN; rw [hs, hm]
        obtain ⟨q1, q2, q3, q4⟩ := parts_bounds (s := x.ents.length) (m := 6) (mn := 1) (.inl ⟨rfl, rfl⟩) (by omega)
        have hc : CutsOk 1 6 x.ents.length 0 (cutsN x) := by
          unfold cutsN
          rw [hs, hq]
          have := cutsF_ok (s := x.ents.length) (q := (x.ents.length + 6 - 1) / 6) (m := 6) (mn := 1) (by omega) q2 q3 ((x.ents.length + 6 - 1) / 6) 0 (by omega)
          rwa [beg_zero _ _ (by omega)] at this
        rw [partsL_wt hl _ _ hc, show (cutsN x).length = partsN x from cutsF_length _ _ _ _, hq]
        unfold wt
        rw [if_pos hl, if_neg (by omega)]
        omega
    simp only
    rw [wts_append]
    cases hp : partsL x 0 (cutsN x) with
    | nil =>
      have hq1 : partsN x = 0 := by rw [← hlen, hp]; rfl
      exfalso
      have : 1 ≤ mostN x := by unfold mostN; split <;> omega
      unfold partsN at hq1
      rcases Nat.div_eq_zero_iff.1 hq1 with e | e <;> omega
    | cons y ys =>
      rw [hp] at hsum
      have := wts_set hpn y
      rw [hx] at this
      simp only [List.headD_cons, List.tail_cons, wts] at hsum ⊢
      omega

theorem adopt_wt (ns : List Nd) (p : Int) (i : Nat) (more : List (Int × Int)) : wts (adoptAt ns p i more) = wts ns := by
  unfold adoptAt
  by_cases hpn : p.toNat < ns.length
  · have hx : ns[p.toNat] = nth ns p := by
      unfold nth
      rw [List.getD_eq_getElem?_getD, List.getElem?_eq_getElem hpn]
      rfl
    have := wts_set hpn (adoptN (nth ns p) i more)
    rw [hx] at this
    have e : wt (adoptN (nth ns p) i more) = wt (nth ns p) := rfl
    omega
  · rw [List.set_eq_of_length_le (by omega)]

theorem kidsN_wt {rec : List Nd → Int → List Nd × List (Int × Int)} (hr : ∀ ns p, wts (rec ns p).1 ≤ wts ns) (p : Int) : ∀ (i : Nat) (ns : List Nd), wts (kidsN rec p i ns) ≤ wts ns
  | 0, _ => Nat.le_refl _
  | i + 1, ns => by
    rw [kidsN]
    refine Nat.le_trans (kidsN_wt hr p i _) ?_
    rw [adopt_wt]
    exact hr ns _

theorem splitAllN_wt : ∀ (h : Nat) (ns : List Nd) (p : Int), wts (splitAllN h ns p).1 ≤ wts ns
  | 0, ns, p => splitN_wt ns p
  | h + 1, ns, p => Nat.le_trans (splitN_wt _ p) (kidsN_wt (splitAllN_wt h) p _ ns)

theorem growN_wt : ∀ (f : Nat) (ns : List Nd) (root : Int) (more : List (Int × Int)), wts (growN f ns root more).1 ≤ wts ns
  | 0, _, _, _ => Nat.le_refl _
  | f + 1, ns, root, more => by
    unfold growN
    split
    · exact Nat.le_refl _
    · refine Nat.le_trans (growN_wt f _ _ _) (Nat.le_trans (splitN_wt _ _) ?_)
      rw [wts_append]
      simp [wts, wt, newRoot]

def wtP (ns : List Nd) : List Int → Nat
  | [] => 0
  | n :: P => wt (nth ns n) + wtP ns P

theorem wtP_append (ns : List Nd) : ∀ a b : List Int, wtP ns (a ++ b) = wtP ns a + wtP ns b
  | [], b => by simp [wtP]
  | x :: r, b => by simp only [List.cons_append, wtP, wtP_append ns r b]; omega

theorem wtP_perm {ns : List Nd} {a b : List Int} (h : a.Perm b) : wtP ns a = wtP ns b := by
  induction h with
  | nil => rfl
  | cons x _ ih => simp only [wtP, ih]
  | swap x y l => simp only [wtP]; omega
  | trans _ _ h1 h2 => rw [h1, h2]

theorem wtP_places : ∀ (r pre : List Nd), wtP (pre ++ r) (placesF pre.length r.length) = wts r
  | [], _ => rfl
  | x :: r, pre => by
    have e : nth (pre ++ x :: r) (pre.length : Int) = x := by
      unfold nth
      simp
    have ih := wtP_places r (pre ++ [x])
    rw [List.append_assoc, List.length_append] at ih
    simp only [List.length_cons, placesF, wtP, wts]
    rw [e]
    simp only [List.length_singleton, List.singleton_append] at ih
    rw [ih]

/-- A tree has no more nodes than twice its leaves; each of these weighs. -/
theorem Sub_few {ns : List Nd} : ∀ (h : Nat) (d lo hi : Int) (P : List Int), Sub 6 4 ns h d lo hi P → 3 * (P.length + 1) ≤ wtP ns P
  | 0, d, lo, hi, P, hs => by
    obtain ⟨_, rfl, hl⟩ := hs
    have : wt (nth ns d) = 6 := by
      unfold wt
      rw [if_pos hl.leaf, if_pos hl.most]
    simp [wtP, this]
  | h + 1, d, lo, hi, P, hs => by
    obtain ⟨_, Q, rfl, hin⟩ := hs
    have ih := Sub_few (ns := ns) h
    have : ∀ (L : List (Int × Int)) (lo : Int) (Q : List Int), SubK (Sub 6 4 ns h) lo L Q → 3 * (Q.length + L.length) ≤ wtP ns Q := by
      intro L
      induction L with
      | nil => intro lo Q hQ; cases hQ; simp [wtP]
      | cons p r ihr =>
        obtain ⟨d, u⟩ := p
        rintro lo Q ⟨Q1, Q2, rfl, h1, h2⟩
        have a := ih _ _ _ _ h1
        have b := ihr _ _ h2
        rw [wtP_append]
        simp only [List.length_append, List.length_cons]
        omega
    have a := this _ _ _ hin.kids
    have b : (ups (nth ns d).kids (nth ns d).keys hi).length = (nth ns d).kids.length := by
      have := hin.keys
      simp [ups]
      omega
    have c := hin.two
    simp only [wtP, List.length_cons]
    omega

theorem tree_few {ns : List Nd} {h : Nat} {root : Int} {Q : List Int} (hs : Sub 6 4 ns h root 0 1099511627776 Q) (hp : Q.Perm (placesF 0 ns.length)) : 3 * (ns.length + 1) ≤ wts ns := by
  have a := Sub_few _ _ _ _ _ hs
  have b := wtP_places ns []
  rw [List.nil_append, List.length_nil] at b
  rw [wtP_perm hp, b, placesF_len hp] at a
  exact a

theorem wts_cont : ∀ ns : List Nd, wts ns ≤ (ns.flatMap cont).length + 6 * ns.length
  | [] => by simp [wts]
  | x :: r => by
    have ih := wts_cont r
    have : wt x ≤ x.ents.length + 6 := by
      unfold wt
      split
      · split <;> omega
      · omega
    rw [List.flatMap_cons, wts]
    simp only [List.length_append, List.length_cons, cont]
    omega

end Go.Proofs.YtlojfgdpmaigmacGreatDoor

/- What Put makes of a tree: in plain terms. -/
namespace Go.Proofs.YtlojfgdpmaigmacGreatDoor
open Go.RowKit Plain

theorem splitN_le (ns : List Nd) (p : Int) : ns.length ≤ (splitN ns p).1.length := by
  unfold splitN
  split
  · exact Nat.le_refl _
  · simp

theorem growN_le : ∀ (f : Nat) (ns : List Nd) (root : Int) (more : List (Int × Int)), ns.length ≤ (growN f ns root more).1.length
  | 0, _, _, _ => Nat.le_refl _
  | f + 1, ns, root, more => by
    unfold growN
    split
    · exact Nat.le_refl _
    · refine Nat.le_trans ?_ (growN_le f _ _ _)
      refine Nat.le_trans ?_ (splitN_le _ _)
      simp

/-- What grow makes of a tree whose leaves may hold too much. -/
def growAll (h : Nat) (ns : List Nd) (root : Int) : List Nd × Int := growN (splitAllN h ns root).2.length (splitAllN h ns root).1 root (splitAllN h ns root).2

structure GrownOk (ns : List Nd) (h : Nat) (root : Int) : Prop where
  row : RowOk (splitAllN h ns root).1 h root (splitAllN h ns root).2
  fine : (growAll h ns root).1.length ≤ 2000 → treeC (growAll h ns root).1 (growAll h ns root).2 = 0
  cont : ((growAll h ns root).1.flatMap cont).Perm (ns.flatMap cont)
  few : 3 * ((growAll h ns root).1.length + 1) ≤ wts ns
  part : (splitAllN h ns root).1.length + (splitAllN h ns root).2.length ≤ 2 * (growAll h ns root).1.length
  sub : ∃ h' Q, Sub 6 4 (growAll h ns root).1 h' (growAll h ns root).2 0 1099511627776 Q ∧ Q.Perm (placesF 0 (growAll h ns root).1.length)

theorem grown_ok {T h : Nat} {ns : List Nd} {root : Int} {P : List Int} (hs : Sub T 4 ns h root 0 1099511627776 P) (hp : P.Perm (placesF 0 ns.length)) : GrownOk ns h root := by
  have hnd : P.Nodup := hp.nodup_iff.2 (placesF_nodup _ _)
  have hok := splitAll_ok h ns root _ _ P hs hnd
  have hle := hok.le
  have hfew := hok.few
  have hrow : RowOk (splitAllN h ns root).1 h root (splitAllN h ns root).2 := by
    obtain ⟨Q', a, b⟩ := hok.sub
    refine ⟨Q', a, b.trans ((hp.append_right _).trans ?_)⟩
    have e := placesF_append 0 ns.length ((splitAllN h ns root).1.length - ns.length)
    rw [show ns.length + ((splitAllN h ns root).1.length - ns.length) = (splitAllN h ns root).1.length by omega, Nat.zero_add] at e
    rw [e]
  obtain ⟨⟨h', Q, c1, c2⟩, c3, c4⟩ := grow_ok (splitAllN h ns root).2.length (Nat.le_refl _) hrow
  have hw : wts (growAll h ns root).1 ≤ wts ns := Nat.le_trans (growN_wt _ _ _ _) (splitAllN_wt h ns root)
  have hl := growN_le (splitAllN h ns root).2.length (splitAllN h ns root).1 root (splitAllN h ns root).2
  refine ⟨hrow, fun hz => Sub_treeC c1 c2 hz, c3.trans hok.cont, Nat.le_trans (tree_few c1 c2) hw, ?_, h', Q, c1, c2⟩
  unfold growAll
  omega

theorem Sub_nodup_ne {T h : Nat} {ns : List Nd} {root lo hi : Int} {P : List Int} (hs : Sub T 4 ns h root lo hi P) : 0 ≤ root ∧ root < ns.length := by
  cases h with
  | zero => exact ⟨hs.1.1, hs.1.2.1⟩
  | succ h => exact ⟨hs.1.1, hs.1.2.1⟩

theorem Sub_up {m m' mK : Nat} {ns : List Nd} (hm : m ≤ m') : ∀ (h : Nat) (d lo hi : Int) (P : List Int), Sub m mK ns h d lo hi P → Sub m' mK ns h d lo hi P
  | 0, _, _, _, _, hs => ⟨hs.1, hs.2.1, hs.2.2.mono hm⟩
  | h + 1, _, _, _, _, hs => by
    obtain ⟨hr, Q, rfl, hin⟩ := hs
    exact ⟨hr, Q, rfl, hin.imp fun d lo hi Q1 a _ => Sub_up hm h d lo hi Q1 a⟩

theorem cP_all {ns : List Nd} {P : List Int} (hp : P.Perm (placesF 0 ns.length)) : (cP ns P).Perm (ns.flatMap cont) := by
  have h1 : (cP ns P).Perm (cP ns (placesF 0 ns.length)) := hp.flatMap_right _
  have h2 : ∀ (r pre : List Nd), cP (pre ++ r) (placesF pre.length r.length) = r.flatMap cont := by
    intro r
    induction r with
    | nil => intro pre; rfl
    | cons x r ih =>
      intro pre
      have e : nth (pre ++ x :: r) (pre.length : Int) = x := by
        unfold nth
        simp
      have h := ih (pre ++ [x])
      rw [List.append_assoc, List.length_append] at h
      simp only [List.length_singleton, List.singleton_append] at h
      rw [List.length_cons, placesF, cP_cons, e, h, List.flatMap_cons]
  have h3 := h2 ns []
  rw [List.nil_append, List.length_nil] at h3
  rw [h3] at h1
  exact h1

end Go.Proofs.YtlojfgdpmaigmacGreatDoor
