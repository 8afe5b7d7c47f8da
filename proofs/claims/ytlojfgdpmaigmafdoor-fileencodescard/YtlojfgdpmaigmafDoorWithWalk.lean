/- The document's WithEntry: entries with one more. -/
import Derived.Test.YtlojfgdpmaigmafDoorTogeth
import Derived.Test.YtlojfgdpmaigmafDoorP06
import Derived.Test.YtlojfgdpmaigmafDoorEntsRef
import Derived.Deep.DeepCutAuto
namespace Go.Proofs.YtlojfgdpmaigmafDoor
open Go.RowKit Plain

theorem ins_app {x : En} : ∀ {l : List En} (r : List En), (∀ y ∈ l, y.key < x.key) → ins (l ++ r) x = (ins r x).map (l ++ ·)
  | [], r, _ => by rw [List.nil_append]; cases ins r x <;> rfl
  | y :: l, r, h => by
    rw [List.cons_append, ins_gt (h y List.mem_cons_self), ins_app r (fun z hz => h z (List.mem_cons_of_mem _ hz))]
    cases ins r x <;> rfl

/-- What WithEntry has come to behind i entries. -/
def WithAt (xs : List En) (x : En) (i : Nat) (done : Bool) (out : List En) : Prop :=
  (done = false ∧ out = xs.take i ∧ ∀ y ∈ xs.take i, y.key < x.key) ∨ (done = true ∧ ins xs x = some (out ++ xs.drop i))

theorem with_split {xs : List En} {i : Nat} (hi : i < xs.length) : xs = xs.take i ++ xs[i] :: xs.drop (i + 1) := by
  rw [← List.drop_eq_getElem_cons hi, List.take_append_drop]

theorem with_less {xs : List En} {x : En} {i : Nat} {out : List En} (h : WithAt xs x i false out) (hi : i < xs.length) (hk : xs[i].key < x.key) : WithAt xs x (i + 1) false (out ++ [xs[i]]) := by
  rcases h with ⟨_, rfl, h⟩ | ⟨h, _⟩
  · refine .inl ⟨rfl, by rw [List.take_succ_eq_append_getElem hi], fun y hy => ?_⟩
    rw [List.take_succ_eq_append_getElem hi] at hy
    rcases List.mem_append.1 hy with hy | hy
    · exact h y hy
    · rw [List.mem_singleton] at hy; rw [hy]; exact hk
  · cases h

theorem with_same {xs : List En} {x : En} {i : Nat} {out : List En} (h : WithAt xs x i false out) (hi : i < xs.length) (hk : xs[i].key = x.key) :
    (xs[i].c + x.c ≤ 1073741824 → WithAt xs x (i + 1) true (out ++ [mkE x.key (jn xs[i].ru x.ru)])) ∧ (¬ xs[i].c + x.c ≤ 1073741824 → ins xs x = none) := by
  rcases h with ⟨_, rfl, h⟩ | ⟨h, _⟩
  · have e : ins xs x = (ins (xs[i] :: xs.drop (i + 1)) x).map (xs.take i ++ ·) := by
      conv => lhs; rw [with_split hi]
      exact ins_app _ h
    rw [ins_eq hk] at e
    constructor
    · intro hc
      rw [if_pos hc] at e
      exact .inr ⟨rfl, by rw [e]; simp⟩
    · intro hc
      rw [if_neg hc] at e
      exact e
  · cases h

theorem with_more {xs : List En} {x : En} {i : Nat} {out : List En} (h : WithAt xs x i false out) (hi : i < xs.length) (hk : x.key < xs[i].key) : WithAt xs x (i + 1) true (out ++ [x] ++ [xs[i]]) := by
  rcases h with ⟨_, rfl, h⟩ | ⟨h, _⟩
  · have e : ins xs x = (ins (xs[i] :: xs.drop (i + 1)) x).map (xs.take i ++ ·) := by
      conv => lhs; rw [with_split hi]
      exact ins_app _ h
    rw [ins_lt hk] at e
    exact .inr ⟨rfl, by rw [e]; simp⟩
  · cases h

theorem with_done {xs : List En} {x : En} {i : Nat} {out : List En} (h : WithAt xs x i true out) (hi : i < xs.length) : WithAt xs x (i + 1) true (out ++ [xs[i]]) := by
  rcases h with ⟨h, _⟩ | ⟨_, h⟩
  · cases h
  · refine .inr ⟨rfl, ?_⟩
    rw [h, List.drop_eq_getElem_cons hi]
    simp

theorem with_end {xs : List En} {x : En} {out : List En} {done : Bool} (h : WithAt xs x xs.length done out) : ins xs x = some (if done = true then out else out ++ [x]) := by
  rcases h with ⟨rfl, rfl, h⟩ | ⟨rfl, h⟩
  · rw [List.take_length] at h ⊢
    have := ins_app (x := x) [] h
    rw [List.append_nil] at this
    rw [this]
    simp [ins]
  · rw [h]; simp

theorem news1 (w : World) (x : En) : ∀ j u, x.vals[j]? = some u → (w.alloc (.cells x.vals.toArray 48)).cell? ((⟨w.heap.size, 0, none⟩ : Addr).add j) = some u := by
  intro j u hu
  rw [WideShapes.add_plain, Nat.zero_add, (rowL_alloc w x.vals 48).cell]
  exact hu

theorem vals_one (x : En) : ∀ u ∈ x.vals, u.oneCell' = true := by
  have := flatE_one [x]
  simpa [flatE] using this

theorem flatE_snoc (l : List En) (x : En) : flatE l ++ x.vals = flatE (l ++ [x]) := by rw [flatE_append]; simp [flatE]

theorem app_below {B : Nat} {W wd w1 : World} {v : Value} {out : List En} {o : Obj} (hown : wd.ownsRow B 48 7 v out.length (flatE out)) (hb : Below B W wd) (hB : B ≤ wd.heap.size) (hg : (wd.alloc o).grownBy w1 v.ownBlock) : Below B W w1 ∧ B ≤ w1.heap.size := by
  have hs := hg.size
  simp at hs
  exact ⟨(hb.alloc hB o).grown hg (by simp; omega) (fun k hk => (hown.lt k hk).1), by omega⟩

theorem app_own {B : Nat} {w1 : World} {v : Value} {out : List En} {y : En} (h : w1.ownsRow B 48 7 v (out.length + 1) (flatE out ++ y.vals)) : w1.ownsRow B 48 7 v (out ++ [y]).length (flatE (out ++ [y])) := by
  rw [flatE_snoc] at h
  simpa using h

theorem alloc_rule {W w3 : World} {c : Array Value} {t : TypeId} {n : Nat} (hb : Below (W.alloc (.cells c t)).heap.size (W.alloc (.cells c t)) w3) (hn : W.heap.size = n) :
    w3.cell? ⟨n, 0, none⟩ = c[0]? ∧ w3.cell? ⟨n, 1, none⟩ = c[1]? ∧ w3.cell? ⟨n, 2, none⟩ = c[2]? ∧ w3.cell? ⟨n, 3, none⟩ = c[3]? ∧ w3.cell? ⟨n, 4, none⟩ = c[4]? ∧ w3.cell? ⟨n, 5, none⟩ = c[5]? ∧ ∀ j, w3.frozen? ⟨n, j, none⟩ = false := by
  subst hn
  have g : ∀ j, w3.cell? ⟨W.heap.size, j, none⟩ = c[j]? := fun j => (hb.cell (p := ⟨W.heap.size, j, none⟩) (by simp)).trans (by simp)
  exact ⟨g 0, g 1, g 2, g 3, g 4, g 5, fun j => (hb.frozen (p := ⟨W.heap.size, j, none⟩) (by simp)).trans (by simp)⟩

set_option maxRecDepth 20000 in
set_option maxHeartbeats 4000000 in
theorem withEntry_any (A : Option Addr) (C : Nat) (xs : List En) (x : En) (w : World) (h : RowAt w.heap.size w A (flatE xs)) (hz : xs.length * 56 ≤ 140737488351232) (hg : ∀ y ∈ xs, Good y.ru) (hx : Good x.ru) :
    Calls Tryd.prog 44 #[.slice A xs.length C, .agg #[.int .i64 x.key, .int .i64 x.c, .int .i64 x.s, .int .i64 x.lo, .int .i64 x.hi, .int .i64 x.t, .int .i64 x.l]] w
      fun e w' => Below w.heap.size w w' ∧ match ins xs x with
        | some ys => ∃ v, e = .returned (.tuple #[v, .int .i64 0]) ∧ w'.ownsRow w.heap.size 48 7 v ys.length (flatE ys)
        | none => e = .returned (.tuple #[.slice none 0 0, .int .i64 1]) := by
  obtain ⟨i0, hi0, hz0, hz1, hz2⟩ := info_parts infoE
  obtain ⟨key, xc, xs1, xlo, xhi, xt, xl⟩ := x
  obtain ⟨Q, hQ⟩ : ∃ Q : Ending → World → Prop, Q = fun e w' => Below w.heap.size w w' ∧ match ins xs ⟨key, xc, xs1, xlo, xhi, xt, xl⟩ with
        | some ys => ∃ v, e = .returned (.tuple #[v, .int .i64 0]) ∧ w'.ownsRow w.heap.size 48 7 v ys.length (flatE ys)
        | none => e = .returned (.tuple #[.slice none 0 0, .int .i64 1]) := ⟨_, rfl⟩
  rw [← hQ]
  have HQ : Hid (∀ e w', Below w.heap.size w w' → (∀ ys, ins xs ⟨key, xc, xs1, xlo, xhi, xt, xl⟩ = some ys → ∃ v, e = .returned (.tuple #[v, .int .i64 0]) ∧ w'.ownsRow w.heap.size 48 7 v ys.length (flatE ys)) → (ins xs ⟨key, xc, xs1, xlo, xhi, xt, xl⟩ = none → e = .returned (.tuple #[.slice none 0 0, .int .i64 1])) → Q e w') := by
    intro e w' h1 h2 h3
    rw [hQ]
    refine ⟨h1, ?_⟩
    cases hi : ins xs ⟨key, xc, xs1, xlo, xhi, xt, xl⟩ with
    | none => exact h3 hi
    | some ys => exact h2 ys hi
  clear hQ
  simp only
  go_enter Tryd.func44, Tryd.ntmps44
  go_wp2_with fail
  go_loopw [6, 7, 8] (fun vo vd vi wr => ∃ (i : Nat) (done : Bool) (out : List En), i ≤ xs.length ∧ vi = .int .i64 i ∧ vd = .bool done ∧ Hid (WithAt xs ⟨key, xc, xs1, xlo, xhi, xt, xl⟩ i done out) ∧ out.length ≤ i + 1 ∧ wr.ownsRow (w.heap.size + 1) 48 7 vo out.length (flatE out) ∧ Below (w.heap.size + 1) (w.alloc (.cells #[.int .i64 key, .int .i64 xc, .int .i64 xs1, .int .i64 xlo, .int .i64 xhi, .int .i64 xt, .int .i64 xl] 48)) wr) (fun _ _ vi _ => xs.length - (intOf vi).toNat)
  case atStart => exact ⟨0, false, [], Nat.zero_le _, rfl, rfl, .inl ⟨rfl, rfl, by simp⟩, by simp, World.ownsRow_nil _ _ _ _, Below.refl _ _⟩
  case round =>
    obtain ⟨i, done, out, hi, rfl, rfl, HW, hol, hown, hb⟩ := hrel
    have hsz : w.heap.size + 1 ≤ wr.heap.size := by have := hb.size; simpa using this
    have hbw : Below w.heap.size w wr := ((Below.refl w.heap.size w).alloc (Nat.le_refl _) _).trans (hb.mono (by omega))
    have bx : ∀ j, wr.cell? ⟨w.heap.size, j, none⟩ = (w.alloc (.cells #[.int .i64 key, .int .i64 xc, .int .i64 xs1, .int .i64 xlo, .int .i64 xhi, .int .i64 xt, .int .i64 xl] 48)).cell? ⟨w.heap.size, j, none⟩ := fun j => hb.cell (p := ⟨w.heap.size, j, none⟩) (Nat.lt_succ_self _)
    have b0 := bx 0
    have b1 := bx 1
    have b2 := bx 2
    have b3 := bx 3
    have b4 := bx 4
    have b5 := bx 5
    have b6 := bx 6
    simp at b0 b1 b2 b3 b4 b5 b6
    clear bx
    by_cases hlt : i < xs.length
    · obtain ⟨b, o, rfl, hbl, c0, c1, c2, c3, c4, c5, c6⟩ := (h.below hbw (Nat.le_refl _)).en hlt
      have hbr : b < wr.heap.size := by omega
      have hgi := hg _ (List.getElem_mem hlt)
      cases done with
      | true =>
        have HW' : Hid (WithAt xs ⟨key, xc, xs1, xlo, xhi, xt, xl⟩ (i + 1) true (out ++ [xs[i]])) := with_done HW.out hlt
        clear HW
        generalize xs[i] = y at *
        obtain ⟨yk, yc, ys, ylo, yhi, yt, yl⟩ := y
        simp only at c0 c1 c2 c3 c4 c5 c6
        go_wp2_with fail
        go_quiet (fail)
        have hownd : (wr.drewN nq).ownsRow (w.heap.size + 1) 48 7 u6 out.length (flatE out) := own_of_block hown (fun _ _ => rfl)
        have hbd := below_drewN hb nq
        go_wp2_with (at_builtin; refine wpList_append_own _ rfl _ _ 35 rfl (w.heap.size + 1) 48 i0 _ 7 56 Tryd.underlying35 hi0 hz0 hz1 hz2 rfl (by decide) _ _ _ rfl (hownd.alloc _) ⟨wr.heap.size, 0, none⟩ 1 1 ((En.mk yk yc ys ylo yhi yt yl)).vals rfl rfl (news1 _ (En.mk yk yc ys ylo yhi yt yl)) (vals_one (En.mk yk yc ys ylo yhi yt yl)) (by unfold maxLen; omega) (by omega) (by simp; omega) ?_; intro v1 w1 hown1 hgrow1 _)
        have R1 := app_below hownd hbd hsz hgrow1
        go_wp2
        go_roundw
        case rel =>
          go_light
          exact ⟨i + 1, true, out ++ [(En.mk yk yc ys ylo yhi yt yl)], by omega, by go_num, rfl, HW', by simp; omega, app_own hown1, R1.1⟩
        case measure => simp [intOf]; omega
      | false =>
        have hol' : out.length ≤ i := by
          rcases HW.out with ⟨_, e, _⟩ | ⟨e, _⟩
          · rw [e]; simp; omega
          · cases e
        have HC : Hid (∀ w', Below w.heap.size w w' → EnAt w' b (o + i * 7) xs[i]) := by
          intro w' hb'
          obtain ⟨b', o', hA, _, hE⟩ := (h.below hb' (Nat.le_refl _)).en hlt
          cases hA
          exact hE
        have HL : Hid (xs[i].key < key → WithAt xs (En.mk key xc xs1 xlo xhi xt xl) (i + 1) false (out ++ [xs[i]])) := fun hk => with_less HW.out hlt hk
        have HS : Hid (xs[i].key = key → (xs[i].c + xc ≤ 1073741824 → WithAt xs (En.mk key xc xs1 xlo xhi xt xl) (i + 1) true (out ++ [mkE key (jn xs[i].ru (En.mk key xc xs1 xlo xhi xt xl).ru)])) ∧ (¬ xs[i].c + xc ≤ 1073741824 → ins xs (En.mk key xc xs1 xlo xhi xt xl) = none)) := fun hk => with_same HW.out hlt hk
        have HM : Hid (key < xs[i].key → WithAt xs (En.mk key xc xs1 xlo xhi xt xl) (i + 1) true (out ++ [(En.mk key xc xs1 xlo xhi xt xl)] ++ [xs[i]])) := fun hk => with_more HW.out hlt hk
        clear HW
        generalize xs[i] = y at *
        obtain ⟨yk, yc, ys, ylo, yhi, yt, yl⟩ := y
        simp only at c0 c1 c2 c3 c4 c5 c6
        rcases Int.lt_trichotomy yk key with hk | hk | hk
        · have HW' : Hid (WithAt xs (En.mk key xc xs1 xlo xhi xt xl) (i + 1) false (out ++ [(En.mk yk yc ys ylo yhi yt yl)])) := HL.out hk
          have hk' : ¬ key ≤ yk := by omega
          clear HL HS HM HC
          go_wp2_with fail
          go_quiet (fail)
          have hownd : (wr.drewN nq).ownsRow (w.heap.size + 1) 48 7 u6 out.length (flatE out) := own_of_block hown (fun _ _ => rfl)
          have hbd := below_drewN hb nq
          go_wp2_with (at_builtin; refine wpList_append_own _ rfl _ _ 35 rfl (w.heap.size + 1) 48 i0 _ 7 56 Tryd.underlying35 hi0 hz0 hz1 hz2 rfl (by decide) _ _ _ rfl (hownd.alloc _) ⟨wr.heap.size, 0, none⟩ 1 1 (En.mk yk yc ys ylo yhi yt yl).vals rfl rfl (news1 _ (En.mk yk yc ys ylo yhi yt yl)) (vals_one (En.mk yk yc ys ylo yhi yt yl)) (by unfold maxLen; omega) (by omega) (by simp; omega) ?_; intro v1 w1 hown1 hgrow1 _)
          have R1 := app_below hownd hbd hsz hgrow1
          go_wp2
          go_roundw
          case rel =>
            go_light
            exact ⟨i + 1, false, out ++ [(En.mk yk yc ys ylo yhi yt yl)], by omega, by go_num, rfl, HW', by simp; omega, app_own hown1, R1.1⟩
          case measure => simp [intOf]; omega
        · subst hk
          have hkk : yk ≤ yk := Int.le_refl _
          have HS' := HS.out rfl
          have HSS : Hid ((yc + xc ≤ 1073741824 → WithAt xs (En.mk yk xc xs1 xlo xhi xt xl) (i + 1) true (out ++ [mkE yk (jn (Ru.mk yc ys ylo yhi yt yl) (Ru.mk xc xs1 xlo xhi xt xl))])) ∧ (¬ yc + xc ≤ 1073741824 → ins xs (En.mk yk xc xs1 xlo xhi xt xl) = none)) := HS'
          clear HL HS HM HC HS'
          have hm := mrg_good (a := Ru.mk yc ys ylo yhi yt yl) (b := Ru.mk xc xs1 xlo xhi xt xl) hgi hx
          have hkb : (yk == yk) = true := by simp
          obtain ⟨J, hJ⟩ : ∃ J : Ru, J = (mrg (Ru.mk yc ys ylo yhi yt yl) (Ru.mk xc xs1 xlo xhi xt xl)).1 := ⟨_, rfl⟩
          obtain ⟨ec, hec⟩ : ∃ ec : Int, ec = (mrg (Ru.mk yc ys ylo yhi yt yl) (Ru.mk xc xs1 xlo xhi xt xl)).2 := ⟨_, rfl⟩
          have HJ : Hid ((ec = 0 ∧ WithAt xs (En.mk yk xc xs1 xlo xhi xt xl) (i + 1) true (out ++ [mkE yk J])) ∨ (ec = 1 ∧ ins xs (En.mk yk xc xs1 xlo xhi xt xl) = none)) := by
            by_cases hc : yc + xc ≤ 1073741824
            · left
              rw [hec, hJ, hm, if_pos hc]
              exact ⟨rfl, HSS.out.1 hc⟩
            · right
              rw [hec, hm, if_neg hc]
              exact ⟨rfl, HSS.out.2 hc⟩
          have con : ∀ w', Calls Tryd.prog 61 #[.agg #[.int .i64 yc, .int .i64 ys, .int .i64 ylo, .int .i64 yhi, .int .i64 yt, .int .i64 yl], .agg #[.int .i64 xc, .int .i64 xs1, .int .i64 xlo, .int .i64 xhi, .int .i64 xt, .int .i64 xl]] w' fun e w'' => e = .returned (.tuple #[.agg #[.int .i64 J.c, .int .i64 J.s, .int .i64 J.lo, .int .i64 J.hi, .int .i64 J.t, .int .i64 J.l], .int .i64 ec]) ∧ Below w'.heap.size w' w'' := by
            intro w'
            have := rmerge_any (Ru.mk yc ys ylo yhi yt yl) (Ru.mk xc xs1 xlo xhi xt xl) w'
            rw [← hJ, ← hec] at this
            exact this
          clear hm hJ hec HSS
          obtain ⟨jc, js, jlo, jhi, jt, jl⟩ := J
          simp only at con
          go_wp2_with fail
          go_quiet (fail)
          go_wp2_with fail
          go_quiet (fail)
          have hownd : ∀ n, (wr.drewN n).ownsRow (w.heap.size + 1) 48 7 u6 out.length (flatE out) := fun n => own_of_block hown (fun _ _ => rfl)
          have hbd := fun n => below_drewN hb n
          have hww : w.heap.size < wr.heap.size := by omega
          have hbr1 : b < wr.heap.size + 1 := by omega
          have hww1 : w.heap.size < wr.heap.size + 1 := by omega
          have n1 : ¬ b = wr.heap.size := by omega
          have n2 : ¬ w.heap.size = wr.heap.size := by omega
          have KS : ∀ (W : World) (b' o' j : Nat) (v : Value), ¬ b' = wr.heap.size → (W.setCell ⟨wr.heap.size, j, none⟩ v).cell? ⟨b', o', none⟩ = W.cell? ⟨b', o', none⟩ := fun W b' o' j v hb => World.cell?_setCell_far _ _ _ _ (fun e => hb e.symm)
          go_upto_region 9 with fail
          go_cut [9, 10] (fun v9 v10 wc => ∃ rb, v9 = .pointer (some ⟨rb, 0, none⟩) ∧ v10 = .int .i64 ec ∧ wr.heap.size ≤ rb ∧ RowL wc rb 46 [.int .i64 jc, .int .i64 js, .int .i64 jlo, .int .i64 jhi, .int .i64 jt, .int .i64 jl] ∧ Below wr.heap.size wr wc)
          case first =>
            go_region_held3 (fun w' => w'.cell? ⟨b, o + i * 7 + 1, none⟩ = some (.int .i64 yc) ∧ w'.cell? ⟨b, o + i * 7 + 2, none⟩ = some (.int .i64 ys) ∧ w'.cell? ⟨b, o + i * 7 + 3, none⟩ = some (.int .i64 ylo) ∧ w'.cell? ⟨b, o + i * 7 + 4, none⟩ = some (.int .i64 yhi) ∧ w'.cell? ⟨b, o + i * 7 + 5, none⟩ = some (.int .i64 yt) ∧ w'.cell? ⟨b, o + i * 7 + 6, none⟩ = some (.int .i64 yl) ∧ w'.cell? ⟨w.heap.size, 1, none⟩ = some (.int .i64 xc) ∧ w'.cell? ⟨w.heap.size, 2, none⟩ = some (.int .i64 xs1) ∧ w'.cell? ⟨w.heap.size, 3, none⟩ = some (.int .i64 xlo) ∧ w'.cell? ⟨w.heap.size, 4, none⟩ = some (.int .i64 xhi) ∧ w'.cell? ⟨w.heap.size, 5, none⟩ = some (.int .i64 xt) ∧ w'.cell? ⟨w.heap.size, 6, none⟩ = some (.int .i64 xl)) (go_keep) (first | (go_at_call 61; refine (con _).mono ?_; rintro e w3 ⟨rfl, hb3⟩; have T3 := (bcells (hb3.mono (show wr.heap.size ≤ _ by simp))).1; first | (have T4 := alloc_rule (n := wr.heap.size) hb3 rfl; obtain ⟨T40, T41, T42, T43, T44, T45, U4⟩ := T4) | skip))
            · go_wp2
              go_meet
              case rel =>
                refine ⟨w3.heap.size, rfl, rfl, ?_, rowL_alloc w3 _ _, ?_⟩
                · have := hb3.size; simp at this; omega
                · have bw : Below wr.heap.size wr w3 := ((below_drewN (Below.refl wr.heap.size wr) _).drew).trans (hb3.mono (by simp))
                  exact bw.alloc bw.size _
            · go_wp2
              go_meet
              case rel =>
                have r0 : RowL w3 wr.heap.size 46 [.int .i64 0, .int .i64 0, .int .i64 0, .int .i64 0, .int .i64 0, .int .i64 0] := RowL.below (rowL_alloc ((wr.drewN _).drew) _ _) hb3 (by simp)
                have bw : Below wr.heap.size wr w3 := (((below_drewN (Below.refl wr.heap.size wr) _).drew).alloc (by simp) _).trans (hb3.mono (by simp))
                refine ⟨wr.heap.size, rfl, rfl, Nat.le_refl _, (((((r0.set 0 _).set 1 _).set 2 _).set 3 _).set 4 _).set 5 _, ?_⟩
                exact set6 bw (Nat.le_refl _) _ _ _ _ _ _
          case rest =>
            obtain ⟨rb, rfl, rfl, hrb, hrow, hbc⟩ := hcut
            have r0 := hrow.cell 0
            have r1 := hrow.cell 1
            have r2 := hrow.cell 2
            have r3 := hrow.cell 3
            have r4 := hrow.cell 4
            have r5 := hrow.cell 5
            simp only [List.getElem?_cons_zero, List.getElem?_cons_succ] at r0 r1 r2 r3 r4 r5
            have kb := (hbc.cell (p := ⟨w.heap.size, 0, none⟩) hww).trans b0
            have hrl := hrow.lt
            have hcs : wr.heap.size ≤ wc.heap.size := hbc.size
            have hownc : wc.ownsRow (w.heap.size + 1) 48 7 u6 out.length (flatE out) := own_of_block hown (fun k hk => hbc.block k (hown.lt k hk).2)
            have hbcc : Below (w.heap.size + 1) (w.alloc (.cells #[.int .i64 yk, .int .i64 xc, .int .i64 xs1, .int .i64 xlo, .int .i64 xhi, .int .i64 xt, .int .i64 xl] 48)) wc := hb.trans (hbc.mono (by omega))
            rcases HJ.out with ⟨he, hWA⟩ | ⟨he, hIN⟩
            · subst he
              have HW' : Hid (WithAt xs (En.mk yk xc xs1 xlo xhi xt xl) (i + 1) true (out ++ [En.mk yk jc js jlo jhi jt jl])) := hWA
              clear HJ hWA con
              go_wp2_with (at_builtin; refine wpList_append_own _ rfl _ _ 35 rfl (w.heap.size + 1) 48 i0 _ 7 56 Tryd.underlying35 hi0 hz0 hz1 hz2 rfl (by decide) _ _ _ rfl (hownc.alloc _) ⟨wc.heap.size, 0, none⟩ 1 1 (En.mk yk jc js jlo jhi jt jl).vals rfl rfl (news1 _ (En.mk yk jc js jlo jhi jt jl)) (vals_one (En.mk yk jc js jlo jhi jt jl)) (by unfold maxLen; omega) (by omega) (by simp; omega) ?_; intro v1 w1 hown1 hgrow1 _)
              have R1 := app_below hownc hbcc (by omega) hgrow1
              go_roundw
              case rel =>
                go_light
                exact ⟨i + 1, true, out ++ [En.mk yk jc js jlo jhi jt jl], by omega, by go_num, rfl, HW', by simp; omega, app_own hown1, R1.1⟩
              case measure => simp [intOf]; omega
            · subst he
              have HN : Hid (ins xs (En.mk yk xc xs1 xlo xhi xt xl) = none) := hIN
              clear HJ hIN con
              go_wp2_with fail
              refine HQ.out _ _ (hbw.trans (hbc.mono (by omega))) (fun ys hys => by rw [HN.out] at hys; cases hys) (fun _ => rfl)
        · have HW' : Hid (WithAt xs (En.mk key xc xs1 xlo xhi xt xl) (i + 1) true (out ++ [(En.mk key xc xs1 xlo xhi xt xl)] ++ [(En.mk yk yc ys ylo yhi yt yl)])) := HM.out hk
          have hk' : key ≤ yk := by omega
          have hkb : (yk == key) = false := by rw [beq_eq_false_iff_ne]; omega
          clear HL HS HM
          go_wp2_with fail
          go_quiet (fail)
          go_wp2_with fail
          go_quiet (fail)
          have hownd : ∀ n, (wr.drewN n).ownsRow (w.heap.size + 1) 48 7 u6 out.length (flatE out) := fun n => own_of_block hown (fun _ _ => rfl)
          have hbd := fun n => below_drewN hb n
          go_wp2_with (first | (at_builtin; refine wpList_append_own _ rfl (.tmp 58) (.tmp 60) 35 rfl (w.heap.size + 1) 48 i0 _ 7 56 Tryd.underlying35 hi0 hz0 hz1 hz2 rfl (by decide) _ _ _ rfl ((hownd _).alloc _) ⟨wr.heap.size, 0, none⟩ 1 1 (En.mk key xc xs1 xlo xhi xt xl).vals rfl rfl (news1 _ (En.mk key xc xs1 xlo xhi xt xl)) (vals_one (En.mk key xc xs1 xlo xhi xt xl)) (by unfold maxLen; omega) (by omega) (by simp; omega) ?_; intro v1 w1 hown1 hgrow1 _; obtain ⟨d0, d1, d2, d3, d4, d5, d6⟩ := HC.out w1 (((Below.refl w.heap.size w).alloc (Nat.le_refl _) _).trans ((app_below (hownd _) (hbd _) hsz hgrow1).1.mono (by omega))); simp only at d0 d1 d2 d3 d4 d5 d6; have hs1 := (app_below (hownd _) (hbd _) hsz hgrow1).2) | (at_builtin; refine wpList_append_own _ rfl (.tmp 62) (.tmp 67) 35 rfl (w.heap.size + 1) 48 i0 _ 7 56 Tryd.underlying35 hi0 hz0 hz1 hz2 rfl (by decide) _ _ _ rfl ((app_own hown1).alloc _) ⟨w1.heap.size, 0, none⟩ 1 1 (En.mk yk yc ys ylo yhi yt yl).vals rfl rfl (news1 _ (En.mk yk yc ys ylo yhi yt yl)) (vals_one (En.mk yk yc ys ylo yhi yt yl)) (by unfold maxLen; simp only [List.length_append, List.length_cons, List.length_nil]; omega) (by simp only [List.length_append, List.length_cons, List.length_nil]; omega) (by simp; omega) ?_; intro v2 w2 hown2 hgrow2 _))
          have R1 := app_below (hownd _) (hbd _) hsz hgrow1
          have R2 := app_below (app_own hown1) R1.1 R1.2 hgrow2
          go_roundw
          case rel =>
            go_light
            exact ⟨i + 1, true, out ++ [(En.mk key xc xs1 xlo xhi xt xl)] ++ [(En.mk yk yc ys ylo yhi yt yl)], by omega, by go_num, rfl, HW', by simp; omega, app_own hown2, R2.1⟩
          case measure => simp [intOf]; omega
    · obtain rfl : i = xs.length := by omega
      have HE : Hid (ins xs (En.mk key xc xs1 xlo xhi xt xl) = some (if done = true then out else out ++ [(En.mk key xc xs1 xlo xhi xt xl)])) := with_end HW.out
      clear HW
      cases done with
      | true =>
        go_wp2_with fail
        refine HQ.out _ _ hbw (fun ys hys => ?_) (fun hn => by rw [HE.out] at hn; cases hn)
        rw [HE.out] at hys
        cases hys
        exact ⟨_, rfl, own_mono hown (by omega)⟩
      | false =>
        have hol' : out.length ≤ xs.length + 1 := hol
        go_wp2_with (at_builtin; refine wpList_append_own _ rfl _ _ 35 rfl (w.heap.size + 1) 48 i0 _ 7 56 Tryd.underlying35 hi0 hz0 hz1 hz2 rfl (by decide) _ _ _ rfl (hown.alloc _) ⟨wr.heap.size, 0, none⟩ 1 1 (En.mk key xc xs1 xlo xhi xt xl).vals rfl rfl (news1 _ (En.mk key xc xs1 xlo xhi xt xl)) (vals_one (En.mk key xc xs1 xlo xhi xt xl)) (by unfold maxLen; omega) (by omega) (by simp; omega) ?_; intro v1 w1 hown1 hgrow1 _)
        have R1 := app_below hown hb hsz hgrow1
        go_wp2
        refine HQ.out _ _ (((Below.refl w.heap.size w).alloc (Nat.le_refl _) _).trans (R1.1.mono (by omega))) (fun ys hys => ?_) (fun hn => by rw [HE.out] at hn; cases hn)
        rw [HE.out] at hys
        cases hys
        exact ⟨_, rfl, own_mono (app_own hown1) (by omega)⟩

end Go.Proofs.YtlojfgdpmaigmafDoor
