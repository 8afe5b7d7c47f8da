/- The document's WithEntry: entries with one more. -/
import Derived.Test.YtlojfgdpmaigmacGreatDoorP13
import Derived.Test.YtlojfgdpmaigmacGreatDoorP08
import Derived.Test.YtlojfgdpmaigmacGreatDoorP14
import Derived.Deep.DeepCutAuto
namespace Go.Proofs.YtlojfgdpmaigmacGreatDoor
open Go.RowKit Plain

theorem ins_app {x : En} : ∀ {l : List En} (r : List En), (∀ y ∈ l, y.key < x.key) → ins (l ++ r) x = (ins r x).map (l ++ ·)
  | [], r, _ => by rw [List.nil_append]; cases ins r x <;> rfl
  | y :: l, r, h => by
    rw [List.cons_append, ins_gt (h y List.mem_cons_self), ins_app r (fun z hz => h z (List.mem_cons_of_mem _ hz))]
    cases ins r x <;> rfl

/-- What WithEntry has come to behind i entries. -/
def WithAt (xs : List En) (x : En) (i : Nat) (done : Bool) (out : List En) : Prop :=
  (done = false ∧ out = xs.take i ∧ ∀ y ∈ xs.take i, y.key < x.key) ∨ (done = true ∧ ins xs x = some (out ++ xs.drop i))

theorem with_split {xs : List En} {i : Nat} (hi : i < xs.length) : xs = xs.take i ++ xs[i] :: xs.drop (i + 1) := by
  rw [← List.drop_eq_getElem_cons hi, List.take_append_drop]

theorem with_less {xs : List En} {x : En} {i : Nat} {out : List En} (h : WithAt xs x i false out) (hi : i < xs.length) (hk : xs[i].key < x.key) : WithAt xs x (i + 1) false (out ++ [xs[i]]) := by
  rcases h with ⟨_, rfl, h⟩ | ⟨h, _⟩
  · refine .inl ⟨rfl, by rw [List.take_succ_eq_append_getElem hi], fun y hy => ?_⟩
    rw [List.take_succ_eq_append_getElem hi] at hy
    rcases List.mem_append.1 hy with hy | hy
    · exact h y hy
    · rw [List.mem_singleton] at hy; rw [hy]; exact hk
  · cases h

theorem with_same {xs : List En} {x : En} {i : Nat} {out : List En} (h : WithAt xs x i false out) (hi : i < xs.length) (hk : xs[i].key = x.key) :
    (xs[i].c + x.c ≤ 1073741824 → WithAt xs x (i + 1) true (out ++ [mkE x.key (jn xs[i].ru x.ru)])) ∧ (¬ xs[i].c + x.c ≤ 1073741824 → ins xs x = none) := by
  rcases h with ⟨_, rfl, h⟩ | ⟨h, _⟩
  · have e : ins xs x = (ins (xs[i] :: xs.drop (i + 1)) x).map (xs.take i ++ ·) := by
      conv => lhs; rw [with_split hi]
      exact ins_app _ h
    rw [ins_eq hk] at e
    constructor
    · intro hc
      rw [if_pos hc] at e
      exact .inr ⟨rfl, by rw [e]; simp⟩
    · intro hc
      rw [if_neg hc] at e
      exact e
  · cases h

theorem with_more {xs : List En} {x : En} {i : Nat} {out : List En} (h : WithAt xs x i false out) (hi : i < xs.length) (hk : x.key < xs[i].key) : WithAt xs x (i + 1) true (out ++ [x] ++ [xs[i]]) := by
  rcases h with ⟨_, rfl, h⟩ | ⟨h, _⟩
  · have e : ins xs x = (ins (xs[i] :: xs.drop (i + 1)) x).map (xs.take i ++ ·) := by
      conv => lhs; rw [with_split hi]
      exact ins_app _ h
    rw [ins_lt hk] at e
    exact .inr ⟨rfl, by rw [e]; simp⟩
  · cases h

theorem with_done {xs : List En} {x : En} {i : Nat} {out : List En} (h : WithAt xs x i true out) (hi : i < xs.length) : WithAt xs x (i + 1) true (out ++ [xs[i]]) := by
  rcases h with ⟨h, _⟩ | ⟨_, h⟩
  · cases h
  · refine .inr ⟨rfl, ?_⟩
    rw [h, List.drop_eq_getElem_cons hi]
    simp

theorem with_end {xs : List En} {x : En} {out : List En} {done : Bool} (h : WithAt xs x xs.length done out) : ins xs x = some (if done = true then out else out ++ [x]) := by
  rcases h with ⟨rfl, rfl, h⟩ | ⟨rfl, h⟩
  · rw [List.take_length] at h ⊢
    have := ins_app (x := x) [] h
    rw [List.append_nil] at this
    rw [this]
    simp [ins]
  · rw [h]; simp

theorem with_len {xs : List En} {x : En} {i : Nat} {out : List En} {done : Bool} (h : WithAt xs x i done out) (hi : i ≤ xs.length) : out.length ≤ i + 1 := by
  rcases h with ⟨_, rfl, _⟩ | ⟨_, h⟩
  · simp; omega
  · have hl : ∀ {l : List En} {r : List En}, ins l x = some r → r.length ≤ l.length + 1 := by
      intro l
      induction l with
      | nil => intro r h; simp [ins] at h; subst h; simp
      | cons y l ih =>
        intro r h
        simp only [ins] at h
        split at h
        · cases h; simp
        · split at h
          · split at h
            · cases h; simp
            · cases h
          · cases hr : ins l x with
            | none => rw [hr] at h; cases h
            | some q => rw [hr] at h; cases h; have := ih hr; simp; omega
    have := hl h
    simp at this
    omega

theorem news1 (w : World) (x : En) : ∀ j u, x.vals[j]? = some u → (w.alloc (.cells x.vals.toArray 40)).cell? ((⟨w.heap.size, 0, none⟩ : Addr).add j) = some u := by
  intro j u hu
  rw [WideShapes.add_plain, Nat.zero_add, (rowL_alloc w x.vals 40).cell]
  exact hu

theorem vals_one (x : En) : ∀ u ∈ x.vals, u.oneCell' = true := by
  have := flatE_one [x]
  simpa [flatE] using this

theorem vals_toArray (x : En) : x.vals.toArray = #[.int .i64 x.key, .int .i64 x.c, .int .i64 x.s, .int .i64 x.lo, .int .i64 x.hi, .int .i64 x.t, .int .i64 x.l] := rfl

theorem flatE_snoc (l : List En) (x : En) : flatE l ++ x.vals = flatE (l ++ [x]) := by rw [flatE_append]; simp [flatE]

theorem app_below {B : Nat} {W wd w1 : World} {v : Value} {out : List En} {o : Obj} (hown : wd.ownsRow B 40 7 v out.length (flatE out)) (hb : Below B W wd) (hB : B ≤ wd.heap.size) (hg : (wd.alloc o).grownBy w1 v.ownBlock) : Below B W w1 ∧ B ≤ w1.heap.size := by
  have hs := hg.size
  simp at hs
  exact ⟨(hb.alloc hB o).grown hg (by simp; omega) (fun k hk => (hown.lt k hk).1), by omega⟩

theorem app_own {B : Nat} {w1 : World} {v : Value} {out : List En} {y : En} (h : w1.ownsRow B 40 7 v (out.length + 1) (flatE out ++ y.vals)) : w1.ownsRow B 40 7 v (out ++ [y]).length (flatE (out ++ [y])) := by
  rw [flatE_snoc] at h
  simpa using h

theorem alloc_rule {W w3 : World} {c : Array Value} {t : TypeId} {n : Nat} (hb : Below (W.alloc (.cells c t)).heap.size (W.alloc (.cells c t)) w3) (hn : W.heap.size = n) :
    w3.cell? ⟨n, 0, none⟩ = c[0]? ∧ w3.cell? ⟨n, 1, none⟩ = c[1]? ∧ w3.cell? ⟨n, 2, none⟩ = c[2]? ∧ w3.cell? ⟨n, 3, none⟩ = c[3]? ∧ w3.cell? ⟨n, 4, none⟩ = c[4]? ∧ w3.cell? ⟨n, 5, none⟩ = c[5]? ∧ ∀ j, w3.frozen? ⟨n, j, none⟩ = false := by
  subst hn
  have g : ∀ j, w3.cell? ⟨W.heap.size, j, none⟩ = c[j]? := fun j => (hb.cell (p := ⟨W.heap.size, j, none⟩) (by simp)).trans (by simp)
  exact ⟨g 0, g 1, g 2, g 3, g 4, g 5, fun j => (hb.frozen (p := ⟨W.heap.size, j, none⟩) (by simp)).trans (by simp)⟩

end Go.Proofs.YtlojfgdpmaigmacGreatDoor
