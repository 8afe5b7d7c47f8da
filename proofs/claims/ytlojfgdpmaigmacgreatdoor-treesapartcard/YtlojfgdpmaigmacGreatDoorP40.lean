/- A tree knows these entries, key by key: in plain terms. -/
import Derived.Test.YtlojfgdpmaigmacGreatDoorP39
import Derived.Test.YtlojfgdpmaigmacGreatDoorP21
import Derived.Test.YtlojfgdpmaigmacGreatDoorGetWalk
import Derived.Test.YtlojfgdpmaigmacGreatDoorP30
import Derived.Deep.AppendLies
import Derived.Test.YtlojfgdpmaigmacGreatDoorP09
import Derived.Maps.Views
import Derived.Maps.OwnSet
import Derived.Maps.OwnOps
import Derived.Test.YtlojfgdpmaigmacGreatDoorP19
import Derived.Test.YtlojfgdpmaigmacGreatDoorP12
namespace Go.Proofs.YtlojfgdpmaigmacGreatDoor
open Go.RowKit Plain

/-- What is known of a key. -/
def look (l : List En) (key : Int) : Ru := ((l.find? fun y => y.key == key).map En.ru).getD zro
def hasE (l : List En) (key : Int) : Bool := l.any fun y => y.key == key

theorem look_cons (y : En) (l : List En) (key : Int) : look (y :: l) key = if y.key = key then y.ru else look l key := by
  unfold look
  by_cases h : y.key = key
  · simp [h]
  · simp [h]

theorem hasE_cons (y : En) (l : List En) (key : Int) : hasE (y :: l) key = (decide (y.key = key) || hasE l key) := by
  unfold hasE
  rw [List.any_cons]
  congr 1

theorem look_none {l : List En} {key : Int} (h : ∀ z ∈ l, z.key ≠ key) : look l key = zro := by
  unfold look
  rw [List.find?_eq_none.2 (fun z hz => by simpa using h z hz)]
  rfl

theorem hasE_none {l : List En} {key : Int} (h : ∀ z ∈ l, z.key ≠ key) : hasE l key = false := by
  unfold hasE
  rw [List.any_eq_false]
  intro z hz
  simpa using h z hz

theorem look_ins {x : En} (hx : Good x.ru) : ∀ {l r : List En}, (l.Pairwise fun a b => a.key < b.key) → (∀ y ∈ l, Good y.ru) → ins l x = some r →
    (∀ key, look r key = if x.key = key then (mrg (look l key) x.ru).1 else look l key) ∧ (∀ key, hasE r key = (decide (x.key = key) || hasE l key)) ∧ r.length = (if hasE l x.key = true then l.length else l.length + 1)
  | [], r, _, _, h => by
    cases h
    refine ⟨fun key => ?_, fun key => ?_, ?_⟩
    · rw [look_cons]
      have : look ([] : List En) key = zro := rfl
      rw [this, mrg_zro hx]
    · rw [hasE_cons]
    · rfl
  | y :: l, r, hp, hg, h => by
    obtain ⟨h1, h2⟩ := List.pairwise_cons.1 hp
    have hy := hg y List.mem_cons_self
    have hg' : ∀ z ∈ l, Good z.ru := fun z hz => hg z (List.mem_cons_of_mem _ hz)
    rcases Int.lt_trichotomy x.key y.key with hk | hk | hk
    · rw [ins_lt hk] at h
      cases h
      have hn : ∀ z ∈ y :: l, z.key ≠ x.key := fun z hz => by
        rcases List.mem_cons.1 hz with rfl | hz
        · omega
        · have := h1 z hz; omega
      refine ⟨fun key => ?_, fun key => ?_, ?_⟩
      · rw [look_cons x]
        by_cases e : x.key = key
        · rw [if_pos e, if_pos e]
          rw [← e, look_none hn, mrg_zro hx]
        · rw [if_neg e, if_neg e]
      · rw [hasE_cons x]
      · rw [hasE_none hn]
        rfl
    · rw [ins_eq hk.symm] at h
      split at h
      · rename_i hc
        cases h
        refine ⟨fun key => ?_, fun key => ?_, ?_⟩
        · rw [look_cons, look_cons y, mkE_key, mkE_ru]
          by_cases e : x.key = key
          · rw [if_pos e, if_pos e, if_pos (hk ▸ e), mrg_good hy hx, if_pos (show y.ru.c + x.ru.c ≤ 1073741824 from hc)]
          · rw [if_neg e, if_neg e, if_neg (hk ▸ e)]
        · rw [hasE_cons, hasE_cons y, mkE_key, hk]
          cases decide (y.key = key) <;> simp
        · rw [hasE_cons, show decide (y.key = x.key) = true by simpa using hk.symm]
          rfl
      · cases h
    · rw [ins_gt hk] at h
      cases hi : ins l x with
      | none => rw [hi] at h; cases h
      | some q =>
        rw [hi] at h
        cases h
        obtain ⟨a, b, c⟩ := look_ins hx h2 hg' hi
        have hne : ¬ y.key = x.key := by omega
        refine ⟨fun key => ?_, fun key => ?_, ?_⟩
        · rw [look_cons, look_cons y, a key]
          by_cases e : y.key = key
          · rw [if_pos e, if_pos e, if_neg (by omega)]
          · rw [if_neg e, if_neg e]
        · rw [hasE_cons, hasE_cons y, b key]
          cases decide (y.key = key) <;> cases decide (x.key = key) <;> simp
        · rw [hasE_cons, show decide (y.key = x.key) = false by simpa using hne, Bool.false_or, List.length_cons, c, List.length_cons]
          split <;> rfl

/-- A tree that may be, and what it knows. -/
structure Knows (ns : List Nd) (root : Int) (l : List En) : Prop where
  ok : treeC ns root = 0
  all : allL (ns.flatMap cont) = some l
  inc : l.Pairwise fun a b => a.key < b.key
  good : ∀ y ∈ l, Good y.ru

theorem fold_inc : ∀ (xs l l' : List En), (l.Pairwise fun a b => a.key < b.key) → xs.foldl insO (some l) = some l' → l'.Pairwise fun a b => a.key < b.key
  | [], l, l', hl, h => by
    cases h
    exact hl
  | x :: xs, l, l', hl, h => by
    rw [List.foldl_cons] at h
    cases hi : insO (some l) x with
    | none => rw [hi, fold_none] at h; cases h
    | some q =>
      rw [hi] at h
      exact fold_inc xs q l' (ins_inc hl (show ins l x = some q from hi)).1 h

theorem Knows.mk' {ns : List Nd} {root : Int} {l : List En} (h : treeC ns root = 0) (ha : allL (ns.flatMap cont) = some l) : Knows ns root l :=
  ⟨h, ha, fold_inc _ [] l (by simp) ha, (allL_facts (fun y hy => (tree_in h y hy).2) ha).1⟩

theorem Knows.new : Knows [leafOf []] 0 [] := Knows.mk' (by decide) rfl

theorem Knows.put {ns ns2 : List Nd} {root root2 key : Int} {r : Ru} {l : List En} (h : Knows ns root l) (hF : putF ns root key r = 0) (hok : PutOk ns ns2 root2 (mkE key r)) (hz : ns2.length ≤ 2000) :
    ∃ ys, ins l (mkE key r) = some ys ∧ Knows ns2 root2 ys ∧ Good r := by
  have hR : allR 0 1099511627776 (ns.flatMap Nd.lst) = some l := by rw [allR_all h.ok]; exact h.all
  obtain ⟨ys, hi, hy, _⟩ := put_knows hF hok hz hR
  rw [allR_all (hok.fine hz)] at hy
  exact ⟨ys, hi, Knows.mk' (hok.fine hz) hy, (putF_zero hF).2.1⟩

theorem find_filter {α : Type} (p : α → Bool) (l : List α) : (l.filter p).head? = l.find? p := List.head?_filter ..

theorem Knows.got {ns : List Nd} {root : Int} {l : List En} (h : Knows ns root l) {key : Int} (hk : 0 ≤ key ∧ key ≤ 1099511627775) : gotP ns root key = (look l key, 0) := by
  have hpos : ∀ x ∈ ns.flatMap Nd.lst, 1 ≤ x.c := fun x hx => (good_iff.1 (tree_in h.ok x (lst_cont.mem_iff.1 hx)).2).1.1
  have hall : allL (ns.flatMap Nd.lst) = some l := by rw [allL_perm lst_cont hpos]; exact h.all
  have hf := allL_filter (P := fun k => decide (key ≤ k) && decide (k < key + 1)) (ns.flatMap Nd.lst) [] l (by simp) hall
  have hf' : allR key (key + 1) (ns.flatMap Nd.lst) = some (l.filter (inR key (key + 1))) := hf
  unfold gotP
  rw [if_neg (by simpa using h.ok), if_pos ((inB_iff _ _ _).2 hk)]
  unfold gotA
  rw [hf']
  have e : l.filter (inR key (key + 1)) = l.filter (fun y => y.key == key) := by
    refine List.filter_congr fun y _ => ?_
    rw [Bool.eq_iff_iff]
    simp only [inR, Bool.and_eq_true, decide_eq_true_eq, beq_iff_eq]
    omega
  rw [e]
  unfold look
  rw [← find_filter]
  cases l.filter (fun y => y.key == key) <;> rfl

end Go.Proofs.YtlojfgdpmaigmacGreatDoor

/- What Of says of entries in order, and of the same the other way round: in plain terms. -/
namespace Go.Proofs.YtlojfgdpmaigmacGreatDoor
open Go.RowKit Plain

end Go.Proofs.YtlojfgdpmaigmacGreatDoor

/- The visitor of tree.All: it appends each entry to a list of its caller's. -/
namespace Go.Proofs.YtlojfgdpmaigmacGreatDoor
open Go.RowKit Plain

/-- A visitor that may be called M times in all: N tells how often it was. -/
structure VisN {σ : Type} (F : FuncId) (cap : Array Value) (I : World → σ → Prop) (X : World → Nat → Prop) (step : σ → En → σ) (N : σ → Nat) (M : Nat) : Prop where
  call : ∀ (x : En) (s : σ) (w : World), I w s → N s < M → Calls Tryz.prog F (#[.agg #[.int .i64 x.key, .int .i64 x.c, .int .i64 x.s, .int .i64 x.lo, .int .i64 x.hi, .int .i64 x.t, .int .i64 x.l]] ++ cap) w
    fun e w' => e = .returned (.tuple #[]) ∧ I w' (step s x) ∧ Turned X w w'
  cnt : ∀ (s : σ) (x : En), N (step s x) = N s + 1
  stay : ∀ (s : σ) (w w' : World), I w s → Below w.heap.size w w' → I w' s
  same : ∀ (s : σ) (w w' : World), I w s → Below w.heap.size w w' → ∀ k, X w' k → X w k
  lt : ∀ (s : σ) (w : World), I w s → ∀ k, X w k → k < w.heap.size

theorem VisN.fold {σ : Type} {F : FuncId} {cap : Array Value} {I : World → σ → Prop} {X : World → Nat → Prop} {step : σ → En → σ} {N : σ → Nat} {M : Nat} (V : VisN F cap I X step N M) : ∀ (l : List En) (s : σ), N (l.foldl step s) = N s + l.length
  | [], s => rfl
  | x :: l, s => by
    rw [List.foldl_cons, V.fold l, V.cnt, List.length_cons]
    omega

/-- The list so far: its slice lies in the block bl, its row is owned from H on. -/
structure LAt (bl H : Nat) (w : World) (s : List En) : Prop where
  blt : bl < H
  hz : H ≤ w.heap.size
  row : ∃ v, RowL w bl 33 [v] ∧ w.ownsRow H 40 7 v s.length (flatE s)

def XL (bl : Nat) : World → Nat → Prop := fun w k => k = bl ∨ ∃ v, RowL w bl 33 [v] ∧ v.ownBlock = some k

theorem RowL.one {w : World} {b : Nat} {t : TypeId} {v v' : Value} (h : RowL w b t [v]) (h' : RowL w b t [v']) : v = v' := by
  have := h.symm.trans h'
  simpa using this

theorem LAt.below {bl H : Nat} {w w' : World} {s : List En} (h : LAt bl H w s) (hb : Below w.heap.size w w') : LAt bl H w' s := by
  obtain ⟨v, hr, ho⟩ := h.row
  exact ⟨h.blt, Nat.le_trans h.hz hb.size, v, hr.below hb hr.lt, own_of_block ho fun k hk => hb.block k (own_some ho hk).2⟩

theorem LAt.same {bl H : Nat} {w w' : World} {s : List En} (h : LAt bl H w s) (hb : Below w.heap.size w w') (k : Nat) (hk : XL bl w' k) : XL bl w k := by
  obtain ⟨v, hr, ho⟩ := h.row
  rcases hk with hk | ⟨v', hr', hv⟩
  · exact .inl hk
  · obtain rfl := (hr.below hb hr.lt).one hr'
    exact .inr ⟨v, hr, hv⟩

theorem LAt.lt {bl H : Nat} {w : World} {s : List En} (h : LAt bl H w s) (k : Nat) (hk : XL bl w k) : k < w.heap.size := by
  obtain ⟨v, hr, ho⟩ := h.row
  rcases hk with rfl | ⟨v', hr', hv⟩
  · exact hr.lt
  · obtain rfl := hr.one hr'
    exact (own_some ho hv).2

theorem LAt.put {bl H g cap : Nat} {w w1 : World} {v : Value} {s : List En} {x : En} {o1 o2 : Obj} (h : LAt bl H w s) (hr : RowL w bl 33 [v])
    (hown : w1.ownsRow H 40 7 (.slice (some ⟨g, 0, none⟩) (s.length + 1) cap) (s.length + 1) (flatE s ++ x.vals)) (hgrow : ((w.alloc o1).alloc o2).grownBy w1 v.ownBlock) (hat : v.ownBlock = some g ∨ g = w.heap.size + 2) :
    LAt bl H (w1.setCell ⟨bl, 0, none⟩ (.slice (some ⟨g, 0, none⟩) (s.length + 1) cap)) (s ++ [x]) ∧ Turned (XL bl) w (w1.setCell ⟨bl, 0, none⟩ (.slice (some ⟨g, 0, none⟩) (s.length + 1) cap)) := by
  obtain ⟨v', hr', ho⟩ := h.row
  obtain rfl := hr.one hr'
  have hlt := hr.lt
  have hs := hgrow.size
  simp only [World.size_alloc] at hs
  have hbl := h.blt
  have hz := h.hz
  have hnb : some bl ≠ v.ownBlock := fun e => by have := (own_some ho e.symm).1; omega
  have two' : ∀ k, k < w.heap.size → ((w.alloc o1).alloc o2).heap[k]? = w.heap[k]? := fun k hk => (two o1 o2).block k hk
  have hb1 : w1.heap[bl]? = w.heap[bl]? := (hgrow.block bl (by simp; omega) hnb).trans (two' bl hlt)
  have hr1 : RowL w1 bl 33 [v] := hr.of_block hb1
  have hg : H ≤ g := (own_some hown rfl).1
  have hr2 : RowL (w1.setCell ⟨bl, 0, none⟩ (.slice (some ⟨g, 0, none⟩) (s.length + 1) cap)) bl 33 [.slice (some ⟨g, 0, none⟩) (s.length + 1) cap] := hr1.set 0 _
  refine ⟨⟨hbl, by simp; omega, _, hr2, ?_⟩, ⟨hgrow.os, hgrow.tape, hgrow.output, by simp; omega, fun k hk hx => ?_, fun k hk hx => ?_⟩⟩
  · have := app_own hown
    refine own_of_block (by simpa using this) fun k hk => ?_
    have : g = k := by simpa [Value.ownBlock] using hk
    exact Below.heap_setCell _ _ _ _ (show k ≠ bl by omega)
  · have h1 : k ≠ bl := fun e => hx (.inl e)
    have h2 : some k ≠ v.ownBlock := fun e => hx (.inr ⟨v, hr, e.symm⟩)
    exact (Below.heap_setCell _ _ _ _ h1).trans ((hgrow.block k (by simp; omega) h2).trans (two' k hk))
  · rcases hx with hx | ⟨v2, hv2, hx⟩
    · exact .inl hx
    · obtain rfl := hr2.one hv2
      have : g = k := by simpa [Value.ownBlock] using hx
      subst this
      rcases hat with hat | hat
      · exact .inr ⟨v, hr, hat⟩
      · omega

set_option maxRecDepth 20000 in
set_option maxHeartbeats 4000000 in
theorem visitL_any (x : En) (bl H : Nat) (s : List En) (w : World) (h : LAt bl H w s) (hs : s.length < 30000) :
    Calls Tryz.prog 27 #[.agg #[.int .i64 x.key, .int .i64 x.c, .int .i64 x.s, .int .i64 x.lo, .int .i64 x.hi, .int .i64 x.t, .int .i64 x.l], .pointer (some ⟨bl, 0, none⟩)] w
      fun e w' => e = .returned (.tuple #[]) ∧ LAt bl H w' (s ++ [x]) ∧ Turned (XL bl) w w' := by
  obtain ⟨i0, hi0, hz0, hz1, hz2⟩ := info_parts infoE
  have HL : Hid (LAt bl H w s) := h
  obtain ⟨v, hr, ho⟩ := h.row
  have HR : Hid (RowL w bl 33 [v]) := hr
  have cv : w.cell? ⟨bl, 0, none⟩ = some v := hr.cell 0
  have fv : w.frozen? ⟨bl, 0, none⟩ = false := hr.frozen 0
  have lb := hr.lt
  have hH := h.hz
  have HN : Hid (some bl ≠ v.ownBlock) := fun e => by have := (own_some ho e.symm).1; have := h.blt; omega
  clear h hr
  go_enter Tryz.func27, Tryz.ntmps27
  go_wp2_with (at_builtin; refine wpList_append_lies _ rfl _ _ 33 rfl H 40 i0 _ 7 56 Tryz.underlying33 hi0 hz0 hz1 hz2 rfl (by decide) v s.length (flatE s) rfl ((ho.alloc _).alloc _) ⟨w.heap.size + 1, 0, none⟩ 1 1 x.vals rfl rfl (news2 _ _ x) (vals_one x) (by decide) (by unfold maxLen; omega) (by omega) (by simp; omega) (w.heap.size + 2) (by simp) ?_; intro g cap w1 hown1 hgrow1 hat1 hlt1; have cv1 : w1.cell? ⟨bl, 0, none⟩ = some v := (hgrow1.cell_far ⟨bl, 0, none⟩ (by simp; omega) HN.out).trans ((two _ _).cell (p := ⟨bl, 0, none⟩) lb |>.trans cv); have fv1 : w1.frozen? ⟨bl, 0, none⟩ = false := (hgrow1.frozen_far ⟨bl, 0, none⟩ (by simp; omega) HN.out).trans ((two _ _).frozen (p := ⟨bl, 0, none⟩) lb |>.trans fv))
  go_end0
  have P := HL.out.put HR.out hown1 hgrow1 hat1
  exact ⟨rfl, P.1, P.2⟩

theorem visL (bl H : Nat) : VisN 27 #[.pointer (some ⟨bl, 0, none⟩)] (LAt bl H) (XL bl) (fun s x => s ++ [x]) List.length 30000 where
  call x s w h hs := visitL_any x bl H s w h hs
  cnt s x := by simp
  stay _ _ _ h hb := h.below hb
  same _ _ _ h hb := h.same hb
  lt _ _ h := h.lt

end Go.Proofs.YtlojfgdpmaigmacGreatDoor

/- The numbers of a tree that may be are numbers. -/
namespace Go.Proofs.YtlojfgdpmaigmacGreatDoor
open Go.RowKit Plain

def NB (N : Nat) (x : Nd) : Prop := (∀ z ∈ x.keys, 0 ≤ z ∧ z ≤ 1099511627776) ∧ ∀ z ∈ x.kids, 0 ≤ z ∧ z < N

theorem Sub_self {T m : Nat} {ns : List Nd} : ∀ {h : Nat} {p lo hi : Int} {P : List Int}, Sub T m ns h p lo hi P → 0 ≤ p ∧ p < ns.length
  | 0, _, _, _, _, hs => ⟨hs.1.1, hs.1.2.1⟩
  | _ + 1, _, _, _, _, hs => ⟨hs.1.1, hs.1.2.1⟩

theorem SubK_kids {T m : Nat} {ns : List Nd} {h : Nat} {hi : Int} : ∀ (kids keys : List Int) (lo : Int) (Q : List Int), keys.length + 1 = kids.length → SubK (Sub T m ns h) lo (ups kids keys hi) Q → ∀ d ∈ kids, 0 ≤ d ∧ d < ns.length
  | [], _, _, _, hk, _ => by simp at hk
  | [d], keys, lo, Q, hk, hQ => by
    obtain rfl : keys = [] := List.eq_nil_of_length_eq_zero (by simpa using hk)
    obtain ⟨Q1, Q2, rfl, h1, h2⟩ := hQ
    intro z hz
    obtain rfl : z = d := by simpa using hz
    exact Sub_self h1
  | d :: e :: ds, [], _, _, hk, _ => by simp at hk
  | d :: e :: ds, k :: ks, lo, Q, hk, hQ => by
    obtain ⟨Q1, Q2, rfl, h1, h2⟩ := hQ
    intro z hz
    rcases List.mem_cons.1 hz with rfl | hz
    · exact Sub_self h1
    · exact SubK_kids (e :: ds) ks k Q2 (by simpa using hk) h2 z hz

theorem Sub_nb {T m : Nat} {ns : List Nd} : ∀ (h : Nat) (p lo hi : Int) (P : List Int), 0 ≤ lo → hi ≤ 1099511627776 → Sub T m ns h p lo hi P → ∀ n ∈ P, NB ns.length (nth ns n)
  | 0, p, lo, hi, P, _, _, hs, n, hn => by
    obtain ⟨_, rfl, hl⟩ := hs
    obtain rfl : n = p := by simpa using hn
    unfold NB
    rw [hl.keys, hl.kids]
    exact ⟨by simp, by simp⟩
  | h + 1, p, lo, hi, P, hlo, hhi, hs, n, hn => by
    obtain ⟨_, Q, rfl, hin⟩ := hs
    rcases List.mem_cons.1 hn with rfl | hn
    · have hr := keys_rise (Sub_lt h) hin.keys hin.kids
      exact ⟨fun z hz => by have := hr.2.1 z hz; omega, SubK_kids _ _ _ _ hin.keys hin.kids⟩
    · have ih := Sub_nb (T := T) (m := m) (ns := ns) h
      have : ∀ (kids keys : List Int) (lo' : Int) (Q : List Int), 0 ≤ lo' → keys.length + 1 = kids.length → SubK (Sub T m ns h) lo' (ups kids keys hi) Q → ∀ n ∈ Q, NB ns.length (nth ns n) := by
        intro kids
        induction kids with
        | nil => intro keys lo' Q _ hk; simp at hk
        | cons d ds ihd =>
          intro keys lo' Q h0 hk hQ n hn
          have hr := keys_rise (Sub_lt h) hk hQ
          cases ds with
          | nil =>
            obtain rfl : keys = [] := List.eq_nil_of_length_eq_zero (by simpa using hk)
            obtain ⟨Q1, Q2, rfl, h1, h2⟩ := hQ
            cases h2
            rw [List.append_nil] at hn
            exact ih _ _ _ _ h0 hhi h1 n hn
          | cons e ds =>
            cases keys with
            | nil => simp at hk
            | cons k ks =>
              obtain ⟨Q1, Q2, rfl, h1, h2⟩ := hQ
              have hk1 := hr.2.1 k List.mem_cons_self
              rcases List.mem_append.1 hn with hn | hn
              · exact ih _ _ _ _ h0 (by omega) h1 n hn
              · exact ihd ks k Q2 (by omega) (by simpa using hk) h2 n hn
      exact this _ _ _ _ hlo hin.keys hin.kids n hn

theorem tree_nb {ns : List Nd} {root : Int} (h : treeC ns root = 0) : ∀ x ∈ ns, NB ns.length x := by
  rcases treeC_sub h with ⟨ht, P, hs, hp⟩ | ⟨he, rfl⟩
  · intro x hx
    obtain ⟨i, hi, rfl⟩ := List.getElem_of_mem hx
    have hm : (i : Int) ∈ P := hp.mem_iff.2 (placesF_mem.2 ⟨by omega, by omega⟩)
    have := Sub_nb ht _ _ _ _ (Int.le_refl _) (Int.le_refl _) hs (i : Int) hm
    have e : nth ns (i : Int) = ns[i] := by simp [nth, hi]
    rwa [e] at this
  · rw [he]
    intro x hx
    obtain rfl : x = leafOf [] := by simpa using hx
    exact ⟨by simp [leafOf], by simp [leafOf]⟩

theorem en_wf {y : En} (hk : 0 ≤ y.key ∧ y.key < 1099511627776) (hg : Good y.ru) : y.wf := by
  obtain ⟨b1, b2, b3, b4, b5, b6⟩ := check_bounds hg.1
  have e : y.ru = ⟨y.c, y.s, y.lo, y.hi, y.t, y.l⟩ := rfl
  have g := good_iff.1 hg
  simp only [e] at b1 b2 b3 b4 b5 b6 g
  exact ⟨WalkArith.wf_i64 (by omega), WalkArith.wf_i64 (by omega), WalkArith.wf_i64 (by omega), WalkArith.wf_i64 (by omega), WalkArith.wf_i64 (by omega), WalkArith.wf_i64 (by omega), WalkArith.wf_i64 (by omega)⟩

theorem treeC_wf {qs : List PN} {root : Int} (h : treeC (qs.map PN.nd) root = 0) : ∀ q ∈ qs, q.wf := by
  intro q hq
  have hm : q.nd ∈ qs.map PN.nd := List.mem_map.2 ⟨q, hq, rfl⟩
  obtain ⟨n1, n2⟩ := tree_nb h _ hm
  have hin : ∀ y ∈ cont q.nd, y.wf := fun y hy => by
    have := tree_in h y (List.mem_flatMap.2 ⟨_, hm, hy⟩)
    exact en_wf this.1 this.2
  have hl := (tree_each h).1
  refine ⟨fun y hy => hin y (List.mem_append_right _ hy), fun z hz => ?_, fun z hz => ?_, fun y hy => hin y (List.mem_append_left _ hy)⟩
  · have := n1 z hz
    exact WalkArith.wf_i64 (by omega)
  · have := n2 z hz
    exact WalkArith.wf_i64 (by omega)

end Go.Proofs.YtlojfgdpmaigmacGreatDoor

/- A map of rollups of the call's own, held against a list of entries. -/
namespace Go.Proofs.YtlojfgdpmaigmacGreatDoor
open Go.RowKit Plain Go.Maps

def ruVal (r : Ru) : Value := .agg #[.int .i64 r.c, .int .i64 r.s, .int .i64 r.lo, .int .i64 r.hi, .int .i64 r.t, .int .i64 r.l]
def ruD (r : Ru) : DataW Unit := .agg [.lit (.int .i64 r.c), .lit (.int .i64 r.s), .lit (.int .i64 r.lo), .lit (.int .i64 r.hi), .lit (.int .i64 r.t), .lit (.int .i64 r.l)]

def ruElem (v : Value) : Option (DataW Unit × List MemPlace) :=
  match v with
  | .agg a => match a.toList with
    | [.int .i64 c, .int .i64 s, .int .i64 lo, .int .i64 hi, .int .i64 t, .int .i64 l] => some (ruD ⟨c, s, lo, hi, t, l⟩, [])
    | _ => none
  | _ => none

theorem ruElem_mk (r : Ru) : ruElem (ruVal r) = some (ruD r, []) := rfl

theorem ruElem_inv {v : Value} {z : DataW Unit × List MemPlace} (h : ruElem v = some z) : ∃ r, v = ruVal r ∧ z = (ruD r, []) := by
  unfold ruElem at h
  split at h
  · rename_i a
    split at h
    · rename_i c s lo hi t l ha
      refine ⟨⟨c, s, lo, hi, t, l⟩, ?_, by cases h; rfl⟩
      have : a = #[.int .i64 c, .int .i64 s, .int .i64 lo, .int .i64 hi, .int .i64 t, .int .i64 l] := by rw [← Array.toArray_toList (xs := a), ha]
      rw [this]
      rfl
    · cases h
  · cases h

theorem ruD_inj {r r' : Ru} (h : ruD r = ruD r') : r = r' := by
  obtain ⟨c, s, lo, hi, t, l⟩ := r
  obtain ⟨c', s', lo', hi', t', l'⟩ := r'
  simp only [ruD, DataW.agg.injEq, List.cons.injEq, DataW.lit.injEq, Lit.int.injEq, true_and, and_true] at h
  obtain ⟨rfl, rfl, rfl, rfl, rfl, rfl⟩ := h
  rfl

/-- The map at mb holds what l knows, key by key. -/
def MapR (w : World) (mb n : Nat) (l : List En) : Prop :=
  ∃ D : DataW Unit, w.ownsMap Tryz.prog 3 ruElem mb n D ∧ (∀ key : Int, D.atKey (.int .i64 key) (ruD zro) = ruD (look l key)) ∧ (∀ key : Int, has D (.int .i64 key) = hasE l key) ∧ size D = l.length

theorem MapR.lt {w : World} {mb n : Nat} {l : List En} (h : MapR w mb n l) : mb < w.heap.size := by
  obtain ⟨D, h1, _⟩ := h
  exact h1.lt

theorem MapR.of_block {w w' : World} {mb n : Nat} {l : List En} (h : MapR w mb n l) (e : w'.heap[mb]? = w.heap[mb]?) : MapR w' mb n l := by
  obtain ⟨D, h1, h2⟩ := h
  refine ⟨D, ?_, h2⟩
  unfold World.ownsMap at *
  rw [e]
  exact h1

theorem MapR.below {w w' : World} {mb n B : Nat} {l : List En} (h : MapR w mb n l) (hb : Below B w w') (hB : mb < B) : MapR w' mb n l := h.of_block (hb.block mb hB)

theorem MapR.new (w : World) : MapR (w.alloc (.map #[] 0)) w.heap.size 0 [] :=
  ⟨.map [], World.ownsMap_made w _ _ _, fun _ => rfl, fun _ => rfl, rfl⟩

theorem key_lit (k : Int) : WideAt.IsKeyLit (.int .i64 k) := by simp [WideAt.IsKeyLit]

theorem law_int : Keyed Tryz.prog 3 := int_keyed Tryz.underlying3

theorem MapR.put {w w1 : World} {mb n : Nat} {l ys : List En} {x : En} {D : DataW Unit} (hown : w.ownsMap Tryz.prog 3 ruElem mb n D) (h2 : ∀ key : Int, D.atKey (.int .i64 key) (ruD zro) = ruD (look l key)) (h3 : ∀ key : Int, has D (.int .i64 key) = hasE l key) (h4 : size D = l.length)
    (hinc : l.Pairwise fun a b => a.key < b.key) (hgl : ∀ y ∈ l, Good y.ru) (hx : Good x.ru) (hi : ins l x = some ys) (h1 : w1.ownsMap Tryz.prog 3 ruElem mb (n + 1) (D.put (.int .i64 x.key) (ruD (mrg (look l x.key) x.ru).1))) : MapR w1 mb (n + 1) ys := by
  obtain ⟨a, b, c⟩ := look_ins hx hinc hgl hi
  have hT := hown.tidy law_int
  refine ⟨_, h1, fun key => ?_, fun key => ?_, ?_⟩
  · rw [a key]
    by_cases e : x.key = key
    · subst e
      rw [if_pos rfl, atKey_put_same hT.isMap (key_lit _)]
    · rw [if_neg e, atKey_put_other (fun q => e (by cases q; rfl)), h2]
  · rw [b key]
    by_cases e : x.key = key
    · subst e
      rw [has_put_same hT.isMap (key_lit _)]
      simp
    · rw [has_put_other (fun q => e (by cases q; rfl)), h3]
      simp [e]
  · rw [size_put hT, h3, h4, c]

theorem zeroR (w : World) : (zeroValue 38).run Tryz.prog w = .ok (ruVal zro) w := by kernel_rfl

theorem MapR.look {w : World} {mb n : Nat} {l : List En} (h : MapR w mb n l) {key : Int} (hw : (Lit.int .i64 key).wf = true) :
    (Instr.lookup 27 (.map (some mb)) (.int .i64 key) false).run Tryz.prog w = .ok (ruVal (look l key)) w := by
  obtain ⟨D, h1, h2, _⟩ := h
  obtain ⟨v, ps, hrun, hv⟩ := h1.lookup law_int Tryz.underlying27 (zeroR w) (ruElem_mk zro) (keyOf_int_mk Tryz.underlying3 hw)
  obtain ⟨r, rfl, hr⟩ := ruElem_inv hv
  rw [h2] at hr
  rw [hrun, ruD_inj (Prod.mk.inj hr).1]

end Go.Proofs.YtlojfgdpmaigmacGreatDoor

/- How many points entries are of, together: in plain terms. -/
namespace Go.Proofs.YtlojfgdpmaigmacGreatDoor
open Go.RowKit Plain

def sumC : List En → Int
  | [] => 0
  | y :: r => y.c + sumC r

theorem sumC_nn : ∀ {l : List En}, Pos l → 0 ≤ sumC l
  | [], _ => Int.le_refl _
  | y :: r, h => by
    have h1 := h y List.mem_cons_self
    have h2 := sumC_nn (l := r) fun z hz => h z (List.mem_cons_of_mem _ hz)
    simp only [sumC]
    omega

theorem cntK_sum {k : Int} : ∀ {l : List En}, Pos l → cntK k l ≤ sumC l
  | [], _ => Int.le_refl _
  | y :: r, h => by
    have h1 := h y List.mem_cons_self
    have h2 := cntK_sum (k := k) (l := r) fun z hz => h z (List.mem_cons_of_mem _ hz)
    simp only [sumC, cntK]
    split <;> omega

theorem ins_sum {x : En} : ∀ {l r : List En}, ins l x = some r → sumC r = sumC l + x.c
  | [], r, h => by
    cases h
    simp [sumC]
  | y :: l, r, h => by
    rcases Int.lt_trichotomy x.key y.key with hk | hk | hk
    · rw [ins_lt hk] at h
      cases h
      simp only [sumC]
      omega
    · rw [ins_eq hk.symm] at h
      split at h
      · cases h
        have e : (mkE x.key (jn y.ru x.ru)).c = y.c + x.c := rfl
        simp only [sumC, e]
        omega
      · cases h
    · rw [ins_gt hk] at h
      cases hi : ins l x with
      | none => rw [hi] at h; cases h
      | some q =>
        rw [hi] at h
        cases h
        have := ins_sum hi
        simp only [sumC]
        omega

end Go.Proofs.YtlojfgdpmaigmacGreatDoor

/- A tree of few keys has few nodes: in plain terms. -/
namespace Go.Proofs.YtlojfgdpmaigmacGreatDoor
open Go.RowKit Plain

/-- Keys of leaves, in their order: from lo on, below hi; each stands in a node at one of the places. -/
structure LeafK (ns : List Nd) (P : List Int) (lo hi : Int) (E : List Int) : Prop where
  inc : E.Pairwise (· < ·)
  bd : ∀ e ∈ E, lo ≤ e ∧ e < hi
  mem : ∀ e ∈ E, ∃ n ∈ P, ∃ y ∈ (nth ns n).ents, y.key = e

theorem leafK_app {ns : List Nd} {P Q E F : List Int} {lo u hi : Int} (h : LeafK ns P lo u E) (k : LeafK ns Q u hi F) (h1 : lo ≤ u) (h2 : u ≤ hi) : LeafK ns (P ++ Q) lo hi (E ++ F) := by
  refine ⟨List.pairwise_append.2 ⟨h.inc, k.inc, fun a ha b hb => ?_⟩, fun e he => ?_, fun e he => ?_⟩
  · have := h.bd a ha
    have := k.bd b hb
    omega
  · rcases List.mem_append.1 he with he | he
    · have := h.bd e he
      omega
    · have := k.bd e he
      omega
  · rcases List.mem_append.1 he with he | he
    · obtain ⟨n, hn, y, hy, q⟩ := h.mem e he
      exact ⟨n, List.mem_append_left _ hn, y, hy, q⟩
    · obtain ⟨n, hn, y, hy, q⟩ := k.mem e he
      exact ⟨n, List.mem_append_right _ hn, y, hy, q⟩

theorem SubK_leaves {ns : List Nd} {g : Rel} (hlt : ∀ d lo hi Q, g d lo hi Q → lo < hi) (hg : ∀ d lo hi Q, g d lo hi Q → ∃ E, LeafK ns Q lo hi E ∧ Q.length + 1 ≤ 2 * E.length) :
    ∀ (r : List (Int × Int)) (lo : Int) (Q : List Int), SubK g lo r Q → ∃ E, LeafK ns Q lo (endU lo r) E ∧ Q.length + r.length ≤ 2 * E.length
  | [], lo, Q, h => by
    cases h
    exact ⟨[], ⟨by simp, by simp, by simp⟩, by simp⟩
  | (d, u) :: r, lo, Q, h => by
    obtain ⟨Q1, Q2, rfl, h1, h2⟩ := h
    obtain ⟨E1, k1, n1⟩ := hg _ _ _ _ h1
    obtain ⟨E2, k2, n2⟩ := SubK_leaves hlt hg r u Q2 h2
    have l1 := hlt _ _ _ _ h1
    have l2 := (SubK_lt hlt h2).1
    refine ⟨E1 ++ E2, leafK_app k1 k2 (by omega) l2, ?_⟩
    simp only [List.length_append, List.length_cons]
    omega

theorem ups_length {kids keys : List Int} {hi : Int} (h : keys.length + 1 = kids.length) : (ups kids keys hi).length = kids.length := by
  unfold ups
  rw [List.length_zip, List.length_append]
  simp
  omega

theorem endU_upsL : ∀ (kids keys : List Int) (lo hi : Int), keys.length + 1 = kids.length → endU lo (ups kids keys hi) = hi
  | [], _, _, _, h => by simp at h
  | [d], [], lo, hi, _ => rfl
  | d :: e :: kids, [], lo, hi, h => by simp at h
  | [d], k :: keys, lo, hi, h => by simp at h
  | d :: e :: kids, k :: keys, lo, hi, h => endU_upsL (e :: kids) keys k hi (by simpa using h)

theorem Sub_leaves {T m : Nat} {ns : List Nd} : ∀ (h : Nat) (n lo hi : Int) (P : List Int), Sub T m ns h n lo hi P → ∃ E, LeafK ns P lo hi E ∧ P.length + 1 ≤ 2 * E.length
  | 0, n, lo, hi, P, hs => by
    obtain ⟨_, rfl, hl⟩ := hs
    obtain ⟨b1, b2⟩ := entsB_lt hl.ents
    refine ⟨(nth ns n).ents.map En.key, ⟨by rw [List.pairwise_map]; exact b2, fun e he => ?_, fun e he => ?_⟩, ?_⟩
    · obtain ⟨y, hy, rfl⟩ := List.mem_map.1 he
      exact b1 y hy
    · obtain ⟨y, hy, rfl⟩ := List.mem_map.1 he
      exact ⟨n, by simp, y, hy, rfl⟩
    · have : (nth ns n).ents.length ≠ 0 := fun e => hl.ne (List.eq_nil_of_length_eq_zero e)
      simp only [List.length_cons, List.length_nil, List.length_map]
      omega
  | h + 1, n, lo, hi, P, hs => by
    obtain ⟨_, Q, rfl, hi'⟩ := hs
    obtain ⟨E, k, q⟩ := SubK_leaves (fun d lo hi Q hq => Sub_lt h d lo hi Q hq) (fun d lo hi Q hq => Sub_leaves h d lo hi Q hq) _ _ _ hi'.kids
    rw [endU_upsL _ _ _ _ hi'.keys] at k
    rw [ups_length hi'.keys] at q
    refine ⟨E, ⟨k.inc, k.bd, fun e he => ?_⟩, ?_⟩
    · obtain ⟨p, hp, y, hy, q⟩ := k.mem e he
      exact ⟨p, List.mem_cons_of_mem _ hp, y, hy, q⟩
    · have := hi'.two
      simp only [List.length_cons]
      omega

theorem cntK_zero {k : Int} : ∀ {l : List En}, (∀ z ∈ l, z.key ≠ k) → cntK k l = 0
  | [], _ => rfl
  | y :: r, h => by
    have h1 := h y List.mem_cons_self
    have h2 := cntK_zero (l := r) fun z hz => h z (List.mem_cons_of_mem _ hz)
    simp only [cntK, if_neg h1, h2]
    omega

theorem cntK_mem {y : En} : ∀ {l : List En}, Pos l → y ∈ l → 1 ≤ cntK y.key l
  | [], _, h => by simp at h
  | z :: r, hp, h => by
    have hr : Pos r := fun x hx => hp x (List.mem_cons_of_mem _ hx)
    have h0 := cntK_nn (k := y.key) hr
    have hz := hp z List.mem_cons_self
    rcases List.mem_cons.1 h with rfl | h
    · simp only [cntK, if_true]
      omega
    · have := cntK_mem hr h
      simp only [cntK]
      split <;> omega

/-- Nodes that stand as a tree, each of whose keys is among these: there are few. -/
theorem few_of {ns : List Nd} {h : Nat} {root : Int} {P : List Int} {l : List En} (hs : Sub 6 4 ns h root 0 1099511627776 P) (hp : P.Perm (placesF 0 ns.length)) (hk : ∀ y ∈ ns.flatMap cont, 1 ≤ cntK y.key l) : ns.length + 1 ≤ 2 * l.length := by
  obtain ⟨E, k, q⟩ := Sub_leaves h _ _ _ _ hs
  have hlen : P.length = ns.length := by rw [hp.length_eq, placesF_length]
  have hle : E.length ≤ (l.map En.key).length := by
    refine nodup_le E _ (k.inc.imp fun h => by omega) fun e he => ?_
    obtain ⟨n, hn, y, hy, rfl⟩ := k.mem e he
    have hr := Sub_range h _ _ _ _ hs n hn
    have hm : nth ns n ∈ ns := by
      unfold nth
      rw [List.getD_eq_getElem?_getD, List.getElem?_eq_getElem (by omega)]
      exact List.getElem_mem _
    have h1 := hk y (List.mem_flatMap.2 ⟨_, hm, List.mem_append_right _ hy⟩)
    apply Classical.byContradiction
    intro hno
    rw [cntK_zero (fun z hz e => hno (List.mem_map.2 ⟨z, hz, e⟩))] at h1
    omega
  rw [List.length_map] at hle
  omega

/-- And so has what a Put makes of it. -/
theorem Knows.put_few {ns ns2 : List Nd} {root root2 key : Int} {r : Ru} {l ys : List En} (h : Knows ns root l) (hok : PutOk ns ns2 root2 (mkE key r)) (hi : ins l (mkE key r) = some ys) : ns2.length + 1 ≤ 2 * ys.length := by
  obtain ⟨ht, P, hs, hp⟩ := hok.sub
  have hgs : ∀ y ∈ ns.flatMap cont, Good y.ru := fun y hy => (tree_in h.ok y hy).2
  have hcnt := (allL_facts hgs h.all).2.2
  refine few_of hs hp fun y hy => ?_
  have h1 := cntK_mem hok.eqv.posm hy
  rw [← hok.eqv.cnt] at h1
  rw [ins_cnt hi, hcnt]
  simp only [cntK] at h1
  omega

end Go.Proofs.YtlojfgdpmaigmacGreatDoor
