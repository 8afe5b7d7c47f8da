/- The walk of grow. -/
import Derived.Test.YtlojfgdpmaigmacGreatDoorP20
import Derived.Test.YtlojfgdpmaigmacGreatDoorP14
import Derived.Test.YtlojfgdpmaigmacGreatDoorP16
import Derived.Test.YtlojfgdpmaigmacGreatDoorP09
namespace Go.Proofs.YtlojfgdpmaigmacGreatDoor
open Go.RowKit Plain

set_option maxRecDepth 20000 in
set_option maxHeartbeats 1000000 in
/-- Of a node without kids. -/
theorem splitAll_leaf (base tb g C : Nat) (qs : List PN) (root : Int) (k : Nat) (w : World) (hT : TB base w tb g C qs root) (hk : k < qs.length) (hpre : SplitPre (qs[k]).nd) (hB : base ≤ w.heap.size) (hz : (qs.length + partsN (qs[k]).nd + 1) * 104 ≤ 140737488351232) (hkids : (qs[k]).kids = []) :
    Calls Tryz.prog 70 #[.pointer (some ⟨tb, 0, none⟩), .int .i64 (k : Int)] w
      fun e w' => ∃ vm g' C' qs', e = .returned vm ∧ SplitTo base w tb g qs root (splitN (qs.map PN.nd) k).1 (splitN (qs.map PN.nd) k).2 w' vm g' C' qs' := by
  have hcon := hideC (split_any base tb g C qs root k w hT hk hpre hB hz)
  have hat := hT.nt.node hk
  have n3 := hat.c3
  rw [hkids] at n3
  have c0 := hT.box.cell 0
  simp only [List.getElem?_cons_zero] at c0
  have i0 : (0 : Int) ≤ (k : Int) := by omega
  have i1 : (k : Int) < (qs.length : Int) := by omega
  clear hpre hz hkids hat
  go_enter Tryz.func70, Tryz.ntmps70
  go_wp2_with fail
  go_loopw [5] (fun vi wr => vi = .int .i64 (-1) ∧ wr = w) (fun _ _ => 0)
  case atStart => exact ⟨rfl, rfl⟩
  case round =>
    obtain ⟨rfl, hw⟩ := hrel
    subst hw
    go_wp2_with (go_at_call 73; refine hcon.out.mono ?_; rintro e w' ⟨vm, g', C', qs', rfl, hs⟩)
    go_ret
    exact ⟨vm, g', C', qs', rfl, hs⟩

/-- The tree's variable, its root turned. -/
theorem TB.setRoot {base tb g C : Nat} {qs : List PN} {root : Int} {w : World} (h : TB base w tb g C qs root) (r : Int) : TB base (w.setCell ⟨tb, 1, none⟩ (.int .i64 r)) tb g C qs r :=
  ⟨h.nt.of_blocks fun b hb => Below.heap_setCell _ _ _ _ (show b ≠ tb from fun e => h.ne (e ▸ hb)), h.box.set 1 _, h.ne, h.hb⟩

end Go.Proofs.YtlojfgdpmaigmacGreatDoor

/- The walk of grow: roots above roots. -/
namespace Go.Proofs.YtlojfgdpmaigmacGreatDoor
open Go.RowKit Plain

def lenV : Value → Nat
  | .slice _ n _ => n
  | _ => 0

/-- What splitAll, or split, leaves in memory; some blocks of the tree's may have turned. -/
structure GrowTo (base : Nat) (w : World) (tb g : Nat) (qs : List PN) (root : Int) (ns' : List Nd) (more : List (Int × Int)) (w' : World) (vm : Value) (g' C' : Nat) (qs' : List PN) : Prop where
  tree : TB base w' tb g' C' qs' root
  nds : qs'.map PN.nd = ns'
  more : w'.ownsRow w.heap.size 144 2 vm more.length (flatS more)
  apart : ∀ b, vm.ownBlock = some b → b ∉ tb :: feet g' qs'
  kept : Kept (tb :: feet g qs) w w'
  old : ∀ b ∈ feet g' qs', b ∈ feet g qs ∨ w.heap.size ≤ b

theorem SplitTo.grow {base : Nat} {w : World} {tb g : Nat} {qs : List PN} {root : Int} {ns' : List Nd} {more : List (Int × Int)} {w' : World} {vm : Value} {g' C' : Nat} {qs' : List PN} (h : SplitTo base w tb g qs root ns' more w' vm g' C' qs') : GrowTo base w tb g qs root ns' more w' vm g' C' qs' :=
  ⟨h.tree, h.nds, h.more, h.apart, h.kept.mono (by intro k hk; simp only [List.mem_cons, List.not_mem_nil, or_false] at hk; rcases hk with rfl | rfl; exact List.mem_cons_self; exact List.mem_cons_of_mem _ List.mem_cons_self), h.old⟩

/-- What stands where the loop of grow begins a round. -/
structure GrAt (base : Nat) (w0 : World) (tb g : Nat) (qs : List PN) (R : List Nd × Int) (N : Nat) (wr : World) (vm : Value) (g' C' : Nat) (qs' : List PN) (root : Int) (more : List (Int × Int)) : Prop where
  tree : TB base wr tb g' C' qs' root
  owns : wr.ownsRow w0.heap.size 144 2 vm more.length (flatS more)
  apart : ∀ b, vm.ownBlock = some b → b ∉ tb :: feet g' qs'
  kept : Kept (tb :: feet g qs) w0 wr
  old : ∀ b ∈ feet g' qs', b ∈ feet g qs ∨ w0.heap.size ≤ b
  row : more = [] ∨ ∃ h, RowOk (qs'.map PN.nd) h root more
  fin : growN more.length (qs'.map PN.nd) root more = R
  few : qs'.length + more.length ≤ N

theorem growN_fuel : ∀ (f f' : Nat) (ns : List Nd) (root : Int) (more : List (Int × Int)), more.length ≤ f → more.length ≤ f' → growN f ns root more = growN f' ns root more := by
  intro f
  induction f with
  | zero =>
    intro f' ns root more h1 h2
    obtain rfl : more = [] := List.eq_nil_of_length_eq_zero (by omega)
    cases f' <;> simp [growN]
  | succ f ih =>
    intro f' ns root more h1 h2
    cases f' with
    | zero =>
      obtain rfl : more = [] := List.eq_nil_of_length_eq_zero (by omega)
      simp [growN]
    | succ f' =>
      unfold growN
      split
      · rfl
      · rename_i hm
        have hml : 1 ≤ more.length := by cases more with | nil => exact absurd rfl hm | cons => simp
        have hl := (splitN_more ns root more).1
        exact ih f' _ _ _ (by omega) (by omega)

theorem growN_step (ns : List Nd) (root : Int) (more : List (Int × Int)) (hm : more ≠ []) : growN more.length ns root more = growN (splitN (ns ++ [newRoot root more]) ns.length).2.length (splitN (ns ++ [newRoot root more]) ns.length).1 ns.length (splitN (ns ++ [newRoot root more]) ns.length).2 := by
  have hml : 1 ≤ more.length := by cases more with | nil => exact absurd rfl hm | cons => simp
  obtain ⟨f, hf⟩ : ∃ f, more.length = f + 1 := ⟨more.length - 1, by omega⟩
  rw [hf, growN, if_neg hm]
  have hl := (splitN_more ns root more).1
  exact growN_fuel _ _ _ _ _ (by omega) (Nat.le_refl _)

/-- The node that is laid above. -/
theorem adAt_root {base : Nat} {wr : World} (root : Int) (hB : base ≤ wr.heap.size) :
    AdAt base ((wr.alloc (.cells #[.int .i64 root] 3)).alloc (.cells #[.bool false, .slice none 0 0, .slice none 0 0, .slice (some ⟨wr.heap.size, 0, none⟩) 1 1, .slice none 0 0] 84)) (wr.heap.size + 1) 0 84 [.bool false, .slice none 0 0, .slice none 0 0, .slice (some ⟨wr.heap.size, 0, none⟩) 1 1, .slice none 0 0] none (some ⟨wr.heap.size, 0, none⟩)
      ((wr.alloc (.cells #[.int .i64 root] 3)).alloc (.cells #[.bool false, .slice none 0 0, .slice none 0 0, .slice (some ⟨wr.heap.size, 0, none⟩) 1 1, .slice none 0 0] 84)) none 0 [] (some ⟨wr.heap.size, 0, none⟩) 1 [root] := by
  have s1 : (wr.alloc (.cells #[.int .i64 root] 3)).heap.size = wr.heap.size + 1 := by simp
  have r2 := rowL_alloc (wr.alloc (.cells #[.int .i64 root] 3)) [.bool false, .slice none 0 0, .slice none 0 0, .slice (some ⟨wr.heap.size, 0, none⟩) 1 1, .slice none 0 0] 84
  rw [s1] at r2
  have r1 : RowL ((wr.alloc (.cells #[.int .i64 root] 3)).alloc (.cells #[.bool false, .slice none 0 0, .slice none 0 0, .slice (some ⟨wr.heap.size, 0, none⟩) 1 1, .slice none 0 0] 84)) wr.heap.size 3 [.int .i64 root] := (rowL_alloc wr [.int .i64 root] 3).of_block (Below.heap_alloc _ _ _ (by simp))
  refine ⟨r2, World.ownsRow_nil _ _ _ _, ⟨rfl, .inr ⟨wr.heap.size, 1, #[.int .i64 root], rfl, hB, r1, Nat.le_refl _, by decide, rfl, rfl⟩⟩, Kept.refl _ _, by simp [obk], fun k hk => .inl hk, by simp [obk], by simp [obk], by simp [obk]⟩

theorem adopt_z (base nb no : Nat) (t : TypeId) (vs : List Value) (kA : Option Addr) (kC : Nat) (keys : List Int) (dA : Option Addr) (dC : Nat) (kids : List Int) (i : Nat) (z : Int) (mA : Option Addr) (mC : Nat) (more : List (Int × Int)) (w : World) (hzi : Hid (z = (i : Int)))
    (hA : AdAt base w nb no t vs kA dA w kA kC keys dA dC kids) (hvl : no + 3 < vs.length) (hB : base ≤ w.heap.size) (hm : RowAt w.heap.size w mA (flatS more)) (hmb : ∀ a, mA = some a → a.block ∉ nb :: obk kA ++ obk dA)
    (hi : i ≤ keys.length) (hi' : i + 1 ≤ kids.length) (hkz : (keys.length + more.length + 1) * 8 ≤ 140737488351232) (hdz : (kids.length + more.length + 1) * 8 ≤ 140737488351232) (ks ds : List Int) (hks : keysAt keys i more more.length = ks) (hds : kidsAt kids i more more.length = ds) :
    Calls Tryz.prog 71 #[.pointer (some ⟨nb, no, none⟩), .int .i64 z, .slice mA more.length mC] w
      fun e w' => e = .returned (.tuple #[]) ∧ ∃ kA' kC' dA' dC', AdAt base w nb no t vs kA dA w' kA' kC' ks dA' dC' ds := by
  have e : z = (i : Int) := hzi.out
  subst e hks hds
  exact adopt_any base nb no t vs kA kC keys dA dC kids i mA mC more w hA hvl hB hm hmb hi hi' hkz hdz

theorem keysAt_root (more : List (Int × Int)) : keysAt [] 0 more more.length = more.map (·.1) := by simp [keysAt]
theorem kidsAt_root (root : Int) (more : List (Int × Int)) : kidsAt [root] 0 more more.length = root :: more.map (·.2) := by simp [kidsAt]

theorem row_pre {ns : List Nd} {h : Nat} {root : Int} {more : List (Int × Int)} (hr : RowOk ns h root more) (hm : more ≠ []) (hz : more.length ≤ 999999) : SplitPre (newRoot root more) := by
  obtain ⟨Q, hQ, hp⟩ := hr.sub
  have hml : 1 ≤ more.length := by cases more with | nil => exact absurd rfl hm | cons => simp
  have hQ' : SubK (Sub 6 4 (ns ++ [newRoot root more]) h) 0 (ups (root :: more.map (·.2)) (more.map (·.1)) 1099511627776) Q :=
    SubK_imp hQ fun d lo hi Q1 a b => Sub_congr h d lo hi Q1 a fun n hn => by
      have hm := placesF_mem.1 (hp.mem_iff.1 (b n hn))
      exact ⟨nth_append_left (by omega) (by omega), by simp; omega⟩
  have htop : Top 0 (more.length + 1) (ns ++ [newRoot root more]) (h + 1) ns.length 0 1099511627776 ((ns.length : Int) :: Q) := by
    refine ⟨⟨by omega, by simp; omega, by decide⟩, Q, rfl, ?_⟩
    rw [nth_last]
    exact ⟨rfl, rfl, by simp [newRoot]; omega, by simp [newRoot], by simp [newRoot], by simp [newRoot], rfl, hQ'⟩
  have := Top_pre htop
  rw [nth_last] at this
  exact this (by simp [sizeN, newRoot]; omega)

theorem partsN_root (root : Int) (more : List (Int × Int)) : partsN (newRoot root more) ≤ more.length + 1 := by
  have hs : sizeN (newRoot root more) = more.length + 1 := by simp [sizeN, newRoot]
  have hm : mostN (newRoot root more) = 4 := by simp [mostN, newRoot]
  rw [partsN, hs, hm]
  omega

/-- The new root, as it is handed to add. -/
def rootPN (kA : Option Addr) (kC : Nat) (ks : List Int) (dA : Option Addr) (dC : Nat) (ds : List Int) : PN := ⟨false, none, 0, [], kA, kC, ks, dA, dC, ds, none, 0, []⟩

theorem rootPN_own {base : Nat} {w w' : World} {nb no : Nat} {t : TypeId} {vs : List Value} {kA0 dA0 kA dA : Option Addr} {kC dC : Nat} {ks ds : List Int} (h : AdAt base w nb no t vs kA0 dA0 w' kA kC ks dA dC ds) (hk : ks.length * 8 ≤ 140737488351232) (hd : ds.length * 8 ≤ 140737488351232) :
    (rootPN kA kC ks dA dC ds).own base w' ∧ (rootPN kA kC ks dA dC ds).blocks.Nodup ∧ ∀ b ∈ (rootPN kA kC ks dA dC ds).blocks, b ∈ obk kA ∨ b ∈ obk dA := by
  refine ⟨⟨World.ownsRow_nil _ _ _ _, h.ok, h.od, World.ownsRow_nil _ _ _ _, by simp [rootPN], hk, hd, by simp [rootPN]⟩, ?_, ?_⟩
  · have hne := h.ne
    unfold PN.blocks rootPN
    cases kA <;> cases dA <;> simp_all [obk]
  · intro b hb
    unfold PN.blocks rootPN at hb
    cases kA <;> cases dA <;> simp_all [obk]

theorem more_new {wr : World} {H n : Nat} {t : TypeId} {mA : Option Addr} {mC : Nat} {vs : List Value} (h : wr.ownsRow H t 2 (.slice mA n mC) n vs) : ∀ a, mA = some a → a.block ∉ (wr.heap.size + 1) :: obk none ++ obk (some ⟨wr.heap.size, 0, none⟩) := by
  rintro a rfl
  have := (own_lt h a.block rfl).2
  simp [obk]
  omega

theorem small_r {ks ds : List Int} {more : List (Int × Int)} (root : Int) (hm : more.length ≤ 999999) (hks : more.map (·.1) = ks) (hds : root :: more.map (·.2) = ds) :
    (([] : List Int).length + more.length + 1) * 8 ≤ 140737488351232 ∧ ([root].length + more.length + 1) * 8 ≤ 140737488351232 ∧ ks.length * 8 ≤ 140737488351232 ∧ ds.length * 8 ≤ 140737488351232 := by
  subst hks hds
  simp
  omega

theorem GrAt.below {base : Nat} {w0 : World} {tb g : Nat} {qs : List PN} {R : List Nd × Int} {N : Nat} {wr : World} {vm : Value} {g' C' : Nat} {qs' : List PN} {root : Int} {more : List (Int × Int)} (h : GrAt base w0 tb g qs R N wr vm g' C' qs' root more) (b : Nat) (hb : b ∈ tb :: feet g' qs') : b < wr.heap.size ∧ (b ∈ tb :: feet g qs ∨ w0.heap.size ≤ b) := by
  refine ⟨h.tree.lt b hb, ?_⟩
  rcases List.mem_cons.1 hb with rfl | hb
  · exact .inl List.mem_cons_self
  · rcases h.old b hb with h1 | h1
    · exact .inl (List.mem_cons_of_mem _ h1)
    · exact .inr h1

section
variable {base : Nat} {w0 : World} {tb g : Nat} {qs : List PN} {R : List Nd × Int} {N : Nat} {wr : World} {vm : Value} {g' C' : Nat} {qs' : List PN} {root : Int} {more : List (Int × Int)}

theorem tree5 {W w5 : World} (h : GrAt base w0 tb g qs R N wr vm g' C' qs' root more) (hW : Below wr.heap.size wr W) (hk : Kept ((wr.heap.size + 1) :: obk none ++ obk (some ⟨wr.heap.size, 0, none⟩)) W w5) : TB base w5 tb g' C' qs' root := by
  refine h.tree.of_blocks fun b hb => ?_
  have hl := h.tree.lt b hb
  have hs := hW.size
  rw [hk.block b (by omega) (by simp [obk]; omega), hW.block b hl]

theorem root_apart {W w5 : World} {t : TypeId} {vs : List Value} {kA dA : Option Addr} {kC dC : Nat} {ks ds : List Int} (h : GrAt base w0 tb g qs R N wr vm g' C' qs' root more) (hW : Below wr.heap.size wr W) (hA : AdAt base W (wr.heap.size + 1) 0 t vs none (some ⟨wr.heap.size, 0, none⟩) w5 kA kC ks dA dC ds) :
    (∀ b ∈ (rootPN kA kC ks dA dC ds).blocks, b ∉ feet g' qs') ∧ tb ∉ (rootPN kA kC ks dA dC ds).blocks := by
  have hs := hW.size
  have hge : ∀ b ∈ (rootPN kA kC ks dA dC ds).blocks, wr.heap.size ≤ b := by
    intro b hb
    have hb' : b ∈ obk kA ∨ b ∈ obk dA := by
      unfold PN.blocks rootPN at hb
      cases kA <;> cases dA <;> simp_all [obk]
    rcases hb' with e | e
    · rcases hA.lk b e with e | e
      · simp [obk] at e
      · omega
    · rcases hA.ld b e with e | e
      · simp [obk] at e; omega
      · omega
  refine ⟨fun b hb e => ?_, fun e => ?_⟩
  · have h1 := hge b hb
    have h2 := h.tree.lt b (List.mem_cons_of_mem _ e)
    omega
  · have h1 := hge tb e
    have h2 := h.tree.lt tb List.mem_cons_self
    omega

theorem few_z {a m : Nat} (h : a + m ≤ 999999) : (a + 1) * 104 ≤ 140737488351232 := Nat.le_trans (Nat.mul_le_mul_right 104 (show a + 1 ≤ 1000000 by omega)) (by decide)

theorem root_nd {kA dA : Option Addr} {kC dC : Nat} {ks ds : List Int} (hkd : more.map (·.1) = ks ∧ root :: more.map (·.2) = ds) : (rootPN kA kC ks dA dC ds).nd = newRoot root more := by
  obtain ⟨rfl, rfl⟩ := hkd
  rfl

theorem last_nd {q : PN} (h : qs'.length < (qs' ++ [q]).length) : (qs' ++ [q])[qs'.length] = q := by simp

theorem root_pre {kA dA : Option Addr} {kC dC : Nat} {ks ds : List Int} {hl : qs'.length < (qs' ++ [rootPN kA kC ks dA dC ds]).length} (h : GrAt base w0 tb g qs R N wr vm g' C' qs' root more) (hm : more ≠ []) (hkd : more.map (·.1) = ks ∧ root :: more.map (·.2) = ds) (hz : more.length ≤ 999999) : SplitPre ((qs' ++ [rootPN kA kC ks dA dC ds])[qs'.length]).nd := by
  rw [last_nd hl, root_nd hkd]
  obtain ⟨h1, hr⟩ := h.row.resolve_left hm
  exact row_pre hr hm hz

theorem few_z2 {kA dA : Option Addr} {kC dC : Nat} {ks ds : List Int} {hl : qs'.length < (qs' ++ [rootPN kA kC ks dA dC ds]).length} (h : qs'.length + more.length ≤ 999999) (hkd : more.map (·.1) = ks ∧ root :: more.map (·.2) = ds) : ((qs' ++ [rootPN kA kC ks dA dC ds]).length + partsN ((qs' ++ [rootPN kA kC ks dA dC ds])[qs'.length]).nd + 1) * 104 ≤ 140737488351232 := by
  rw [last_nd hl, root_nd hkd]
  have := partsN_root root more
  exact Nat.le_trans (Nat.mul_le_mul_right 104 (show _ ≤ 1000002 by simp; omega)) (by decide)

theorem base6 {W w5 w6 : World} {ex ex2 : List Nat} {v : Value} (h : base ≤ W.heap.size) (h5 : Kept ex W w5) (h6 : Kept ex2 w5 w6) : base ≤ (w6.setCell ⟨tb, 1, none⟩ v).heap.size := by
  have a := h5.size
  have b := h6.size
  simp
  omega

theorem gr_step {W w5 w6 w7 : World} {t : TypeId} {vs : List Value} {mA kA dA : Option Addr} {mC kC dC g2 C2 g7 C7 : Nat} {ks ds : List Int} {vm7 : Value} {qs7 : List PN} (h : GrAt base w0 tb g qs R N wr (.slice mA more.length mC) g' C' qs' root more) (hm : more ≠ []) (hW : Below wr.heap.size wr W)
    (hA : AdAt base W (wr.heap.size + 1) 0 t vs none (some ⟨wr.heap.size, 0, none⟩) w5 kA kC ks dA dC ds) (hkd : more.map (·.1) = ks ∧ root :: more.map (·.2) = ds) (_hT6 : TB base w6 tb g2 C2 (qs' ++ [rootPN kA kC ks dA dC ds]) root) (hk6 : Kept [tb, g'] w5 w6) (hg6 : g2 = g' ∨ w5.heap.size ≤ g2)
    (hs : SplitTo base (w6.setCell ⟨tb, 1, none⟩ (.int .i64 (qs'.length : Int))) tb g2 (qs' ++ [rootPN kA kC ks dA dC ds]) (qs'.length : Int) (splitN ((qs' ++ [rootPN kA kC ks dA dC ds]).map PN.nd) (qs'.length : Int)).1 (splitN ((qs' ++ [rootPN kA kC ks dA dC ds]).map PN.nd) (qs'.length : Int)).2 w7 vm7 g7 C7 qs7) :
    GrAt base w0 tb g qs R N w7 vm7 g7 C7 qs7 (qs'.length : Int) (splitN ((qs' ++ [rootPN kA kC ks dA dC ds]).map PN.nd) (qs'.length : Int)).2 ∧ lenV vm7 < lenV (.slice mA more.length mC) := by
  have hml : 1 ≤ more.length := by cases more with | nil => exact absurd rfl hm | cons => simp
  have hap := root_apart h hW hA
  have hnd : (qs' ++ [rootPN kA kC ks dA dC ds]).map PN.nd = qs'.map PN.nd ++ [newRoot root more] := by rw [List.map_append, List.map_cons, List.map_nil, root_nd hkd]
  have hll : (qs'.length : Int) = ((qs'.map PN.nd).length : Int) := by rw [List.length_map]
  have e1 : splitN ((qs' ++ [rootPN kA kC ks dA dC ds]).map PN.nd) (qs'.length : Int) = splitN (qs'.map PN.nd ++ [newRoot root more]) ((qs'.map PN.nd).length : Int) := by rw [hnd, ← hll]
  rw [e1] at hs ⊢
  obtain ⟨l1, l2⟩ := splitN_more (qs'.map PN.nd) root more
  have s0 := h.kept.size
  have sW := hW.size
  have s5 := hA.kept.size
  have s6 := hk6.size
  have hW6 : (w6.setCell ⟨tb, 1, none⟩ (.int .i64 (qs'.length : Int))).heap.size = w6.heap.size := by simp
  have hl7 : qs7.length = (splitN (qs'.map PN.nd ++ [newRoot root more]) ((qs'.map PN.nd).length : Int)).1.length := by rw [← hs.nds, List.length_map]
  have hg'b := h.below g' (List.mem_cons_of_mem _ List.mem_cons_self)
  have hge : ∀ b ∈ (rootPN kA kC ks dA dC ds).blocks, wr.heap.size ≤ b := by
    intro b hb
    have hb' : b ∈ obk kA ∨ b ∈ obk dA := by
      unfold PN.blocks rootPN at hb
      cases kA <;> cases dA <;> simp_all [obk]
    rcases hb' with e | e
    · rcases hA.lk b e with e | e
      · simp [obk] at e
      · omega
    · rcases hA.ld b e with e | e
      · simp [obk] at e; omega
      · omega
  have hg2 : g2 ∈ feet g qs ∨ w0.heap.size ≤ g2 := by
    rcases hg6 with rfl | hg6
    · exact h.old _ List.mem_cons_self
    · exact .inr (by omega)
  have hold2 : ∀ b ∈ feet g2 (qs' ++ [rootPN kA kC ks dA dC ds]), b ∈ feet g qs ∨ w0.heap.size ≤ b := by
    intro b hb
    rcases feet_snoc (g := g') hb with rfl | hb | hb
    · exact hg2
    · exact h.old b hb
    · exact .inr (Nat.le_trans s0 (hge b hb))
  refine ⟨⟨hs.tree, own_mono hs.more (by rw [hW6]; omega), hs.apart, ?_, fun b hb => ?_, ?_, ?_, ?_⟩, ?_⟩
  · have k1 : Kept (tb :: feet g qs) w0 W := h.kept.step (Kept.of_below hW (ex := [])) (by simp)
    have k2 : Kept (tb :: feet g qs) w0 w5 := k1.step hA.kept (fun b hb => by
      right
      simp [obk] at hb
      omega)
    have k3 : Kept (tb :: feet g qs) w0 w6 := k2.step hk6 (fun b hb => by
      simp only [List.mem_cons, List.not_mem_nil, or_false] at hb
      rcases hb with rfl | rfl
      · exact .inl List.mem_cons_self
      · rcases h.old _ List.mem_cons_self with e | e
        · exact .inl (List.mem_cons_of_mem _ e)
        · exact .inr e)
    have k4 := k3.set (.inl List.mem_cons_self) (j := 1) (.int .i64 (qs'.length : Int))
    exact k4.step hs.kept (fun b hb => by
      simp only [List.mem_cons, List.not_mem_nil, or_false] at hb
      rcases hb with rfl | rfl
      · exact .inl List.mem_cons_self
      · rcases hg2 with e | e
        · exact .inl (List.mem_cons_of_mem _ e)
        · exact .inr e)
  · rcases hs.old b hb with e | e
    · exact hold2 b e
    · rw [hW6] at e
      exact .inr (by omega)
  · obtain ⟨h1, hr⟩ := h.row.resolve_left hm
    have := (row_step hr hm).1
    refine .inr ⟨h1 + 1, ?_⟩
    rw [hs.nds, hll]
    exact this
  · rw [hs.nds, hll, ← growN_step _ _ _ hm]
    exact h.fin
  · have hf := h.few
    rw [hl7, l1, l2, List.length_map]
    omega
  · obtain ⟨A, Cc, hv, _⟩ := own_row hs.more
    rw [hv, l1]
    show (more.length + 4) / 4 - 1 < more.length
    omega
end

theorem grow_kept {g : Nat} {qs : List PN} {w w0 wr : World} {base : Nat} (hfl : ∀ k ∈ feet g qs, base ≤ k ∧ k < w.heap.size) (hb : Below w.heap.size w w0) (hs : w0.heap.size = w.heap.size + 2) (hk : Kept (w.heap.size :: feet g qs) w0 wr) (v0 v1 : Value) :
    Kept (feet g qs) w ((wr.setCell ⟨w.heap.size + 1, 0, none⟩ v0).setCell ⟨w.heap.size + 1, 1, none⟩ v1) := by
  have k1 : Kept (feet g qs) w wr := (Kept.of_below hb).step hk (fun b h => by
    rcases List.mem_cons.1 h with rfl | h
    · exact .inr (Nat.le_refl _)
    · exact .inl h)
  have _ := hfl
  have _ := hs
  exact (k1.set (.inr (by omega)) v0).set (.inr (by omega)) v1

set_option maxRecDepth 20000 in
set_option maxHeartbeats 4000000 in
theorem grow_any (base g C : Nat) (qs : List PN) (k : Nat) (ns1 : List Nd) (more1 : List (Int × Int)) (h1 : Nat) (R : List Nd × Int) (w : World) (hN : NT base w g C qs) (hB : base ≤ w.heap.size)
    (hcon : Hid (∀ (W : World) (tb : Nat), TB base W tb g C qs (k : Int) → base ≤ W.heap.size → Calls Tryz.prog 70 #[.pointer (some ⟨tb, 0, none⟩), .int .i64 (k : Int)] W fun e w' => ∃ vm g' C' qs', e = .returned vm ∧ GrowTo base W tb g qs (k : Int) ns1 more1 w' vm g' C' qs'))
    (hrow : more1 = [] ∨ RowOk ns1 h1 (k : Int) more1) (hfew : ns1.length + more1.length ≤ 999999) (hR : growN more1.length ns1 (k : Int) more1 = R) :
    Calls Tryz.prog 33 #[.agg #[.slice (some ⟨g, 0, none⟩) qs.length C, .int .i64 (k : Int)]] w
      fun e w' => Kept (feet g qs) w w' ∧ ((2000 < R.1.length ∧ e = .returned (.tuple #[.agg #[.slice none 0 0, .int .i64 0], .int .i64 1])) ∨
        (R.1.length ≤ 2000 ∧ ∃ g' C' qs', e = .returned (.tuple #[.agg #[.slice (some ⟨g', 0, none⟩) qs'.length C', .int .i64 R.2], .int .i64 0]) ∧ NT base w' g' C' qs' ∧ qs'.map PN.nd = R.1 ∧ ∀ b ∈ feet g' qs', b ∈ feet g qs ∨ w.heap.size ≤ b)) := by
  have hfl := hN.lt
  have hTB : ∀ o2 : Obj, TB base ((w.alloc (.cells #[.slice (some ⟨g, 0, none⟩) qs.length C, .int .i64 (k : Int)] 26)).alloc o2) w.heap.size g C qs (k : Int) := fun o2 => by
    have hb : Below w.heap.size w ((w.alloc (.cells #[.slice (some ⟨g, 0, none⟩) qs.length C, .int .i64 (k : Int)] 26)).alloc o2) := two_below _ _ _
    exact ⟨hN.below hb (Nat.le_refl _), (rowL_alloc w [.slice (some ⟨g, 0, none⟩) qs.length C, .int .i64 (k : Int)] 26).of_block (Below.heap_alloc _ _ _ (by simp)), fun e => by have := (hfl _ e).2; omega, hB⟩
  have HN := hideC hN
  have HW := hideC (And.intro hrow (And.intro hfew hR))
  clear hN hrow hfew hR
  go_enter Tryz.func33, Tryz.ntmps33
  go_wp2_with (go_at_call 70; refine (hcon.out _ _ (hTB _) (by simp; omega)).mono ?_; rintro e w1 ⟨vm, g1, C1, qs1, rfl, hg1⟩)
  obtain ⟨w0, hw0⟩ : ∃ w0, ((w.alloc (.cells #[.slice (some ⟨g, 0, none⟩) qs.length C, .int .i64 (k : Int)] 26)).alloc (.cells #[.slice none 0 0, .int .i64 0] 26)) = w0 := ⟨_, rfl⟩
  rw [hw0] at hg1
  have hs0 : w0.heap.size = w.heap.size + 2 := by rw [← hw0]; simp
  have hb0 : Below w.heap.size w w0 := by rw [← hw0]; exact two_below _ _ _
  have hres : RowL w0 (w.heap.size + 1) 26 [.slice none 0 0, .int .i64 0] := by
    have h := rowL_alloc (w.alloc (.cells #[.slice (some ⟨g, 0, none⟩) qs.length C, .int .i64 (k : Int)] 26)) [.slice none 0 0, .int .i64 0] 26
    rw [show (w.alloc (.cells #[.slice (some ⟨g, 0, none⟩) qs.length C, .int .i64 (k : Int)] 26)).heap.size = w.heap.size + 1 by simp] at h
    rw [← hw0]
    exact h
  have H0 := hideC (And.intro hs0 (And.intro hb0 hres))
  have hst : GrAt base w0 w.heap.size g qs R 999999 w1 vm g1 C1 qs1 (k : Int) more1 := by
    obtain ⟨q1, q2, q3⟩ := HW.out
    have hl : qs1.length = ns1.length := by rw [← hg1.nds, List.length_map]
    exact ⟨hg1.tree, hg1.more, hg1.apart, hg1.kept, hg1.old, q1.imp_right (fun q => ⟨h1, by rw [hg1.nds]; exact q⟩), by rw [hg1.nds]; exact q3, by omega⟩
  have HST := hideC hst
  have hsz1 : w.heap.size + 2 ≤ w0.heap.size := by omega
  clear hw0 hs0 hb0 hres hg1 hTB hst
  go_loopw [4] (fun vm wr => ∃ g' C' qs' root more, GrAt base w0 w.heap.size g qs R 999999 wr vm g' C' qs' root more) (fun vm _ => lenV vm)
  case atStart => exact ⟨g1, C1, qs1, _, more1, HST.out⟩
  case round =>
    obtain ⟨g', C', qs', root, more, hga⟩ := hrel
    obtain ⟨mA, mC, hvm, -, -, -, -⟩ := own_row hga.owns
    by_cases hm : more = []
    · subst hm
      have hRe : (qs'.map PN.nd, root) = R := hga.fin
      have hl : R.1.length = qs'.length := by rw [← hRe, List.length_map]
      have hr2 : R.2 = root := by rw [← hRe]
      have hv0 : u4 = .slice mA 0 mC := hvm
      subst hv0
      have c0 := hga.tree.box.cell 0
      have c1 := hga.tree.box.cell 1
      simp only [List.getElem?_cons_zero, List.getElem?_cons_succ] at c0 c1
      have hrs : RowL wr (w.heap.size + 1) 26 [.slice none 0 0, .int .i64 0] := hga.kept.row H0.out.2.2 (by
        intro e
        rcases List.mem_cons.1 e with e | e
        · omega
        · have := (hfl _ e).2; omega)
      have r0 := hrs.cell 0
      have r1 := hrs.cell 1
      have rf := hrs.frozen
      simp only [List.getElem?_cons_zero, List.getElem?_cons_succ] at r0 r1
      have tlt := hga.tree.box.lt
      have rlt := hrs.lt
      have HK := hideC (fun v0 v1 => grow_kept (hfl := hfl) H0.out.2.1 H0.out.1 hga.kept v0 v1)
      have HE := hideC (And.intro hRe (And.intro hl hr2))
      have HGA := hideC hga
      have nel : ¬ w.heap.size + 1 = w.heap.size := by omega
      clear hga hRe hl hr2 hvm hrs
      by_cases hbig : 2000 < qs'.length
      · have hbig' : (2000 : Int) < (qs'.length : Int) := by omega
        go_wp2_with fail
        refine bodyPost_ret (v := .tuple #[.agg #[.slice none 0 0, .int .i64 0], .int .i64 1]) (by simp [results, Tryz.results33, go_sem, r0, r1]) rfl ⟨HK.out _ _, .inl ⟨by rw [HE.out.2.1]; exact hbig, rfl⟩⟩
      · have hbig' : ¬ (2000 : Int) < (qs'.length : Int) := by omega
        go_wp2_with fail
        refine bodyPost_ret (v := .tuple #[.agg #[.slice (some ⟨g', 0, none⟩) qs'.length C', .int .i64 root], .int .i64 0]) (by simp [results, Tryz.results33, go_sem, r0, r1]) rfl ⟨HK.out _ _, .inr ⟨by rw [HE.out.2.1]; omega, g', C', qs', by rw [HE.out.2.2], ?_, by rw [← HE.out.1], ?_⟩⟩
        · refine HGA.out.tree.nt.of_blocks fun b hb => ?_
          have hne : b ≠ w.heap.size + 1 := by
            intro e
            rcases HGA.out.old b hb with h | h
            · have := (hfl b h).2; omega
            · omega
          exact (Below.heap_setCell _ _ _ _ hne).trans (Below.heap_setCell _ _ _ _ hne)
        · intro b hb
          rcases HGA.out.old b hb with h | h
          · exact .inl h
          · exact .inr (by omega)
    · have hml : 1 ≤ more.length := by cases more with | nil => exact absurd rfl hm | cons => simp
      have hml' : (0 : Int) < (more.length : Int) := by omega
      have hmN : more.length ≤ 999999 := Nat.le_trans (Nat.le_add_left _ _) hga.few
      subst hvm
      have c0 := hga.tree.box.cell 0
      have c1 := hga.tree.box.cell 1
      simp only [List.getElem?_cons_zero, List.getElem?_cons_succ] at c0 c1
      have tlt := hga.tree.box.lt
      have fz := hga.tree.box.frozen
      have HGA := hideC hga
      clear hga
      have hBr : base ≤ wr.heap.size := Nat.le_trans hB (Nat.le_trans H0.out.2.1.size HGA.out.kept.size)
      have hW := two_below wr (.cells #[.int .i64 root] 3) (.cells #[.bool false, .slice none 0 0, .slice none 0 0, .slice (some ⟨wr.heap.size, 0, none⟩) 1 1, .slice none 0 0] 84)
      have hmr := hideC ((own_ok HGA.out.owns).1.go hW (Nat.le_refl _) (Nat.le_refl _))
      have hmb := hideC (more_new HGA.out.owns)
      have HAD := hideC (adAt_root (wr := wr) root hBr)
      obtain ⟨ks, hks⟩ : ∃ ks, more.map (·.1) = ks := ⟨_, rfl⟩
      obtain ⟨ds, hds⟩ : ∃ ds, root :: more.map (·.2) = ds := ⟨_, rfl⟩
      have HKD := hideC (And.intro hks hds)
      have HZ := hideC (small_r root hmN hks hds)
      have hBW : base ≤ ((wr.alloc (.cells #[.int .i64 root] 3)).alloc (.cells #[.bool false, .slice none 0 0, .slice none 0 0, .slice (some ⟨wr.heap.size, 0, none⟩) 1 1, .slice none 0 0] 84)).heap.size := Nat.le_trans hBr hW.size
      have HWb := hideC hW
      clear hks hds hW
      go_wp2_with (first
        | (go_at_call 71; refine (adopt_z base (wr.heap.size + 1) 0 84 [.bool false, .slice none 0 0, .slice none 0 0, .slice (some ⟨wr.heap.size, 0, none⟩) 1 1, .slice none 0 0] none 0 [] (some ⟨wr.heap.size, 0, none⟩) 1 [root] 0 0 mA mC more _ (show (0 : Int) = ((0 : Nat) : Int) from rfl) HAD.out (by simp) hBW hmr.out hmb.out (Nat.le_refl _) (Nat.le_refl _) HZ.out.1 HZ.out.2.1 ks ds (by rw [keysAt_root]; exact HKD.out.1) (by rw [kidsAt_root]; exact HKD.out.2)).mono ?_; rintro e w5 ⟨rfl, kA, kC, dA, dC, hA5⟩; have r5 := hA5.row; have e0 := r5.cell 0; have e1 := r5.cell 1; have e2 := r5.cell 2; have e3 := r5.cell 3; have e4 := r5.cell 4; simp only [List.set_cons_zero, List.set_cons_succ, List.getElem?_cons_zero, List.getElem?_cons_succ, Nat.zero_add] at e0 e1 e2 e3 e4; have HA5 := hideC hA5; clear hA5 r5)
        | (go_at_call 72; refine (add_any base w.heap.size g' C' qs' root (rootPN kA kC ks dA dC ds) _ (tree5 HGA.out HWb.out HA5.out.kept) (rootPN_own HA5.out HZ.out.2.2.1 HZ.out.2.2.2).1 (rootPN_own HA5.out HZ.out.2.2.1 HZ.out.2.2.2).2.1 (root_apart HGA.out HWb.out HA5.out).1 (root_apart HGA.out HWb.out HA5.out).2 (few_z HGA.out.few) (Nat.le_trans hBW HA5.out.kept.size)).mono ?_; rintro e w6 ⟨rfl, g2, C2, hT6, hk6, hg6⟩; have f1 := hT6.box.cell 1; have ff := hT6.box.frozen 1; simp only [List.getElem?_cons_zero, List.getElem?_cons_succ] at f1; have f0 := hT6.box.cell 0; simp only [List.getElem?_cons_zero] at f0; have HT6 := hideC (And.intro hT6 (And.intro hk6 hg6)); have tl6 := hT6.box.lt; clear hT6 hk6 hg6)
        | (go_at_call 73; refine (split_any base w.heap.size g2 C2 (qs' ++ [rootPN kA kC ks dA dC ds]) (qs'.length : Int) qs'.length _ (HT6.out.1.setRoot _) (by simp) (root_pre HGA.out hm HKD.out hmN) (base6 hBW HA5.out.kept HT6.out.2.1) (few_z2 HGA.out.few HKD.out)).mono ?_; rintro e w7 ⟨vm7, g7, C7, qs7, rfl, hs7⟩))
      go_roundw
      case rel => exact ⟨g7, C7, qs7, _, _, (gr_step HGA.out hm HWb.out HA5.out HKD.out HT6.out.1 HT6.out.2.1 HT6.out.2.2 hs7).1⟩
      case measure =>
        have := (gr_step HGA.out hm HWb.out HA5.out HKD.out HT6.out.1 HT6.out.2.1 HT6.out.2.2 hs7).2
        exact this

end Go.Proofs.YtlojfgdpmaigmacGreatDoor

/- What is wrong with entries: the document's words, and those of package tree. -/
namespace Go.Proofs.YtlojfgdpmaigmacGreatDoor
open Go.RowKit Plain

theorem kibO_any (key : Int) (w : World) : Calls Tryz.prog 34 #[.int .i64 key] w fun e w' => e = .returned (.bool (inB key 0 1099511627775)) ∧ w' = w := by
  by_cases h1 : 0 ≤ key <;> by_cases h2 : key < 1099511627776 <;>
  · go_enter Tryz.func34, Tryz.ntmps34
    go_wp2
    go_ret
    refine ⟨?_, rfl⟩
    have q : inB key 0 1099511627775 = (decide (0 ≤ key) && decide (key < 1099511627776)) := by
      unfold inB
      congr 1
      exact decide_eq_decide.2 (by omega)
    rw [q]
    simp [h1, h2]

def entC (x : En) : Int := if inB x.key 0 1099511627775 = true ∧ ¬ x.c = 0 then checkC x.c x.s x.lo x.hi x.t x.l else 2
def ordB (xs : List En) (k : Nat) : Bool := decide (0 < k) && decide ((xs.getD k default).key ≤ (xs.getD (k - 1) default).key)
def fltAt (xs : List En) (k : Nat) : Int := if ordB xs k = true then 8 else entC (xs.getD k default)
def fltF (xs : List En) : Nat → Nat → Int
  | 0, _ => 0
  | f + 1, k => if fltAt xs k = 0 then fltF xs f (k + 1) else fltAt xs k
/-- The first entry that is refused tells. -/
def faultE (xs : List En) : Int := fltF xs xs.length 0

theorem flt_go {xs : List En} {k : Nat} (hk : k < xs.length) (h : faultE xs = fltF xs (xs.length - k) k) (h0 : fltAt xs k = 0) : faultE xs = fltF xs (xs.length - (k + 1)) (k + 1) := by
  rw [h, show xs.length - k = (xs.length - (k + 1)) + 1 by omega, fltF, if_pos h0]
theorem flt_stop {xs : List En} {k : Nat} (hk : k < xs.length) (h : faultE xs = fltF xs (xs.length - k) k) (h0 : fltAt xs k ≠ 0) : faultE xs = fltAt xs k := by
  rw [h, show xs.length - k = (xs.length - (k + 1)) + 1 by omega, fltF, if_neg h0]
theorem flt_end {xs : List En} (h : faultE xs = fltF xs (xs.length - xs.length) xs.length) : faultE xs = 0 := by
  rw [h, Nat.sub_self]; rfl

theorem flt_all {xs : List En} : ∀ (f k : Nat), k + f = xs.length → fltF xs f k = 0 → ∀ j, k ≤ j → j < xs.length → fltAt xs j = 0
  | 0, k, hk, _, j, h1, h2 => by omega
  | f + 1, k, hk, h, j, h1, h2 => by
    rw [fltF] at h
    split at h
    · rename_i h0
      by_cases e : j = k
      · rw [e]; exact h0
      · exact flt_all f (k + 1) (by omega) h j (by omega) h2
    · rename_i h0; exact absurd h h0

theorem fault_entsB {xs : List En} (h : faultE xs = 0) : entsB xs 0 1099511627776 = true := by
  have ha := flt_all xs.length 0 (by omega) h
  have : ∀ (f k : Nat), k + f = xs.length → entsB (xs.drop k) (lowAt xs 0 k) 1099511627776 = true := by
    intro f
    induction f with
    | zero => intro k hk; rw [List.drop_eq_nil_of_le (by omega)]; rfl
    | succ f ih =>
      intro k hk
      have hlt : k < xs.length := by omega
      rw [entsB_drop hlt, ih (k + 1) (by omega), Bool.and_true]
      have h0 := ha k (by omega) hlt
      unfold fltAt at h0
      split at h0
      · omega
      · rename_i ho
        have hg : xs.getD k default = xs[k] := by simp [hlt]
        rw [hg] at h0
        unfold entC at h0
        split at h0
        · rename_i hc
          have h1 : 0 ≤ xs[k].key ∧ xs[k].key ≤ 1099511627775 := by simpa [inB] using hc.1
          have hl : lowAt xs 0 k ≤ xs[k].key := by
            unfold lowAt
            split
            · exact h1.1
            · rename_i hk0
              simp only [ordB, Bool.and_eq_true, decide_eq_true_eq, not_and, hg] at ho
              have := ho (by omega)
              omega
          have hh : xs[k].key < 1099511627776 := by omega
          simp [entB, hl, hh, hc.2, h0]
        · omega
  have := this xs.length 0 (by omega)
  simpa [lowAt] using this

theorem ordB_zero (xs : List En) : ordB xs 0 = false := by simp [ordB]
theorem ordB_succ {xs : List En} {m : Nat} (h : m + 1 < xs.length) : ordB xs (m + 1) = decide (xs[m + 1].key ≤ (xs[m]'(by omega)).key) := by
  simp [ordB, h, show m < xs.length by omega]

theorem flt_at {xs : List En} {k : Nat} (hk : k < xs.length) (ho : ordB xs k = false) : fltAt xs k = entC xs[k] := by
  unfold fltAt
  rw [ho]
  simp [hk]

end Go.Proofs.YtlojfgdpmaigmacGreatDoor

/- A tree of entries, in plain terms. -/
namespace Go.Proofs.YtlojfgdpmaigmacGreatDoor
open Go.RowKit Plain

def leafOf (xs : List En) : Nd := ⟨true, xs, [], [], []⟩
def ofN (xs : List En) : List Nd × Int := growN (splitN [leafOf xs] 0).2.length (splitN [leafOf xs] 0).1 0 (splitN [leafOf xs] 0).2

theorem nth_leaf (xs : List En) : nth [leafOf xs] 0 = leafOf xs := rfl

theorem leaf_top {xs : List En} (h : faultE xs = 0) (hne : xs ≠ []) : Top xs.length 4 [leafOf xs] 0 0 0 1099511627776 [0] :=
  ⟨⟨by decide, by simp, by decide⟩, rfl, rfl, rfl, rfl, rfl, hne, Nat.le_refl _, fault_entsB h⟩

theorem leaf_size (xs : List En) : sizeN (leafOf xs) = xs.length ∧ mostN (leafOf xs) = 6 ∧ partsN (leafOf xs) = (xs.length + 6 - 1) / 6 := by
  have a : sizeN (leafOf xs) = xs.length := by simp [sizeN, leafOf]
  have b : mostN (leafOf xs) = 6 := by simp [mostN, leafOf]
  exact ⟨a, b, by rw [partsN, a, b]⟩

theorem leaf_split (xs : List En) : (splitN [leafOf xs] 0).1.length ≤ (xs.length + 6) / 6 + 1 ∧ (splitN [leafOf xs] 0).2.length ≤ (xs.length + 6) / 6 := by
  obtain ⟨a, b, c⟩ := leaf_size xs
  unfold splitN
  rw [nth_leaf]
  split
  · simp
  · have hc : (cutsN (leafOf xs)).length = partsN (leafOf xs) := by unfold cutsN; exact cutsF_length _ _ _ _
    constructor
    · simp only [List.length_append, List.length_set, List.length_tail, partsL_length, hc, List.length_cons, List.length_nil, c]
      omega
    · simp only [List.length_zip, keysL_length, hc, placesF_length, c]
      omega

theorem leaf_row {xs : List En} (h : faultE xs = 0) : (splitN [leafOf xs] 0).2 = [] ∨ RowOk (splitN [leafOf xs] 0).1 0 0 (splitN [leafOf xs] 0).2 := by
  by_cases hne : xs = []
  · left
    subst hne
    unfold splitN
    rw [nth_leaf, if_pos (by decide)]
  · right
    have hs := split_ok (leaf_top h hne) (by simp)
    obtain ⟨Q, h1, h2⟩ := hs.sub
    have hle := hs.le
    refine ⟨Q, h1, h2.trans ?_⟩
    rw [show (splitN [leafOf xs] 0).1.length = 1 + ((splitN [leafOf xs] 0).1.length - [leafOf xs].length) by simp at hle ⊢; omega, placesF_append]
    exact List.Perm.of_eq (by simp [placesF])

theorem ofN_len (xs : List En) (h : faultE xs = 0) : (ofN xs).1.length ≤ 2 * ((xs.length + 6) / 6) + 1 := by
  obtain ⟨a, b⟩ := leaf_split xs
  rcases leaf_row h with e | hr
  · unfold ofN
    rw [e]
    simp [growN]
    omega
  · have := (grow_ok _ (Nat.le_refl _) hr).2.2
    unfold ofN
    omega

theorem ofN_ok {xs : List En} (h : faultE xs = 0) (hz : (ofN xs).1.length ≤ 2000) : treeC (ofN xs).1 (ofN xs).2 = 0 ∧ ((ofN xs).1.flatMap cont).Perm xs := by
  by_cases hne : xs = []
  · subst hne
    have e : ofN [] = ([leafOf []], 0) := by
      unfold ofN splitN
      rw [nth_leaf, if_pos (by decide)]
      rfl
    rw [e]
    exact ⟨by decide, List.Perm.refl _⟩
  · have hs := split_ok (leaf_top h hne) (by simp)
    obtain ⟨Q, h1, h2⟩ := hs.sub
    have hle := hs.le
    have hr : RowOk (splitN [leafOf xs] 0).1 0 0 (splitN [leafOf xs] 0).2 := by
      refine ⟨Q, h1, h2.trans ?_⟩
      rw [show (splitN [leafOf xs] 0).1.length = 1 + ((splitN [leafOf xs] 0).1.length - [leafOf xs].length) by simp at hle ⊢; omega, placesF_append]
      exact List.Perm.of_eq (by simp [placesF])
    obtain ⟨⟨h', Q', a, b⟩, c, _⟩ := grow_ok _ (Nat.le_refl _) hr
    exact ⟨Sub_treeC a b hz, c.trans (hs.cont.trans (by simp [cont, leafOf]))⟩

/-! ### What such a tree tells -/

theorem ins_lastO : ∀ {l : List En} {x : En}, (∀ y ∈ l, y.key < x.key) → ins l x = some (l ++ [x])
  | [], x, _ => rfl
  | y :: r, x, h => by
    rw [ins_gt (h y (by simp)), ins_lastO (fun z hz => h z (List.mem_cons_of_mem _ hz))]
    rfl

theorem foldl_sorted : ∀ (xs l : List En), (l ++ xs).Pairwise (fun x y => x.key < y.key) → xs.foldl insO (some l) = some (l ++ xs)
  | [], l, _ => by simp
  | x :: xs, l, h => by
    rw [List.foldl_cons]
    have e : insO (some l) x = some (l ++ [x]) := by
      show ins l x = _
      refine ins_lastO fun y hy => ?_
      rw [List.pairwise_append] at h
      exact h.2.2 y hy x (by simp)
    rw [e, foldl_sorted xs (l ++ [x]) (by simpa using h)]
    simp

theorem allL_sorted {xs : List En} (h : xs.Pairwise (fun x y => x.key < y.key)) : allL xs = some xs := by
  unfold allL
  have := foldl_sorted xs [] (by simpa using h)
  simpa using this

theorem lst_cont {ns : List Nd} : (ns.flatMap Nd.lst).Perm (ns.flatMap cont) := by
  induction ns with
  | nil => exact List.Perm.refl _
  | cons x r ih =>
    rw [List.flatMap_cons, List.flatMap_cons]
    refine List.Perm.append ?_ ih
    exact List.perm_append_comm

theorem allR_of {ns : List Nd} {xs : List En} (h : faultE xs = 0) (hp : (ns.flatMap cont).Perm xs) : allR 0 1099511627776 (ns.flatMap Nd.lst) = some xs := by
  have hB := fault_entsB h
  obtain ⟨hr, hs⟩ := entsB_lt hB
  have hgood := entsB_good hB
  have hpm : (ns.flatMap Nd.lst).Perm xs := lst_cont.trans hp
  have hin : ∀ x ∈ ns.flatMap Nd.lst, inR 0 1099511627776 x = true := by
    intro x hx
    have := hr x (hpm.mem_iff.1 hx)
    simp [inR]
    omega
  unfold allR
  rw [List.filter_eq_self.2 hin, allL_perm hpm (fun x hx => by
    have := (good_iff.1 (hgood x (hpm.mem_iff.1 hx))).1
    exact this.1)]
  exact allL_sorted hs

end Go.Proofs.YtlojfgdpmaigmacGreatDoor

/- What Check tells of a tree: in parts. -/
namespace Go.Proofs.YtlojfgdpmaigmacGreatDoor
open Go.RowKit Plain

theorem Wk_sub {ns : List Nd} {f h : Nat} {dp : Int} (hg : ∀ d lo hi S S' l, W ns f d lo hi S = some (S', l) → (∀ x ∈ l, x = dp) → ∃ P T, Sub 6 4 ns h d lo hi P ∧ S' = T ++ S ∧ (T.map (·.1)).Perm P) :
    ∀ (ds keys : List Int) (lo hi : Int) (S S' : St) (l : List Int), keys.length + 1 = ds.length → Wk (W ns f) ds keys lo hi S = some (S', l) → (∀ x ∈ l, x = dp) → ∃ Q T, SubK (Sub 6 4 ns h) lo (ups ds keys hi) Q ∧ S' = T ++ S ∧ (T.map (·.1)).Perm Q
  | [], _, _, _, _, _, _, hl, _, _ => by simp at hl
  | d :: ds, keys, lo, hi, S, S', l, hl, hr, ha => by
    unfold Wk at hr
    split at hr
    · cases hr
    · rename_i S1 l1 h1
      split at hr
      · cases hr
      · rename_i S2 l2 h2
        cases hr
        obtain ⟨P, T1, a1, rfl, a3⟩ := hg _ _ _ _ _ _ h1 (fun x hx => ha x (List.mem_append_left _ hx))
        cases keys with
        | nil =>
          obtain rfl : ds = [] := List.eq_nil_of_length_eq_zero (by simpa using hl.symm)
          simp only [Wk] at h2
          cases h2
          exact ⟨P, T1, ⟨P, [], by simp, a1, rfl⟩, rfl, a3⟩
        | cons k ks =>
          obtain ⟨Q2, T2, b1, b2, b3⟩ := Wk_sub hg ds ks k hi (T1 ++ S) _ l2 (by simpa using hl) h2 (fun x hx => ha x (List.mem_append_right _ hx))
          subst b2
          have hne : ds ≠ [] := fun e => by subst e; simp at hl
          obtain ⟨e, ds', rfl⟩ := List.exists_cons_of_ne_nil hne
          refine ⟨P ++ Q2, T2 ++ T1, ⟨P, Q2, rfl, a1, b1⟩, by simp, ?_⟩
          rw [List.map_append]
          exact (b3.append a3).trans List.perm_append_comm

theorem W_sub {ns : List Nd} : ∀ (f : Nat), f ≤ 11 → ∀ (n lo hi : Int) (S S' : St) (l : List Int) (dp : Int), W ns f n lo hi S = some (S', l) → (∀ x ∈ l, x = dp) → ∃ h P T, dp = 13 - (f : Int) + (h : Nat) ∧ Sub 6 4 ns h n lo hi P ∧ S' = T ++ S ∧ (T.map (·.1)).Perm P := by
  intro f
  induction f with
  | zero => intro _ n lo hi S S' l dp h; cases h
  | succ f ih =>
    intro hf n lo hi S S' l dp hW ha
    unfold W at hW
    split at hW
    · cases hW
    · rename_i hc
      have hr : 0 ≤ n ∧ n < ns.length ∧ lo < hi := ⟨by omega, by omega, by omega⟩
      split at hW
      · rename_i hlf
        split at hW
        · rename_i hl
          cases hW
          obtain ⟨h1, h2, h3, h4, h5, h6⟩ := leafB_iff.1 hl
          have hd := ha (12 - (f : Int)) (by simp)
          refine ⟨0, [n], [(n, 12 - (f : Int))], by omega, ⟨hr, rfl, hlf, h1, h2, h3, ?_, h4, h6⟩, rfl, by simp⟩
          rcases h5 with e | e
          · omega
          · exact e
        · cases hW
      · rename_i hlf
        split at hW
        · rename_i hi'
          obtain ⟨e1, e2, e3, e4, e5, e6⟩ := innerB_kids hi'
          have hne := (Wk_ds (fun d lo hi S S' l h => W_ds f (by omega) d lo hi S S' l h) _ _ _ _ _ _ _ hW).1 (fun e => by rw [e] at e2; simp at e2)
          -- the first kid tells how high it is
          have hcase : ∃ h : Nat, dp = 13 - (f : Int) + h := by
            cases hk : (ns.getD n.toNat default).kids with
            | nil => rw [hk] at e2; simp at e2
            | cons d ds =>
              rw [hk] at hW
              unfold Wk at hW
              split at hW
              · cases hW
              · rename_i S1 l1 h1
                split at hW
                · cases hW
                · cases hW
                  obtain ⟨h, _, _, e, _⟩ := ih (by omega) _ _ _ _ _ _ dp h1 (fun x hx => ha x (List.mem_append_left _ hx))
                  exact ⟨h, e⟩
          obtain ⟨h, hh⟩ := hcase
          obtain ⟨Q, T, b1, b2, b3⟩ := Wk_sub (h := h) (dp := dp) (fun d lo hi S S' l a b => by
            obtain ⟨h', P, T, e, c1, c2, c3⟩ := ih (by omega) d lo hi S S' l dp a b
            obtain rfl : h' = h := by omega
            exact ⟨P, T, c1, c2, c3⟩) _ _ _ _ _ _ _ e4 hW ha
          refine ⟨h + 1, n :: Q, T ++ [(n, 12 - (f : Int))], by omega, ⟨hr, Q, rfl, ?_⟩, by rw [b2]; simp, ?_⟩
          · exact ⟨Bool.eq_false_iff.2 hlf, e1, e2, e3, e4, e5, e6, b1⟩
          · rw [List.map_append]
            exact (b3.append_right _).trans List.perm_append_comm
        · cases hW

theorem perm_places {N : Nat} {L : List Int} (hn : L.Nodup) (hr : ∀ n ∈ L, 0 ≤ n ∧ n < (N : Int)) (hl : L.length = N) : L.Perm (placesF 0 N) := by
  rw [List.perm_ext_iff_of_nodup hn (placesF_nodup _ _)]
  intro a
  constructor
  · intro ha
    have := hr a ha
    exact placesF_mem.2 ⟨by omega, by omega⟩
  · intro ha
    apply Classical.byContradiction
    intro hna
    have h1 := nodup_le (a :: L) (placesF 0 N) (List.nodup_cons.2 ⟨hna, hn⟩) (fun x hx => by
      rcases List.mem_cons.1 hx with rfl | hx
      · exact ha
      · have := hr x hx
        exact placesF_mem.2 ⟨by omega, by omega⟩)
    rw [placesF_length] at h1
    simp at h1
    omega

/-- A tree that may be is a node with all below it; or there is nothing in it. -/
theorem treeC_sub {ns : List Nd} {root : Int} (h : treeC ns root = 0) : (∃ h P, Sub 6 4 ns h root 0 1099511627776 P ∧ P.Perm (placesF 0 ns.length)) ∨ (ns = [leafOf []] ∧ root = 0) := by
  unfold treeC at h
  split at h
  · omega
  · cases hW : W ns 12 root 0 1099511627776 [] with
    | none => rw [hW] at h; simp at h
    | some p =>
      obtain ⟨S, l⟩ := p
      rw [hW] at h
      simp only at h
      split at h
      · rename_i hc
        obtain ⟨hok, hlen⟩ := hc
        have hst := (W_st 12 _ _ _ _ _ _ hW ⟨by simp, by simp⟩).1
        have hperm : ∀ {P : List Int}, (S.map (·.1)).Perm P → P.Perm (placesF 0 ns.length) := fun {P} hp => by
          refine hp.symm.trans (perm_places hst.1 (fun n hn => ?_) (by simpa using hlen))
          obtain ⟨p, hp, rfl⟩ := List.mem_map.1 hn
          exact hst.2 p hp
        have hall : ∀ x ∈ l, x = l.headD 0 := fun x hx => by
          unfold okL at hok
          rw [if_pos rfl, List.all_eq_true] at hok
          simpa using hok x hx
        unfold W at hW
        split at hW
        · cases hW
        · rename_i hcc
          have hr : 0 ≤ root ∧ root < ns.length ∧ (0 : Int) < 1099511627776 := ⟨by omega, by omega, by decide⟩
          split at hW
          · rename_i hlf
            split at hW
            · rename_i hl
              cases hW
              obtain ⟨h1, h2, h3, h4, h5, h6⟩ := leafB_iff.1 hl
              by_cases hne : (ns.getD root.toNat default).ents = []
              · right
                simp at hlen
                obtain ⟨x, rfl⟩ : ∃ x, ns = [x] := List.length_eq_one_iff.1 hlen.symm
                have hr0 : root = 0 := by simp at hr; omega
                subst hr0
                refine ⟨?_, rfl⟩
                simp at h1 h2 h3 hne hlf
                cases x
                simp at h1 h2 h3 hne hlf
                subst h1 h2 h3 hne hlf
                rfl
              · left
                exact ⟨0, [root], ⟨hr, rfl, hlf, h1, h2, h3, hne, h4, h6⟩, hperm (by simp)⟩
            · cases hW
          · rename_i hlf
            split at hW
            · rename_i hi'
              obtain ⟨e1, e2, e3, e4, e5, e6⟩ := innerB_kids hi'
              left
              have hcase : ∃ h : Nat, l.headD 0 = 13 - (11 : Int) + h := by
                cases hk : (ns.getD root.toNat default).kids with
                | nil => rw [hk] at e2; simp at e2
                | cons d ds =>
                  have hW2 := hW
                  rw [hk] at hW2
                  unfold Wk at hW2
                  split at hW2
                  · cases hW2
                  · rename_i S1 l1 h1
                    split at hW2
                    · cases hW2
                    · cases hW2
                      obtain ⟨h, _, _, e, _⟩ := W_sub 11 (by omega) _ _ _ _ _ _ ((l1 ++ _).headD 0) h1 (fun x hx => hall x (List.mem_append_left _ hx))
                      exact ⟨h, e⟩
              obtain ⟨h, hh⟩ := hcase
              obtain ⟨Q, T, b1, b2, b3⟩ := Wk_sub (h := h) (dp := l.headD 0) (fun d lo hi S S' l' a b => by
                obtain ⟨h', P, T, e, c1, c2, c3⟩ := W_sub 11 (by omega) d lo hi S S' l' (l.headD 0) a b
                obtain rfl : h' = h := by omega
                exact ⟨P, T, c1, c2, c3⟩) _ _ _ _ _ _ _ e4 hW hall
              refine ⟨h + 1, root :: Q, ⟨hr, Q, rfl, ⟨Bool.eq_false_iff.2 hlf, e1, e2, e3, e4, e5, e6, b1⟩⟩, hperm ?_⟩
              rw [b2, List.map_append]
              exact (b3.append_right _).trans List.perm_append_comm
            · cases hW
      · omega

end Go.Proofs.YtlojfgdpmaigmacGreatDoor
