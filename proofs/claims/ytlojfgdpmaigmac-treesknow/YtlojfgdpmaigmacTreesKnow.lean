/- For every list of raw things and every number, a tree that they were put into knows what was put, all of it, and nothing else, and may be. No condition. -/
import Derived.Test.YtlojfgdpmaigmacP52
import Derived.Test.YtlojfgdpmaigmacAllsWalk
namespace Go.Proofs.Ytlojfgdpmaigmac
open Go.ChangeShapes Go.WideShapes Go.ChangeAt Go.RowKit Plain

theorem Knows.alls {ns : List Nd} {root : Int} {l : List En} (h : Knows ns root l) : allP ns root 0 1099511627776 = (0, l) := by
  unfold allP
  rw [if_neg (by simpa using h.ok), allR_all h.ok, h.all]

/-- On the way: the tree in its box, its map, and what both know. -/
structure TkA (w wr : World) (tb mb g C : Nat) (qs : List PN) (root : Int) (n : Nat) (l : List En) : Prop where
  below : Below w.heap.size w wr
  bt : RowL wr tb 26 [.slice (some ⟨g, 0, none⟩) qs.length C, .int .i64 root]
  nt : NodesAt wr.heap.size wr (some ⟨g, 0, none⟩) qs
  kn : Knows (qs.map PN.nd) root l
  mp : MapR wr mb n l

theorem TkA.next {w wr w' : World} {tb mb g C n : Nat} {qs : List PN} {root : Int} {l : List En} (h : TkA w wr tb mb g C qs root n l) (hb : Below wr.heap.size wr w') : TkA w w' tb mb g C qs root n l :=
  ⟨nextB h.below (Nat.le_refl _) hb, h.bt.below hb h.bt.lt, h.nt.up hb, h.kn, h.mp.below hb h.mp.lt⟩

theorem TkA.start {w w2 : World} {mb g C n : Nat} {qs : List PN} {root : Int} {l : List En} (hb : Below w.heap.size w w2) (hn : NodesAt w2.heap.size w2 (some ⟨g, 0, none⟩) qs) (hk : Knows (qs.map PN.nd) root l) (hm : MapR w2 mb n l) :
    TkA w (w2.alloc (.cells #[.slice (some ⟨g, 0, none⟩) qs.length C, .int .i64 root] 26)) w2.heap.size mb g C qs root n l := by
  have b1 : Below w2.heap.size w2 (w2.alloc (.cells #[.slice (some ⟨g, 0, none⟩) qs.length C, .int .i64 root] 26)) := (Below.refl _ _).alloc (Nat.le_refl _) _
  exact ⟨nextB hb (Nat.le_refl _) b1, rowL_alloc w2 _ _, hn.up b1, hk, hm.below b1 hm.lt⟩

theorem treeC_nil0 : treeC [] 0 = 7 := by decide

set_option maxRecDepth 20000 in
set_option maxHeartbeats 4000000 in
theorem treesKnow_walk (A : Option Addr) (C : Nat) (xs : List Rw) (many : Int) (w : World) (hA : RowAt w.heap.size w A (flatR xs)) (_ : xs.length * 32 ≤ 140737488351232) (hwf : ∀ x ∈ xs, x.wf) (hmw : (Lit.int .i64 many).wf = true) :
    Calls Try.prog 3 #[.slice A xs.length C, .int .i64 many] w fun e w' => e = .returned (.bool true) ∧ Below w.heap.size w w' := by
  have hmb := i64_wf hmw
  obtain ⟨p, hp⟩ : ∃ p, pick many 200 = p := ⟨_, rfl⟩
  have hpb := pick_bd many (show (0 : Int) < 200 by decide)
  rw [hp] at hpb
  have con1 := hideC fun W => picked_any many 200 W hmb.1 hmb.2 (by decide) (by decide)
  rw [hp] at con1
  obtain ⟨k, hk⟩ : ∃ k, 1 + p = k := ⟨_, rfl⟩
  have hw1 : IntKind.i64.wrap (1 + p) = k := by rw [IntKind.wrap_i64]; omega
  have hw2 : IntKind.i64.wrap (k + 2) = k + 2 := by rw [IntKind.wrap_i64]; omega
  have con2 := hideC fun W (hW : RowAt W.heap.size W A (flatR xs)) => ktree_any A C xs k W hW hwf (by omega) (by omega)
  clear hp hwf hmw
  go_enter Try.func3, Try.ntmps3
  go_wp2_with (first
    | (go_at_call 5; refine (con1.out _).mono ?_; rintro e w1 ⟨rfl, hw1⟩; subst w1)
    | (go_at_call 6; refine (con2.out _ hA).mono ?_; rintro e w2 ⟨g, C2, qs, root, mb, n, l, rfl, hn2, hk2, hm2, hb2⟩; have HS := hideC (TkA.start (C := C2) hb2 hn2 hk2 hm2); clear hb2 hn2 hk2 hm2))
  go_loopw [24] (fun v wr => ∃ i : Nat, v = .int .i64 (i : Int) ∧ (i : Int) ≤ k + 2 ∧ TkA w wr w2.heap.size mb g C2 qs root n l) (fun v _ => (k + 2).toNat - (intOf v).toNat)
  case atStart => exact ⟨0, rfl, by omega, HS.out⟩
  case round =>
    obtain ⟨i, rfl, hik, hat⟩ := hrel
    have t0 : wr.cell? ⟨w2.heap.size, 0, none⟩ = some (.slice (some ⟨g, 0, none⟩) qs.length C2) := hat.bt.cell 0
    have t1 : wr.cell? ⟨w2.heap.size, 1, none⟩ = some (.int .i64 root) := hat.bt.cell 1
    have lt := hat.bt.lt
    clear HS
    by_cases hlt : (i : Int) < k + 2
    · have HA := hideC hat
      obtain ⟨q, hq⟩ : ∃ q, look l (i : Int) = q := ⟨_, rfl⟩
      have con3 : Hid (∀ W : World, NodesAt W.heap.size W (some ⟨g, 0, none⟩) qs → Calls Try.prog 7 #[.agg #[.slice (some ⟨g, 0, none⟩) qs.length C2, .int .i64 root], .int .i64 (i : Int)] W fun e w' => e = .returned (.tuple #[.agg #[.int .i64 q.c, .int .i64 q.s, .int .i64 q.lo, .int .i64 q.hi, .int .i64 q.t, .int .i64 q.l], .int .i64 0]) ∧ Below W.heap.size W w') := fun W hN => by
        have c := get_any (some ⟨g, 0, none⟩) C2 root (i : Int) qs W hN (treeC_wf HA.out.kn.ok)
        rw [HA.out.kn.got (key := (i : Int)) (by omega), hq] at c
        exact c
      have HQ := hideC hq
      have hwi : (Lit.int .i64 (i : Int)).wf = true := WalkArith.wf_i64 (by omega)
      clear hat hq
      go_wp2_with (first
        | (go_at_call 7; refine (con3.out _ HA.out.nt).mono ?_; rintro e w3 ⟨rfl, hb3⟩; have H3 := hideC (HA.out.next hb3); have hlk : (Instr.lookup 27 (.map (some mb)) (.int .i64 (i : Int)) false).run Try.prog (w3.alloc (.cells #[.int .i64 q.c, .int .i64 q.s, .int .i64 q.lo, .int .i64 q.hi, .int .i64 q.t, .int .i64 q.l] 31)) = .ok (.agg #[.int .i64 q.c, .int .i64 q.s, .int .i64 q.lo, .int .i64 q.hi, .int .i64 q.t, .int .i64 q.l]) (w3.alloc (.cells #[.int .i64 q.c, .int .i64 q.s, .int .i64 q.lo, .int .i64 q.hi, .int .i64 q.t, .int .i64 q.l] 31)) := (by rw [← HQ.out]; exact (H3.out.next ((Below.refl _ _).alloc (Nat.le_refl _) _)).mp.look hwi); clear hb3 t0 t1))
      exact ⟨⟨i + 1, by go_num, by omega, H3.out.next ((Below.refl _ _).alloc (Nat.le_refl _) _)⟩, by simp [intOf]; omega⟩
    · have hni : ¬ ((i : Int) < k + 2) := hlt
      have HA := hideC hat
      have hwq := treeC_wf HA.out.kn.ok
      have con5 : Hid (∀ W : World, NodesAt W.heap.size W (some ⟨g, 0, none⟩) qs → Calls Try.prog 8 #[.agg #[.slice (some ⟨g, 0, none⟩) qs.length C2, .int .i64 root], .int .i64 0, .int .i64 1099511627776] W fun e w' => Below W.heap.size W w' ∧ ∃ v, e = .returned (.tuple #[v, .int .i64 0]) ∧ w'.ownsRow W.heap.size 53 7 v l.length (flatE l)) := fun W hN => by
        have c := all_any (some ⟨g, 0, none⟩) C2 root 0 1099511627776 qs W hN hwq
        rw [HA.out.kn.alls] at c
        exact c
      have con6 := hideC fun W hN => checkT_any (some ⟨g, 0, none⟩) C2 root qs W hN hwq
      rw [HA.out.kn.ok] at con6
      have con7 := hideC fun W hN => copy_any (some ⟨g, 0, none⟩) C2 root qs W hN
      have con8 : Hid (∀ (g' : Nat) (qs' : List PN) (W : World), NodesAt W.heap.size W (some ⟨g', 0, none⟩) qs' → qs'.map PN.nd = qs.map PN.nd → Calls Try.prog 9 #[.agg #[.slice (some ⟨g', 0, none⟩) qs.length qs.length, .int .i64 root]] W fun e w' => e = .returned (.int .i64 0) ∧ Below W.heap.size W w') := fun g' qs' W hN hq => by
        have hl : qs'.length = qs.length := by have := congrArg List.length hq; simpa using this
        have c := checkT_any (some ⟨g', 0, none⟩) qs.length root qs' W hN (treeC_wf (root := root) (by rw [hq]; exact HA.out.kn.ok))
        rw [hq, HA.out.kn.ok, hl] at c
        exact c
      have con9 : Hid (∀ W : World, Calls Try.prog 9 #[.agg #[.slice none 0 0, .int .i64 0]] W fun e w' => e = .returned (.int .i64 7) ∧ Below W.heap.size W w') := fun W => by
        have c := checkT_any none 0 0 [] W ⟨.inl rfl, fun k hk => by simp at hk, by decide⟩ (by simp)
        rw [show treeC (([] : List PN).map PN.nd) 0 = 7 from treeC_nil0] at c
        exact c
      clear hat hlt hwq
      go_wp2_with (first
        | (go_at_call 8; refine (con5.out _ HA.out.nt).mono ?_; rintro e w3 ⟨hb3, v3, rfl, ho3⟩; obtain ⟨A3, C3, rfl, -⟩ := own_row ho3; have H3 := hideC (HA.out.next hb3); have t30 : w3.cell? ⟨w2.heap.size, 0, none⟩ = some (.slice (some ⟨g, 0, none⟩) qs.length C2) := H3.out.bt.cell 0; have t31 : w3.cell? ⟨w2.heap.size, 1, none⟩ = some (.int .i64 root) := H3.out.bt.cell 1; clear hb3 ho3 t0 t1)
        | (go_at_call 10; refine (con7.out _ H4.out.nt).mono ?_; rintro e w5 ⟨g5, qs5, rfl, hot5, hq5, hb5⟩; have H5 := hideC (H4.out.next hb5); have O5 := hideC hot5.nodes; have Q5 := hideC hq5; clear hb5 hot5 hq5 t40 t41)
        | (go_at_call 9; have kk := H6; clear kk; refine (con9.out _).mono ?_; rintro e w7 ⟨rfl, hb7⟩; have H7 := hideC (H6.out.next hb7); clear hb7)
        | (go_at_call 9; have kk := O5; clear kk; refine (con8.out g5 qs5 _ O5.out Q5.out).mono ?_; rintro e w6 ⟨rfl, hb6⟩; have H6 := hideC (H5.out.next hb6); clear hb6)
        | (go_at_call 9; refine (con6.out _ H3.out.nt).mono ?_; rintro e w4 ⟨rfl, hb4⟩; have H4 := hideC (H3.out.next hb4); have t40 : w4.cell? ⟨w2.heap.size, 0, none⟩ = some (.slice (some ⟨g, 0, none⟩) qs.length C2) := H4.out.bt.cell 0; have t41 : w4.cell? ⟨w2.heap.size, 1, none⟩ = some (.int .i64 root) := H4.out.bt.cell 1; have hln := fun ty => H4.out.mp.len ty; clear hb4 t30 t31))
      go_ret
      exact ⟨rfl, H7.out.below⟩

set_option maxRecDepth 100000 in
theorem treesKnow_lifted (os : Os) (started : os.Started) (H : Type) (enc : TypeId × Value → H) :
    ReturnsInHanded {} Try.checked os 3 .any (Rows.treesKnowSpec.pre6 enc Try.prog Try.f3 Rows.treesKnowRow.domain false) (Rows.treesKnowSpec.post enc Try.prog Try.f3 false true false false) := by
  refine returnsInHanded_of_change_sized (C := Try.checked) own started (by kernel_rfl) Try.func3
    (ChangeSpec.witness6 (enc := enc) (C := Try.checked) false ⟨#[], #[.slice none 0 0, .int .i64 0], []⟩ 8 (by kernel_rfl) (by kernel_rfl) (by kernel_rfl) (by kernel_rfl)) ?_
  intro W base args ds gs before hval0 hW hcnd hsz0 _
  have hval : ∀ (j : Nat) t v, Try.f3.params[j]? = some t → args[j]? = some v → Value.okWide Try.prog W .any base t v := hval0
  have hW' := hW
  obtain ⟨p, q, hA0, hV, rfl, hfz, hnd⟩ := hW
  have hA : DataW.TrodAll enc Try.prog W 0 (fun _ => true) true Try.f3.params.toList args.toList ds p := hA0
  have hsz : (DataW.weightsEach Try.prog (Try.f3.params.toList ++ Rows.treesKnowSpec.plain.varTypes Try.prog) (ds ++ gs)).all (· ≤ reachBytes) = true := hsz0
  rw [Try.params3] at hA hval hsz
  obtain ⟨v0, vs0, d0, ds0, p0, q0, hargs, rfl, rfl, h0, r0⟩ := trodAll_cons hA
  obtain ⟨v1, vs1, d1, ds1, p1, q1, rfl, rfl, rfl, h1, r1⟩ := trodAll_cons r0
  obtain ⟨rfl, rfl, rfl⟩ := trodAll_nil r1
  obtain rfl : args = #[v0, v1] := by cases args; simp_all
  obtain ⟨rfl, rfl⟩ := trodVars_none hV
  have k0 := h0
  have lt0 : ∀ x ∈ p0, x.block < W.heap.size := by obtain ⟨m, hm⟩ := k0; exact DataW.trod_lt m _ _ _ hm
  obtain ⟨A0, C0, xs0, rfl, hR0, hz0, hw0⟩ := open_rawsArg (hval 0 22 v0 rfl rfl) h0 (fun n hn => by
    have := List.all_eq_true.1 hsz n (DataW.weights_mem_each (j := 0) (t := 22) rfl rfl n hn)
    exact of_decide_eq_true this)
  have k1 := h1
  have lt1 : ∀ x ∈ p1, x.block < W.heap.size := by obtain ⟨m, hm⟩ := k1; exact DataW.trod_lt m _ _ _ hm
  obtain ⟨a1, rfl, w1⟩ : ∃ n : Int, v1 = .int .i64 n ∧ (Lit.int .i64 n).wf = true := by
    obtain ⟨n, h, _, _, w⟩ := open_int Try.underlying3 (hval 1 3 v1 rfl rfl) h1; exact ⟨n, h, w⟩
  clear hA0 hval0 hsz0
  refine (treesKnow_walk A0 C0 xs0 a1 W hR0 hz0 hw0 w1).mono fun e W' ⟨he, bel⟩ => ?_
  subst he
  exact ⟨_, rfl, _, _, _, [], _, [], hW', trodAll_mk1 (shut_bool Try.underlying4 _), (trodAll_cons_mk (Below.trod laidOut (by kernel_rfl) (of_decide_eq_true (by kernel_rfl)) k0 bel lt0) (trodAll_cons_mk (Below.trod laidOut (by kernel_rfl) (of_decide_eq_true (by kernel_rfl)) k1 bel lt1) trodAll_mk0)), rfl, bel.frame _, fun h => by cases h⟩

theorem treesKnow_holds : Rows.TreesKnowSaid :=
  OpenClaim.holds_of_wide 3 Try.f3 rfl rfl rfl rfl rfl rfl rfl ⟨rfl, rfl, rfl, rfl, rfl⟩ rfl rfl rfl rfl rfl (by kernel_rfl) Try.func3 (by kernel_rfl)
    (of_decide_eq_true (by kernel_rfl)) (by unfold Func.isWrapper; first | (rw [if_pos (by decide +kernel)]; kernel_rfl) | (rw [if_neg (by decide +kernel)]; exact ⟨rfl, rfl⟩))
    (fun os started H enc _ => treesKnow_lifted os started H enc)
#print axioms treesKnow_holds
end Go.Proofs.Ytlojfgdpmaigmac
