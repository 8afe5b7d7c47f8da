/- base.Copy: the same base, in memory of its own. -/
import Derived.Shelf.Strconv.Clone
import Derived.BigQuiet
import Derived.Test.YtlojfgdpmaigmafGreatDoorLays
import Derived.Test.YtlojfgdpmaigmafGreatDoorP20
import Derived.Test.YtlojfgdpmaigmafGreatDoorP12
import Derived.Test.YtlojfgdpmaigmafGreatDoorP31
import Derived.Laws.IdiomStrings
import Derived.Laws.BytesArg
namespace Go.Proofs.YtlojfgdpmaigmafGreatDoor
section
open Go.RowKit Go.Shelf

theorem q7r {W w3 : World} {c : Array Value} {t : TypeId} {n : Nat} (hb : Below (W.alloc (.cells c t)).heap.size (W.alloc (.cells c t)) w3) (hn : W.heap.size = n) :
   (∀ j, w3.cell? ⟨n, j, none⟩ = c[j]?) ∧ ∀ j, w3.frozen? ⟨n, j, none⟩ = false := by
 subst hn
 exact ⟨fun j => (hb.cell (p := ⟨W.heap.size, j, none⟩) (by simp)).trans (by simp), fun j => (hb.frozen (p := ⟨W.heap.size, j, none⟩) (by simp)).trans (by simp)⟩

def tw (b : Bool) (g l : Nat) : Value := if b = true then .slice (some ⟨g, 0, none⟩) l l else .slice none 0 0
def rw' (b : Bool) (r : Int) : Value := if b = true then .int .i64 r else .int .i64 0

def set8 (w : World) (m : Nat) (a b c d e f g h : Value) : World := ((((((((w.setCell ⟨m, 0, none⟩ a).setCell ⟨m, 1, none⟩ b).setCell ⟨m, 2, none⟩ c).setCell ⟨m, 3, none⟩ d).setCell ⟨m, 4, none⟩ e).setCell ⟨m, 5, none⟩ f).setCell ⟨m, 6, none⟩ g).setCell ⟨m, 7, none⟩ h)

theorem q2l (w : World) (m : Nat) (a b c d e f g h : Value) (k : Nat) (hk : k ≠ m) : (set8 w m a b c d e f g h).heap[k]? = w.heap[k]? := by
 have far : ∀ (W : World) (j : Nat) (v : Value), (W.setCell ⟨m, j, none⟩ v).heap[k]? = W.heap[k]? := fun W j v => Below.heap_setCell _ _ _ _ hk
 unfold set8
 rw [far, far, far, far, far, far, far, far]

theorem q0u {B : Nat} {w0 w : World} (hb : Below B w0 w) {m : Nat} (hm : B ≤ m) (j : Nat) (v : Value) : Below B w0 (w.setCell ⟨m, j, none⟩ v) :=
 ⟨hb.os, hb.tape, hb.output, by simpa using hb.size, fun k hk => (Below.heap_setCell _ _ _ _ (show k ≠ m by omega)).trans (hb.block k hk)⟩

theorem q0z {B : Nat} {w0 w : World} (hb : Below B w0 w) {m : Nat} (hm : B ≤ m) (a b c d e f g h : Value) : Below B w0 (set8 w m a b c d e f g h) := by
 unfold set8
 exact q0u (q0u (q0u (q0u (q0u (q0u (q0u (q0u hb hm _ _) hm _ _) hm _ _) hm _ _) hm _ _) hm _ _) hm _ _) hm _ _

theorem qgi (s : ByteArray) (w : World) (hs : s.size ≤ 140737488351232) :
   Calls Tryz.prog 143 #[.string s] w fun e w' => e = .returned (.string s) ∧ Below w.heap.size w w' := by
 have hcon := Any.stringslite_Clone Tryz.cloneS s w (by omega)
 change Calls Tryz.prog 169 _ _ _ at hcon
 go_enter Tryz.func143, Tryz.ntmps143
 go_wp2_with (go_at_call 169; refine hcon.mono ?_; rintro e w1 ⟨rfl, hb1⟩)
 go_ret
 exact ⟨rfl, hb1⟩

theorem qjo : (Tryz.prog.info? 9).map (fun i => (i.zero, i.size, i.bytes)) = some (some (.string ByteArray.empty), 1, 16) := by kernel_rfl

theorem qim (w : World) (s : ByteArray) : ∀ j u, [Value.string s][j]? = some u → (w.alloc (.cells #[.string s] 9)).cell? ((⟨w.heap.size, 0, none⟩ : Addr).add j) = some u := by
 intro j u hu
 cases j with
 | zero =>
   cases hu
   simp [Addr.add]
 | succ j => simp at hu

set_option maxRecDepth 20000 in
set_option maxHeartbeats 1000000 in
theorem qdy (A : Option Addr) (C : Nat) (ss : List ByteArray) (w : World) (h : q2z w.heap.size w A ss) :
   Calls Tryz.prog 142 #[.slice A ss.length C] w fun e w' => ∃ v, e = .returned v ∧ w'.ownsRow w.heap.size 9 1 v ss.length (strs ss) ∧ Below w.heap.size w w' := by
 obtain ⟨i0, hi0, hz0, hz1, hz2⟩ := info_parts qjo
 have hz := h.z
 go_enter Tryz.func142, Tryz.ntmps142
 go_wp2_with fail
 go_loopw [3, 8] (fun vo vi wr => ∃ i : Nat, i ≤ ss.length ∧ vi = .int .i64 i ∧ wr.ownsRow w.heap.size 9 1 vo i (strs (ss.take i)) ∧ Below w.heap.size w wr) (fun _ vi _ => ss.length - (intOf vi).toNat)
 case atStart => exact ⟨0, Nat.zero_le _, rfl, World.ownsRow_nil _ _ _ _, Below.refl _ _⟩
 case round =>
   obtain ⟨i, hi, rfl, hown, hb⟩ := hrel
   have hsz := hb.size
   by_cases hlt : i < ss.length
   · obtain ⟨b, o, rfl, hbl, hc, -⟩ := (h.row.below hb (Nat.le_refl _)).str hlt
     have hss : (ss[i]).size ≤ 140737488351232 := h.each _ (List.getElem_mem hlt)
     have hbr : b < wr.heap.size := by omega
     have HT : Hid (strs (ss.take (i + 1)) = strs (ss.take i) ++ [.string ss[i]]) := by
       show _ = _
       rw [List.take_succ_eq_append_getElem hlt]
       unfold strs
       rw [List.map_append]
       rfl
     obtain ⟨s, hs⟩ : ∃ s, ss[i] = s := ⟨_, rfl⟩
     rw [hs] at hc hss HT
     go_wp2_with (first
       | (go_at_call 143; refine (qgi s _ hss).mono ?_; rintro e w1 ⟨rfl, hb1⟩; have hown1 : w1.ownsRow w.heap.size 9 1 u3 i (strs (ss.take i)) := q0c hown (fun k hk => hb1.block k (hown.lt k hk).2); have hw1 : Below w.heap.size w w1 := hb.trans (hb1.mono hsz); have z1 := hb1.size)
       | (at_builtin; refine wpList_append_own _ rfl _ _ 23 rfl w.heap.size 9 i0 _ 1 16 Tryz.underlying23 hi0 hz0 hz1 hz2 rfl (by decide) u3 i (strs (ss.take i)) rfl (hown1.alloc _) ⟨w1.heap.size, 0, none⟩ 1 1 [.string s] rfl rfl (qim w1 s) (by intro u hu; simp at hu; subst hu; rfl) (by unfold maxLen; omega) (by omega) (by simp; omega) ?_; intro v2 w2 hown2 hgrow2 _))
     have hb2 : Below w.heap.size w w2 := (hw1.alloc (by omega) _).grown hgrow2 (by simp; omega) (fun k hk => (hown1.lt k hk).1)
     exact ⟨⟨i + 1, hlt, by go_num, by rw [HT.out]; exact hown2, hb2⟩, by simp only [intOf]; omega⟩
   · have hie : i = ss.length := by omega
     go_wp2_with fail
     go_ret
     subst hie
     rw [List.take_length] at hown
     exact ⟨_, rfl, hown, hb⟩

end
section
open Go.RowKit Plain

theorem q5h {B C : Nat} {w : World} {A : Option Addr} {l : List Int} (h : q0h B w A C l) (hu : U8 l) : (convert 22 9 (.slice A l.length C)).run Tryz.prog w = .ok (.string (q8b l)) w := by
 obtain ⟨h1, h2, h3⟩ := h
 rcases h3 with ⟨rfl, rfl⟩ | ⟨b, o, rfl, hb, hc⟩
 · obtain rfl : l = [] := List.eq_nil_of_length_eq_zero (by omega)
   exact run_convert_bytes_nil (P := Tryz.prog) w _ _ Tryz.underlying22 (by kernel_rfl) _ _ _ (by kernel_rfl)
 · have k := run_convert_bytes_back (P := Tryz.prog) w 22 9 5 ⟨b, o, none⟩ C (l.map fun b => UInt8.ofNat b.toNat) Tryz.underlying22 (by kernel_rfl) (by kernel_rfl) (fun j hj => by
     have hj' : j < l.length := by simpa using hj
     rw [Addr.add_lit]
     rw [hc j (.int .u8 l[j]) (by simp [u8s, List.getElem?_eq_getElem hj'])]
     obtain ⟨g0, g1⟩ := hu _ (List.getElem_mem hj')
     have hm : l[j].toNat % 256 = l[j].toNat := Nat.mod_eq_of_lt (by omega)
     simp [hm]
     omega)
   rw [List.length_map] at k
   exact k

theorem RdTo.grown {rb : Nat} {s : Rs} {w wr w' : World} {row : Option Nat} (h : RdTo rb s w wr) (hl : rb < w.heap.size) (hg : wr.grownBy w' row) (hr : ∀ k, row = some k → w.heap.size ≤ k) : RdTo rb s w w' := by
 have hz := h.kp.size
 have hb : ∀ k, k < w.heap.size → w'.heap[k]? = wr.heap[k]? := fun k hk => hg.block k (by omega) (fun e => by have := hr k e.symm; omega)
 exact ⟨h.rd.blocks fun k hk => hb k (by omega), ⟨hg.os.trans h.kp.os, hg.tape.trans h.kp.tape, hg.output.trans h.kp.output, Nat.le_trans h.kp.size hg.size, fun k hk hn => (hb k hk).trans (h.kp.block k hk hn)⟩⟩

def NmTo (rb : Nat) (s : Rs) (w : World) (e : Ending) (w' : World) : Prop :=
 ∃ v, e = .returned v ∧ w'.ownsRow w.heap.size 9 1 v (q3i (cnt 16 s).1.toNat (cnt 16 s).2).1.length (strs (q3i (cnt 16 s).1.toNat (cnt 16 s).2).1) ∧ RdTo rb (q3i (cnt 16 s).1.toNat (cnt 16 s).2).2 w w'

theorem qo2 (l : List ByteArray) (x : ByteArray) : strs l ++ [.string x] = strs (l ++ [x]) := by simp [strs]

set_option maxRecDepth 20000 in
set_option maxHeartbeats 2000000 in
theorem qmj (rb : Nat) (s : Rs) (w : World) (h : RdAt w rb s) :
   Calls Tryz.prog 27 #[.pointer (some ⟨rb, 0, none⟩)] w (NmTo rb s w) := by
 obtain ⟨i0, hi0, hz0, hz1, hz2⟩ := info_parts qjo
 have con1 := q0f (qb5 rb 16 s w h)
 have hr := qk3 (m := 16) (by decide) h.u8
 have hu1 := qeh (m := 16) h.u8
 have hs1 := qd7 (m := 16) h.still
 unfold NmTo
 obtain ⟨n, hn⟩ : ∃ n : Nat, (cnt 16 s).1 = (n : Int) := ⟨(cnt 16 s).1.toNat, by omega⟩
 obtain ⟨s1, hs⟩ : ∃ s1, (cnt 16 s).2 = s1 := ⟨_, rfl⟩
 rw [hn] at con1 hr ⊢
 rw [hs] at con1 hu1 hs1 ⊢
 rw [Int.toNat_natCast]
 obtain ⟨NL, NS, hN⟩ : ∃ NL NS, q3i n s1 = (NL, NS) := ⟨_, _, rfl⟩
 rw [hN]
 show Calls _ _ _ _ fun e w' => ∃ v, e = .returned v ∧ w'.ownsRow w.heap.size 9 1 v NL.length (strs NL) ∧ RdTo rb NS w w'
 have HN := q0f hN
 have hn16 : n ≤ 16 := by omega
 have hlw := h.lt
 clear hN hn hs h hr
 go_enter Tryz.func27, Tryz.ntmps27
 go_wp2_with (first
   | (go_at_call 76; refine con1.out.mono ?_; rintro e w1 ⟨rfl, hT1⟩))
 go_loopw [3, 6] (fun vo vi wr => ∃ (i : Nat) (s' : Rs) (xs : List ByteArray), i ≤ n ∧ vi = .int .i64 (i : Int) ∧ xs.length = i ∧ Hid ((xs ++ (q3i (n - i) s').1, (q3i (n - i) s').2) = (NL, NS)) ∧ wr.ownsRow w.heap.size 9 1 vo i (strs xs) ∧ RdTo rb s' w wr) (fun _ vi _ => n - (intOf vi).toNat)
 case atStart => exact ⟨0, s1, [], Nat.zero_le _, rfl, rfl, HN.out, World.ownsRow_nil _ _ _ _, hT1⟩
 case round =>
   obtain ⟨i, s', xs, hi, rfl, hxl, HE, hown, hT⟩ := hrel
   by_cases hlt : i < n
   · have hlt' : (i : Int) < (n : Int) := by omega
     have hrc := qk3 (m := 10) (by decide) hT.rd.u8
     have hu2 := qeh (m := 10) hT.rd.u8
     obtain ⟨k, hk⟩ : ∃ k : Nat, (cnt 10 s').1 = (k : Int) := ⟨(cnt 10 s').1.toNat, by omega⟩
     have HE2 : Hid ((xs ++ (q8b (tk k (cnt 10 s').2).1 :: (q3i (n - (i + 1)) (tk k (cnt 10 s').2).2).1), (q3i (n - (i + 1)) (tk k (cnt 10 s').2).2).2) = (NL, NS)) := by
       have h1 := HE.out
       rw [show n - i = (n - (i + 1)) + 1 by omega] at h1
       unfold q3i at h1
       rw [hk, Int.toNat_natCast] at h1
       exact h1
     have con2 := q0f (qb5 rb 10 s' wr hT.rd)
     rw [hk] at con2 hrc
     have hu3 := (quk (n := k) hu2).2
     obtain ⟨s2, hs2⟩ : ∃ s2, (cnt 10 s').2 = s2 := ⟨_, rfl⟩
     rw [hs2] at HE2 con2 hu3
     have con3 := q0f fun W (hW : RdAt W rb s2) => qkh rb k s2 W (by omega) hW
     obtain ⟨bs, hbs⟩ : ∃ bs, (tk k s2).1 = bs := ⟨_, rfl⟩
     obtain ⟨s3, hs3⟩ : ∃ s3, (tk k s2).2 = s3 := ⟨_, rfl⟩
     unfold TkTo at con3
     rw [hbs, hs3] at HE2 con3
     rw [hbs] at hu3
     have HT := q0f hT
     have HO := q0f hown
     have HV := q0f (fun k => hown.lt k)
     clear hs2 hbs hs3 hk hrc HE hT hown hu2
     go_wp2_with (first
       | (go_at_call 76; refine con2.out.mono ?_; rintro e w2 ⟨rfl, hT2⟩)
       | (go_at_call 77; refine (con3.out _ hT2.rd).mono ?_; rintro e w3 ⟨A, C, rfl, hby, hT3⟩; have kc := q5h hby hu3)
       | (at_builtin; have hown3 := q0c (w' := w3) HO.out (fun k hk => (hT2.kp.trans hT3.kp).block k (HV.out k hk).2 (by have := (HV.out k hk).1; simp; omega)); refine wpList_append_own _ rfl _ _ 23 rfl w.heap.size 9 i0 _ 1 16 Tryz.underlying23 hi0 hz0 hz1 hz2 rfl (by decide) u3 i (strs xs) rfl (hown3.alloc _) ⟨w3.heap.size, 0, none⟩ 1 1 [.string (q8b bs)] rfl rfl (qim w3 _) (by intro u hu; simp at hu; subst hu; rfl) (by unfold maxLen; omega) (by omega) (by have := (HT.out.step hT2).kp.size; have := hT3.kp.size; simp; omega) ?_; intro v4 w4 hown4 hgrow4 _))
     have hT4 : RdTo rb s3 w w4 := (((HT.out.step hT2).step hT3).below ((Below.refl _ _).alloc (Nat.le_refl _) _)).grown hlw hgrow4 (fun k hk => (HV.out k hk).1)
     rw [qo2] at hown4
     exact ⟨⟨i + 1, s3, xs ++ [q8b bs], by omega, by go_num, by simp [hxl], by rw [List.append_assoc]; exact HE2.out, hown4, hT4⟩, by simp only [intOf]; omega⟩
   · have hlt' : ¬ ((i : Int) < (n : Int)) := by omega
     have h1 := HE.out
     rw [show n - i = 0 by omega] at h1
     obtain ⟨e1, e2⟩ := Prod.mk.inj h1
     have e1' : xs = NL := by
       rw [← e1]
       simp [q3i]
     have e2' : s' = NS := e2
     have hx : i = NL.length := by rw [← e1', hxl]
     clear h1 e1 e2 HE HN
     go_wp2_with fail
     go_ret
     subst e1' e2'
     rw [hx] at hown
     exact ⟨_, rfl, hown, hT⟩

end
section
open Go.ChangeShapes Go.WideShapes Go.ChangeAt Go.RowKit Go.Deep Plain

theorem qzp {z : Int} (h : (Lit.int .u8 z).wf = true) : 0 ≤ z ∧ z ≤ 255 := by
 simp [Lit.wf, IntKind.min, IntKind.max, IntKind.signed, IntKind.bits] at h
 omega

section
variable {H : Type} {enc : TypeId × Value → H} {W : World} {held : Bool} {fuel : Nat}

end

end
end Go.Proofs.YtlojfgdpmaigmafGreatDoor
