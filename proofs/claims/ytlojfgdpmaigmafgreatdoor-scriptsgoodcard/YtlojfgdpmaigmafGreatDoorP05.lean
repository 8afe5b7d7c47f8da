/- What together of package roll does. -/
import Derived.Test.YtlojfgdpmaigmafGreatDoorWalks6
import Derived.Test.YtlojfgdpmaigmafGreatDoorP02
namespace Go.Proofs.YtlojfgdpmaigmafGreatDoor
section
open Go.RowKit Plain

set_option maxHeartbeats 1000000 in
theorem q9i(c s lo hi t l c' s' lo' hi' t' l':Int)(w:World)(a1:0<=c)(a2:c<=1073741824)(b1:0<=c')(b2:c'<=1073741824)(a3: -1125899906842624<=s)(a4:s<=1125899906842624)(b3: -1125899906842624<=s')(b4:s'<=1125899906842624):
  Calls Tryz.prog 113 #[.agg #[.int .i64 c,.int .i64 s,.int .i64 lo,.int .i64 hi,.int .i64 t,.int .i64 l],.agg #[.int .i64 c',.int .i64 s',.int .i64 lo',.int .i64 hi',.int .i64 t',.int .i64 l']] w fun e w'=>e=.returned (.agg #[.int .i64 (c+c'),.int .i64 (s+s'),.int .i64 (mn lo lo'),.int .i64 (mx hi hi'),.int .i64 (pk (ltr t l t' l') t t'),.int .i64 (pk (ltr t l t' l') l l')])/\Below w.heap.size w w':=by
 by_cases hl:ltr t l t' l'=true
 ·rw[pk_t t t' hl,pk_t l l' hl]
  go_enter Tryz.func113,Tryz.ntmps113
  go_wp2_with (first|(go_at_call 150;refine(qxs _ _ _ _ _ _ _ _ _ _ _ _ _ hl).mono ?_;rintro e w1 ⟨rfl,hb1⟩;obtain⟨hc1,hf1⟩:=q7u hb1;obtain⟨hz1,hz2,hz3⟩:=sz3 hb1))
  all_goals
   first
   |exact bodyPost_ret (v:=.agg #[.int .i64 (c+c'),.int .i64 (s+s'),.int .i64 lo,.int .i64 hi,.int .i64 t,.int .i64 l]) (by simp[results,Tryz.results113,go_sem,hc1,hz3]) rfl ⟨by rw[mn_l (show lo<=lo' by omega),mx_l (show hi'<=hi by omega)],(set6 ((Below.refl _ _).alloc (Nat.le_refl _) _ |>.alloc (by simp) _ |>.alloc (by simp;omega) _ |>.trans (hb1.mono (by simp;omega))) (by omega) _ _ _ _ _ _).alloc (by simp;omega) _⟩
   |exact bodyPost_ret (v:=.agg #[.int .i64 (c+c'),.int .i64 (s+s'),.int .i64 lo,.int .i64 hi',.int .i64 t,.int .i64 l]) (by simp[results,Tryz.results113,go_sem,hc1,hz3]) rfl ⟨by rw[mn_l (show lo<=lo' by omega),mx_r (show hi<=hi' by omega)],(set6 ((Below.refl _ _).alloc (Nat.le_refl _) _ |>.alloc (by simp) _ |>.alloc (by simp;omega) _ |>.trans (hb1.mono (by simp;omega))) (by omega) _ _ _ _ _ _).alloc (by simp;omega) _⟩
   |exact bodyPost_ret (v:=.agg #[.int .i64 (c+c'),.int .i64 (s+s'),.int .i64 lo',.int .i64 hi,.int .i64 t,.int .i64 l]) (by simp[results,Tryz.results113,go_sem,hc1,hz3]) rfl ⟨by rw[mn_r (show lo'<=lo by omega),mx_l (show hi'<=hi by omega)],(set6 ((Below.refl _ _).alloc (Nat.le_refl _) _ |>.alloc (by simp) _ |>.alloc (by simp;omega) _ |>.trans (hb1.mono (by simp;omega))) (by omega) _ _ _ _ _ _).alloc (by simp;omega) _⟩
   |exact bodyPost_ret (v:=.agg #[.int .i64 (c+c'),.int .i64 (s+s'),.int .i64 lo',.int .i64 hi',.int .i64 t,.int .i64 l]) (by simp[results,Tryz.results113,go_sem,hc1,hz3]) rfl ⟨by rw[mn_r (show lo'<=lo by omega),mx_r (show hi<=hi' by omega)],(set6 ((Below.refl _ _).alloc (Nat.le_refl _) _ |>.alloc (by simp) _ |>.alloc (by simp;omega) _ |>.trans (hb1.mono (by simp;omega))) (by omega) _ _ _ _ _ _).alloc (by simp;omega) _⟩
 ·have hl:ltr t l t' l'=false:=by simpa using hl
  rw[pk_f t t' hl,pk_f l l' hl]
  go_enter Tryz.func113,Tryz.ntmps113
  go_wp2_with (first|(go_at_call 150;refine(qy7 _ _ _ _ _ _ _ _ _ _ _ _ _ hl).mono ?_;rintro e w1 ⟨rfl,hb1⟩;obtain⟨hc1,hf1⟩:=q7u hb1;obtain⟨hz1,hz2,hz3⟩:=sz3 hb1))
  all_goals
   first
   |exact bodyPost_ret (v:=.agg #[.int .i64 (c+c'),.int .i64 (s+s'),.int .i64 lo,.int .i64 hi,.int .i64 t',.int .i64 l']) (by simp[results,Tryz.results113,go_sem,hc1,hz3]) rfl ⟨by rw[mn_l (show lo<=lo' by omega),mx_l (show hi'<=hi by omega)],(set6 ((Below.refl _ _).alloc (Nat.le_refl _) _ |>.alloc (by simp) _ |>.alloc (by simp;omega) _ |>.trans (hb1.mono (by simp;omega))) (by omega) _ _ _ _ _ _).alloc (by simp;omega) _⟩
   |exact bodyPost_ret (v:=.agg #[.int .i64 (c+c'),.int .i64 (s+s'),.int .i64 lo,.int .i64 hi',.int .i64 t',.int .i64 l']) (by simp[results,Tryz.results113,go_sem,hc1,hz3]) rfl ⟨by rw[mn_l (show lo<=lo' by omega),mx_r (show hi<=hi' by omega)],(set6 ((Below.refl _ _).alloc (Nat.le_refl _) _ |>.alloc (by simp) _ |>.alloc (by simp;omega) _ |>.trans (hb1.mono (by simp;omega))) (by omega) _ _ _ _ _ _).alloc (by simp;omega) _⟩
   |exact bodyPost_ret (v:=.agg #[.int .i64 (c+c'),.int .i64 (s+s'),.int .i64 lo',.int .i64 hi,.int .i64 t',.int .i64 l']) (by simp[results,Tryz.results113,go_sem,hc1,hz3]) rfl ⟨by rw[mn_r (show lo'<=lo by omega),mx_l (show hi'<=hi by omega)],(set6 ((Below.refl _ _).alloc (Nat.le_refl _) _ |>.alloc (by simp) _ |>.alloc (by simp;omega) _ |>.trans (hb1.mono (by simp;omega))) (by omega) _ _ _ _ _ _).alloc (by simp;omega) _⟩
   |exact bodyPost_ret (v:=.agg #[.int .i64 (c+c'),.int .i64 (s+s'),.int .i64 lo',.int .i64 hi',.int .i64 t',.int .i64 l']) (by simp[results,Tryz.results113,go_sem,hc1,hz3]) rfl ⟨by rw[mn_r (show lo'<=lo by omega),mx_r (show hi<=hi' by omega)],(set6 ((Below.refl _ _).alloc (Nat.le_refl _) _ |>.alloc (by simp) _ |>.alloc (by simp;omega) _ |>.trans (hb1.mono (by simp;omega))) (by omega) _ _ _ _ _ _).alloc (by simp;omega) _⟩

set_option maxHeartbeats 1000000 in
theorem qnj(c s lo hi t l c' s' lo' hi' t' l':Int)(w:World)(h:(q1i c s lo hi t l != 0)=true):
  Calls Tryz.prog 67 #[.agg #[.int .i64 c,.int .i64 s,.int .i64 lo,.int .i64 hi,.int .i64 t,.int .i64 l],.agg #[.int .i64 c',.int .i64 s',.int .i64 lo',.int .i64 hi',.int .i64 t',.int .i64 l']] w fun e w'=>e=.returned (.tuple #[.agg #[.int .i64 0,.int .i64 0,.int .i64 0,.int .i64 0,.int .i64 0,.int .i64 0],.int .i64 (q1i c s lo hi t l)])/\Below w.heap.size w w':=by
 go_enter Tryz.func67,Tryz.ntmps67
 go_wp2_with (first|(go_at_call 112;refine(q1r _ _ _ _ _ _ _).mono ?_;rintro e w1 ⟨rfl,hb1⟩;obtain⟨hc1,hf1⟩:=q7u hb1;obtain⟨hz1,hz2,hz3⟩:=sz3 hb1))
 exact bodyPost_ret (v:=.tuple #[.agg #[.int .i64 0,.int .i64 0,.int .i64 0,.int .i64 0,.int .i64 0,.int .i64 0],.int .i64 (q1i c s lo hi t l)]) (by simp[results,Tryz.results67,go_sem,hc1]) rfl ⟨rfl,set6 (up3 hb1) (by omega) _ _ _ _ _ _⟩

set_option maxHeartbeats 1000000 in
theorem qnk(c s lo hi t l c' s' lo' hi' t' l':Int)(w:World)(h0:q1i c s lo hi t l=0)(h:(q1i c' s' lo' hi' t' l' != 0)=true):
  Calls Tryz.prog 67 #[.agg #[.int .i64 c,.int .i64 s,.int .i64 lo,.int .i64 hi,.int .i64 t,.int .i64 l],.agg #[.int .i64 c',.int .i64 s',.int .i64 lo',.int .i64 hi',.int .i64 t',.int .i64 l']] w fun e w'=>e=.returned (.tuple #[.agg #[.int .i64 0,.int .i64 0,.int .i64 0,.int .i64 0,.int .i64 0,.int .i64 0],.int .i64 (q1i c' s' lo' hi' t' l')])/\Below w.heap.size w w':=by
 go_enter Tryz.func67,Tryz.ntmps67
 go_wp2_with fail
 refine(q1r _ _ _ _ _ _ _).mono ?_
 rintro e w1 ⟨rfl,hb1⟩
 obtain⟨hc1,hf1⟩:=q7u hb1
 obtain⟨hz1,hz2,hz3⟩:=sz3 hb1
 have hy1:=hb1.size
 go_wp2_with fail
 refine(q1r _ _ _ _ _ _ _).mono ?_
 rintro e w2 ⟨rfl,hb2⟩
 obtain⟨hc2,hf2⟩:=q7u hb2
 go_wp2
 exact bodyPost_ret (v:=.tuple #[.agg #[.int .i64 0,.int .i64 0,.int .i64 0,.int .i64 0,.int .i64 0,.int .i64 0],.int .i64 (q1i c' s' lo' hi' t' l')]) (by simp[results,Tryz.results67,go_sem,hc1,hc2,hz3]) rfl ⟨rfl,set6 (up (up3 hb1) hb2) (by omega) _ _ _ _ _ _⟩

set_option maxHeartbeats 1000000 in
theorem qjf(s lo hi t l c' s' lo' hi' t' l':Int)(w:World)(h0:q1i 0 s lo hi t l=0)(h:q1i c' s' lo' hi' t' l'=0):
  Calls Tryz.prog 67 #[.agg #[.int .i64 0,.int .i64 s,.int .i64 lo,.int .i64 hi,.int .i64 t,.int .i64 l],.agg #[.int .i64 c',.int .i64 s',.int .i64 lo',.int .i64 hi',.int .i64 t',.int .i64 l']] w fun e w'=>e=.returned (.tuple #[.agg #[.int .i64 c',.int .i64 s',.int .i64 lo',.int .i64 hi',.int .i64 t',.int .i64 l'],.int .i64 0])/\Below w.heap.size w w':=by
 go_enter Tryz.func67,Tryz.ntmps67
 go_wp2_with fail
 refine(q1r _ _ _ _ _ _ _).mono ?_
 rintro e w1 ⟨rfl,hb1⟩
 obtain⟨hc1,hf1⟩:=q7u hb1
 obtain⟨hz1,hz2,hz3⟩:=sz3 hb1
 have hy1:=hb1.size
 go_wp2_with fail
 refine(q1r _ _ _ _ _ _ _).mono ?_
 rintro e w2 ⟨rfl,hb2⟩
 obtain⟨hc2,hf2⟩:=q7u hb2
 go_wp2
 exact bodyPost_ret (v:=.tuple #[.agg #[.int .i64 c',.int .i64 s',.int .i64 lo',.int .i64 hi',.int .i64 t',.int .i64 l'],.int .i64 0]) (by simp[results,Tryz.results67,go_sem,hc1,hc2,hz3]) rfl ⟨rfl,set6 (up (up3 hb1) hb2) (by omega) _ _ _ _ _ _⟩

set_option maxHeartbeats 1000000 in
theorem qjh(c s lo hi t l s' lo' hi' t' l':Int)(w:World)(h0:q1i c s lo hi t l=0)(h:q1i 0 s' lo' hi' t' l'=0)(hn:(c==0)=false):
  Calls Tryz.prog 67 #[.agg #[.int .i64 c,.int .i64 s,.int .i64 lo,.int .i64 hi,.int .i64 t,.int .i64 l],.agg #[.int .i64 0,.int .i64 s',.int .i64 lo',.int .i64 hi',.int .i64 t',.int .i64 l']] w fun e w'=>e=.returned (.tuple #[.agg #[.int .i64 c,.int .i64 s,.int .i64 lo,.int .i64 hi,.int .i64 t,.int .i64 l],.int .i64 0])/\Below w.heap.size w w':=by
 go_enter Tryz.func67,Tryz.ntmps67
 go_wp2_with fail
 refine(q1r _ _ _ _ _ _ _).mono ?_
 rintro e w1 ⟨rfl,hb1⟩
 obtain⟨hc1,hf1⟩:=q7u hb1
 obtain⟨hz1,hz2,hz3⟩:=sz3 hb1
 have hy1:=hb1.size
 go_wp2_with fail
 refine(q1r _ _ _ _ _ _ _).mono ?_
 rintro e w2 ⟨rfl,hb2⟩
 obtain⟨hc2,hf2⟩:=q7u hb2
 go_wp2
 exact bodyPost_ret (v:=.tuple #[.agg #[.int .i64 c,.int .i64 s,.int .i64 lo,.int .i64 hi,.int .i64 t,.int .i64 l],.int .i64 0]) (by simp[results,Tryz.results67,go_sem,hc1,hc2,hz3]) rfl ⟨rfl,set6 (up (up3 hb1) hb2) (by omega) _ _ _ _ _ _⟩

theorem q1x{c s lo hi t l:Int}(h:q1i c s lo hi t l=0):(0<=c/\c<=1073741824)/\(-1125899906842624<=s/\s<=1125899906842624)/\(0<=t/\t<=1048575)/\(-1000000<=lo/\lo<=1000000)/\(-1000000<=hi/\hi<=1000000)/\(-1000000<=l/\l<=1000000):=by
 unfold q1i at h
 by_cases hb:q6q c s lo hi t l=true
 ·simp only[q6q,Bool.and_eq_true,q3o] at hb
  obtain⟨⟨⟨⟨⟨h1,h2⟩,h3⟩,h4⟩,h5⟩,h6⟩:=hb
  exact⟨h1,h2,h3,h4,h5,h6⟩
 ·rw[if_neg hb] at h;omega

set_option maxHeartbeats 1000000 in
theorem qv1(c s lo hi t l c' s' lo' hi' t' l':Int)(w:World)(h0:q1i c s lo hi t l=0)(h:q1i c' s' lo' hi' t' l'=0)(hn:(c==0)=false)(hn':(c'==0)=false)(k1:inB (c+c') 0 1073741824=true)(k2:inB (s+s') (-1125899906842624) 1125899906842624=true):
  Calls Tryz.prog 67 #[.agg #[.int .i64 c,.int .i64 s,.int .i64 lo,.int .i64 hi,.int .i64 t,.int .i64 l],.agg #[.int .i64 c',.int .i64 s',.int .i64 lo',.int .i64 hi',.int .i64 t',.int .i64 l']] w fun e w'=>e=.returned (.tuple #[.agg #[.int .i64 (c+c'),.int .i64 (s+s'),.int .i64 (mn lo lo'),.int .i64 (mx hi hi'),.int .i64 (pk (ltr t l t' l') t t'),.int .i64 (pk (ltr t l t' l') l l')],.int .i64 0])/\Below w.heap.size w w':=by
 obtain⟨⟨a1,a2⟩,⟨a3,a4⟩,_⟩:=q1x h0
 obtain⟨⟨b1,b2⟩,⟨b3,b4⟩,_⟩:=q1x h
 go_enter Tryz.func67,Tryz.ntmps67
 go_wp2_with fail
 refine(q1r _ _ _ _ _ _ _).mono ?_
 rintro e w1 ⟨rfl,hb1⟩
 obtain⟨hc1,hf1⟩:=q7u hb1
 obtain⟨hz1,hz2,hz3⟩:=sz3 hb1
 have hy1:=hb1.size
 go_wp2_with fail
 refine(q1r _ _ _ _ _ _ _).mono ?_
 rintro e w2 ⟨rfl,hb2⟩
 obtain⟨hc2,hf2⟩:=q7u hb2
 have hy2:=hb2.size
 go_wp2_with fail
 refine(q9i _ _ _ _ _ _ _ _ _ _ _ _ _ a1 a2 b1 b2 a3 a4 b3 b4).mono ?_
 rintro e w3 ⟨rfl,hb3⟩
 obtain⟨hc3,hf3⟩:=q7u hb3
 have hy3:=hb3.size
 have hx2:w.heap.size+2<w2.heap.size:=by omega
 have hx3:w.heap.size+2<w3.heap.size:=by omega
 go_wp2_with (first|(go_at_call 114;refine(qb0 _ _).mono ?_;rintro e w' ⟨rfl,rfl⟩)|(go_at_call 115;refine(qfv _ _).mono ?_;rintro e w' ⟨rfl,rfl⟩))
 exact bodyPost_ret (v:=.tuple #[.agg #[.int .i64 (c+c'),.int .i64 (s+s'),.int .i64 (mn lo lo'),.int .i64 (mx hi hi'),.int .i64 (pk (ltr t l t' l') t t'),.int .i64 (pk (ltr t l t' l') l l')],.int .i64 0]) (by simp[results,Tryz.results67,go_sem,hc1,hc2,hc3,hz3,hx2,hx3]) rfl ⟨rfl,(set6 (up (up (up3 hb1) hb2) hb3) (by omega) _ _ _ _ _ _).alloc (by simp;omega) _⟩

set_option maxHeartbeats 1000000 in
theorem qnn(c s lo hi t l c' s' lo' hi' t' l':Int)(w:World)(h0:q1i c s lo hi t l=0)(h:q1i c' s' lo' hi' t' l'=0)(hn:(c==0)=false)(hn':(c'==0)=false)(k1:inB (c+c') 0 1073741824=false):
  Calls Tryz.prog 67 #[.agg #[.int .i64 c,.int .i64 s,.int .i64 lo,.int .i64 hi,.int .i64 t,.int .i64 l],.agg #[.int .i64 c',.int .i64 s',.int .i64 lo',.int .i64 hi',.int .i64 t',.int .i64 l']] w fun e w'=>e=.returned (.tuple #[.agg #[.int .i64 0,.int .i64 0,.int .i64 0,.int .i64 0,.int .i64 0,.int .i64 0],.int .i64 1])/\Below w.heap.size w w':=by
 obtain⟨⟨a1,a2⟩,⟨a3,a4⟩,_⟩:=q1x h0
 obtain⟨⟨b1,b2⟩,⟨b3,b4⟩,_⟩:=q1x h
 go_enter Tryz.func67,Tryz.ntmps67
 go_wp2_with fail
 refine(q1r _ _ _ _ _ _ _).mono ?_
 rintro e w1 ⟨rfl,hb1⟩
 obtain⟨hc1,hf1⟩:=q7u hb1
 obtain⟨hz1,hz2,hz3⟩:=sz3 hb1
 have hy1:=hb1.size
 go_wp2_with fail
 refine(q1r _ _ _ _ _ _ _).mono ?_
 rintro e w2 ⟨rfl,hb2⟩
 obtain⟨hc2,hf2⟩:=q7u hb2
 have hy2:=hb2.size
 go_wp2_with fail
 refine(q9i _ _ _ _ _ _ _ _ _ _ _ _ _ a1 a2 b1 b2 a3 a4 b3 b4).mono ?_
 rintro e w3 ⟨rfl,hb3⟩
 obtain⟨hc3,hf3⟩:=q7u hb3
 have hy3:=hb3.size
 have hx2:w.heap.size+2<w2.heap.size:=by omega
 have hx3:w.heap.size+2<w3.heap.size:=by omega
 go_wp2_with (first|(go_at_call 114;refine(qb0 _ _).mono ?_;rintro e w' ⟨rfl,rfl⟩)|(go_at_call 115;refine(qfv _ _).mono ?_;rintro e w' ⟨rfl,rfl⟩))
 exact bodyPost_ret (v:=.tuple #[.agg #[.int .i64 0,.int .i64 0,.int .i64 0,.int .i64 0,.int .i64 0,.int .i64 0],.int .i64 1]) (by simp[results,Tryz.results67,go_sem,hc1,hc2,hc3,hz3,hx2,hx3]) rfl ⟨rfl,(set6 (up (up (up3 hb1) hb2) hb3) (by omega) _ _ _ _ _ _).alloc (by simp;omega) _⟩

set_option maxHeartbeats 1000000 in
theorem qo1(c s lo hi t l c' s' lo' hi' t' l':Int)(w:World)(h0:q1i c s lo hi t l=0)(h:q1i c' s' lo' hi' t' l'=0)(hn:(c==0)=false)(hn':(c'==0)=false)(k1:inB (c+c') 0 1073741824=true)(k2:inB (s+s') (-1125899906842624) 1125899906842624=false):
  Calls Tryz.prog 67 #[.agg #[.int .i64 c,.int .i64 s,.int .i64 lo,.int .i64 hi,.int .i64 t,.int .i64 l],.agg #[.int .i64 c',.int .i64 s',.int .i64 lo',.int .i64 hi',.int .i64 t',.int .i64 l']] w fun e w'=>e=.returned (.tuple #[.agg #[.int .i64 0,.int .i64 0,.int .i64 0,.int .i64 0,.int .i64 0,.int .i64 0],.int .i64 1])/\Below w.heap.size w w':=by
 obtain⟨⟨a1,a2⟩,⟨a3,a4⟩,_⟩:=q1x h0
 obtain⟨⟨b1,b2⟩,⟨b3,b4⟩,_⟩:=q1x h
 go_enter Tryz.func67,Tryz.ntmps67
 go_wp2_with fail
 refine(q1r _ _ _ _ _ _ _).mono ?_
 rintro e w1 ⟨rfl,hb1⟩
 obtain⟨hc1,hf1⟩:=q7u hb1
 obtain⟨hz1,hz2,hz3⟩:=sz3 hb1
 have hy1:=hb1.size
 go_wp2_with fail
 refine(q1r _ _ _ _ _ _ _).mono ?_
 rintro e w2 ⟨rfl,hb2⟩
 obtain⟨hc2,hf2⟩:=q7u hb2
 have hy2:=hb2.size
 go_wp2_with fail
 refine(q9i _ _ _ _ _ _ _ _ _ _ _ _ _ a1 a2 b1 b2 a3 a4 b3 b4).mono ?_
 rintro e w3 ⟨rfl,hb3⟩
 obtain⟨hc3,hf3⟩:=q7u hb3
 have hy3:=hb3.size
 have hx2:w.heap.size+2<w2.heap.size:=by omega
 have hx3:w.heap.size+2<w3.heap.size:=by omega
 go_wp2_with (first|(go_at_call 114;refine(qb0 _ _).mono ?_;rintro e w' ⟨rfl,rfl⟩)|(go_at_call 115;refine(qfv _ _).mono ?_;rintro e w' ⟨rfl,rfl⟩))
 exact bodyPost_ret (v:=.tuple #[.agg #[.int .i64 0,.int .i64 0,.int .i64 0,.int .i64 0,.int .i64 0,.int .i64 0],.int .i64 1]) (by simp[results,Tryz.results67,go_sem,hc1,hc2,hc3,hz3,hx2,hx3]) rfl ⟨rfl,(set6 (up (up (up3 hb1) hb2) hb3) (by omega) _ _ _ _ _ _).alloc (by simp;omega) _⟩

end
end Go.Proofs.YtlojfgdpmaigmafGreatDoor
