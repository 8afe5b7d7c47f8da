/- tree.flush and tree.sink, at whatever node. -/
import Derived.Test.YtlojfgdpmaigmacGreatDoorFlushWalk
import Derived.Test.YtlojfgdpmaigmacGreatDoorSinkInner
import Derived.Test.YtlojfgdpmaigmacGreatDoorP32
import Derived.Test.YtlojfgdpmaigmacGreatDoorP17
import Derived.Test.YtlojfgdpmaigmacGreatDoorP20
import Derived.Test.YtlojfgdpmaigmacGreatDoorP25
namespace Go.Proofs.YtlojfgdpmaigmacGreatDoor
open Go.RowKit Plain Go.Shelf

/-- The contract of sink, for nodes h above the leaves. -/
def SinkC (T base g C n h : Nat) (r : Int) : Prop :=
  ∀ (qs : List PN) (w : World) (p lo hi : Int) (P : List Int) (x : En), NT base w g C qs → qs.length = n → base ≤ w.heap.size → Sub T 4 (qs.map PN.nd) h p lo hi P → P.Nodup → 0 ≤ lo → hi ≤ 1099511627776 → entB x lo hi = true → cntK x.key (cP (qs.map PN.nd) P) + x.c ≤ 1073741824 → (cP (qs.map PN.nd) P).length + 1 ≤ T →
    Calls Tryz.prog 32 #[.agg #[.slice (some ⟨g, 0, none⟩) n C, .int .i64 r], .int .i64 p, .agg #[.int .i64 x.key, .int .i64 x.c, .int .i64 x.s, .int .i64 x.lo, .int .i64 x.hi, .int .i64 x.t, .int .i64 x.l]] w
      fun e w' => e = .returned (.tuple #[]) ∧ ∃ qs', SinkMem base w g C qs w' qs' ∧ SinkOk T (qs.map PN.nd) (qs'.map PN.nd) h p lo hi P x ∧ ∀ n : Nat, (n : Int) ∉ P → qs'[n]? = qs[n]?

theorem nthQ {qs : List PN} {k : Nat} (hk : k < qs.length) : nth (qs.map PN.nd) (k : Int) = (qs[k]).nd := by simp [nth, hk]

theorem cP_le {ns : List Nd} {P Q : List Int} (h : ∃ A B, P = A ++ Q ++ B) (k : Int) (hp : Pos (cP ns P)) : cntK k (cP ns Q) ≤ cntK k (cP ns P) ∧ (cP ns Q).length ≤ (cP ns P).length := by
  obtain ⟨A, B, rfl⟩ := h
  rw [cP_append, cP_append] at hp ⊢
  have h1 := cntK_nn (k := k) hp.left.left
  have h2 := cntK_nn (k := k) hp.right
  rw [cntK_append, cntK_append]
  exact ⟨by omega, by simp; omega⟩

theorem set_nd {qs : List PN} {k : Nat} (hk : k < qs.length) (l : List En) (A' : Option Addr) (C' : Nat) : (qs.set k { qs[k] with buf := l, bA := A', bC := C' }).map PN.nd = (qs.map PN.nd).set (k : Int).toNat { nth (qs.map PN.nd) (k : Int) with buf := l } := by
  rw [List.map_set, nthQ hk]
  rfl

/-- What goes on to a kid: of a node whose kids are as they were. -/
theorem kid_call {T base g C n h : Nat} {r : Int} (hS : SinkC T base g C n h r) {qs : List PN} {w : World} {k : Nat} {lo hi : Int} {P : List Int} {x : En} (hT : NT base w g C qs) (hn : qs.length = n) (hB : base ≤ w.heap.size) (hs : Sub T 4 (qs.map PN.nd) (h + 1) (k : Int) lo hi P) (hP : P.Nodup) (hlo : 0 ≤ lo) (hhi : hi ≤ 1099511627776) (hx : entB x lo hi = true) (hc : cntK x.key (cP (qs.map PN.nd) P) + x.c ≤ 1073741824) (hl : (cP (qs.map PN.nd) P).length + 1 ≤ T) :
    Calls Tryz.prog 32 #[.agg #[.slice (some ⟨g, 0, none⟩) n C, .int .i64 r], .int .i64 ((nth (qs.map PN.nd) (k : Int)).kids.getD (kidI (nth (qs.map PN.nd) (k : Int)).keys x.key) 0), .agg #[.int .i64 x.key, .int .i64 x.c, .int .i64 x.s, .int .i64 x.lo, .int .i64 x.hi, .int .i64 x.t, .int .i64 x.l]] w
      fun e w' => e = .returned (.tuple #[]) ∧ ∃ qs', SinkMem base w g C qs w' qs' ∧ SinkOk T (qs.map PN.nd) (qs'.map PN.nd) (h + 1) (k : Int) lo hi P x ∧ nth (qs'.map PN.nd) (k : Int) = nth (qs.map PN.nd) (k : Int) ∧ (∀ n : Nat, (n : Int) ∉ P → qs'[n]? = qs[n]?) ∧ qs'[k]? = qs[k]? := by
  obtain ⟨⟨hx1, hx2⟩, hxg⟩ := entB_iff.1 hx
  obtain ⟨l, u, Qa, Qd, Qb, c1, hPe, c3, c4, c5, c6, c7, c8, c9, c10⟩ := Sub_pick hs hP hx1 hx2
  have hsub : ∃ A B, P = A ++ Qd ++ B := ⟨(k : Int) :: Qa, Qb, by rw [hPe]; simp⟩
  obtain ⟨q1, q2⟩ := cP_le hsub x.key (Sub_pos hs)
  refine (hS qs w _ l u Qd x hT hn hB c3 c6 (by omega) (by omega) (entB_iff.2 ⟨⟨c4, c5⟩, hxg⟩) (by omega) (by omega)).mono ?_
  rintro e w' ⟨rfl, qs', hm, hok, hpn⟩
  exact ⟨rfl, qs', hm, kid_sink hs hPe hP c10 hok, hok.same _ c7 (by omega), fun n hn => hpn n (fun e => hn (by rw [hPe]; simp [e])), hpn k c7⟩

theorem down_refl {T h : Nat} {ns : List Nd} {p lo hi : Int} {P : List Int} (hs : Sub T 4 ns (h + 1) p lo hi P) : DownOk T ns ns h p lo hi P [] :=
  ⟨hs, rfl, fun _ _ _ => rfl, by rw [List.nil_append]; exact Eqv.refl (Sub_pos hs), by simp, rfl, rfl⟩

theorem down_sink {T h : Nat} {ns ns1 ns2 : List Nd} {p lo hi : Int} {P : List Int} {x : En} (hd : DownOk T ns ns1 h p lo hi P []) (hk : SinkOk T ns1 ns2 (h + 1) p lo hi P x) : SinkOk T ns ns2 (h + 1) p lo hi P x := by
  have he := hd.eqv
  have hf := hd.few
  have hx : Pos [x] := fun y hy => hk.eqv.posl y (by simp at hy; simp [hy])
  rw [List.nil_append] at he
  refine ⟨hk.sub, hk.len.trans hd.len, fun n h1 h2 => (hk.same n h1 h2).trans (hd.same n h1 h2), (he.app_left hx).trans hk.eqv, ?_⟩
  have := hk.few
  simp at hf
  omega

theorem down_cnt {T h : Nat} {ns ns1 : List Nd} {p lo hi : Int} {P : List Int} {rest : List En} {x : En} (hd : DownOk T ns ns1 h p lo hi P rest) : cntK x.key (cP ns P) = cntK x.key rest + cntK x.key (cP ns1 P) := by
  rw [hd.eqv.cnt, cntK_append]

theorem flush_any {T base g C n h : Nat} {r : Int} (hS : SinkC T base g C n h r) {qs : List PN} {w : World} {k : Nat} {lo hi : Int} {P : List Int} (hT : NT base w g C qs) (hn : qs.length = n) (hB : base ≤ w.heap.size) (hk : k < n) (hs : Sub T 4 (qs.map PN.nd) (h + 1) (k : Int) lo hi P) (hP : P.Nodup) (hh : h + 1 < 12) (hlo : 0 ≤ lo) (hhi : hi ≤ 1099511627776) (hl : (cP (qs.map PN.nd) P).length ≤ T) :
    Calls Tryz.prog 68 #[.agg #[.slice (some ⟨g, 0, none⟩) n C, .int .i64 r], .int .i64 (k : Int)] w
      fun e w' => e = .returned (.tuple #[]) ∧ ∃ qs', SinkMem base w g C qs w' qs' ∧ DownOk T (qs.map PN.nd) (qs'.map PN.nd) h (k : Int) lo hi P [] ∧ ∀ n : Nat, (n : Int) ∉ P → qs'[n]? = qs[n]? := by
  subst hn
  have hnth := nthQ hk
  have hs0 := hs
  obtain ⟨hr, Q, hPQ, hin⟩ := hs
  rw [hnth] at hin
  have hreach := Sub_reach (h + 1) 12 _ _ _ _ hs0 hh
  have ho := hT.each _ (List.getElem_mem hk)
  have hat := hT.node hk
  have hents : entsB (qs[k]).buf lo hi = true := hin.buf
  have hkl : (qs[k]).keys.length + 1 = (qs[k]).kids.length := hin.keys
  have hk4 : (qs[k]).kids.length ≤ 4 := hin.most
  have hk2 : 2 ≤ (qs[k]).kids.length := hin.two
  have hrise : (qs[k]).keys.Pairwise (· < ·) := (keys_rise (Sub_lt h) hin.keys hin.kids).1
  have hkne : (qs[k]).keys ≠ [] := fun e => by rw [e] at hkl; simp at hkl; omega
  have hks : (qs[k]).keys.Pairwise (· ≤ ·) := hrise.imp fun {a b} h => by omega
  have hkidlt : ∀ x ∈ (qs[k]).buf, kidI (qs[k]).keys x.key < (qs[k]).kids.length := by
    intro x hx
    rw [kidI_eq hrise]
    have hb := (entsB_lt hents).1 x hx
    obtain ⟨_, _, _, _, _, c1, _⟩ := SubK_pick (Sub_lt h) hin.keys hin.kids hb.1 hb.2
    exact c1
  refine flush_core (T := T) (h := h) base g C qs.length qs (qs[k]).kids lo hi P r k (qs[k]).leaf (qs[k]).eA (qs[k]).ents.length (qs[k]).eC (qs[k]).kA (qs[k]).keys.length (qs[k]).kC (qs[k]).dA (qs[k]).kids.length (qs[k]).dC (qs[k]).bA (qs[k]).bC (qs[k]).buf (fun key => kidI (qs[k]).keys key) (fun key => stB (qs.map PN.nd) (k : Int) key) w hT.glt.2 hk hat.c0 hat.c1 hat.c2 hat.c3 hat.c4 (own_ok ho.b).1 hin.few ?_ ?_ ?_ rfl (by rw [hPQ]; simp) hB hT ?_ ?_ ?_ hkidlt ?_
  · exact fun W hW x hx => stuck_any (some ⟨g, 0, none⟩) C r (k : Int) x.key qs W ((hT.below hW (Nat.le_refl _)).nodes) hreach (by have := (entsB_lt hents).1 x hx; omega) _ rfl
  · exact fun W hW x => kidOf_any (qs[k]) x.key W ((own_ok ho.k).1.up hW) hkne ho.kz hks
  · exact fun x hx => Nat.lt_of_lt_of_le (hkidlt x hx) hk4
  · exact ⟨qs[k], List.getElem?_eq_getElem hk, rfl, rfl⟩
  · intro f
    have := down_start hs0 hP f
    rw [hnth] at this ⊢
    exact this
  · intro ns' rest hd
    rw [hd.kids, hnth]
    rfl
  · intro qs' wr x rest hT' hn' hB' hd hxb hst
    have hx : entB x lo hi = true := entB_iff.2 ⟨(entsB_lt hents).1 x hxb, entsB_good hents x hxb⟩
    have hmost : cntK x.key (cP (qs.map PN.nd) P) ≤ 1073741824 := by
      obtain ⟨a, b⟩ := known_cnt (k := x.key) hs0 hh rfl
      have h0 : ((Wl (qs.map PN.nd) x.key (x.key + 1) 12 (k : Int)).foldl stepK (zro, 0)).2 = 0 := by simpa [stB] using hst
      rw [← b h0]
      exact inv_most a h0
    have hc := down_cnt (x := x) hd
    have hposr : Pos rest := fun y hy => hd.eqv.posm y (by simp [hy])
    have hc2 := cntK_nn (k := x.key) hposr
    rw [cntK, if_pos rfl] at hc
    have hf := hd.few
    simp only [List.length_cons] at hf
    have hcall := kid_call hS hT' hn' hB' hd.sub hP hlo hhi hx (by omega) (by omega)
    rw [hd.keys, hd.kids, hnth] at hcall
    refine hcall.mono ?_
    rintro e w' ⟨rfl, qs'', hm, hok, hsame, hpn, _⟩
    exact ⟨rfl, qs'', hm, down_step hd hok (by rw [hsame]) (by rw [hsame]), hpn⟩

theorem sink_all {T base g C n : Nat} {r : Int} (hz : T * 56 ≤ 140737488351232) : ∀ h, h < 12 → SinkC T base g C n h r
  | 0, _ => by
    intro qs w p lo hi P x hT hn hB hs hP hlo hhi hx hc hl
    subst hn
    have hr := hs.1
    obtain ⟨k, rfl⟩ : ∃ k : Nat, p = k := ⟨p.toNat, by omega⟩
    have hk : k < qs.length := by have := hr.2.1; simp at this; omega
    have hnth := nthQ hk
    have hlf := hs.2.2
    rw [hnth] at hlf
    have hle : (qs[k]).ents.length + 1 ≤ T := by
      obtain ⟨_, rfl, _⟩ := hs
      have e : cP (qs.map PN.nd) [(k : Int)] = (qs[k]).buf ++ (qs[k]).ents := by simp [cP, cont, hnth, PN.nd]
      rw [e] at hl
      simp at hl
      omega
    refine (sink_leaf base g C qs r k (qs[k]) x w hT hk rfl hlf.leaf (entsB_lt hlf.ents).2 (by omega) hB).mono ?_
    rintro e w' ⟨A', C', rfl, hm⟩
    refine ⟨rfl, _, hm, ?_, fun n hn => List.getElem?_set_ne (fun e => hn ?_)⟩
    · have := leaf_sink hs hx hc hl
      rw [hnth] at this
      rw [List.map_set]
      exact this
    · rw [hs.2.1, e]
      simp
  | h + 1, hh => by
    intro qs w p lo hi P x hT hn hB hs hP hlo hhi hx hc hl
    have ih := sink_all (base := base) (g := g) (C := C) (n := n) (r := r) hz h (by omega)
    subst hn
    have hr := hs.1
    obtain ⟨k, rfl⟩ : ∃ k : Nat, p = k := ⟨p.toNat, by omega⟩
    have hk : k < qs.length := by have := hr.2.1; simp at this; omega
    have hnth := nthQ hk
    have hin : InnOk 4 (Sub T 4 (qs.map PN.nd) h) (qs[k]).nd lo hi P.tail := by
      obtain ⟨_, Q, rfl, hin⟩ := hs
      rw [hnth] at hin
      exact hin
    have hrise : (qs[k]).keys.Pairwise (· < ·) := (keys_rise (Sub_lt h) hin.keys hin.kids).1
    obtain ⟨⟨hx1, hx2⟩, hxg⟩ := entB_iff.1 hx
    have hkd : kidI (qs[k]).keys x.key < (qs[k]).kids.length := by
      rw [kidI_eq hrise]
      obtain ⟨_, _, _, _, _, c1, _⟩ := SubK_pick (Sub_lt h) hin.keys hin.kids hx1 hx2
      exact c1
    have hcnt : ∀ {ns1 : List Nd}, DownOk T (qs.map PN.nd) ns1 h (k : Int) lo hi P [] → cntK x.key (cP ns1 P) + x.c ≤ 1073741824 ∧ (cP ns1 P).length + 1 ≤ T := fun {ns1} hd => by
      have h1 := down_cnt (x := x) hd
      have h2 := hd.few
      simp only [cntK, List.length_nil] at h1 h2
      exact ⟨by omega, by omega⟩
    have hnode : ∀ {qs1 : List PN} (_ : DownOk T (qs.map PN.nd) (qs1.map PN.nd) h (k : Int) lo hi P []) (h1 : k < qs1.length), InnOk 4 (Sub T 4 (qs1.map PN.nd) h) (qs1[k]).nd lo hi P.tail ∧ (qs1[k]).keys = (qs[k]).keys ∧ (qs1[k]).kids = (qs[k]).kids := fun {qs1} hd h1 => by
      have e := nthQ h1
      refine ⟨?_, ?_, ?_⟩
      · obtain ⟨_, Q, rfl, hin2⟩ := hd.sub
        rw [e] at hin2
        exact hin2
      · have := hd.keys; rw [e, hnth] at this; exact this
      · have := hd.kids; rw [e, hnth] at this; exact this
    refine sink_inner base g C qs r k x w (fun qs1 => DownOk T (qs.map PN.nd) (qs1.map PN.nd) h (k : Int) lo hi P [] ∧ ∀ n : Nat, (n : Int) ∉ P → qs1[n]? = qs[n]?) (fun qs' => SinkOk T (qs.map PN.nd) (qs'.map PN.nd) (h + 1) (k : Int) lo hi P x ∧ ∀ n : Nat, (n : Int) ∉ P → qs'[n]? = qs[n]?) (qs[k]).kids (kidI (qs[k]).keys x.key) hT hk hin.leaf hB hkd ⟨down_refl hs, fun _ _ => rfl⟩ ?_ ?_ ?_ ?_ ?_
    · intro qs1 _ ⟨hd, _⟩ h1
      obtain ⟨a, b, c⟩ := hnode hd h1
      exact ⟨(entsB_lt a.buf).2, a.few, c⟩
    · intro W hW hBW
      exact flush_any ih hW rfl hBW hk hs hP hh hlo hhi (by omega)
    · intro qs1 hl1 ⟨hd, hpn⟩ h1 A' C' hw
      obtain ⟨a, b⟩ := hcnt hd
      have hw' : hasK (nth (qs1.map PN.nd) (k : Int)).buf x.key = true ∨ (nth (qs1.map PN.nd) (k : Int)).buf.length < 8 := by
        rw [nthQ h1]
        have : hasK (qs1[k]).buf x.key = true ∨ (qs1[k]).buf.length < 8 := by simpa using hw
        exact this
      have := down_sink hd (buf_sink hd.sub hP hx a hw')
      refine ⟨?_, fun n hn => (List.getElem?_set_ne (fun e => hn ?_)).trans (hpn n hn)⟩
      · rw [set_nd h1]
        rw [nthQ h1] at this ⊢
        exact this
      · obtain ⟨_, Q, hPQ, _⟩ := hs
        rw [hPQ, e]
        simp
    · intro qs1 W hl1 ⟨hd, _⟩ h1 hW
      obtain ⟨a, b, c⟩ := hnode hd h1
      have hr1 : (qs1[k]).keys.Pairwise (· < ·) := by rw [b]; exact hrise
      have hkl : (qs1[k]).keys.length + 1 = (qs1[k]).kids.length := a.keys
      have hk2 : 2 ≤ (qs1[k]).kids.length := a.two
      have ho := hW.each _ (List.getElem_mem h1)
      have := kidOf_any (qs1[k]) x.key W (own_ok ho.k).1 (fun e => by rw [e] at hkl; simp at hkl; omega) ho.kz (hr1.imp fun {a b} h => by omega)
      rw [b] at this
      rw [b]
      exact this
    · intro qs1 W hl1 ⟨hd, hpn⟩ hW hBW
      have h1 : k < qs1.length := by omega
      obtain ⟨a, b⟩ := hcnt hd
      have hcall := kid_call ih hW hl1 hBW hd.sub hP hlo hhi hx a b
      rw [hd.keys, hd.kids, hnth] at hcall
      refine hcall.mono ?_
      rintro e w' ⟨rfl, qs2, hm, hok, _, hpn2, hkk⟩
      exact ⟨rfl, qs2, hm, ⟨down_sink hd hok, fun n hn => (hpn2 n hn).trans (hpn n hn)⟩, hkk⟩

end Go.Proofs.YtlojfgdpmaigmacGreatDoor

/- A node of a tree in memory of one's own adopts the siblings of a kid. -/
namespace Go.Proofs.YtlojfgdpmaigmacGreatDoor
open Go.RowKit Plain

theorem own_split {w : World} {base g C n : Nat} {e : TypeId} {size : Nat} {vs : List Value} (h : w.ownsRow base e size (.slice (some ⟨g, 0, none⟩) n C) n vs) : ∃ cur : List Value, RowL w g e cur ∧ cur.length = C * size ∧ cur.take (n * size) = vs ∧ n ≤ C ∧ C ≤ maxLen ∧ base ≤ g := by
  rcases h.2 with ⟨hv, _⟩ | ⟨g', cap, cur, hv, hb, hg, hl, hm, hs, ht⟩
  · cases hv
  · cases hv
    exact ⟨cur.toList, by unfold RowL; rw [hg], by simpa using hs, ht, hl, hm, hb⟩

theorem own_glue {w : World} {base g C n : Nat} {e : TypeId} {size : Nat} {vs cur : List Value} (hr : RowL w g e cur) (hl : cur.length = C * size) (ht : cur.take (n * size) = vs) (hn : n ≤ C) (hm : C ≤ maxLen) (hb : base ≤ g) (hv : vs.length = n * size) : w.ownsRow base e size (.slice (some ⟨g, 0, none⟩) n C) n vs :=
  ⟨hv, .inr ⟨g, C, cur.toArray, rfl, hb, hr, hn, hm, by simpa using hl, by simpa using ht⟩⟩

theorem keysAt_all (keys : List Int) (i : Nat) (more : List (Int × Int)) : keysAt keys i more more.length = keys.take i ++ more.map (·.1) ++ keys.drop i := by unfold keysAt; rw [List.take_length]
theorem kidsAt_all (kids : List Int) (i : Nat) (more : List (Int × Int)) : kidsAt kids i more more.length = kids.take (i + 1) ++ more.map (·.2) ++ kids.drop (i + 1) := by unfold kidsAt; rw [List.take_length]

theorem nodup_swap2 {B : Nat} {E K D K' D' X : List Nat} (h : (E ++ (K ++ (D ++ X))).Nodup) (hK : K'.Nodup) (hD : D'.Nodup) (hKD : ∀ b ∈ K', b ∉ D') (hk : ∀ b ∈ K', b ∈ K ∨ B ≤ b) (hd : ∀ b ∈ D', b ∈ D ∨ B ≤ b) (hlt : ∀ b ∈ E ++ (K ++ (D ++ X)), b < B) : (E ++ (K' ++ (D' ++ X))).Nodup := by
  simp only [List.nodup_append, List.mem_append] at h hlt ⊢
  obtain ⟨hE, ⟨_, ⟨_, hX, hDX⟩, hKDX⟩, hEK⟩ := h
  refine ⟨hE, ⟨hK, ⟨hD, hX, fun a ha b hb e => ?_⟩, fun a ha b hb e => ?_⟩, fun a ha b hb e => ?_⟩
  · rcases hd a ha with q | q
    · exact hDX a q b hb e
    · have := hlt b (.inr (.inr (.inr hb))); omega
  · rcases hb with hb | hb
    · exact hKD a ha (e ▸ hb)
    · rcases hk a ha with q | q
      · exact hKDX a q b (.inr hb) e
      · have := hlt b (.inr (.inr (.inr hb))); omega
  · rcases hb with hb | hb | hb
    · rcases hk b hb with q | q
      · exact hEK a ha b (.inl q) e
      · have := hlt a (.inl ha); omega
    · rcases hd b hb with q | q
      · exact hEK a ha b (.inr (.inl q)) e
      · have := hlt a (.inl ha); omega
    · exact hEK a ha b (.inr (.inr hb)) e

theorem adoptT (base tb g C : Nat) (qs : List PN) (root : Int) (k i : Nat) (mA : Option Addr) (mC : Nat) (more : List (Int × Int)) (w : World) (hT : TB base w tb g C qs root) (hk : k < qs.length) (hi : i < (qs[k]).kids.length) (hkl : (qs[k]).keys.length + 1 = (qs[k]).kids.length) (hB : base ≤ w.heap.size) (hm : RowAt w.heap.size w mA (flatS more)) (hmb : ∀ a, mA = some a → a.block ∉ feet g qs) (hz : ((qs[k]).kids.length + more.length + 1) * 8 ≤ 140737488351232) :
    Calls Tryz.prog 71 #[.pointer (some ⟨g, k * 5, none⟩), .int .i64 (i : Int), .slice mA more.length mC] w
      fun e w' => e = .returned (.tuple #[]) ∧ ∃ qs', TB base w' tb g C qs' root ∧ qs'.map PN.nd = adoptAt (qs.map PN.nd) (k : Int) i more ∧ qs'.length = qs.length ∧ Kept (feet g qs) w w' ∧ ∀ b ∈ feet g qs', b ∈ feet g qs ∨ w.heap.size ≤ b := by
  obtain ⟨b1, b2, b3, b4⟩ := hT.nt.blocks_nodup hk
  have ho := hT.nt.each _ (List.getElem_mem hk)
  have hlt := ho.lt
  have hfl := hT.nt.lt
  have hx := nth_map hk
  obtain ⟨cur, hrow, hcl, hct, hnC, hCm, hbg⟩ := own_split hT.nt.own
  obtain ⟨q, hq⟩ : ∃ q, qs[k] = q := ⟨_, rfl⟩
  have hcell : ∀ j, j < 5 → ∀ u, q.vals[j]? = some u → cur[k * 5 + j]? = some u := fun j hj u hu => by
    have := flatN_get qs k j hk hj
    rw [← hct, List.getElem?_take, if_pos (by omega), hq] at this
    rw [this]; exact hu
  rw [hq] at b1 b2 b3 b4 ho hlt hi hkl hz hx
  have hbe := blocks_eq q
  have hset2 : cur.set (k * 5 + 2) (.slice q.kA q.keys.length q.kC) = cur := by
    have h := hcell 2 (by decide) _ rfl
    obtain ⟨h1, h2⟩ := List.getElem?_eq_some_iff.1 h
    rw [← h2, List.set_getElem_self]
  have hset3 : cur.set (k * 5 + 3) (.slice q.dA q.kids.length q.dC) = cur := by
    have h := hcell 3 (by decide) _ rfl
    obtain ⟨h1, h2⟩ := List.getElem?_eq_some_iff.1 h
    rw [← h2, List.set_getElem_self]
  have hgk : g ∉ obk q.kA := fun e => b3 (by rw [hbe]; simp [e])
  have hgd : g ∉ obk q.dA := fun e => b3 (by rw [hbe]; simp [e])
  have hkd : ∀ b ∈ obk q.kA, b ∉ obk q.dA := fun b h1 h2 => by
    rw [hbe] at b1
    simp only [List.nodup_append, List.mem_append] at b1
    exact b1.2.1.2.2 b h1 b (.inl h2) rfl
  have hA : AdAt base w g (k * 5) 84 cur q.kA q.dA w q.kA q.kC q.keys q.dA q.dC q.kids :=
    ⟨by rw [hset2, hset3]; exact hrow, ho.k, ho.d, Kept.refl _ _, fun _ h => .inl h, fun _ h => .inl h, hkd, hgk, hgd⟩
  refine (adopt_any base g (k * 5) 84 cur q.kA q.kC q.keys q.dA q.dC q.kids i mA mC more w hA (by rw [hcl]; omega) hB hm (fun a ha => ?_) (by omega) (by omega) (by omega) hz).mono ?_
  · have := hmb a ha
    intro e
    simp only [List.cons_append, List.mem_cons, List.mem_append] at e
    rcases e with e | e | e
    · exact this (e ▸ List.mem_cons_self)
    · exact this (b2 _ (by rw [hbe]; simp [e]))
    · exact this (b2 _ (by rw [hbe]; simp [e]))
  · rintro e w' ⟨rfl, kA', kC', dA', dC', hA'⟩
    rw [keysAt_all, kidsAt_all] at hA'
    have hkl' : (q.keys.take i ++ more.map (·.1) ++ q.keys.drop i).length = q.keys.length + more.length := by simp; omega
    have hdl' : (q.kids.take (i + 1) ++ more.map (·.2) ++ q.kids.drop (i + 1)).length = q.kids.length + more.length := by simp; omega
    generalize hK : q.keys.take i ++ more.map (·.1) ++ q.keys.drop i = keys' at hA' hkl'
    generalize hD : q.kids.take (i + 1) ++ more.map (·.2) ++ q.kids.drop (i + 1) = kids' at hA' hdl'
    obtain ⟨p, hp⟩ : ∃ p : PN, p = { q with keys := keys', kA := kA', kC := kC', kids := kids', dA := dA', dC := dC' } := ⟨_, rfl⟩
    have hpb : p.blocks = obk q.eA ++ (obk kA' ++ (obk dA' ++ obk q.bA)) := by rw [blocks_eq, hp]
    have hblk : ∀ b ∈ p.blocks, b ∈ q.blocks ∨ w.heap.size ≤ b := by
      intro b hb
      rw [hpb] at hb
      rw [hbe]
      simp only [List.mem_append] at hb ⊢
      rcases hb with e | e | e | e
      · exact .inl (.inl e)
      · rcases hA'.lk b e with e | e
        · exact .inl (.inr (.inl e))
        · exact .inr e
      · rcases hA'.ld b e with e | e
        · exact .inl (.inr (.inr (.inl e)))
        · exact .inr e
      · exact .inl (.inr (.inr (.inr e)))
    have hnd : p.blocks.Nodup := by
      rw [hpb]
      rw [hbe] at b1 hlt
      exact nodup_swap2 b1 (obk_nodup _) (obk_nodup _) hA'.ne hA'.lk hA'.ld (fun b hb => (hlt b hb).2)
    obtain ⟨f1, f2⟩ := feet_turn (p := p) (B := w.heap.size) hk hT.nt.apart hnd (fun b hb => (hfl b hb).2) (by rw [hq]; exact hblk)
    have hfar : ∀ b, b ∈ feet g qs → b ≠ g → b ∉ obk q.kA → b ∉ obk q.dA → w'.heap[b]? = w.heap[b]? := fun b h1 h2 h3 h4 => hA'.kept.block b (hfl b h1).2 (by simp [h2, h3, h4])
    have hkept : Kept (feet g qs) w w' := hA'.kept.mono fun b hb => by
      simp only [List.cons_append, List.mem_cons, List.mem_append] at hb
      rcases hb with rfl | e | e
      · exact List.mem_cons_self
      · exact b2 _ (by rw [hbe]; simp [e])
      · exact b2 _ (by rw [hbe]; simp [e])
    have hgn : ∀ b ∈ q.blocks, b ≠ g := fun b hb e => b3 (e ▸ hb)
    refine ⟨rfl, qs.set k p, ⟨⟨?_, fun s hs => ?_, f1, by simpa using hT.nt.z⟩, ?_, ?_, hT.hb⟩, ?_, by simp, hkept, f2⟩
    · have e1 : p.vals = (q.vals.set 2 (.slice kA' keys'.length kC')).set 3 (.slice dA' kids'.length dC') := by rw [hp]; rfl
      have e2 : flatN (qs.set k p) = ((flatN qs).set (k * 5 + 2) (.slice kA' keys'.length kC')).set (k * 5 + 3) (.slice dA' kids'.length dC') := by
        obtain ⟨p1, hp1⟩ : ∃ p1 : PN, p1 = { q with keys := keys', kA := kA', kC := kC' } := ⟨_, rfl⟩
        have s1 := flatN_setF qs k 2 (.slice kA' keys'.length kC') p1 hk (by decide) (by rw [hq, hp1]; rfl)
        have s2 := flatN_setF (qs.set k p1) k 3 (.slice dA' kids'.length dC') p (by simpa using hk) (by decide) (by rw [List.getElem_set_self, hp, hp1]; rfl)
        rw [s1, s2, List.set_set]
      rw [e2, List.length_set]
      refine own_glue hA'.row (by simp [hcl]) ?_ hnC hCm hbg (by simp [flatN_length])
      rw [List.take_set, List.take_set, hct]
    · rw [(set_split qs k p hk).2] at hs
      have hs' : s ∈ qs.take k ++ qs.drop (k + 1) ∨ s = p := by
        simp only [List.mem_append, List.mem_cons] at hs ⊢
        rcases hs with e | e | e
        · exact .inl (.inl e)
        · exact .inr e
        · exact .inl (.inr e)
      rcases hs' with hs' | rfl
      · have hsm : s ∈ qs := by
          rcases List.mem_append.1 hs' with e | e
          · exact List.mem_of_mem_take e
          · exact List.mem_of_mem_drop e
        refine (hT.nt.each s hsm).of_blocks fun b hbs => ?_
        have hbf : b ∈ feet g qs := List.mem_cons_of_mem _ (List.mem_flatMap.2 ⟨s, hsm, hbs⟩)
        have hbg' : b ≠ g := fun e => by
          have ha := hT.nt.apart
          rw [feet, List.nodup_cons] at ha
          exact ha.1 (List.mem_flatMap.2 ⟨s, hsm, e ▸ hbs⟩)
        have hbq := b4 s hs' b hbs
        rw [hbe] at hbq
        simp only [List.mem_append, not_or] at hbq
        exact hfar b hbf hbg' hbq.2.1 hbq.2.2.1
      · have hrest : ∀ b, b ∈ obk q.eA ∨ b ∈ obk q.bA → w'.heap[b]? = w.heap[b]? := fun b hb => by
          have hbq : b ∈ q.blocks := by rw [hbe]; rcases hb with e | e <;> simp [e]
          rw [hbe] at b1
          simp only [List.nodup_append, List.mem_append] at b1
          refine hfar b (b2 b hbq) (hgn b hbq) (fun e => ?_) (fun e => ?_)
          · rcases hb with q1 | q1
            · exact b1.2.2 b q1 b (.inl e) rfl
            · exact b1.2.1.2.2 b e b (.inr q1) rfl
          · rcases hb with q1 | q1
            · exact b1.2.2 b q1 b (.inr (.inl e)) rfl
            · exact b1.2.1.2.1.2.2 b e b q1 rfl
        rw [hp]
        exact ⟨own_of_block ho.e fun b hb => hrest b (.inl (obk_of hb)), hA'.ok, hA'.od, own_of_block ho.b fun b hb => hrest b (.inr (obk_of hb)), ho.ez, by show keys'.length * 8 ≤ _; omega, by show kids'.length * 8 ≤ _; omega, ho.bz⟩
    · rw [List.length_set]
      exact hkept.row hT.box (fun e => hT.ne e)
    · intro e
      rcases f2 _ e with e | e
      · exact hT.ne e
      · have := hT.box.lt; omega
    · rw [List.map_set]
      unfold adoptAt
      rw [hx]
      show (qs.map PN.nd).set k p.nd = (qs.map PN.nd).set ((k : Int).toNat) (adoptN q.nd i more)
      congr 1
      rw [hp]
      unfold adoptN PN.nd
      simp only
      rw [hK, hD]

end Go.Proofs.YtlojfgdpmaigmacGreatDoor

/- The walk of splitAll. -/
namespace Go.Proofs.YtlojfgdpmaigmacGreatDoor
open Go.RowKit Plain

theorem own_base' {w : World} {base base' : Nat} {e : TypeId} {size n : Nat} {v : Value} {vs : List Value} (h : w.ownsRow base e size v n vs) (hb : base' ≤ base) : w.ownsRow base' e size v n vs := by
  refine ⟨h.1, ?_⟩
  rcases h.2 with q | ⟨g, cap, cur, h1, h2, rest⟩
  · exact .inl q
  · exact .inr ⟨g, cap, cur, h1, Nat.le_trans hb h2, rest⟩

theorem splitN_len (ns : List Nd) (p : Int) : ns.length ≤ (splitN ns p).1.length := by
  unfold splitN
  split
  · exact Nat.le_refl _
  · simp

theorem kidsN_len {rec : List Nd → Int → List Nd × List (Int × Int)} (hr : ∀ ns p, ns.length ≤ (rec ns p).1.length) (p : Int) : ∀ (i : Nat) (ns : List Nd), ns.length ≤ (kidsN rec p i ns).length
  | 0, _ => Nat.le_refl _
  | i + 1, ns => by
    rw [kidsN]
    refine Nat.le_trans ?_ (kidsN_len hr p i _)
    simpa [adoptAt] using hr ns _

theorem splitAllN_len : ∀ (h : Nat) (ns : List Nd) (p : Int), ns.length ≤ (splitAllN h ns p).1.length
  | 0, ns, p => splitN_len ns p
  | h + 1, ns, p => Nat.le_trans (kidsN_len (splitAllN_len h) p _ ns) (splitN_len _ p)

/-- Where the loop of splitAll begins a round: kids from i on have their siblings. -/
structure SaAt (mL : Nat) (base : Nat) (w wr : World) (tb g : Nat) (qs : List PN) (root : Int) (h k : Nat) (lo hi : Int) (P : List Int) (i : Nat) (g' C' : Nat) (qs' : List PN) : Prop where
  tree : TB base wr tb g' C' qs' root
  kept : Kept (tb :: feet g qs) w wr
  old : ∀ b ∈ feet g' qs', b ∈ feet g qs ∨ w.heap.size ≤ b
  ok : KidsOk mL (qs.map PN.nd) (qs'.map PN.nd) h (k : Int) lo hi P (nth (qs.map PN.nd) (k : Int)) i
  fin : kidsN (splitAllN h) (k : Int) i (qs'.map PN.nd) = kidsN (splitAllN h) (k : Int) (nth (qs.map PN.nd) (k : Int)).kids.length (qs.map PN.nd)

theorem SubK_len {g : Rel} (hg : ∀ d lo hi Q, g d lo hi Q → Q ≠ []) : ∀ {L : List (Int × Int)} {lo : Int} {Q : List Int}, SubK g lo L Q → L.length ≤ Q.length
  | [], _, _, _ => Nat.zero_le _
  | (d, u) :: r, lo, Q, h => by
    obtain ⟨Q1, Q2, rfl, h1, h2⟩ := h
    have a := hg _ _ _ _ h1
    have b := SubK_len hg h2
    have c : 1 ≤ Q1.length := by cases Q1 with | nil => exact absurd rfl a | cons => simp
    simp
    omega

theorem Sub_ne {mL mK : Nat} {ns : List Nd} : ∀ (h : Nat) (d lo hi : Int) (Q : List Int), Sub mL mK ns h d lo hi Q → Q ≠ []
  | 0, _, _, _, _, h => by rw [h.2.1]; simp
  | _ + 1, _, _, _, _, h => by obtain ⟨_, Q, rfl, _⟩ := h; simp

/-- The node, where the loop stands. -/
theorem SaAt.node {mL base : Nat} {w wr : World} {tb g : Nat} {qs : List PN} {root : Int} {h k : Nat} {lo hi : Int} {P : List Int} {i g' C' : Nat} {qs' : List PN} (H : SaAt mL base w wr tb g qs root h k lo hi P i g' C' qs') (hk : k < qs.length) (hP : P.Nodup) (hPr : ∀ n ∈ P, 0 ≤ n ∧ n < ((qs.map PN.nd).length : Int)) :
    ∃ h' : k < qs'.length, (qs'[k]).keys.length + 1 = (qs'[k]).kids.length ∧ (nth (qs.map PN.nd) (k : Int)).kids.length ≤ (qs'[k]).kids.length ∧ (qs'[k]).kids.length ≤ qs'.length := by
  have hle := H.ok.le
  simp only [List.length_map] at hle
  have hk' : k < qs'.length := by omega
  obtain ⟨kids, keys, T, Q1, Q2, hn, hkl, hle2, htk, hU, s1, s2, hpm⟩ := H.ok.at'
  rw [nth_map hk'] at hn
  have e1 : (qs'[k]).kids = kids := congrArg Nd.kids hn
  have e2 : (qs'[k]).keys = keys := congrArg Nd.keys hn
  refine ⟨hk', by rw [e1, e2]; exact hkl, by rw [e1]; exact hle2, ?_⟩
  rw [e1]
  have l1 := SubK_len (Sub_ne h) s1
  have l2 := SubK_len (Sub_ne h) s2
  have l3 : (ups kids keys hi).length = kids.length := by simp [ups]; omega
  rw [hU] at l3
  have l4 := hpm.length_eq
  have l5 : P.length ≤ qs.length := by
    have := nodup_le P (placesF 0 qs.length) hP fun n hn => by
      have := hPr n hn
      simp at this
      exact placesF_mem.2 ⟨by omega, by omega⟩
    rwa [placesF_length] at this
  simp only [List.length_append, List.length_cons, placesF_length, List.length_map] at l3 l4
  omega

set_option maxRecDepth 20000 in
set_option maxHeartbeats 4000000 in
theorem splitAll_step {mL h : Nat} (base tb g C : Nat) (qs : List PN) (root : Int) (k : Nat) (lo hi : Int) (P : List Int) (N : Nat) (w : World) (hT : TB base w tb g C qs root) (hk : k < qs.length) (hB : base ≤ w.heap.size) (hN : N ≤ 999999) (hkn : (nth (qs.map PN.nd) (k : Int)).kids.length ≤ N) (HS0 : Hid (SaAt mL base w w tb g qs root h k lo hi P (nth (qs.map PN.nd) (k : Int)).kids.length g C qs))
    (HNO : Hid (∀ wr i g' C' qs', SaAt mL base w wr tb g qs root h k lo hi P i g' C' qs' → i ≤ (nth (qs.map PN.nd) (k : Int)).kids.length ∧ ∃ h' : k < qs'.length, (qs'[k]).keys.length + 1 = (qs'[k]).kids.length ∧ (nth (qs.map PN.nd) (k : Int)).kids.length ≤ (qs'[k]).kids.length ∧ (qs'[k]).kids.length ≤ N))
    (HRC : Hid (∀ wr i g' C' qs' (_ : SaAt mL base w wr tb g qs root h k lo hi P (i + 1) g' C' qs') (h' : k < qs'.length), Calls Tryz.prog 70 #[.pointer (some ⟨tb, 0, none⟩), .int .i64 ((qs'[k]).kids.getD i 0)] wr fun e w' => ∃ vm g2 C2 qs2, e = .returned vm ∧ GrowTo base wr tb g' qs' root (splitAllN h (qs'.map PN.nd) ((qs'[k]).kids.getD i 0)).1 (splitAllN h (qs'.map PN.nd) ((qs'[k]).kids.getD i 0)).2 w' vm g2 C2 qs2 ∧ (splitAllN h (qs'.map PN.nd) ((qs'[k]).kids.getD i 0)).2.length ≤ N ∧ ∃ h2 : k < qs2.length, (qs2[k]).nd = (qs'[k]).nd))
    (HNX : Hid (∀ (wr w3 : World) (i g' C' : Nat) (qs' : List PN) (g2 C2 : Nat) (qs2 qs3 : List PN) (h' : k < qs'.length), SaAt mL base w wr tb g qs root h k lo hi P (i + 1) g' C' qs' → qs2.map PN.nd = (splitAllN h (qs'.map PN.nd) ((qs'[k]).kids.getD i 0)).1 → qs3.map PN.nd = adoptAt (qs2.map PN.nd) (k : Int) i (splitAllN h (qs'.map PN.nd) ((qs'[k]).kids.getD i 0)).2 → TB base w3 tb g2 C2 qs3 root → Kept (tb :: feet g qs) w w3 → (∀ b ∈ feet g2 qs3, b ∈ feet g qs ∨ w.heap.size ≤ b) → SaAt mL base w w3 tb g qs root h k lo hi P i g2 C2 qs3))
    (HSP : Hid (∀ wr g' C' qs', SaAt mL base w wr tb g qs root h k lo hi P 0 g' C' qs' → Calls Tryz.prog 73 #[.pointer (some ⟨tb, 0, none⟩), .int .i64 (k : Int)] wr fun e w' => ∃ vm g2 C2 qs2, e = .returned vm ∧ GrowTo base w tb g qs root (splitAllN (h + 1) (qs.map PN.nd) k).1 (splitAllN (h + 1) (qs.map PN.nd) k).2 w' vm g2 C2 qs2)) :
    Calls Tryz.prog 70 #[.pointer (some ⟨tb, 0, none⟩), .int .i64 (k : Int)] w
      fun e w' => ∃ vm g' C' qs', e = .returned vm ∧ GrowTo base w tb g qs root (splitAllN (h + 1) (qs.map PN.nd) k).1 (splitAllN (h + 1) (qs.map PN.nd) k).2 w' vm g' C' qs' := by
  have hat := hT.nt.node hk
  have n3 := hat.c3
  have c0 := hT.box.cell 0
  simp only [List.getElem?_cons_zero] at c0
  have i0 : (0 : Int) ≤ (k : Int) := by omega
  have i1 : (k : Int) < (qs.length : Int) := by omega
  have hkk : (qs[k]).kids.length = (nth (qs.map PN.nd) (k : Int)).kids.length := by rw [nth_map hk]; rfl
  rw [hkk] at n3
  generalize (nth (qs.map PN.nd) (k : Int)).kids.length = m at HS0 HNO n3 hkn
  have hw : IntKind.i64.wrap ((m : Int) - 1) = (m : Int) - 1 := by rw [IntKind.wrap_i64]; omega
  clear hat hkk
  go_enter Tryz.func70, Tryz.ntmps70
  go_wp2_with fail
  go_loopw [5] (fun vi wr => ∃ (i g' C' : Nat) (qs' : List PN), vi = .int .i64 ((i : Int) - 1) ∧ Hid (SaAt mL base w wr tb g qs root h k lo hi P i g' C' qs')) (fun vi _ => (intOf vi + 1).toNat)
  case atStart => exact ⟨m, g, C, qs, rfl, HS0⟩
  case round =>
    obtain ⟨i, g', C', qs', rfl, HS⟩ := hrel
    obtain ⟨him, hk', hkl, hkm, hkN⟩ := HNO.out _ _ _ _ _ HS.out
    cases i with
    | zero =>
      have hneg : ((0 : Nat) : Int) - 1 = -1 := by omega
      rw [hneg]
      have hsp := hideC (HSP.out _ _ _ _ HS.out)
      go_wp2_with (go_at_call 73; refine hsp.out.mono ?_; rintro e w' ⟨vm, g2, C2, qs2, rfl, hs⟩)
      go_ret
      exact ⟨vm, g2, C2, qs2, rfl, hs⟩
    | succ i =>
      have hcast : ((i + 1 : Nat) : Int) - 1 = (i : Int) := by omega
      rw [hcast]
      have hil : i < (qs'[k]).kids.length := by omega
      have a0 := HS.out.tree.box.cell 0
      simp only [List.getElem?_cons_zero] at a0
      have hat := HS.out.tree.nt.node hk'
      have a3 := hat.c3
      obtain ⟨db, doff, hA, hdl, hdc⟩ := (own_ok (HS.out.tree.nt.each _ (List.getElem_mem hk')).d).1.int hil
      rw [hA] at a3
      have ak : wr.cell? ⟨db, doff + i, none⟩ = some (.int .i64 ((qs'[k]).kids.getD i 0)) := by
        rw [hdc, List.getD_eq_getElem?_getD, List.getElem?_eq_getElem hil]
        rfl
      have j0 : (0 : Int) ≤ (i : Int) := by omega
      have j1 : (i : Int) < ((qs'[k]).kids.length : Int) := by omega
      have j2 : (k : Int) < (qs'.length : Int) := by omega
      have hrc := hideC (HRC.out wr i g' C' qs' HS.out hk')
      have hnx := hideC fun w3 g2 C2 qs2 qs3 => HNX.out wr w3 i g' C' qs' g2 C2 qs2 qs3 hk' HS.out
      have hwi : IntKind.i64.wrap ((i : Int) - 1) = (i : Int) - 1 := by rw [IntKind.wrap_i64]; omega
      generalize (splitAllN h (qs'.map PN.nd) ((qs'[k]).kids.getD i 0)).1 = R1 at hrc hnx
      generalize (splitAllN h (qs'.map PN.nd) ((qs'[k]).kids.getD i 0)).2 = R2 at hrc hnx
      generalize (qs'[k]).kids.getD i 0 = kp at ak hrc
      have HND := hideC (show (qs'[k]).nd.kids.length ≤ N ∧ (qs'[k]).nd.keys.length + 1 = (qs'[k]).nd.kids.length ∧ i < (qs'[k]).nd.kids.length from ⟨hkN, hkl, hil⟩)
      generalize (qs'[k]).nd = nd at HND hrc
      generalize (qs'[k]).kids.length = kn at a3 j1
      generalize (qs'[k]).dC = dC at a3
      clear hat hA hdc hkl hkm hkN hil HRC HNX HSP HNO HS0 n3 c0 hw him
      go_wp2_with (first
        | (go_at_call 70; refine hrc.out.mono ?_; rintro e w2 ⟨vm, g2, C2, qs2, rfl, hg2, hmN, hk2, hnd2⟩; obtain ⟨mA, mC, hvm, -, -, -, hmr⟩ := own_row hg2.more; subst hvm; have d0 := hg2.tree.box.cell 0; simp only [List.getElem?_cons_zero] at d0; have HG2 := hideC hg2; have e2 : (k : Int) < (qs2.length : Int) := (by omega); have HND2 := hideC hnd2; have HMR := hideC hmr; clear hg2 hnd2 hmr)
        | (go_at_call 71; refine (adoptT base tb g2 C2 qs2 root k i mA mC R2 w2 HG2.out.tree hk2 ?_ ?_ ?_ HMR.out ?_ ?_).mono ?_; (have := HND.out.2.2; rw [← HND2.out] at this; exact this); (have := HND.out.2.1; rw [← HND2.out] at this; exact this); (exact Nat.le_trans hB (Nat.le_trans HS.out.kept.size HG2.out.kept.size)); (exact fun a ha e => HG2.out.apart a.block (by rw [ha]; rfl) (List.mem_cons_of_mem _ e)); (have := HND.out.1; rw [← HND2.out] at this; have : (qs2[k]).kids.length ≤ N := this; omega); rintro e w3 ⟨rfl, qs3, hT3, hn3, hl3, hkp3, hf3⟩; have HR := hideC (And.intro hT3 (And.intro hn3 (And.intro hkp3 hf3))); clear hT3 hn3 hl3 hkp3 hf3))
      obtain ⟨hT3, hn3, hkp3, hf3⟩ := HR.out
      have o2 : ∀ b ∈ feet g2 qs2, b ∈ feet g qs ∨ w.heap.size ≤ b := fun b hb => by
        rcases HG2.out.old b hb with e | e
        · exact HS.out.old b e
        · exact .inr (Nat.le_trans HS.out.kept.size e)
      have k2 : Kept (tb :: feet g qs) w w2 := HS.out.kept.step HG2.out.kept fun b hb => by
        rcases List.mem_cons.1 hb with rfl | hb
        · exact .inl List.mem_cons_self
        · rcases HS.out.old b hb with e | e
          · exact .inl (List.mem_cons_of_mem _ e)
          · exact .inr e
      have k3 : Kept (tb :: feet g qs) w w3 := k2.step hkp3 fun b hb => by
        rcases o2 b hb with e | e
        · exact .inl (List.mem_cons_of_mem _ e)
        · exact .inr e
      have o3 : ∀ b ∈ feet g2 qs3, b ∈ feet g qs ∨ w.heap.size ≤ b := fun b hb => by
        rcases hf3 b hb with e | e
        · exact o2 b e
        · exact .inr (Nat.le_trans k2.size e)
      exact ⟨⟨i, g2, C2, qs3, rfl, hnx.out w3 g2 C2 qs2 qs3 HG2.out.nds hn3 hT3 k3 o3⟩, by simp [intOf]⟩

theorem parts_few (ns : List Nd) (p : Int) (hm : partsN (nth ns p) ≤ 1 ∨ mostN (nth ns p) < sizeN (nth ns p)) : ns.length + partsN (nth ns p) ≤ (splitN ns p).1.length + 1 := by
  have hl := splitN_len ns p
  rcases hm with h | h
  · omega
  · unfold splitN
    rw [if_neg (by omega)]
    simp only [List.length_append, List.length_set, List.length_tail, partsL_length]
    have : (cutsN (nth ns p)).length = partsN (nth ns p) := cutsF_length _ _ _ _
    omega

theorem parts_one (x : Nd) : partsN x ≤ 1 ∨ mostN x < sizeN x := by
  by_cases h : mostN x < sizeN x
  · exact .inr h
  · left
    unfold partsN
    have := mostN_pos x
    have h2 : sizeN x + mostN x - 1 < 2 * mostN x := by omega
    have := Nat.div_lt_of_lt_mul (by rw [Nat.mul_comm]; exact h2 : sizeN x + mostN x - 1 < mostN x * 2)
    omega

theorem KidsOk.kid {mL : Nat} {ns0 ns : List Nd} {h : Nat} {p lo hi : Int} {P : List Int} {x : Nd} {i : Nat} (hx : x.keys.length + 1 = x.kids.length) (hP : P.Nodup) (hPr : ∀ n ∈ P, 0 ≤ n ∧ n < ns0.length) (hK : KidsOk mL ns0 ns h p lo hi P x (i + 1)) :
    ∃ lo' u Qd, Sub mL 4 ns h ((nth ns p).kids.getD i 0) lo' u Qd ∧ Qd.Nodup ∧ p ∉ Qd := by
  obtain ⟨kids, keys, T, Q1, Q2, hn, hkl, hle, htk, hU, s1, s2, hpm⟩ := hK.at'
  have hix : i < x.kids.length := hK.len
  have hik : i < kids.length := by omega
  have hd : (nth ns p).kids.getD i 0 = x.kids[i] := by
    have e : kids[i] = x.kids[i] := by
      have h1 : (kids.take (i + 1))[i]? = (x.kids.take (i + 1))[i]? := by rw [htk]
      rw [List.getElem?_take, List.getElem?_take, if_pos (by omega), if_pos (by omega), List.getElem?_eq_getElem hik, List.getElem?_eq_getElem hix] at h1
      simpa using h1
    rw [hn]
    simp [hik, e]
  rw [take_succ_ups hx hix, SubK_append] at s1
  obtain ⟨Qa, Qd, rfl, s1a, Qd', Qe, rfl, s1d, hQe⟩ := s1
  cases hQe
  rw [List.append_nil] at hpm
  have hnd : (p :: (Qa ++ Qd' ++ Q2)).Nodup := hpm.nodup_iff.2 (List.nodup_append.2 ⟨hP, placesF_nodup _ _, fun a ha b hb e => by
    have h1 := (hPr a ha).2
    have h2 := (placesF_mem.1 hb).1
    omega⟩)
  rw [List.nodup_cons, List.nodup_append, List.nodup_append] at hnd
  obtain ⟨hpn, ⟨na, nd', nad⟩, n2, nad2⟩ := hnd
  rw [hd]
  exact ⟨_, _, Qd', s1d, nd', fun e => hpn (by simp [e])⟩

theorem KidsOk.top {mL : Nat} {ns0 ns : List Nd} {h : Nat} {p lo hi : Int} {P Q : List Int} {x : Nd} (hin : InnOk 4 (Sub mL 4 ns0 h) x lo hi Q) (hp : 0 ≤ p) (hp1 : p < ns0.length) (hl : lo < hi) (hK : KidsOk mL ns0 ns h p lo hi P x 0) : ∃ m Q2, Top 6 m ns (h + 1) p lo hi (p :: Q2) := by
  obtain ⟨kids, keys, T, Q1, Q2, hn, hkl, hle, -, hU, s1, s2, hpm⟩ := hK.at'
  have hle1 := hK.le
  have htwo := hin.two
  cases s1
  rw [List.take_zero] at hU s2
  rw [List.nil_append] at hU
  refine ⟨kids.length, Q2, ⟨hp, by omega, hl⟩, Q2, rfl, ?_⟩
  rw [hn]
  exact ⟨hin.leaf, hin.ents, by show 2 ≤ kids.length; omega, Nat.le_refl _, hkl, hin.few, hin.buf, by show SubK _ lo (ups kids keys hi) Q2; rw [hU]; exact s2⟩

/-- All nodes that hold too much are split: in memory as in plain terms. -/
theorem splitAll_any {mL : Nat} (hmL : mL ≤ 999999) (base tb : Nat) (root : Int) : ∀ (h g C : Nat) (qs : List PN) (k : Nat) (lo hi : Int) (P : List Int) (w : World), TB base w tb g C qs root → k < qs.length → Sub mL 4 (qs.map PN.nd) h (k : Int) lo hi P → P.Nodup → base ≤ w.heap.size → (splitAllN h (qs.map PN.nd) (k : Int)).1.length ≤ 900000 →
    Calls Tryz.prog 70 #[.pointer (some ⟨tb, 0, none⟩), .int .i64 (k : Int)] w
      fun e w' => ∃ vm g' C' qs', e = .returned vm ∧ GrowTo base w tb g qs root (splitAllN h (qs.map PN.nd) (k : Int)).1 (splitAllN h (qs.map PN.nd) (k : Int)).2 w' vm g' C' qs'
  | 0, g, C, qs, k, lo, hi, P, w, hT, hk, hs, hP, hB, hN => by
    have hx := nth_map hk
    have hkids : (qs[k]).kids = [] := by
      have := hs.2.2.kids
      rw [hx] at this
      exact this
    have hsz : sizeN (nth (qs.map PN.nd) (k : Int)) ≤ 1000000 := by
      have h1 := hs.2.2
      unfold sizeN
      rw [if_pos h1.leaf]
      have := h1.most
      omega
    have hpre := Top_pre (mL := mL) (mK := 4) (h := 0) (show Top mL 4 (qs.map PN.nd) 0 (k : Int) lo hi P from hs) hsz
    have hf := parts_few (qs.map PN.nd) (k : Int) (parts_one _)
    change (splitN (qs.map PN.nd) (k : Int)).1.length ≤ 900000 at hN
    rw [hx] at hpre hf
    simp only [List.length_map] at hf
    refine (splitAll_leaf base tb g C qs root k w hT hk hpre hB (by omega) hkids).mono ?_
    rintro e w' ⟨vm, g', C', qs', rfl, hs'⟩
    exact ⟨vm, g', C', qs', rfl, hs'.grow⟩
  | h + 1, g, C, qs, k, lo, hi, P, w, hT, hk, hs, hP, hB, hN => by
    have hx := nth_map hk
    have hPr := Sub_range _ _ _ _ _ hs
    have hs0 := hs
    obtain ⟨hr, Q, hPQ, hin⟩ := hs
    have hul : (ups (nth (qs.map PN.nd) (k : Int)).kids (nth (qs.map PN.nd) (k : Int)).keys hi).take (nth (qs.map PN.nd) (k : Int)).kids.length = ups (nth (qs.map PN.nd) (k : Int)).kids (nth (qs.map PN.nd) (k : Int)).keys hi := List.take_of_length_le (by simp [ups]; omega)
    have hK : KidsOk mL (qs.map PN.nd) (qs.map PN.nd) h (k : Int) lo hi P (nth (qs.map PN.nd) (k : Int)) (nth (qs.map PN.nd) (k : Int)).kids.length := by
      refine ⟨Nat.le_refl _, ⟨(nth (qs.map PN.nd) (k : Int)).kids, (nth (qs.map PN.nd) (k : Int)).keys, [], Q, [], rfl, hin.keys, Nat.le_refl _, rfl, ?_, ?_, rfl, ?_⟩, Nat.le_refl _, fun _ _ _ _ => rfl, List.Perm.refl _⟩
      · rw [hul, List.append_nil]
      · rw [hul]; exact hin.kids
      · rw [hPQ]; simp [placesF]
    have hkP : (k : Int) ∈ P := by rw [hPQ]; simp
    have hfin : ∀ {wr : World} {i g' C' : Nat} {qs' : List PN}, SaAt mL base w wr tb g qs root h k lo hi P i g' C' qs' → (kidsN (splitAllN h) (k : Int) i (qs'.map PN.nd)).length ≤ 900000 := fun {wr i g' C' qs'} H => by
      rw [H.fin]
      exact Nat.le_trans (splitN_len _ (k : Int)) hN
    have hqs : ∀ {wr : World} {i g' C' : Nat} {qs' : List PN}, SaAt mL base w wr tb g qs root h k lo hi P i g' C' qs' → qs'.length ≤ 900000 := fun {wr i g' C' qs'} H => by
      have := kidsN_len (splitAllN_len h) (k : Int) i (qs'.map PN.nd)
      have := hfin H
      simp only [List.length_map] at *
      omega
    have hSN : SaAt mL base w w tb g qs root h k lo hi P (nth (qs.map PN.nd) (k : Int)).kids.length g C qs := ⟨hT, Kept.refl _ _, fun b hb => .inl hb, hK, rfl⟩
    have hk4 : (nth (qs.map PN.nd) (k : Int)).kids.length ≤ 4 := hin.most
    -- a kid, and its siblings
    have hkidok : ∀ {wr : World} {i g' C' : Nat} {qs' : List PN} (H : SaAt mL base w wr tb g qs root h k lo hi P (i + 1) g' C' qs') (h' : k < qs'.length), ∃ lo' u Qd, Sub mL 4 (qs'.map PN.nd) h ((qs'[k]).kids.getD i 0) lo' u Qd ∧ Qd.Nodup ∧ (k : Int) ∉ Qd := fun {wr i g' C' qs'} H h' => by
      have := H.ok.kid hin.keys hP hPr
      rw [nth_map h'] at this
      exact this
    refine splitAll_step (mL := mL) (h := h) base tb g C qs root k lo hi P 999999 w hT hk hB (by omega) (by omega) hSN ?_ ?_ ?_ ?_
    · intro wr i g' C' qs' H
      obtain ⟨h', a, b, c⟩ := H.node hk hP hPr
      exact ⟨H.ok.len, h', a, b, by have := hqs H; omega⟩
    · intro wr i g' C' qs' H h'
      obtain ⟨lo', u, Qd, hsd, hnd, hkd⟩ := hkidok H h'
      have hrd := Sub_range _ _ _ _ _ hsd
      have hok := splitAll_ok h _ _ _ _ _ hsd hnd
      have hd : 0 ≤ (qs'[k]).kids.getD i 0 ∧ (qs'[k]).kids.getD i 0 < ((qs'.map PN.nd).length : Int) := by
        cases h with
        | zero => exact ⟨hsd.1.1, hsd.1.2.1⟩
        | succ h => exact ⟨hsd.1.1, hsd.1.2.1⟩
      obtain ⟨d, hdd⟩ : ∃ d : Nat, (qs'[k]).kids.getD i 0 = d := ⟨((qs'[k]).kids.getD i 0).toNat, by omega⟩
      rw [hdd] at hsd hok hd ⊢
      have hlen : (splitAllN h (qs'.map PN.nd) (d : Int)).1.length ≤ 900000 := by
        have h1 := hfin H
        rw [kidsN, nth_map h'] at h1
        have h2 := kidsN_len (splitAllN_len h) (k : Int) i (adoptAt (splitAllN h (qs'.map PN.nd) ((qs'[k]).nd.kids.getD i 0)).1 (k : Int) i (splitAllN h (qs'.map PN.nd) ((qs'[k]).nd.kids.getD i 0)).2)
        have e : (qs'[k]).nd.kids.getD i 0 = d := hdd
        rw [e] at h1 h2
        simp only [adoptAt, List.length_set] at h1 h2
        omega
      refine (splitAll_any hmL base tb root h g' C' qs' d lo' u Qd wr H.tree (by simp at hd; omega) hsd hnd (Nat.le_trans hB H.kept.size) hlen).mono ?_
      rintro e w' ⟨vm, g2, C2, qs2, rfl, hG⟩
      have hle := hok.le
      have hfew := hok.few
      have hq2 : qs2.length = (splitAllN h (qs'.map PN.nd) (d : Int)).1.length := by rw [← hG.nds]; simp
      simp only [List.length_map] at hle hfew
      have hk2 : k < qs2.length := by omega
      refine ⟨vm, g2, C2, qs2, rfl, hG, by omega, hk2, ?_⟩
      have hsame := hok.same (k : Int) hkd (by omega) (by simp; omega)
      rw [← hG.nds, nth_map hk2, nth_map h'] at hsame
      exact hsame
    · intro wr w3 i g' C' qs' g2 C2 qs2 qs3 h' H hn2 hn3 hT3 hkp3 ho3
      refine ⟨hT3, hkp3, ho3, ?_, ?_⟩
      · rw [hn3, hn2]
        have e := nth_map h'
        have := kids_step (R := splitAllN h (qs'.map PN.nd) ((qs'[k]).kids.getD i 0)) hin.keys hr.1 hr.2.1 hkP hP hPr H.ok (fun l u Qd a b => by
          rw [e] at a ⊢
          exact splitAll_ok h _ _ _ _ _ a b)
        exact this
      · rw [hn3, hn2, ← H.fin, kidsN, nth_map h']
        rfl
    · intro wr g' C' qs' H
      obtain ⟨h', a, b, c⟩ := H.node hk hP hPr
      have hx' := nth_map h'
      have hke : qs'.map PN.nd = kidsN (splitAllN h) (k : Int) (nth (qs.map PN.nd) (k : Int)).kids.length (qs.map PN.nd) := H.fin
      have hlen := hfin H
      have hsz : sizeN (nth (qs'.map PN.nd) (k : Int)) ≤ 1000000 := by
        obtain ⟨kids, keys, T, Q1, Q2, hn, _⟩ := H.ok.at'
        unfold sizeN
        rw [hn, if_neg (by show ¬ (nth (qs.map PN.nd) (k : Int)).leaf = true; rw [hin.leaf]; decide)]
        rw [hx'] at hn
        have : (qs'[k]).kids = kids := congrArg Nd.kids hn
        show kids.length ≤ _
        rw [← this]
        have := hqs H
        omega
      have hpre : SplitPre (nth (qs'.map PN.nd) (k : Int)) := by
        obtain ⟨m, Q2, ht⟩ := H.ok.top hin hr.1 hr.2.1 hr.2.2
        exact Top_pre ht hsz
      have hf := parts_few (qs'.map PN.nd) (k : Int) (parts_one _)
      have hN' : (splitN (qs'.map PN.nd) (k : Int)).1.length ≤ 900000 := by rw [hke]; exact hN
      rw [hx'] at hpre hf
      simp only [List.length_map] at hf
      refine (split_any base tb g' C' qs' root k wr H.tree h' hpre (Nat.le_trans hB H.kept.size) (by omega)).mono ?_
      rintro e w' ⟨vm, g2, C2, qs2, rfl, hS⟩
      have hG := hS.grow
      rw [hke] at hG
      refine ⟨vm, g2, C2, qs2, rfl, ⟨hG.tree, hG.nds, own_base' hG.more H.kept.size, hG.apart, H.kept.step hG.kept fun b hb => ?_, fun b hb => ?_⟩⟩
      · rcases List.mem_cons.1 hb with rfl | hb
        · exact .inl List.mem_cons_self
        · rcases H.old b hb with e | e
          · exact .inl (List.mem_cons_of_mem _ e)
          · exact .inr e
      · rcases hG.old b hb with e | e
        · exact H.old b e
        · exact .inr (Nat.le_trans H.kept.size e)

end Go.Proofs.YtlojfgdpmaigmacGreatDoor

/- Put: an entry goes down from the root, then the tree grows. -/
namespace Go.Proofs.YtlojfgdpmaigmacGreatDoor
open Go.RowKit Plain Go.Shelf

/-- An entry has come into a tree; its leaves may hold too much. -/
structure SunkOk (ns ns1 : List Nd) (root : Int) (x : En) : Prop where
  sub : ∃ T h P, T ≤ 99999 ∧ h < 12 ∧ Sub T 4 ns1 h root 0 1099511627776 P ∧ P.Perm (placesF 0 ns1.length)
  eqv : Eqv (x :: ns.flatMap cont) (ns1.flatMap cont)
  few : (ns1.flatMap cont).length ≤ (ns.flatMap cont).length + 1
  len : ns1.length = ns.length

theorem cont_few {ns : List Nd} {root : Int} (h : treeC ns root = 0) : (ns.flatMap cont).length ≤ 14 * ns.length ∧ ns.length ≤ 2000 ∧ Pos (ns.flatMap cont) := by
  obtain ⟨h1, h2⟩ := tree_each h
  refine ⟨?_, h1, fun y hy => ?_⟩
  · have : ∀ l : List Nd, (∀ x ∈ l, NodeOk x) → (l.flatMap cont).length ≤ 14 * l.length := by
      intro l
      induction l with
      | nil => simp
      | cons x r ih =>
        intro hl
        have a := ih fun y hy => hl y (List.mem_cons_of_mem _ hy)
        obtain ⟨b1, b2, _⟩ := hl x List.mem_cons_self
        rw [List.flatMap_cons]
        simp only [List.length_append, List.length_cons, cont]
        omega
    refine this ns fun x hx => ?_
    obtain ⟨i, hi, rfl⟩ := List.getElem_of_mem hx
    exact h2 i hi
  · obtain ⟨x, hx, hy⟩ := List.mem_flatMap.1 hy
    obtain ⟨i, hi, rfl⟩ := List.getElem_of_mem hx
    obtain ⟨_, _, g1, g2⟩ := h2 i hi
    rcases List.mem_append.1 hy with hy | hy
    · exact (good_iff.1 (g2 y hy)).1.1
    · exact (good_iff.1 (g1 y hy)).1.1

theorem height_lt {T h : Nat} {ns : List Nd} {root lo hi : Int} {P : List Int} (hs : Sub T 4 ns h root lo hi P) (hp : P.Perm (placesF 0 ns.length)) (hz : ns.length ≤ 2000) : h < 12 := by
  have h1 := Sub_size h _ _ _ _ hs
  rw [placesF_len hp] at h1
  apply Classical.byContradiction
  intro e
  have : 2 ^ 13 ≤ 2 ^ (h + 1) := Nat.pow_le_pow_right (by decide) (by omega)
  omega

theorem sinkRoot_any (base g C : Nat) (qs : List PN) (r root : Int) (x : En) (w : World) (hT : NT base w g C qs) (hB : base ≤ w.heap.size) (hc : treeC (qs.map PN.nd) root = 0) (hx : entB x 0 1099511627776 = true) (hcnt : cntK x.key ((qs.map PN.nd).flatMap cont) + x.c ≤ 1073741824) :
    Calls Tryz.prog 32 #[.agg #[.slice (some ⟨g, 0, none⟩) qs.length C, .int .i64 r], .int .i64 root, .agg #[.int .i64 x.key, .int .i64 x.c, .int .i64 x.s, .int .i64 x.lo, .int .i64 x.hi, .int .i64 x.t, .int .i64 x.l]] w
      fun e w' => e = .returned (.tuple #[]) ∧ ∃ qs', SinkMem base w g C qs w' qs' ∧ SunkOk (qs.map PN.nd) (qs'.map PN.nd) root x := by
  obtain ⟨f1, f2, f3⟩ := cont_few hc
  rcases treeC_sub hc with ⟨h, P, hs, hp⟩ | ⟨he, rfl⟩
  · have hh := height_lt hs hp f2
    have hall := cP_all hp
    have hs' := Sub_up (show 6 ≤ 99999 by omega) h _ _ _ _ hs
    have hnd : P.Nodup := hp.nodup_iff.2 (placesF_nodup _ _)
    have hlen := hall.length_eq
    refine (sink_all (T := 99999) (base := base) (g := g) (C := C) (n := qs.length) (r := r) (by omega) h hh qs w root 0 1099511627776 P x hT rfl hB hs' hnd (by decide) (by decide) hx (by rw [cntK_perm hall]; exact hcnt) (by omega)).mono ?_
    rintro e w' ⟨rfl, qs', hm, hok, _⟩
    have hl' := hok.len
    have hp' : P.Perm (placesF 0 (qs'.map PN.nd).length) := by rw [hl']; exact hp
    have hall' := cP_all hp'
    refine ⟨rfl, qs', hm, ⟨99999, h, P, Nat.le_refl _, hh, hok.sub, hp'⟩, ?_, ?_, hl'⟩
    · refine (Eqv.of_perm (hall.symm.cons x) ?_).trans (hok.eqv.trans (Eqv.of_perm hall' hok.eqv.posm))
      intro y hy
      rcases List.mem_cons.1 hy with rfl | hy
      · exact hok.eqv.posl _ List.mem_cons_self
      · exact f3 y hy
    · have := hok.few
      have := hall'.length_eq
      omega
  · obtain ⟨q, rfl⟩ : ∃ q, qs = [q] := List.length_eq_one_iff.1 (by have := congrArg List.length he; simpa using this)
    have hq : q.nd = leafOf [] := by simpa using he
    have hq1 : q.leaf = true := congrArg Nd.leaf hq
    have hq2 : q.ents = [] := congrArg Nd.ents hq
    obtain ⟨⟨hx1, hx2⟩, hxg⟩ := entB_iff.1 hx
    have hwe : withE q.ents x = [x] := by rw [hq2]; simp [withE, hasK, lowN]
    refine (sink_leaf base g C [q] r 0 q x w hT (by simp) rfl hq1 (by rw [hq2]; exact List.Pairwise.nil) (by rw [hq2]; decide) hB).mono ?_
    rintro e w' ⟨A', C', rfl, hm⟩
    rw [hwe] at hm
    have hnd : [{ q with ents := [x], eA := A', eC := C' }].map PN.nd = [leafOf [x]] := by
      have : ({ q with ents := [x], eA := A', eC := C' } : PN).nd = { q.nd with ents := [x] } := rfl
      simp [this, hq, leafOf]
    refine ⟨rfl, [{ q with ents := [x], eA := A', eC := C' }], hm, ?_⟩
    rw [hnd, he]
    refine ⟨⟨1, 0, [0], by decide, by decide, ⟨⟨by decide, by simp, by decide⟩, rfl, ⟨rfl, rfl, rfl, rfl, by simp [nth, leafOf], by simp [nth, leafOf], ?_⟩⟩, List.Perm.refl _⟩, ?_, by simp [cont, leafOf], rfl⟩
    · show entsB [x] 0 1099511627776 = true
      simp only [entsB, Bool.and_true]
      exact hx
    · have hpx : Pos [x] := fun y hy => by
        obtain rfl : y = x := by simpa using hy
        exact (good_iff.1 hxg).1.1
      have : (x :: ([leafOf []] : List Nd).flatMap cont) = [x] := by simp [cont, leafOf]
      rw [this]
      have : (([leafOf [x]] : List Nd).flatMap cont) = [x] := by simp [cont, leafOf]
      rw [this]
      exact Eqv.refl hpx

/-- What Put answers, from a tree that an entry has come into. -/
structure PutOk (ns ns2 : List Nd) (root2 : Int) (x : En) : Prop where
  fine : ns2.length ≤ 2000 → treeC ns2 root2 = 0
  eqv : Eqv (x :: ns.flatMap cont) (ns2.flatMap cont)
  few : 3 * (ns2.length + 1) ≤ 20 * ns.length + 1
  sub : ∃ h Q, Sub 6 4 ns2 h root2 0 1099511627776 Q ∧ Q.Perm (placesF 0 ns2.length)

theorem growRoot_any (base g C : Nat) (qs : List PN) (ns : List Nd) (root : Int) (x : En) (w : World) (hT : NT base w g C qs) (hB : base ≤ w.heap.size) (hf : (ns.flatMap cont).length ≤ 14 * ns.length) (hz : ns.length ≤ 2000) (hs : SunkOk ns (qs.map PN.nd) root x) :
    Calls Tryz.prog 33 #[.agg #[.slice (some ⟨g, 0, none⟩) qs.length C, .int .i64 root]] w
      fun e w' => ∃ ns2 root2, PutOk ns ns2 root2 x ∧ Kept (feet g qs) w w' ∧ ((2000 < ns2.length ∧ e = .returned (.tuple #[.agg #[.slice none 0 0, .int .i64 0], .int .i64 1])) ∨
        (ns2.length ≤ 2000 ∧ ∃ g' C' qs', e = .returned (.tuple #[.agg #[.slice (some ⟨g', 0, none⟩) qs'.length C', .int .i64 root2], .int .i64 0]) ∧ NT base w' g' C' qs' ∧ qs'.map PN.nd = ns2 ∧ ∀ b ∈ feet g' qs', b ∈ feet g qs ∨ w.heap.size ≤ b)) := by
  obtain ⟨T, h, P, hT9, hh, hsub, hp⟩ := hs.sub
  have hr := Sub_nodup_ne hsub
  obtain ⟨k, rfl⟩ : ∃ k : Nat, root = k := ⟨root.toNat, by omega⟩
  have hk : k < qs.length := by have := hr.2; simp at this; omega
  have hnd : P.Nodup := hp.nodup_iff.2 (placesF_nodup _ _)
  have hg := grown_ok hsub hp
  have hwc := wts_cont (qs.map PN.nd)
  have h1 := hg.few
  have h2 := hg.part
  have h3 := hs.few
  have h4 := hs.len
  have hcon : Hid (∀ (W : World) (tb : Nat), TB base W tb g C qs (k : Int) → base ≤ W.heap.size → Calls Tryz.prog 70 #[.pointer (some ⟨tb, 0, none⟩), .int .i64 (k : Int)] W fun e w' => ∃ vm g' C' qs', e = .returned vm ∧ GrowTo base W tb g qs (k : Int) (splitAllN h (qs.map PN.nd) (k : Int)).1 (splitAllN h (qs.map PN.nd) (k : Int)).2 w' vm g' C' qs') :=
    fun W tb hTB hBW => splitAll_any (mL := T) (by omega) base tb (k : Int) h g C qs k 0 1099511627776 P W hTB hk hsub hnd hBW (by omega)
  refine (grow_any base g C qs k _ _ h (growAll h (qs.map PN.nd) (k : Int)) w hT hB hcon (.inr hg.row) (by omega) rfl).mono ?_
  rintro e w' ⟨hk', hres⟩
  refine ⟨(growAll h (qs.map PN.nd) (k : Int)).1, (growAll h (qs.map PN.nd) (k : Int)).2, ⟨hg.fine, hs.eqv.trans (Eqv.of_perm hg.cont.symm hs.eqv.posm), by omega, hg.sub⟩, hk', hres⟩

end Go.Proofs.YtlojfgdpmaigmacGreatDoor
