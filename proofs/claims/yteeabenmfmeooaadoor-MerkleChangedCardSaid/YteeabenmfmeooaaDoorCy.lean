/-
  Merkle: Collide, where it finds something.
-/
import Derived.Test.YteeabenmfmeooaaDoorFc
import Derived.Test.YteeabenmfmeooaaDoorPp
namespace Go.Proofs.YteeabenmfmeooaaDoor
open Go Go.RowKit
theorem fcN_spec (L : List (Nat × Nat)) (A B : TS) : (∀ j, j < fcN L A B → sha (tsL L j A).1 ≠ sha (tsL L j B).1) ∧ fcN L A B ≤ L.length ∧ (fcN L A B < L.length → sha (tsL L (fcN L A B) A).1 = sha (tsL L (fcN L A B) B).1) := by
  unfold fcN
  cases h : (List.range L.length).find? fun k => sha (tsL L k A).1 == sha (tsL L k B).1 with
  | none =>
    rw [List.find?_eq_none] at h
    refine ⟨fun j hj => ?_, Nat.le_refl _, fun hlt => absurd hlt (by simp)⟩
    have := h j (List.mem_range.2 hj)
    simpa using this
  | some k =>
    rw [List.find?_range_eq_some] at h
    obtain ⟨h1, h2, h3⟩ := h
    refine ⟨fun j hj => ?_, Nat.le_of_lt (List.mem_range.1 h2), fun _ => by simpa using h1⟩
    have := h3 j hj
    simpa using this
theorem leafT_inj {a b : List UInt8} (h : leafT a = leafT b) : a = b := List.append_cancel_left h
theorem stepT_inj {k : Nat} {d f x y : List UInt8} (hd : d.length = 32) (hf : f.length = 32) (hx : x.length = 32) (hy : y.length = 32) (h : stepT k d x = stepT k f y) : d = f := by
  unfold stepT at h
  split at h
  · have := List.append_cancel_left h
    exact (List.append_inj this (by rw [hx, hy])).2
  · have := List.append_cancel_left h
    exact (List.append_inj this (by rw [hd, hf])).1
/-- the texts that Collide returns -/
abbrev coK (i n : Nat) (a b : List UInt8) (p q : List (List UInt8)) : Nat := fcN (stepsL i n) (leafT a, p) (leafT b, q)
abbrev coX (i n : Nat) (a b : List UInt8) (p q : List (List UInt8)) : List UInt8 := (tsL (stepsL i n) (coK i n a b p q) (leafT a, p)).1
abbrev coY (i n : Nat) (a b : List UInt8) (p q : List (List UInt8)) : List UInt8 := (tsL (stepsL i n) (coK i n a b p q) (leafT b, q)).1
theorem co_clash {i n : Nat} {a b : List UInt8} {p q : List (List UInt8)} (hp : D32 p) (hq : D32 q) (hpl : p.length = plen i n) (hql : q.length = plen i n) (hab : a ≠ b) (hcl : climbB i n a p = climbB i n b q) : coX i n a b p q ≠ coY i n a b p q ∧ sha (coX i n a b p q) = sha (coY i n a b p q) := by
  have hs := fcN_spec (stepsL i n) (leafT a, p) (leafT b, q)
  have hend : sha (tsL (stepsL i n) (stepsL i n).length (leafT a, p)).1 = sha (tsL (stepsL i n) (stepsL i n).length (leafT b, q)).1 := by
    unfold climbB at hcl
    rw [ts_cs, ts_cs] at hcl
    exact hcl
  have heq : sha (coX i n a b p q) = sha (coY i n a b p q) := by
    rcases Nat.lt_or_ge (coK i n a b p q) (stepsL i n).length with h | h
    · exact hs.2.2 h
    · have : coK i n a b p q = (stepsL i n).length := Nat.le_antisymm hs.2.1 h
      unfold coX coY
      rw [this]
      exact hend
  refine ⟨fun hxy => ?_, heq⟩
  cases hK : coK i n a b p q with
  | zero =>
    unfold coX coY at hxy
    rw [hK, ts_zero, ts_zero] at hxy
    exact hab (leafT_inj hxy)
  | succ k =>
    have hlt : k < (stepsL i n).length := by have := hs.2.1; unfold coK at hK; omega
    have hz : (stepsL i n)[k]? = some ((stepsL i n)[k]) := List.getElem?_eq_getElem hlt
    have hne := hs.1 k (by unfold coK at hK; omega)
    unfold coX coY at hxy heq
    rw [hK, ts_next hz, ts_next hz] at hxy heq
    cases hal : aloneB ((stepsL i n)[k]).1 ((stepsL i n)[k]).2
    · obtain ⟨x, r, hx, hxm⟩ := cs_more hz hal (sha (leafT a), p) hpl
      obtain ⟨y, s, hy, hym⟩ := cs_more hz hal (sha (leafT b), q) hql
      rw [ts_cs] at hx hy
      simp only at hx hy
      unfold tst at hxy
      rw [if_neg (by rw [hal]; simp), if_neg (by rw [hal]; simp), hx, hy] at hxy
      exact hne (stepT_inj (sha_len _) (sha_len _) (hp x hxm) (hq y hym) hxy)
    · unfold tst at heq
      rw [if_pos hal, if_pos hal] at heq
      exact hne heq
theorem collB_yes {n i : Int} {a b : List UInt8} {p q : List (List UInt8)} (h : collB n i a b p q = true) : ∃ j s : Nat, i = (j : Int) ∧ n = (s : Int) ∧ j < s ∧ s ≤ 65536 ∧ p.length = plen j s ∧ q.length = plen j s ∧ chkP n i p.length = 0 ∧ chkP n i q.length = 0 ∧ (a == b) = false ∧ climbB j s a p = climbB j s b q := by
  unfold collB at h
  simp only [Bool.and_eq_true, decide_eq_true_eq, Bool.not_eq_true', beq_iff_eq] at h
  obtain ⟨z1, z2, hab, hcl⟩ := h
  obtain ⟨j, s, rfl, rfl, hjs, hs, e1⟩ := chk_zero z1
  obtain ⟨j', s', hj', hs', _, _, e2⟩ := chk_zero z2
  obtain rfl : j = j' := by omega
  obtain rfl : s = s' := by omega
  refine ⟨j, s, rfl, rfl, hjs, hs, e1, e2, z1, z2, hab, ?_⟩
  unfold climbD at hcl
  rw [if_pos z1, if_pos z2] at hcl
  exact hcl
theorem ts_len {L : List (Nat × Nat)} {t : List UInt8} {p : List (List UInt8)} {m : Nat} (ht : t.length ≤ m) (hm : 96 ≤ m) (hp : D32 p) (hpl : p.length = cntL L) : ∀ k, (tsL L k (t, p)).1.length ≤ m := by
  intro k
  induction k with
  | zero => exact ht
  | succ k ih =>
    cases hz : L[k]? with
    | none =>
      have h2 : tsL L (k + 1) (t, p) = tsL L k (t, p) := by
        unfold tsL
        rw [List.take_add_one, hz]
        simp
      rw [h2]
      exact ih
    | some z =>
      rw [ts_next hz]
      unfold tst
      split
      · exact ih
      · rename_i hal
        obtain ⟨x, r, hx, hxm⟩ := cs_more hz (by simpa using hal) (sha t, p) hpl
        rw [ts_cs] at hx
        simp only at hx ⊢
        rw [hx]
        simp only [List.headD_cons]
        rw [stepT_len _ (sha_len _) (hp x hxm)]
        exact hm
theorem co_lens {i n : Nat} {a b : List UInt8} {p q : List (List UInt8)} (hp : D32 p) (hq : D32 q) (hpl : p.length = plen i n) (hql : q.length = plen i n) (ha : a.length ≤ 1000000) (hb : b.length ≤ 1000000) : (coX i n a b p q).length ≤ 2000000 ∧ (coY i n a b p q).length ≤ 2000000 :=
  ⟨ts_len (by rw [leafT_len]; omega) (by omega) hp hpl _, ts_len (by rw [leafT_len]; omega) (by omega) hq hql _⟩
def SomeR (x y : List UInt8) (w : World) (e : Ending) (w' : World) : Prop := ∃ u v, e = .returned (.tuple #[u, v, .bool true]) ∧ Hid (BV w' u x) ∧ Hid (BV w' v y) ∧ Below w.heap.size w w'
set_option maxRecDepth 100000 in
set_option maxHeartbeats 2000000 in
theorem collide_yes (s j : Nat) (u v x y : Value) (a b : List UInt8) (p q : List (List UInt8)) (w : World) (hu : BV w u a) (hv' : BV w v b) (ha : a.length ≤ 1000000) (hb : b.length ≤ 1000000) (hx : LD w x p) (hy : LD w y q) (hp : D32 p) (hq : D32 q) (hk : KOK w) (hyes : collB (s : Int) (j : Int) a b p q = true) :
    Calls Tryd.prog 33 #[hv, .int .i64 (s : Int), .int .i64 (j : Int), u, v, x, y] w (SomeR (coX j s a b p q) (coY j s a b p q) w) := by
  have HU := Lib.hid hu
  have HV := Lib.hid hv'
  have HX := Lib.hid hx
  have HY := Lib.hid hy
  have HK := Lib.hid hk
  have H32 := Lib.hid (⟨hp, hq⟩ : D32 p ∧ D32 q)
  obtain ⟨j', s', hj', hs', hjs, hs, e1, e2, z1, z2, hab, hcl⟩ := collB_yes hyes
  obtain rfl : j = j' := by omega
  obtain rfl : s = s' := by omega
  obtain ⟨p1, c1, rfl⟩ : ∃ p c, u = .slice p a.length c := by
    obtain ⟨_, c, p, e, _⟩ := hu
    exact ⟨p, c, e⟩
  obtain ⟨p2, c2, rfl⟩ : ∃ p c, v = .slice p b.length c := by
    obtain ⟨_, c, p, e, _⟩ := hv'
    exact ⟨p, c, e⟩
  obtain ⟨b3, c3, p3, rfl, h31, h32, _, _⟩ := hx
  obtain ⟨b4, c4, p4, rfl, h41, h42, _, _⟩ := hy
  have C1 := Lib.hid fun (U : World) => checkPath_any (s : Int) (j : Int) p3 p.length c3 U h31 h32
  have C2 := Lib.hid fun (U : World) => checkPath_any (s : Int) (j : Int) p4 q.length c4 U h41 h42
  have EQ := Lib.hid fun (U : World) (hb' : Below w.heap.size w U) => equal_any _ _ a b U (HU.out.below hb') (HV.out.below hb')
  have M1 := Lib.hid fun (U : World) (hb' : Below w.heap.size w U) => climb_any s j _ _ a p U hs hjs (HU.out.below hb') ha (HX.out.below hb') H32.out.1 e1 (HK.out.below hb')
  have M2 := Lib.hid fun (U : World) (hb' : Below w.heap.size w U) => climb_any s j _ _ b q U hs hjs (HV.out.below hb') hb (HY.out.below hb') H32.out.2 e2 (HK.out.below hb')
  have T1 := Lib.hid fun (U : World) (hb' : Below w.heap.size w U) => leafT_any _ a U (HU.out.below hb') ha (HK.out.below hb')
  have T2 := Lib.hid fun (U : World) (hb' : Below w.heap.size w U) => leafT_any _ b U (HV.out.below hb') hb (HK.out.below hb')
  have FC := Lib.hid fun (U : World) (va vb : Value) (hb' : Below w.heap.size w U) (h1 : BV U va (leafT a)) (h2 : BV U vb (leafT b)) => first_common s j va vb _ _ (leafT a) (leafT b) p q U hs hjs h1 h2 (by rw [leafT_len]; omega) (by rw [leafT_len]; omega) (HX.out.below hb') (HY.out.below hb') H32.out.1 H32.out.2 e1 e2 (HK.out.below hb')
  rw [z1] at C1
  rw [z2] at C2
  rw [hab] at EQ
  rw [hcl] at M1
  have hl := climb_len j s b q
  have DE : ∀ w, (Op.equalIn 10000 30 (dgv (climbB j s b q)) (dgv (climbB j s b q))).run Tryd.prog w = .ok true w := fun w => by rw [dg_equal _ _ hl hl, beq_self_eq_true]
  clear hu hv' hk hp hq z1 z2 hab e1 e2 hcl hyes HU HV HX HY
  generalize climbB j s b q = dB at *
  go_enter Tryd.func33, Tryd.ntmps33
  go_wp2_with (first
    | (go_at_call 29; refine (C1.out _).mono ?_; rintro e w1 ⟨rfl, hb1⟩; have HB1 := Lib.hid hb1; clear C1)
    | (go_at_call 29; refine (C2.out _).mono ?_; rintro e w2 ⟨rfl, hb2⟩; have HB2 := Lib.hid (HB1.out.trans (hb2.mono HB1.out.size)); clear C2)
    | (go_at_call 50; refine (EQ.out _ HB2.out).mono ?_; rintro e w3 ⟨rfl, rfl⟩)
    | (go_at_call 30; refine (M1.out _ HB2.out).mono ?_; rintro e w4 ⟨rfl, hb4⟩; have HB4 := Lib.hid (HB2.out.trans (hb4.mono HB2.out.size)); clear M1)
    | (go_at_call 30; refine (M2.out _ HB4.out).mono ?_; rintro e w5 ⟨rfl, hb5⟩; have HB5 := Lib.hid (HB4.out.trans (hb5.mono HB4.out.size)); clear M2)
    | (go_at_call 48; refine (T1.out _ HB5.out).mono ?_; rintro e w6 ⟨va, rfl, hoa, _, hb6⟩; have HB6 := Lib.hid (HB5.out.trans (hb6.mono HB5.out.size)); have VA := Lib.hid (own_bv hoa.out); clear T1 hoa)
    | (go_at_call 48; refine (T2.out _ HB6.out).mono ?_; rintro e w7 ⟨vb, rfl, hob, _, hb7⟩; have HB7 := Lib.hid (HB6.out.trans (hb7.mono HB6.out.size)); have VB := Lib.hid (own_bv hob.out); have VA7 := Lib.hid (VA.out.below hb7); clear T2 hob VA)
    | (go_at_call 51; refine (FC.out _ _ _ HB7.out VA7.out VB.out).mono ?_; rintro e w8 ⟨rx, ry, rfl, hx8, hy8, hb8⟩; have HX8 := Lib.hid hx8; have HY8 := Lib.hid hy8; have HB8 := Lib.hid (HB7.out.trans (hb8.mono HB7.out.size)); clear hx8 hy8))
  go_ret3
  exact ⟨_, _, rfl, HX8, HY8, HB8.out⟩
set_option maxRecDepth 100000 in
set_option maxHeartbeats 2000000 in
theorem Collide_yes (s j : Nat) (u v x y : Value) (a b : List UInt8) (p q : List (List UInt8)) (w : World) (hu : BV w u a) (hv' : BV w v b) (ha : a.length ≤ 1000000) (hb : b.length ≤ 1000000) (hx : LD w x p) (hy : LD w y q) (hp : D32 p) (hq : D32 q) (hk : KOK w) (hyes : collB (s : Int) (j : Int) a b p q = true) :
    Calls Tryd.prog 19 #[.int .i64 (s : Int), .int .i64 (j : Int), u, v, x, y] w (SomeR (coX j s a b p q) (coY j s a b p q) w) := by
  have H := Lib.hid (collide_yes s j u v x y a b p q w hu hv' ha hb hx hy hp hq hk hyes)
  clear hu hv' hx hy hp hq hk hyes
  go_enter Tryd.func19, Tryd.ntmps19
  go_wp2_with (go_at_call 33; refine H.out.mono ?_; rintro e w1 ⟨rx, ry, rfl, hx1, hy1, hb1⟩)
  go_ret3
  exact ⟨_, _, rfl, hx1, hy1, hb1⟩
end Go.Proofs.YteeabenmfmeooaaDoor
