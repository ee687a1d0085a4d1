/-
  NetworkCuts' own body: it returns true.
-/
import Derived.Test.YtpempgajejbdoaaCts
namespace Go.Proofs.Ytpempgajejbdoaa
open Go Go.RowKit
theorem lt_of_cell {w : World} {b o : Nat} {v : Value} (h : w.cell? ⟨b, o, none⟩ = some v) : b < w.heap.size := by
  apply Classical.byContradiction
  intro hn
  have : w.heap[b]? = none := Array.getElem?_eq_none (by omega)
  unfold World.cell? at h
  simp [this] at h
set_option maxRecDepth 20000 in
set_option maxHeartbeats 8000000 in
theorem lawCuts (v : Value) (n : Nt) (a b at0 : Int) (w : World) (h : NV Ev w v n) (ha : 0 ≤ at0 ∧ at0 < 18446744073709551616) (hsane : ∀ w : World, Calls Try.prog 9 #[] w (Ret (.bool true) w)) : Calls Try.prog 7 #[v, .int .i64 a, .int .i64 b, .int .u64 at0] w (Ret (.bool true) w) := by
  obtain ⟨pq, N, cq, pa, M, ca, rfl, HO, hq1, hq2, ha1, ha2⟩ := h.op
  have HSN := Lib.hid hsane
  clear h hsane
  go_enter Try.func7, Try.ntmps7
  go_wp2_with fail
  refine (HSN.out _).mono ?_
  rintro e w1 ⟨rfl, hb1⟩
  obtain ⟨t0, t1⟩ := keep2 hb1 (by simp) (new2 w (.slice pq N cq) (.slice pa M ca) 25)
  have hz1 : w.heap.size < w1.heap.size := by have := hb1.size; simp at this; omega
  have HB1 := Lib.hid (one_later hb1)
  clear hb1
  have hf := few_any _ n w1 (HO.out.below HB1.out).nv
  cases hfew : fewB n
  · rw [hfew] at hf
    have HF := Lib.hid hf
    clear hf hfew
    go_wp2_with fail
    refine HF.out.mono ?_
    rintro e w2 ⟨rfl, hb2⟩
    go_wp2_with fail
    go_ret
    exact ⟨rfl, HB1.out.trans (hb2.mono HB1.out.size)⟩
  rw [hfew] at hf
  have HF := Lib.hid hf
  clear hf
  go_wp2_with fail
  refine HF.out.mono ?_
  rintro e w2 ⟨rfl, hb2⟩
  have cc := keep2 hb2 (by omega) ⟨t0, t1⟩
  clear t0 t1
  obtain ⟨t0, t1⟩ := cc
  have hz2 : w.heap.size < w2.heap.size := by have := hb2.size; omega
  have HB2 := Lib.hid (HB1.out.trans (hb2.mono HB1.out.size))
  clear hb2 HF HB1 hz1
  have hc := check_any _ n w2 (HO.out.below HB2.out).nv
  cases hok : okN n
  · rw [chk_no hok] at hc
    have HC := Lib.hid hc
    clear hc hok hfew
    go_wp2_with fail
    refine HC.out.mono ?_
    rintro e w3 ⟨rfl, hb3⟩
    go_wp2_with fail
    go_ret
    exact ⟨rfl, HB2.out.trans (hb3.mono HB2.out.size)⟩
  rw [chk_ok hok] at hc
  have HC := Lib.hid hc
  clear hc
  go_wp2_with fail
  refine HC.out.mono ?_
  rintro e w3 ⟨rfl, hb3⟩
  have cc := keep2 hb3 (by omega) ⟨t0, t1⟩
  clear t0 t1
  obtain ⟨t0, t1⟩ := cc
  have hz3 : w.heap.size < w3.heap.size := by have := hb3.size; omega
  have HB3 := Lib.hid (HB2.out.trans (hb3.mono HB2.out.size))
  clear hb3 HC HB2 hz2
  have hd := cut_g (HO.out.below HB3.out) a b true
  cases hen : endsB a b
  · obtain ⟨e1, e2⟩ := endsB_swapE hok hen
    rw [e1, e2] at hd
    clear e1 e2 hok hen hfew
    go_wp2_with fail
    refine hd.mono ?_
    clear hd
    rintro e w4 ⟨q4, N4, k4, a4, M4, l4, rfl, _, hb4⟩
    go_wp2_with fail
    go_ret
    exact ⟨rfl, HB3.out.trans ((hb4.mono HB3.out.size).trans ((one_new _ _).mono (Nat.le_trans HB3.out.size hb4.size)))⟩
  have hN40 : N ≤ 40 := by
    unfold fewB at hfew
    rw [HO.out.nq] at hfew
    simp at hfew
    omega
  obtain ⟨X, K, hcts, hX, hK, _, _⟩ := cts hok hen
  have HH := Lib.hid hcts
  have HD := Lib.hid (fun (k : Nat) (x : Pk) (hx : n.q[k]? = some x) => two_del hok hen hx)
  rw [← hX, ← hK] at HD
  have hqX : X.q = n.q := by rw [hX]
  have hqK : K.q = n.q := by rw [hK]
  have HQ := Lib.hid (And.intro hqX hqK)
  clear hqX hqK hX hK hcts hfew hok hen
  rw [HH.out.c1, HH.out.e1] at hd
  go_wp2_with fail
  refine hd.mono ?_
  clear hd
  rintro e w4 ⟨q4, N4, k4, a4, M4, l4, rfl, HN4_4, hb4⟩
  have cc := keep2 hb4 (by omega) ⟨t0, t1⟩
  clear t0 t1
  obtain ⟨t0, t1⟩ := cc
  have hy4 : w3.heap.size ≤ w4.heap.size := hb4.size
  have hx4t : w.heap.size < w4.heap.size := by omega
  have HB4 := Lib.hid (HB3.out.trans (hb4.mono HB3.out.size))
  clear hb4 HB3
  have hd := cut_g ((HO.out.below HB4.out).below (one_new w4 (.cells #[.slice q4 N4 k4, .slice a4 M4 l4] 25))) b a true
  rw [HH.out.c2, HH.out.e2] at hd
  go_wp2_with fail
  refine hd.mono ?_
  clear hd
  rintro e w5 ⟨q5, N5, k5, a5, M5, l5, rfl, HN5_5, hb5⟩
  have cc := keep2 (one_later hb5) (by omega) ⟨t0, t1⟩
  clear t0 t1
  obtain ⟨t0, t1⟩ := cc
  obtain ⟨s0, s1⟩ := keep2 hb5 (by simp) (new2 w4 (.slice q4 N4 k4) (.slice a4 M4 l4) 25)
  have hy5 : w4.heap.size < w5.heap.size := by have := hb5.size; simp at this; omega
  have hx5t : w.heap.size < w5.heap.size := by omega
  have HN4_5 := Lib.hid (HN4_4.out.below (one_later hb5))
  have HB5 := Lib.hid (HB4.out.trans ((one_later hb5).mono HB4.out.size))
  clear hb5 HB4 HN4_4 hx4t hy4 hz3
  have hd := cut_g (HN4_5.out.below (one_new w5 (.cells #[.slice q5 N5 k5, .slice a5 M5 l5] 25))) a b true
  rw [HH.out.c3, HH.out.e3] at hd
  go_wp2_with fail
  refine hd.mono ?_
  clear hd
  rintro e w6 ⟨q6, N6, k6, a6, M6, l6, rfl, HN6_6, hb6⟩
  have cc := keep2 (one_later hb6) (by omega) ⟨t0, t1⟩
  clear t0 t1
  obtain ⟨t0, t1⟩ := cc
  have cc := keep2 (one_later hb6) (by omega) ⟨s0, s1⟩
  clear s0 s1
  obtain ⟨s0, s1⟩ := cc
  obtain ⟨r0, r1⟩ := keep2 hb6 (by simp) (new2 w5 (.slice q5 N5 k5) (.slice a5 M5 l5) 25)
  have hy6 : w5.heap.size < w6.heap.size := by have := hb6.size; simp at this; omega
  have hx6t : w.heap.size < w6.heap.size := by omega
  have hx6s : w4.heap.size < w6.heap.size := by omega
  have HN4_6 := Lib.hid (HN4_5.out.below (one_later hb6))
  have HN5_6 := Lib.hid (HN5_5.out.below (one_later hb6))
  have HB6 := Lib.hid (HB5.out.trans ((one_later hb6).mono HB5.out.size))
  clear hb6 HB5 HN4_5 HN5_5 hx5t hy5
  have hd := cut_g (HN4_6.out.below (one_new w6 (.cells #[.slice q6 N6 k6, .slice a6 M6 l6] 25))) b a false
  rw [HH.out.c4, HH.out.e4] at hd
  go_wp2_with fail
  refine hd.mono ?_
  clear hd
  rintro e w7 ⟨q7, N7, k7, a7, M7, l7, rfl, HN7_7, hb7⟩
  have cc := keep2 (one_later hb7) (by omega) ⟨t0, t1⟩
  clear t0 t1
  obtain ⟨t0, t1⟩ := cc
  have cc := keep2 (one_later hb7) (by omega) ⟨s0, s1⟩
  clear s0 s1
  obtain ⟨s0, s1⟩ := cc
  have cc := keep2 (one_later hb7) (by omega) ⟨r0, r1⟩
  clear r0 r1
  obtain ⟨r0, r1⟩ := cc
  obtain ⟨u0, u1⟩ := keep2 hb7 (by simp) (new2 w6 (.slice q6 N6 k6) (.slice a6 M6 l6) 25)
  have hy7 : w6.heap.size < w7.heap.size := by have := hb7.size; simp at this; omega
  have hx7t : w.heap.size < w7.heap.size := by omega
  have hx7s : w4.heap.size < w7.heap.size := by omega
  have hx7r : w5.heap.size < w7.heap.size := by omega
  have HN4_7 := Lib.hid (HN4_6.out.below (one_later hb7))
  have HN5_7 := Lib.hid (HN5_6.out.below (one_later hb7))
  have HN6_7 := Lib.hid (HN6_6.out.below (one_later hb7))
  have HB7 := Lib.hid (HB6.out.trans ((one_later hb7).mono HB6.out.size))
  clear hb7 HB6 HN4_6 HN5_6 HN6_6 hx6t hx6s hy6
  have hd := cut_g ((HO.out.below HB7.out).below (one_new w7 (.cells #[.slice q7 N7 k7, .slice a7 M7 l7] 25))) a b false
  rw [HH.out.c5, show cutE n a b = 0 from HH.out.e1] at hd
  go_wp2_with fail
  refine hd.mono ?_
  clear hd
  rintro e w8 ⟨q8, N8, k8, a8, M8, l8, rfl, HN8_8, hb8⟩
  have cc := keep2 (one_later hb8) (by omega) ⟨t0, t1⟩
  clear t0 t1
  obtain ⟨t0, t1⟩ := cc
  have cc := keep2 (one_later hb8) (by omega) ⟨s0, s1⟩
  clear s0 s1
  obtain ⟨s0, s1⟩ := cc
  have cc := keep2 (one_later hb8) (by omega) ⟨r0, r1⟩
  clear r0 r1
  obtain ⟨r0, r1⟩ := cc
  have cc := keep2 (one_later hb8) (by omega) ⟨u0, u1⟩
  clear u0 u1
  obtain ⟨u0, u1⟩ := cc
  obtain ⟨v0, v1⟩ := keep2 hb8 (by simp) (new2 w7 (.slice q7 N7 k7) (.slice a7 M7 l7) 25)
  have hy8 : w7.heap.size < w8.heap.size := by have := hb8.size; simp at this; omega
  have hx8t : w.heap.size < w8.heap.size := by omega
  have hx8s : w4.heap.size < w8.heap.size := by omega
  have hx8r : w5.heap.size < w8.heap.size := by omega
  have hx8u : w6.heap.size < w8.heap.size := by omega
  have HN4_8 := Lib.hid (HN4_7.out.below (one_later hb8))
  have HN5_8 := Lib.hid (HN5_7.out.below (one_later hb8))
  have HN6_8 := Lib.hid (HN6_7.out.below (one_later hb8))
  have HN7_8 := Lib.hid (HN7_7.out.below (one_later hb8))
  have HB8 := Lib.hid (HB7.out.trans ((one_later hb8).mono HB7.out.size))
  clear hb8 HB7 HN4_7 HN5_7 HN6_7 HN7_7 hx7t hx7s hx7r hy7
  go_wp2_with fail
  have hb9 := one_new w8 (.cells #[.slice q8 N8 k8, .slice a8 M8 l8] 25)
  have cc := keep2 hb9 (by omega) ⟨t0, t1⟩
  clear t0 t1
  obtain ⟨t0, t1⟩ := cc
  have cc := keep2 hb9 (by omega) ⟨s0, s1⟩
  clear s0 s1
  obtain ⟨s0, s1⟩ := cc
  have cc := keep2 hb9 (by omega) ⟨r0, r1⟩
  clear r0 r1
  obtain ⟨r0, r1⟩ := cc
  have cc := keep2 hb9 (by omega) ⟨u0, u1⟩
  clear u0 u1
  obtain ⟨u0, u1⟩ := cc
  have cc := keep2 hb9 (by omega) ⟨v0, v1⟩
  clear v0 v1
  obtain ⟨v0, v1⟩ := cc
  obtain ⟨z0, z1⟩ := new2 w8 (.slice q8 N8 k8) (.slice a8 M8 l8) 25
  have hz9 : (w8.alloc (.cells #[.slice q8 N8 k8, .slice a8 M8 l8] 25)).heap.size = w8.heap.size + 1 := by simp
  have HN4_9 := Lib.hid (HN4_8.out.below hb9)
  have HN5_9 := Lib.hid (HN5_8.out.below hb9)
  have HN6_9 := Lib.hid (HN6_8.out.below hb9)
  have HN7_9 := Lib.hid (HN7_8.out.below hb9)
  have HN8_9 := Lib.hid (HN8_8.out.below hb9)
  have HB9 := Lib.hid (HB8.out.trans (hb9.mono HB8.out.size))
  clear hb9 HB8 HN4_8 HN5_8 HN6_8 HN7_8 HN8_8
  generalize (w8.alloc (.cells #[.slice q8 N8 k8, .slice a8 M8 l8] 25)) = W at *
  have hwt : w.heap.size < W.heap.size := by omega
  have hws : w4.heap.size < W.heap.size := by omega
  have hwr : w5.heap.size < W.heap.size := by omega
  have hwu : w6.heap.size < W.heap.size := by omega
  have hwv : w7.heap.size < W.heap.size := by omega
  have hwz : w8.heap.size < W.heap.size := by omega
  have KK : Hid (∀ V' : World, Below W.heap.size W V' → (V'.cell? ⟨w.heap.size, 0, none⟩ = some (.slice pq N cq) ∧ V'.cell? ⟨w.heap.size, 1, none⟩ = some (.slice pa M ca)) ∧ (V'.cell? ⟨w4.heap.size, 0, none⟩ = some (.slice q4 N4 k4) ∧ V'.cell? ⟨w4.heap.size, 1, none⟩ = some (.slice a4 M4 l4)) ∧ (V'.cell? ⟨w5.heap.size, 0, none⟩ = some (.slice q5 N5 k5) ∧ V'.cell? ⟨w5.heap.size, 1, none⟩ = some (.slice a5 M5 l5)) ∧ (V'.cell? ⟨w6.heap.size, 0, none⟩ = some (.slice q6 N6 k6) ∧ V'.cell? ⟨w6.heap.size, 1, none⟩ = some (.slice a6 M6 l6)) ∧ (V'.cell? ⟨w7.heap.size, 0, none⟩ = some (.slice q7 N7 k7) ∧ V'.cell? ⟨w7.heap.size, 1, none⟩ = some (.slice a7 M7 l7)) ∧ (V'.cell? ⟨w8.heap.size, 0, none⟩ = some (.slice q8 N8 k8) ∧ V'.cell? ⟨w8.heap.size, 1, none⟩ = some (.slice a8 M8 l8))) :=
    Lib.hid fun V' hb => ⟨keep2 hb (by omega) ⟨t0, t1⟩, keep2 hb (by omega) ⟨s0, s1⟩, keep2 hb (by omega) ⟨r0, r1⟩, keep2 hb (by omega) ⟨u0, u1⟩, keep2 hb (by omega) ⟨v0, v1⟩, keep2 hb (by omega) ⟨z0, z1⟩⟩
  have HS : Hid (∀ (Y : Nt) (V : World) (q N c a M d q' N' c' a' M' d'), Op Ev V Y q N c a M d → Op Ev V Y q' N' c' a' M' d' → Calls Try.prog 15 #[nval q N c a M d, nval q' N' c' a' M' d'] V (Ret (.bool true) V)) := Lib.hid (fun Y V _ _ _ _ _ _ _ _ _ _ _ _ h1 h2 => by
    have := same_any _ _ _ _ V h1.nv h2.nv
    rwa [sameN_self] at this)
  have HC1 := Lib.hid (HS.out _ _ _ _ _ _ _ _ _ _ _ _ _ _ HN4_9.out HN5_9.out)
  have HC2 := Lib.hid (fun V' (hb : Below W.heap.size W V') => HS.out _ _ _ _ _ _ _ _ _ _ _ _ _ _ (HN4_9.out.below hb) (HN6_9.out.below hb))
  have HC3 := Lib.hid (fun V' (hb : Below W.heap.size W V') => HS.out _ _ _ _ _ _ _ _ _ _ _ _ _ _ (HN7_9.out.below hb) (HN8_9.out.below hb))
  have hM : M4 = M8 + 1 := by have h1 := HN4_9.out.na; have h2 := HN8_9.out.na; have h3 := HH.out.len; omega
  have hM8 : M8 ≤ 576 := by have h2 := HN8_9.out.na; have h3 := HH.out.len2; omega
  subst hM
  have hw1 : IntKind.i64.wrap ((M8 : Int) + 1) = (M8 : Int) + 1 := by rw [IntKind.wrap_i64]; omega
  have hc1 : ((M8 + 1 : Nat) : Int) = (M8 : Int) + 1 := by omega
  have hc2 : ((M8 : Int) + 1 != (M8 : Int) + 1) = false := by simp
  clear hwt hws hwr hwu hwv hwz hz9
  go_wp2_with (first
    | (go_at_call 15; refine HC1.out.mono ?_; rintro e V1 ⟨rfl, hV1⟩; have cc := KK.out _ hV1; clear t0 t1 s0 s1 r0 r1 u0 u1 v0 v1 z0 z1; obtain ⟨⟨t0, t1⟩, ⟨s0, s1⟩, ⟨r0, r1⟩, ⟨u0, u1⟩, ⟨v0, v1⟩, ⟨z0, z1⟩⟩ := cc; have HV1 := Lib.hid hV1; clear hV1 HC1)
    | (go_at_call 15; refine (HC2.out _ HV1.out).mono ?_; rintro e V2 ⟨rfl, hV2⟩; have HV2 := Lib.hid (HV1.out.trans (hV2.mono HV1.out.size)); have cc := KK.out _ HV2.out; clear t0 t1 s0 s1 r0 r1 u0 u1 v0 v1 z0 z1; obtain ⟨⟨t0, t1⟩, ⟨s0, s1⟩, ⟨r0, r1⟩, ⟨u0, u1⟩, ⟨v0, v1⟩, ⟨z0, z1⟩⟩ := cc; clear hV2 HV1 HC2))
  have hc := HC3.out _ HV2.out
  refine hc.mono ?_
  clear hc
  rintro e V3 ⟨rfl, hV3⟩
  have HV3 := Lib.hid (HV2.out.trans (hV3.mono HV2.out.size))
  have cc := KK.out _ HV3.out; clear t0 t1 s0 s1 r0 r1 u0 u1 v0 v1 z0 z1; obtain ⟨⟨t0, t1⟩, ⟨s0, s1⟩, ⟨r0, r1⟩, ⟨u0, u1⟩, ⟨v0, v1⟩, ⟨z0, z1⟩⟩ := cc
  clear hV3 HV2 HC3
  have HBV := Lib.hid (HB9.out.trans (HV3.out.mono HB9.out.size))
  have HX3 := Lib.hid (HN4_9.out.below HV3.out)
  have HK3 := Lib.hid (HN8_9.out.below HV3.out)
  have hnq : n.q.length = N := HO.out.nq
  clear HS KK HB9 HN4_9 HN5_9 HN6_9 HN7_9 HN8_9 hw1 hc1 hc2 r0 r1 u0 u1 v0 v1 HSN HQ
  by_cases hN0 : N = 0
  · subst hN0
    go_wp2_with fail
    go_ret
    exact ⟨rfl, HBV.out⟩
  obtain ⟨k, hk⟩ : ∃ k : Nat, k = at0.toNat % N := ⟨_, rfl⟩
  have hkN : k < N := by rw [hk]; exact Nat.mod_lt _ (by omega)
  have hmod : at0.tmod (N : Int) = (k : Int) := by
    rw [hk]
    obtain ⟨m, rfl⟩ := Int.eq_ofNat_of_zero_le ha.1
    rfl
  have e1 : ((N : Int) == 0) = false := by simp; omega
  have e2 : IntKind.u64.wrap (N : Int) = (N : Int) := by rw [IntKind.wrap_u64]; omega
  have e3 : IntKind.u64.wrap (k : Int) = (k : Int) := by rw [IntKind.wrap_u64]; omega
  have e4 : IntKind.i64.wrap (k : Int) = (k : Int) := by rw [IntKind.wrap_i64]; omega
  have e5 : ¬ ((N : Int) = 0) := by omega
  obtain ⟨x, hx⟩ : ∃ x, n.q[k]? = some x := ⟨_, List.getElem?_eq_getElem (by rw [hnq]; exact hkN)⟩
  obtain ⟨P, Q, hP, hQ, hE1, hE2, hcase⟩ := HD.out k x hx
  have HCS := Lib.hid hcase
  have hd := deliver_g HX3.out (k : Int)
  rw [hE1, hP] at hd
  generalize loseN X (k : Int) = Y1 at hd
  have hd2 := Lib.hid (fun (V : World) (hb : Below V3.heap.size V3 V) => by
    have := deliver_g (HK3.out.below hb) (k : Int)
    rwa [hE2, hQ] at this)
  generalize loseN K (k : Int) = Y2 at hd2
  clear hx hk hcase hE1 hE2 hP hQ HD hnq HX3 HK3
  go_wp2_with fail
  refine hd.mono ?_
  clear hd
  rintro e w9 ⟨q9, N9, k9, a9, M9, l9, p9, L9, c9, rfl, _, HP9, hb9⟩
  have hbx := two_below w9 (.cells #[.int .i64 P.1, .int .i64 P.2.1, .slice p9 L9 c9] 28) (.cells #[.slice q9 N9 k9, .slice a9 M9 l9] 25)
  have hz9 : V3.heap.size ≤ w9.heap.size := hb9.size
  have hd := hd2.out _ (hb9.trans (hbx.mono hb9.size))
  obtain ⟨⟨t0, t1⟩, ⟨z0, z1⟩⟩ : (((w9.alloc (.cells #[.int .i64 P.1, .int .i64 P.2.1, .slice p9 L9 c9] 28)).alloc (.cells #[.slice q9 N9 k9, .slice a9 M9 l9] 25)).cell? ⟨w.heap.size, 0, none⟩ = some (.slice pq N cq) ∧ ((w9.alloc (.cells #[.int .i64 P.1, .int .i64 P.2.1, .slice p9 L9 c9] 28)).alloc (.cells #[.slice q9 N9 k9, .slice a9 M9 l9] 25)).cell? ⟨w.heap.size, 1, none⟩ = some (.slice pa M ca)) ∧ ((w9.alloc (.cells #[.int .i64 P.1, .int .i64 P.2.1, .slice p9 L9 c9] 28)).alloc (.cells #[.slice q9 N9 k9, .slice a9 M9 l9] 25)).cell? ⟨w8.heap.size, 0, none⟩ = some (.slice q8 N8 k8) ∧ ((w9.alloc (.cells #[.int .i64 P.1, .int .i64 P.2.1, .slice p9 L9 c9] 28)).alloc (.cells #[.slice q9 N9 k9, .slice a9 M9 l9] 25)).cell? ⟨w8.heap.size, 1, none⟩ = some (.slice a8 M8 l8) :=
    ⟨keep2 hbx (by have := lt_of_cell t0; omega) (keep2 hb9 (lt_of_cell t0) ⟨t0, t1⟩), keep2 hbx (by have := lt_of_cell z0; omega) (keep2 hb9 (lt_of_cell z0) ⟨z0, z1⟩)⟩
  obtain ⟨y0, y1, y2⟩ := keep3 (one_new (w9.alloc (.cells #[.int .i64 P.1, .int .i64 P.2.1, .slice p9 L9 c9] 28)) (.cells #[.slice q9 N9 k9, .slice a9 M9 l9] 25)) (by simp) (new3 w9 (.int .i64 P.1) (.int .i64 P.2.1) (.slice p9 L9 c9) 28)
  go_wp2_with fail
  refine hd.mono ?_
  clear hd
  rintro e w10 ⟨q10, N10, k10, a10, M10, l10, p10, L10, c10, rfl, _, HQ10, hb10⟩
  have cc := keep3 hb10 (by simp; omega) ⟨y0, y1, y2⟩
  clear y0 y1 y2
  obtain ⟨y0, y1, y2⟩ := cc
  have hz10 : w9.heap.size < w10.heap.size := by have := hb10.size; simp at this; omega
  have hbz := two_below w10 (.cells #[.int .i64 Q.1, .int .i64 Q.2.1, .slice p10 L10 c10] 28) (.cells #[.slice q10 N10 k10, .slice a10 M10 l10] 25)
  have cc := keep3 hbz hz10 ⟨y0, y1, y2⟩
  clear y0 y1 y2
  obtain ⟨y0, y1, y2⟩ := cc
  obtain ⟨x0, x1, x2⟩ := keep3 (one_new (w10.alloc (.cells #[.int .i64 Q.1, .int .i64 Q.2.1, .slice p10 L10 c10] 28)) (.cells #[.slice q10 N10 k10, .slice a10 M10 l10] 25)) (by simp) (new3 w10 (.int .i64 Q.1) (.int .i64 Q.2.1) (.slice p10 L10 c10) 28)
  have hsz : ((w10.alloc (.cells #[.int .i64 Q.1, .int .i64 Q.2.1, .slice p10 L10 c10] 28)).alloc (.cells #[.slice q10 N10 k10, .slice a10 M10 l10] 25)).heap.size = w10.heap.size + 2 := by simp
  have HPW := Lib.hid ((HP9.out.below (two_later hb10)).below hbz)
  have HQW := Lib.hid (HQ10.out.below hbz)
  have HBW := Lib.hid (HBV.out.trans (((hb9.trans ((two_later hb10).mono hb9.size)).trans (hbz.mono (by have := (two_later hb10).size; omega))).mono HBV.out.size))
  clear hb9 hb10 hbx hbz HP9 HQ10 HBV hd2 t0 t1 z0 z1 hz9
  clear s0 s1 e1 e2 e3 e4 e5 hmod
  go_upto_region 19 with fail
  have hzw : w10.heap.size < ((w10.alloc (.cells #[.int .i64 Q.1, .int .i64 Q.2.1, .slice p10 L10 c10] 28)).alloc (.cells #[.slice q10 N10 k10, .slice a10 M10 l10] 25)).heap.size := by omega
  have hzv : w9.heap.size < ((w10.alloc (.cells #[.int .i64 Q.1, .int .i64 Q.2.1, .slice p10 L10 c10] 28)).alloc (.cells #[.slice q10 N10 k10, .slice a10 M10 l10] 25)).heap.size := by omega
  generalize ((w10.alloc (.cells #[.int .i64 Q.1, .int .i64 Q.2.1, .slice p10 L10 c10] 28)).alloc (.cells #[.slice q10 N10 k10, .slice a10 M10 l10] 25)) = W2 at *
  have KK2 : Hid (∀ V' : World, Below W2.heap.size W2 V' → (V'.cell? ⟨w9.heap.size, 0, none⟩ = some (.int .i64 P.1) ∧ V'.cell? ⟨w9.heap.size, 1, none⟩ = some (.int .i64 P.2.1) ∧ V'.cell? ⟨w9.heap.size, 2, none⟩ = some (.slice p9 L9 c9)) ∧ (V'.cell? ⟨w10.heap.size, 0, none⟩ = some (.int .i64 Q.1) ∧ V'.cell? ⟨w10.heap.size, 1, none⟩ = some (.int .i64 Q.2.1) ∧ V'.cell? ⟨w10.heap.size, 2, none⟩ = some (.slice p10 L10 c10))) :=
    Lib.hid fun V' hb => ⟨keep3 hb hzv ⟨y0, y1, y2⟩, keep3 hb hzw ⟨x0, x1, x2⟩⟩
  have KP := Lib.hid (fun (V : World) (hb : Below W2.heap.size W2 V) => samep_any _ _ P pk0 V (HPW.out.below hb) (zero_PKV (F := Ev) V))
  have KQ := Lib.hid (fun (V : World) (hb : Below W2.heap.size W2 V) => samep_any _ _ Q pk0 V (HQW.out.below hb) (zero_PKV (F := Ev) V))
  have KR := Lib.hid (fun (V : World) (hb : Below W2.heap.size W2 V) => samep_any _ _ P Q V (HPW.out.below hb) (HQW.out.below hb))
  clear hzw hzv hsz hz10 HPW HQW
  rcases HCS.out with ⟨hp, hq⟩ | ⟨hp, hq⟩
  · have hs : sameP P pk0 = true := by rw [hp]; kernel_rfl
    rw [hs] at KP
    clear HCS KQ KR
    rcases hq with ⟨g1, g2⟩ | ⟨g1, g2, g3⟩
    · have f1 : (Q.1 == a) = true := by simp [g1]
      have f2 : (Q.2.1 == b) = true := by simp [g2]
      clear hp hs g1 g2
      go_wp2_with (go_at_call 22; refine (KP.out _ (Below.refl _ _)).mono ?_; rintro e V4 ⟨rfl, hV4⟩; have cc := KK2.out _ hV4; clear y0 y1 y2 x0 x1 x2; obtain ⟨⟨y0, y1, y2⟩, x0, x1, x2⟩ := cc)
      go_ret
      exact ⟨rfl, HBW.out.trans (hV4.mono HBW.out.size)⟩
    · have f1 : (Q.1 == a) = false := by simp [g1]
      have f2 : (Q.1 == b) = true := by simp [g2]
      have f3 : (Q.2.1 == a) = true := by simp [g3]
      clear hp hs g1 g2 g3
      go_wp2_with (go_at_call 22; refine (KP.out _ (Below.refl _ _)).mono ?_; rintro e V4 ⟨rfl, hV4⟩; have cc := KK2.out _ hV4; clear y0 y1 y2 x0 x1 x2; obtain ⟨⟨y0, y1, y2⟩, x0, x1, x2⟩ := cc)
      go_ret
      exact ⟨rfl, HBW.out.trans (hV4.mono HBW.out.size)⟩
  · have hr : sameP P Q = true := by rw [hp]; simp [sameP]
    rw [hr] at KR
    have hpq : sameP P pk0 = sameP Q pk0 := by rw [hp]
    rw [hpq] at KP
    have hb : ((Q.1 == a) = true ∧ (Q.2.1 == b) = false ∧ (Q.1 == b) = false) ∨ ((Q.1 == a) = false ∧ (Q.1 == b) = true ∧ (Q.2.1 == a) = false) ∨ ((Q.1 == a) = false ∧ (Q.1 == b) = false) := by
      simp only [beq_iff_eq, beq_eq_false_iff_ne, ne_eq]
      simpa using hq
    clear HCS hr hq hp hpq
    generalize sameP Q pk0 = sb at KP KQ
    have hsb : (sb == sb) = true := by simp
    rcases hb with ⟨f1, f2, f3⟩ | ⟨f1, f2, f3⟩ | ⟨f1, f2⟩
    all_goals
      go_wp2_with (first
        | (go_at_call 22; refine (KP.out _ (Below.refl _ _)).mono ?_; rintro e V4 ⟨rfl, hV4⟩; have cc := KK2.out _ hV4; clear y0 y1 y2 x0 x1 x2; obtain ⟨⟨y0, y1, y2⟩, x0, x1, x2⟩ := cc; have HV4 := Lib.hid hV4; clear hV4 KP)
        | (go_at_call 22; refine (KQ.out _ HV4.out).mono ?_; rintro e V5 ⟨rfl, hV5⟩; have HV5 := Lib.hid (HV4.out.trans (hV5.mono HV4.out.size)); have cc := KK2.out _ HV5.out; clear y0 y1 y2 x0 x1 x2; obtain ⟨⟨y0, y1, y2⟩, x0, x1, x2⟩ := cc; clear hV5 KQ)
        | (go_at_call 22; refine (KR.out _ HV5.out).mono ?_; rintro e V6 ⟨rfl, hV6⟩; have HV6 := Lib.hid (HV5.out.trans (hV6.mono HV5.out.size)); have cc := KK2.out _ HV6.out; clear y0 y1 y2 x0 x1 x2; obtain ⟨⟨y0, y1, y2⟩, x0, x1, x2⟩ := cc; clear hV6 KR))
      go_ret
      exact ⟨rfl, HBW.out.trans (HV6.out.mono HBW.out.size)⟩
end Go.Proofs.Ytpempgajejbdoaa
