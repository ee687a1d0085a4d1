/-
  NetworkLost's own body: it returns true.
-/
import Derived.Test.YtpempgajejbdoaaTee
namespace Go.Proofs.Ytpempgajejbdoaa
open Go Go.RowKit
theorem okQ_all {q : List Pk} (h : okQ q = true) : q.length ≤ 4096 ∧ ∀ x ∈ q, pkB x = true := by
  unfold okQ at h
  rw [Bool.and_eq_true, decide_eq_true_eq, List.all_eq_true] at h
  exact h
theorem okQ_mk {q : List Pk} (h1 : q.length ≤ 4096) (h2 : ∀ x ∈ q, pkB x = true) : okQ q = true := by
  unfold okQ
  rw [Bool.and_eq_true, decide_eq_true_eq, List.all_eq_true]
  exact ⟨h1, h2⟩
theorem okN_q {n : Nt} (h : okN n = true) : okQ n.q = true := by
  unfold okN at h
  rw [Bool.and_eq_true] at h
  exact h.1
theorem okN_mk {n : Nt} (h1 : okQ n.q = true) (h2 : okA n.a = true) : okN n = true := by unfold okN; rw [h1, h2]; rfl
/-- what becomes of the links -/
structure Lst (n : Nt) (k : Nat) (x : Pk) : Prop where
  ask : askE n (k : Int) = 0
  lose : loseN n (k : Int) = wo n k
  rep : repN n (k : Int) = ⟨n.q ++ [x], n.a⟩
  repE : repE n (k : Int) = 0
  ask2 : askE ⟨n.q ++ [x], n.a⟩ (k : Int) = 0
  lose2 : loseN ⟨n.q ++ [x], n.a⟩ (k : Int) = ⟨(wo n k).q ++ [x], n.a⟩
  send : sendN (wo n k) x = ⟨(wo n k).q ++ [x], n.a⟩
  sendE : sendE (wo n k) x = 0
theorem lst {n : Nt} {k : Nat} {x : Pk} (hok : okN n = true) (hN : n.q.length ≤ 40) (hx : n.q[k]? = some x) : Lst n k x := by
  have hk := (List.getElem?_eq_some_iff.1 hx).1
  obtain ⟨_, hall⟩ := okQ_all (okN_q hok)
  have hpx : pkB x = true := hall x (List.mem_of_getElem? hx)
  have hA := okN_a hok
  have a1 : askE n (k : Int) = 0 := askE_in hok hk
  have hp : pkAt n (k : Int) = x := by unfold pkAt; rw [Int.toNat_natCast, hx]; rfl
  have hadd : addN n x = ⟨n.q ++ [x], n.a⟩ := by unfold addN; rw [if_neg (by omega)]
  have haddE : addE n = 0 := by unfold addE; rw [if_neg (by omega)]
  have hok2 : okN ⟨n.q ++ [x], n.a⟩ = true := okN_mk (okQ_mk (by simp; omega) (fun y hy => by
    rcases List.mem_append.1 hy with h | h
    · exact hall y h
    · simp at h; subst h; exact hpx)) hA
  have hl2 : k < (n.q ++ [x]).length := by simp; omega
  have a2 : askE ⟨n.q ++ [x], n.a⟩ (k : Int) = 0 := askE_in hok2 hl2
  have hokb : okN (wo n k) = true := okN_mk (okQ_mk (by unfold wo; simp; omega) (fun y hy => by
    unfold wo at hy
    rcases List.mem_append.1 hy with h | h
    · exact hall y (List.mem_of_mem_take h)
    · exact hall y (List.mem_of_mem_drop h))) hA
  have hlb : (wo n k).q.length ≤ 40 := by unfold wo; simp; omega
  have haddb : addN (wo n k) x = ⟨(wo n k).q ++ [x], n.a⟩ := by unfold addN; rw [if_neg (by omega)]; rfl
  have hcond : (okN (wo n k) && pkB x) = true := by rw [hokb, hpx]; rfl
  refine ⟨a1, by unfold loseN; rw [if_pos a1]; rfl, by unfold repN; rw [if_pos a1, hp, hadd], by unfold repE; rw [if_pos a1, haddE], a2, ?_, by unfold sendN; rw [if_pos hcond, haddb], by unfold sendE; rw [if_pos hcond]; unfold addE; rw [if_neg (by omega)]⟩
  unfold loseN
  rw [if_pos a2]
  unfold wo
  simp only [Int.toNat_natCast, Nt.mk.injEq, and_true]
  rw [List.take_append_of_le_length (by omega), List.drop_append_of_le_length (by omega), List.append_assoc]
theorem lt_of_cell {w : World} {b o : Nat} {v : Value} (h : w.cell? ⟨b, o, none⟩ = some v) : b < w.heap.size := by
  apply Classical.byContradiction
  intro hn
  have : w.heap[b]? = none := Array.getElem?_eq_none (by omega)
  unfold World.cell? at h
  simp [this] at h
/-- Send's call, and what is stored of it behind it -/
theorem sndA {W : World} {v u : Value} {n m : Nt} {x : Pk} (hN : NV Ev W v n) (hP : PKV Ev W u x) (hm : sendN n x = m) (hE : sendE n x = 0) : Calls Try.prog 11 #[v, u] W.drew fun en w9 => ∃ pq N cq pa M ca, en = .returned (.tuple #[nval pq N cq pa M ca, .int .i64 0]) ∧
    Hid (Op Ev (w9.alloc (.cells #[.slice pq N cq, .slice pa M ca] 25)) m pq N cq pa M ca) ∧ Hid (Below W.heap.size W (w9.alloc (.cells #[.slice pq N cq, .slice pa M ca] 25))) ∧
    Hid ((w9.alloc (.cells #[.slice pq N cq, .slice pa M ca] 25)).cell? ⟨w9.heap.size, 0, none⟩ = some (.slice pq N cq) ∧ (w9.alloc (.cells #[.slice pq N cq, .slice pa M ca] 25)).cell? ⟨w9.heap.size, 1, none⟩ = some (.slice pa M ca)) := by
  have h0 : Below W.heap.size W W.drew := drew_bel (Below.refl _ _)
  have hs := send_any _ u n x W.drew (hN.below h0) (hP.below h0)
  rw [hm, hE] at hs
  refine hs.mono ?_
  rintro e w9 ⟨v2, rfl, hv2, hb⟩
  obtain ⟨pq, N, cq, pa, M, ca, rfl, HO, _⟩ := hv2.ev.op
  have hb2 : Below W.heap.size W w9 := h0.trans hb
  exact ⟨pq, N, cq, pa, M, ca, rfl, Lib.hid (HO.out.below (one_new _ _)), Lib.hid (hb2.trans ((one_new _ _).mono hb2.size)), Lib.hid (new2 _ _ _ _)⟩
theorem sndB {W : World} {v u : Value} {n m : Nt} {x : Pk} (c d : Value) (hN : NV Ev W v n) (hP : PKV Ev W u x) (hm : sendN n x = m) (hE : sendE n x = 0) : Calls Try.prog 11 #[v, u] (W.alloc (.cells #[c, d] 25)).drew fun en w9 => ∃ pq N cq pa M ca, en = .returned (.tuple #[nval pq N cq pa M ca, .int .i64 0]) ∧
    Hid ((w9.cell? ⟨W.heap.size, 0, none⟩ = some c ∧ w9.cell? ⟨W.heap.size, 1, none⟩ = some d) ∧ (w9.frozen? ⟨W.heap.size, 0, none⟩ = false ∧ w9.frozen? ⟨W.heap.size, 1, none⟩ = false)) ∧
    Hid (Op Ev ((w9.setCell ⟨W.heap.size, 0, none⟩ (.slice pq N cq)).setCell ⟨W.heap.size, 1, none⟩ (.slice pa M ca)) m pq N cq pa M ca) ∧ Hid (Below W.heap.size W ((w9.setCell ⟨W.heap.size, 0, none⟩ (.slice pq N cq)).setCell ⟨W.heap.size, 1, none⟩ (.slice pa M ca))) ∧
    Hid (((w9.setCell ⟨W.heap.size, 0, none⟩ (.slice pq N cq)).setCell ⟨W.heap.size, 1, none⟩ (.slice pa M ca)).cell? ⟨W.heap.size, 0, none⟩ = some (.slice pq N cq) ∧ ((w9.setCell ⟨W.heap.size, 0, none⟩ (.slice pq N cq)).setCell ⟨W.heap.size, 1, none⟩ (.slice pa M ca)).cell? ⟨W.heap.size, 1, none⟩ = some (.slice pa M ca)) := by
  have h0 : Below W.heap.size W (W.alloc (.cells #[c, d] 25)).drew := drew_bel (one_new W _)
  have hs := send_any _ u n x (W.alloc (.cells #[c, d] 25)).drew (hN.lo.below h0) (hP.lo.below h0)
  rw [hm, hE] at hs
  refine hs.mono ?_
  rintro e w9 ⟨v2, rfl, hv2, hb⟩
  have hsz : (W.alloc (.cells #[c, d] 25)).drew.heap.size = W.heap.size + 1 := by show (W.alloc (.cells #[c, d] 25)).heap.size = _; simp
  have hb2 : Below W.heap.size W w9 := h0.trans (hb.mono (by rw [hsz]; omega))
  have r : w9.heap[W.heap.size]? = some (.cells #[c, d] 25 (0, 0)) := (hb.block _ (by rw [hsz]; omega)).trans (heap_alloc_new W _)
  have hlt : W.heap.size < w9.heap.size := by have := hb.size; rw [hsz] at this; omega
  have hk := fun a b => (hv2.keep (KeepF.of_chg (set2_chg w9 W.heap.size a b) (nw_not (by omega) (by rw [hsz]; omega)))).ev
  obtain ⟨pq, N, cq, pa, M, ca, rfl, HO, _⟩ := hv2.ev.op
  have hk2 := hk (.slice pq N cq) (.slice pa M ca)
  obtain ⟨pq2, N2, cq2, pa2, M2, ca2, he, HO2, _⟩ := hk2.op
  obtain ⟨rfl, rfl, rfl, rfl, rfl, rfl⟩ : pq = pq2 ∧ N = N2 ∧ cq = cq2 ∧ pa = pa2 ∧ M = M2 ∧ ca = ca2 := by simpa [nval, and_assoc] using he
  exact ⟨pq, N, cq, pa, M, ca, rfl, Lib.hid (row2_cells r), HO2, Lib.hid (Chg.below hb2 hb2.size (Nat.le_refl _) (set2_chg _ _ _ _)), Lib.hid (row2_cells (set2_row r)).1⟩
set_option maxHeartbeats 4000000 in
theorem lawLost (v : Value) (n : Nt) (a : Int) (w : World) (h : NV Ev w v n) (ha : 0 ≤ a ∧ a < 18446744073709551616) (hsane : ∀ w : World, Calls Try.prog 9 #[] w (Ret (.bool true) w)) : Calls Try.prog 8 #[v, .int .u64 a] w (Ret (.bool true) w) := by
  obtain ⟨pq, N, cq, pa, M, ca, rfl, HO, hq1, hq2, ha1, ha2⟩ := h.op
  have HSN := Lib.hid hsane
  clear h hsane
  go_enter Try.func8, Try.ntmps8
  go_wp2_with fail
  refine (HSN.out _).mono ?_
  rintro e w1 ⟨rfl, hb1⟩
  obtain ⟨t0, t1⟩ := keep2 hb1 (by simp) (new2 w (.slice pq N cq) (.slice pa M ca) 25)
  have hz1 : w.heap.size < w1.heap.size := by have := hb1.size; simp at this; omega
  have HB1 := Lib.hid (one_later hb1)
  clear hb1
  have hf := few_any _ n w1 (HO.out.below HB1.out).nv
  cases hfew : fewB n
  · rw [hfew] at hf
    have HF := Lib.hid hf
    clear hf hfew
    go_wp2_with fail
    refine HF.out.mono ?_
    rintro e w2 ⟨rfl, hb2⟩
    go_wp2_with fail
    go_ret
    exact ⟨rfl, HB1.out.trans (hb2.mono HB1.out.size)⟩
  rw [hfew] at hf
  have HF := Lib.hid hf
  clear hf
  go_wp2_with fail
  refine HF.out.mono ?_
  rintro e w2 ⟨rfl, hb2⟩
  obtain ⟨t0, t1⟩ := keep2 hb2 (by omega) ⟨t0, t1⟩
  have hz2 : w.heap.size < w2.heap.size := by have := hb2.size; omega
  have HB2 := Lib.hid (HB1.out.trans (hb2.mono HB1.out.size))
  clear hb2 HF HB1 hz1
  have hc := check_any _ n w2 (HO.out.below HB2.out).nv
  cases hok : okN n
  · rw [chk_no hok] at hc
    have HC := Lib.hid hc
    clear hc hok hfew
    go_wp2_with fail
    refine HC.out.mono ?_
    rintro e w3 ⟨rfl, hb3⟩
    go_wp2_with fail
    go_ret
    exact ⟨rfl, HB2.out.trans (hb3.mono HB2.out.size)⟩
  rw [chk_ok hok] at hc
  have HC := Lib.hid hc
  clear hc
  go_wp2_with fail
  refine HC.out.mono ?_
  rintro e w3 ⟨rfl, hb3⟩
  obtain ⟨t0, t1⟩ := keep2 hb3 (by omega) ⟨t0, t1⟩
  have hz3 : w.heap.size < w3.heap.size := by have := hb3.size; omega
  have HB3 := Lib.hid (HB2.out.trans (hb3.mono HB2.out.size))
  clear hb3 HC HB2 hz2
  by_cases hN0 : N = 0
  · subst hN0
    go_wp2_with fail
    go_ret
    exact ⟨rfl, HB3.out⟩
  have hN40 : N ≤ 40 := by
    unfold fewB at hfew
    rw [HO.out.nq] at hfew
    simp at hfew
    omega
  obtain ⟨k, hk⟩ : ∃ k : Nat, k = a.toNat % N := ⟨_, rfl⟩
  have hkN : k < N := by rw [hk]; exact Nat.mod_lt _ (by omega)
  have hmod : a.tmod (N : Int) = (k : Int) := by
    rw [hk]
    obtain ⟨m, rfl⟩ := Int.eq_ofNat_of_zero_le ha.1
    rfl
  have e1 : ((N : Int) == 0) = false := by simp; omega
  have e2 : IntKind.u64.wrap (N : Int) = (N : Int) := by rw [IntKind.wrap_u64]; omega
  have e3 : IntKind.u64.wrap (k : Int) = (k : Int) := by rw [IntKind.wrap_u64]; omega
  have e4 : IntKind.i64.wrap (k : Int) = (k : Int) := by rw [IntKind.wrap_i64]; omega
  have e5 : ¬ ((N : Int) = 0) := by omega
  obtain ⟨x, hx⟩ : ∃ x, n.q[k]? = some x := ⟨_, List.getElem?_eq_getElem (by rw [HO.out.nq]; exact hkN)⟩
  have HL := Lib.hid (lst hok (by rw [HO.out.nq]; exact hN40) hx)
  have HX := Lib.hid hx
  clear hok hfew hx hk
  go_wp2_with fail
  have hd := deliver_g (HO.out.below HB3.out) (k : Int)
  rw [HL.out.ask, HL.out.lose] at hd
  generalize delP n (k : Int) = y at hd
  refine hd.mono ?_
  clear hd
  rintro e w4 ⟨q4, N4, k4, a4, M4, l4, p4, L4, c4, rfl, HOa, _, hb4⟩
  obtain ⟨t0, t1⟩ := keep2 hb4 (by omega) ⟨t0, t1⟩
  have hz4 : w.heap.size < w4.heap.size := by have := hb4.size; omega
  have HB4 := Lib.hid (HB3.out.trans (hb4.mono HB3.out.size))
  clear hb4 HB3 hz3
  have hz41 : w.heap.size < w4.heap.size + 1 := by omega
  have hbx := two_below w4 (.cells #[.int .i64 y.1, .int .i64 y.2.1, .slice p4 L4 c4] 28) (.cells #[.slice q4 N4 k4, .slice a4 M4 l4] 25)
  have hsx : ((w4.alloc (.cells #[.int .i64 y.1, .int .i64 y.2.1, .slice p4 L4 c4] 28)).alloc (.cells #[.slice q4 N4 k4, .slice a4 M4 l4] 25)).heap.size = w4.heap.size + 2 := by simp
  have hd := lose_g ((HO.out.below HB4.out).below hbx) (k : Int)
  rw [HL.out.ask, HL.out.lose] at hd
  have hn4 := new2 (w4.alloc (.cells #[.int .i64 y.1, .int .i64 y.2.1, .slice p4 L4 c4] 28)) (.slice q4 N4 k4) (.slice a4 M4 l4) 25
  rw [World.size_alloc] at hn4
  go_wp2_with fail
  refine hd.mono ?_
  clear hd
  rintro e w5 ⟨q5, N5, k5, a5, M5, l5, rfl, HOb, hb5⟩
  obtain ⟨t0, t1⟩ := keep2 (two_later hb5) (by omega) ⟨t0, t1⟩
  obtain ⟨s0, s1⟩ := keep2 hb5 (by rw [hsx]; omega) hn4
  have hz5 : w4.heap.size + 2 ≤ w5.heap.size := by have := hb5.size; omega
  have hz50 : w.heap.size < w5.heap.size := by omega
  have HOa5 := Lib.hid (HOa.out.below (two_later hb5))
  have HB5 := Lib.hid (HB4.out.trans ((two_later hb5).mono HB4.out.size))
  clear hb5 HB4 HOa hn4 hsx hbx hz4 hz41
  have hd := repeat_g ((HO.out.below HB5.out).below (one_new w5 (.cells #[.slice q5 N5 k5, .slice a5 M5 l5] 25))) (k : Int)
  rw [HL.out.rep, HL.out.repE] at hd
  go_wp2_with fail
  refine hd.mono ?_
  clear hd
  rintro e w6 ⟨q6, N6, k6, a6, M6, l6, rfl, HOc, hb6⟩
  obtain ⟨t0, t1⟩ := keep2 (one_later hb6) (by omega) ⟨t0, t1⟩
  obtain ⟨s0, s1⟩ := keep2 (one_later hb6) (by omega) ⟨s0, s1⟩
  obtain ⟨r0, r1⟩ := keep2 hb6 (by simp) (new2 w5 (.slice q5 N5 k5) (.slice a5 M5 l5) 25)
  have hz6 : w5.heap.size < w6.heap.size := by have := hb6.size; simp at this; omega
  have hz60 : w.heap.size < w6.heap.size := by omega
  have HOa6 := Lib.hid (HOa5.out.below (one_later hb6))
  have HOb6 := Lib.hid (HOb.out.below (one_later hb6))
  have HB6 := Lib.hid (HB5.out.trans ((one_later hb6).mono HB5.out.size))
  clear hb6 HB5 HOa5 HOb hz50
  have hd := lose_g (HOc.out.below (one_new w6 (.cells #[.slice q6 N6 k6, .slice a6 M6 l6] 25))) (k : Int)
  rw [HL.out.ask2, HL.out.lose2] at hd
  go_wp2_with fail
  refine hd.mono ?_
  clear hd
  rintro e w7 ⟨q7, N7, k7, a7, M7, l7, rfl, HOd, hb7⟩
  obtain ⟨t0, t1⟩ := keep2 (one_later hb7) (by omega) ⟨t0, t1⟩
  obtain ⟨s0, s1⟩ := keep2 (one_later hb7) (by omega) ⟨s0, s1⟩
  obtain ⟨r0, r1⟩ := keep2 (one_later hb7) (by omega) ⟨r0, r1⟩
  obtain ⟨u0, u1⟩ := keep2 hb7 (by simp) (new2 w6 (.slice q6 N6 k6) (.slice a6 M6 l6) 25)
  have hz7 : w6.heap.size < w7.heap.size := by have := hb7.size; simp at this; omega
  have hz70 : w.heap.size < w7.heap.size := by omega
  have HOa7 := Lib.hid (HOa6.out.below (one_later hb7))
  have HOb7 := Lib.hid (HOb6.out.below (one_later hb7))
  have HOc7 := Lib.hid (HOc.out.below (one_later hb7))
  have HB7 := Lib.hid (HB6.out.trans ((one_later hb7).mono HB6.out.size))
  clear hb7 HB6 HOa6 HOb6 HOc
  go_wp2_with fail
  have hb8 := one_new w7 (.cells #[.slice q7 N7 k7, .slice a7 M7 l7] 25)
  obtain ⟨t0, t1⟩ := keep2 hb8 (by omega) ⟨t0, t1⟩
  obtain ⟨s0, s1⟩ := keep2 hb8 (by omega) ⟨s0, s1⟩
  obtain ⟨r0, r1⟩ := keep2 hb8 (by omega) ⟨r0, r1⟩
  obtain ⟨u0, u1⟩ := keep2 hb8 (by omega) ⟨u0, u1⟩
  obtain ⟨v0, v1⟩ := new2 w7 (.slice q7 N7 k7) (.slice a7 M7 l7) 25
  have hz8 : (w7.alloc (.cells #[.slice q7 N7 k7, .slice a7 M7 l7] 25)).heap.size = w7.heap.size + 1 := by simp
  have HOa8 := Lib.hid (HOa7.out.below hb8)
  have HOb8 := Lib.hid (HOb7.out.below hb8)
  have HOc8 := Lib.hid (HOc7.out.below hb8)
  have HOd8 := Lib.hid (HOd.out.below hb8)
  have HB8 := Lib.hid (HB7.out.trans (hb8.mono HB7.out.size))
  clear hb8 HOa7 HOb7 HOc7 HOd HB7
  generalize (w7.alloc (.cells #[.slice q7 N7 k7, .slice a7 M7 l7] 25)) = W at *
  obtain ⟨b, o, f, t, pu, L, cu, l, rfl, hbl, g0, g1, g2, HPK, hu1, hu2, HW⟩ := (HO.out.below HB8.out).que.pkAt k (by rw [HO.out.nq]; exact hkN)
  have hkN2 : (k : Int) < (N : Int) := by omega
  have hxe : x = (f, t, l) := by have := HPK.out.1; rw [HX.out] at this; exact Option.some.inj this
  subst hxe
  have hl1 : w.heap.size < W.heap.size := by omega
  have hl2 : w4.heap.size + 1 < W.heap.size := by omega
  have hl3 : w5.heap.size < W.heap.size := by omega
  have hl4 : w6.heap.size < W.heap.size := by omega
  have hl5 : w7.heap.size < W.heap.size := by omega
  have HZ8 := Lib.hid hz8
  clear hz8 hz7 hz6 hz5
  have hsA := Lib.hid (sndA (W := W) HOb8.out.nv (PKV.ev (F := Ev) ⟨_, rfl, HW.out.1, HW.out.2, HPK.out.2.2⟩) HL.out.send HL.out.sendE)
  have hsB := Lib.hid (sndB (W := W) (.slice none 0 0) (.slice none 0 0) HOb8.out.nv (PKV.ev (F := Ev) ⟨_, rfl, HW.out.1, HW.out.2, HPK.out.2.2⟩) HL.out.send HL.out.sendE)
  have HS : Hid (∀ (V : World) (q N c a M d q' N' c' a' M' d'), Op Ev V (wo n k) q N c a M d → Op Ev V (wo n k) q' N' c' a' M' d' → Calls Try.prog 15 #[nval q N c a M d, nval q' N' c' a' M' d'] V (Ret (.bool true) V)) := Lib.hid (fun V _ _ _ _ _ _ _ _ _ _ _ _ h1 h2 => by
    have := same_any _ _ _ _ V h1.nv h2.nv
    rwa [sameN_self] at this)
  have HS2 : Hid (∀ (V : World) (q N c a M d q' N' c' a' M' d'), Op Ev V ⟨(wo n k).q ++ [(f, t, l)], n.a⟩ q N c a M d → Op Ev V ⟨(wo n k).q ++ [(f, t, l)], n.a⟩ q' N' c' a' M' d' → Calls Try.prog 15 #[nval q N c a M d, nval q' N' c' a' M' d'] V (Ret (.bool true) V)) := Lib.hid (fun V _ _ _ _ _ _ _ _ _ _ _ _ h1 h2 => by
    have := same_any _ _ _ _ V h1.nv h2.nv
    rwa [sameN_self] at this)
  go_region_with (first
    | (go_at_call 11; refine hsA.out.mono ?_; rintro e w9 ⟨q9, N9, k9, a9, M9, l9, rfl, HOe, HB9, HC9⟩)
    | (go_at_call 11; refine hsB.out.mono ?_; rintro e w9 ⟨q9, N9, k9, a9, M9, l9, rfl, HF9, HOe, HB9, HC9⟩; obtain ⟨⟨x0, x1⟩, y0, y1⟩ := HF9.out))
  all_goals
    first
      | (
        have _ := HF9.out
        have hBz : W.heap.size < ((w9.setCell ⟨W.heap.size, 0, none⟩ (.slice q9 N9 k9)).setCell ⟨W.heap.size, 1, none⟩ (.slice a9 M9 l9)).heap.size := lt_of_cell HC9.out.1
        obtain ⟨z0, z1⟩ := HC9.out
        have hB9 := HB9.out
        have hW9 := hB9.size
        obtain ⟨t0, t1⟩ := keep2 hB9 hl1 ⟨t0, t1⟩
        obtain ⟨s0, s1⟩ := keep2 hB9 hl2 ⟨s0, s1⟩
        obtain ⟨r0, r1⟩ := keep2 hB9 hl3 ⟨r0, r1⟩
        obtain ⟨u0, u1⟩ := keep2 hB9 hl4 ⟨u0, u1⟩
        obtain ⟨v0, v1⟩ := keep2 hB9 hl5 ⟨v0, v1⟩
        have HOa9 := Lib.hid (HOa8.out.below hB9)
        have HOb9 := Lib.hid (HOb8.out.below hB9)
        have HOd9 := Lib.hid (HOd8.out.below hB9)
        have hN6 : N6 = N + 1 := by have h1 := HOc8.out.nq; have h2 := HO.out.nq; simp at h1; omega
        have HBF := Lib.hid (HB8.out.trans (hB9.mono HB8.out.size))
        clear hB9 HB9 HOa8 HOb8 HOc8 HOd8 g0 g1 g2 HC9 x0 x1 y0 y1 HF9
        subst hN6
        generalize ((w9.setCell ⟨W.heap.size, 0, none⟩ (.slice q9 N9 k9)).setCell ⟨W.heap.size, 1, none⟩ (.slice a9 M9 l9)) = V at *
        generalize W.heap.size = zb at *
        have KK : Hid (∀ V' : World, Below V.heap.size V V' → (V'.cell? ⟨w.heap.size, 0, none⟩ = some (.slice (some ⟨b, o, none⟩) N cq) ∧ V'.cell? ⟨w.heap.size, 1, none⟩ = some (.slice pa M ca)) ∧ (V'.cell? ⟨w6.heap.size, 0, none⟩ = some (.slice q6 (N + 1) k6) ∧ V'.cell? ⟨w6.heap.size, 1, none⟩ = some (.slice a6 M6 l6)) ∧
          (V'.cell? ⟨w7.heap.size, 0, none⟩ = some (.slice q7 N7 k7) ∧ V'.cell? ⟨w7.heap.size, 1, none⟩ = some (.slice a7 M7 l7)) ∧ (V'.cell? ⟨zb, 0, none⟩ = some (.slice q9 N9 k9) ∧ V'.cell? ⟨zb, 1, none⟩ = some (.slice a9 M9 l9))) :=
          Lib.hid fun V' hb => ⟨keep2 hb (by omega) ⟨t0, t1⟩, keep2 hb (by omega) ⟨u0, u1⟩, keep2 hb (by omega) ⟨v0, v1⟩, keep2 hb (by omega) ⟨z0, z1⟩⟩
        have HC1 := Lib.hid (HS.out _ _ _ _ _ _ _ _ _ _ _ _ _ HOa9.out HOb9.out)
        have HC2 := Lib.hid (fun V' (hb : Below V.heap.size V V') => HS2.out _ _ _ _ _ _ _ _ _ _ _ _ _ (HOd9.out.below hb) (HOe.out.below hb))
        have hw1 : IntKind.i64.wrap ((N : Int) + 1) = (N : Int) + 1 := by rw [IntKind.wrap_i64]; omega
        have hc1 : ((N + 1 : Nat) : Int) = (N : Int) + 1 := by omega
        have hc2 : ((N : Int) + 1 == (N : Int) + 1) = true := by simp
        clear hl1 hl2 hl3 hl4 hl5 hBz hW9
        go_wp2_with (first
          | (go_at_call 15; refine HC1.out.mono ?_; rintro e V1 ⟨rfl, hV1⟩; obtain ⟨⟨t0, t1⟩, ⟨u0, u1⟩, ⟨v0, v1⟩, z0, z1⟩ := KK.out _ hV1; have HV1 := Lib.hid hV1; clear hV1 HC1)
          | (go_at_call 15; refine (HC2.out _ HV1.out).mono ?_; rintro e V2 ⟨rfl, hV2⟩; have HV2 := Lib.hid (HV1.out.trans (hV2.mono HV1.out.size)); obtain ⟨⟨t0, t1⟩, ⟨u0, u1⟩, ⟨v0, v1⟩, z0, z1⟩ := KK.out _ HV2.out; clear hV2 HV1 HC2))
        go_ret
        exact ⟨rfl, HBF.out.trans (HV2.out.mono HBF.out.size)⟩)
      | (
        have hBz : w9.heap.size < (w9.alloc (.cells #[.slice q9 N9 k9, .slice a9 M9 l9] 25)).heap.size := by simp
        obtain ⟨z0, z1⟩ := HC9.out
        have hB9 := HB9.out
        have hW9 := hB9.size
        obtain ⟨t0, t1⟩ := keep2 hB9 hl1 ⟨t0, t1⟩
        obtain ⟨s0, s1⟩ := keep2 hB9 hl2 ⟨s0, s1⟩
        obtain ⟨r0, r1⟩ := keep2 hB9 hl3 ⟨r0, r1⟩
        obtain ⟨u0, u1⟩ := keep2 hB9 hl4 ⟨u0, u1⟩
        obtain ⟨v0, v1⟩ := keep2 hB9 hl5 ⟨v0, v1⟩
        have HOa9 := Lib.hid (HOa8.out.below hB9)
        have HOb9 := Lib.hid (HOb8.out.below hB9)
        have HOd9 := Lib.hid (HOd8.out.below hB9)
        have hN6 : N6 = N + 1 := by have h1 := HOc8.out.nq; have h2 := HO.out.nq; simp at h1; omega
        have HBF := Lib.hid (HB8.out.trans (hB9.mono HB8.out.size))
        clear hB9 HB9 HOa8 HOb8 HOc8 HOd8 g0 g1 g2 HC9
        subst hN6
        generalize (w9.alloc (.cells #[.slice q9 N9 k9, .slice a9 M9 l9] 25)) = V at *
        generalize w9.heap.size = zb at *
        have KK : Hid (∀ V' : World, Below V.heap.size V V' → (V'.cell? ⟨w.heap.size, 0, none⟩ = some (.slice (some ⟨b, o, none⟩) N cq) ∧ V'.cell? ⟨w.heap.size, 1, none⟩ = some (.slice pa M ca)) ∧ (V'.cell? ⟨w6.heap.size, 0, none⟩ = some (.slice q6 (N + 1) k6) ∧ V'.cell? ⟨w6.heap.size, 1, none⟩ = some (.slice a6 M6 l6)) ∧
          (V'.cell? ⟨w7.heap.size, 0, none⟩ = some (.slice q7 N7 k7) ∧ V'.cell? ⟨w7.heap.size, 1, none⟩ = some (.slice a7 M7 l7)) ∧ (V'.cell? ⟨zb, 0, none⟩ = some (.slice q9 N9 k9) ∧ V'.cell? ⟨zb, 1, none⟩ = some (.slice a9 M9 l9))) :=
          Lib.hid fun V' hb => ⟨keep2 hb (by omega) ⟨t0, t1⟩, keep2 hb (by omega) ⟨u0, u1⟩, keep2 hb (by omega) ⟨v0, v1⟩, keep2 hb (by omega) ⟨z0, z1⟩⟩
        have HC1 := Lib.hid (HS.out _ _ _ _ _ _ _ _ _ _ _ _ _ HOa9.out HOb9.out)
        have HC2 := Lib.hid (fun V' (hb : Below V.heap.size V V') => HS2.out _ _ _ _ _ _ _ _ _ _ _ _ _ (HOd9.out.below hb) (HOe.out.below hb))
        have hw1 : IntKind.i64.wrap ((N : Int) + 1) = (N : Int) + 1 := by rw [IntKind.wrap_i64]; omega
        have hc1 : ((N + 1 : Nat) : Int) = (N : Int) + 1 := by omega
        have hc2 : ((N : Int) + 1 == (N : Int) + 1) = true := by simp
        clear hl1 hl2 hl3 hl4 hl5 hBz hW9
        go_wp2_with (first
          | (go_at_call 15; refine HC1.out.mono ?_; rintro e V1 ⟨rfl, hV1⟩; obtain ⟨⟨t0, t1⟩, ⟨u0, u1⟩, ⟨v0, v1⟩, z0, z1⟩ := KK.out _ hV1; have HV1 := Lib.hid hV1; clear hV1 HC1)
          | (go_at_call 15; refine (HC2.out _ HV1.out).mono ?_; rintro e V2 ⟨rfl, hV2⟩; have HV2 := Lib.hid (HV1.out.trans (hV2.mono HV1.out.size)); obtain ⟨⟨t0, t1⟩, ⟨u0, u1⟩, ⟨v0, v1⟩, z0, z1⟩ := KK.out _ HV2.out; clear hV2 HV1 HC2))
        go_ret
        exact ⟨rfl, HBF.out.trans (HV2.out.mono HBF.out.size)⟩)
end Go.Proofs.Ytpempgajejbdoaa
