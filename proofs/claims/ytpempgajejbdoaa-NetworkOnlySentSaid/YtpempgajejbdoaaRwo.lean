/-
  Links: without, the reference's.
-/
import Derived.Test.YtpempgajejbdoaaWo
import Derived.Test.YtpempgajejbdoaaMid
namespace Go.Proofs.Ytpempgajejbdoaa
open Go Go.RowKit
variable {F : Nat → Prop}
theorem QV.takec {w : World} {p : Option Addr} {N c : Nat} {s : List Pk} (h : QV F w (.slice p N c) s) (k : Nat) (hk : k ≤ s.length) : QV F w (.slice p k c) (s.take k) := by
  obtain ⟨b, cap, p, e, h1, h2, h3, h4⟩ := h
  cases e
  have hl : (s.take k).length = k := by rw [List.length_take]; omega
  refine ⟨b, c, p, by rw [hl], by omega, by omega, h3, ?_⟩
  rcases h4 with rfl | ⟨o, e, hlt, hc⟩
  · exact .inl (by simp)
  · refine .inr ⟨o, e, hlt, fun j x hj => hc j x ?_⟩
    rw [List.getElem?_take] at hj
    split at hj
    · exact hj
    · cases hj
theorem mid_shape {sz : Nat} {W w1 : World} {v : Value} {n : Nat} {xs : List Value} (h : Mid sz W w1 v n xs) : ∃ p c, v = .slice p n c := by
  rcases h.own with ⟨rfl, rfl, _⟩ | ⟨g, cap, rfl, _⟩
  · exact ⟨_, _, rfl⟩
  · exact ⟨_, _, rfl⟩
theorem rwo_fin {w W w3 w5 : World} {n : Nt} {b o N cq M ca k c nm : Nat} {q' pa : Option Addr} {xs ys : List Value} (HO : Op (Lo F w) w n (some ⟨b, o, none⟩) N cq pa M ca) (hk : k < N) (hB : Below w.heap.size w W) (hz : w.heap.size + 1 < W.heap.size)
    (hx : QCells (Lo F w) W xs (n.q.take k)) (hxl : xs.length = k * 3) (hy : QCells (Lo F w) W ys (n.q.drop (k + 1))) (hm : nm = N - (k + 1)) (hmid : Mid 3 W w3 (.slice q' (k + nm) c) (k + nm) (xs ++ ys))
    (hc : Chg (w.heap.size + 1) (w3.setCell ⟨w.heap.size, 0, none⟩ (.slice q' (k + nm) c)) w5) : RetO F (wo n k) w (.returned (.agg #[.slice q' (k + nm) c, .slice pa M ca])) w5 := by
  have hl : (n.q.take k ++ n.q.drop (k + 1)).length = k + nm := by rw [List.length_append, List.length_take, List.length_drop, HO.nq]; omega
  have hq := own_qv hmid.own hmid.new hl (hx.append hy (by rw [List.length_take, HO.nq]; omega)) hmid.below
  have hs3 := hmid.below.size
  have hb1 : Below w.heap.size w w3 := hB.trans (hmid.below.mono hB.size)
  have hk1 : KeepF (Nw (Lo F w) W) w3 w5 := (KeepF.set w3 (nw_not (Nat.le_refl _) (by omega)) _).trans (KeepF.of_chg hc (nw_not (by omega) (by omega)))
  have hb5 : Below w.heap.size w w5 := Chg.below (below_set hb1 (Nat.le_refl _) _) (by have := hb1.size; simpa [World.setCell] using this) (by omega) hc
  exact ⟨_, rfl, ⟨_, _, rfl, (QV.keep (F := Nw (Lo F w) W) hq hk1).wid (nw_wid (by omega)), ((HO.apa.below hb1).keep ((KeepF.set w3 (lo_not (Nat.le_refl _)) _).trans (KeepF.of_chg hc (lo_not (by omega))))).wid lo_wid⟩, hb5⟩
set_option maxHeartbeats 4000000 in
theorem rwithout_any (v : Value) (n : Nt) (k : Nat) (w : World) (h : NV F w v n) (hk : k < n.q.length) (hN : n.q.length ≤ 4096) : Calls Try.prog 44 #[v, .int .i64 (k : Int)] w (RetO F (wo n k) w) := by
  obtain ⟨pq, N, cq, pa, M, ca, rfl, HO, hq1, hq2, ha1, ha2⟩ := h.lo.op
  rw [HO.out.nq] at hk hN
  obtain ⟨b, o, _, _, _, _, _, _, rfl, hbl, _⟩ := HO.out.que.pkAt k (by rw [HO.out.nq]; exact hk)
  have HBX := Lib.hid (box2 w (.slice (some ⟨b, o, none⟩) N cq) (.slice pa M ca) (.slice none 0 0) (.slice none 0 0))
  have hB := HBX.out.below
  obtain ⟨xs, hvl, hqc⟩ := ((HO.out.below hB).que.takec k (by rw [HO.out.nq]; omega)).vl
  rw [show (n.q.take k).length = k by rw [List.length_take, HO.out.nq]; omega] at hvl
  have HVL := Lib.hid hvl
  have HQC := Lib.hid hqc
  have c0 := HBX.out.c0
  have c1 := HBX.out.c1
  have f0 := HBX.out.f 0
  have HZ := Lib.hid HBX.out.hz
  have hzl : w.heap.size < ((w.alloc (.cells #[.slice (some ⟨b, o, none⟩) N cq, .slice pa M ca] 25)).alloc (.cells #[.slice none 0 0, .slice none 0 0] 25)).heap.size := by rw [HBX.out.hz]; omega
  have HR := Lib.hid HBX.out.r
  have HB := Lib.hid hB
  clear hvl hqc hB h
  obtain ⟨i0, hi0, hz0, hsz0, hby0⟩ := inf28
  have e0 : (0 : Int) ≤ (k : Int) := by omega
  have e1 : (k : Int) + 1 ≤ (N : Int) := by omega
  have e2 : ((k : Int) + 1).toNat = k + 1 := by omega
  have e3 : (k : Int) ≤ (cq : Int) := by omega
  have e4 : (0 : Int) ≤ (k : Int) + 1 := by omega
  have e5 : k ≤ cq := by omega
  have e6 : k + 1 ≤ N := by omega
  have e7 : (k : Int) ≤ (k : Int) + 1 := by omega
  have e8 : IntKind.i64.wrap ((k : Int) + 1) = (k : Int) + 1 := by
    rw [IntKind.wrap_i64]; omega
  generalize hW : ((w.alloc (.cells #[.slice (some ⟨b, o, none⟩) N cq, .slice pa M ca] 25)).alloc (.cells #[.slice none 0 0, .slice none 0 0] 25)) = W at *
  have HW := Lib.hid hW
  clear hW HBX
  by_cases hcap : cq = k + 1
  · have hNk : N = k + 1 := by omega
    subst hNk
    subst hcap
    obtain ⟨ys, hyl, hyc⟩ := ((HO.out.below HB.out).que.drop (k + 1) (by rw [HO.out.nq]; omega) (some ⟨b, o, none⟩) (.inr ⟨rfl, rfl⟩)).vl
    rw [show (n.q.drop (k + 1)).length = 0 by rw [List.length_drop, HO.out.nq]; omega] at hyl
    rw [Nat.sub_self] at hyl
    have HYL := Lib.hid hyl
    have HYC := Lib.hid hyc
    clear hyl hyc
    go_enter Try.func44, Try.ntmps44
    go_wp2_with fail
    rw [HW.out]
    go_region_law (first
      | (refine step_mid (by rfl) (.tmp 5) (.tmp 9) (.tmp 10) undef 22 (by rfl) (by rfl) 28 i0 _ 40 Try.underlying22 hi0 hz0 hsz0 (by decide) hby0 (by rfl) (.slice (some ⟨W.heap.size, 0, none⟩) 0 0) _ (by rfl) (by rfl) W [] (mid_empty 28 (Below.refl _ _)) k xs (HVL.out.below (alloc_drew W _)) (by omega) (by omega) ?_; intro v1 w1' hm hg; rw [Nat.zero_add, List.nil_append] at hm; have MB := Lib.hid hm; have g0 := (bcells hm.below hzl 0).trans c0; have hzl1 : w.heap.size < w1'.heap.size := Nat.lt_of_lt_of_le hzl hm.below.size; clear hm hg)
      | (refine step_mid (by rfl) (.tmp 10) (.tmp 15) (.tmp 10) v1 22 (by rfl) (by rfl) 28 i0 _ 40 Try.underlying22 hi0 hz0 hsz0 (by decide) hby0 (by rfl) v1 _ (by rfl) (by rfl) W xs MB.out (0) ys (HYL.out.below MB.out.below) (by omega) (by omega) ?_; intro v3 w3 hm hg; obtain ⟨q', cap, rfl⟩ := mid_shape hm; have MC := Lib.hid hm; have d0 := (bcells hm.below hzl 0).trans c0; have d1 := (bcells hm.below hzl 1).trans c1; have f1 := (bfrozen hm.below hzl 0).trans f0; clear hm hg))
    all_goals
      have r4 := Lib.hid ((MC.out.below.block _ (by have := HZ.out; omega)).trans HR.out)
      go_wp2_with (refine nt_store rfl (.tmp 4) (.tmp 18) rfl (w.heap.size + 1) _ _ _ (row_set r4.out (by omega)) rfl rfl rfl ⟨rfl, rfl⟩ ?_; rintro w5 r5 hc5)
      exact bodyPost_ret (results_n1 rfl _ _ _ _ _ rfl r5.out) rfl (rwo_fin HO.out (by omega) HB.out (by have := HZ.out; omega) HQC.out (by obtain ⟨_, _, _, _, _, _, h, _⟩ := HVL.out; exact h) HYC.out (by omega) MC.out hc5)
  · obtain ⟨ys, hyl, hyc⟩ := ((HO.out.below HB.out).que.drop (k + 1) (by rw [HO.out.nq]; omega) (some ⟨b, o + (k + 1) * 3, none⟩) (.inl rfl)).vl
    rw [show (n.q.drop (k + 1)).length = N - (k + 1) by rw [List.length_drop, HO.out.nq]] at hyl
    have HYL := Lib.hid hyl
    have HYC := Lib.hid hyc
    clear hyl hyc
    have e9 : (k : Int) + 1 ≤ (cq : Int) := by omega
    have e10 : k + 1 ≤ cq := by omega
    have e11 : (N : Int) ≤ (cq : Int) := by omega
    go_enter Try.func44, Try.ntmps44
    go_wp2_with fail
    rw [HW.out]
    go_region_law (first
      | (refine step_mid (by rfl) (.tmp 5) (.tmp 9) (.tmp 10) undef 22 (by rfl) (by rfl) 28 i0 _ 40 Try.underlying22 hi0 hz0 hsz0 (by decide) hby0 (by rfl) (.slice (some ⟨W.heap.size, 0, none⟩) 0 0) _ (by rfl) (by rfl) W [] (mid_empty 28 (Below.refl _ _)) k xs (HVL.out.below (alloc_drew W _)) (by omega) (by omega) ?_; intro v1 w1' hm hg; rw [Nat.zero_add, List.nil_append] at hm; have MB := Lib.hid hm; have g0 := (bcells hm.below hzl 0).trans c0; have hzl1 : w.heap.size < w1'.heap.size := Nat.lt_of_lt_of_le hzl hm.below.size; clear hm hg)
      | (refine step_mid (by rfl) (.tmp 10) (.tmp 15) (.tmp 10) v1 22 (by rfl) (by rfl) 28 i0 _ 40 Try.underlying22 hi0 hz0 hsz0 (by decide) hby0 (by rfl) v1 _ (by rfl) (by rfl) W xs MB.out (N - (k + 1)) ys (HYL.out.below MB.out.below) (by omega) (by omega) ?_; intro v3 w3 hm hg; obtain ⟨q', cap, rfl⟩ := mid_shape hm; have MC := Lib.hid hm; have d0 := (bcells hm.below hzl 0).trans c0; have d1 := (bcells hm.below hzl 1).trans c1; have f1 := (bfrozen hm.below hzl 0).trans f0; clear hm hg))
    all_goals
      have r4 := Lib.hid ((MC.out.below.block _ (by have := HZ.out; omega)).trans HR.out)
      go_wp2_with (refine nt_store rfl (.tmp 4) (.tmp 18) rfl (w.heap.size + 1) _ _ _ (row_set r4.out (by omega)) rfl rfl rfl ⟨rfl, rfl⟩ ?_; rintro w5 r5 hc5)
      exact bodyPost_ret (results_n1 rfl _ _ _ _ _ rfl r5.out) rfl (rwo_fin HO.out (by omega) HB.out (by have := HZ.out; omega) HQC.out (by obtain ⟨_, _, _, _, _, _, h, _⟩ := HVL.out; exact h) HYC.out (by omega) MC.out hc5)
end Go.Proofs.Ytpempgajejbdoaa
