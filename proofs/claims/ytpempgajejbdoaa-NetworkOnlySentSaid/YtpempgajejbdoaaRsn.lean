/-
  Links: Send, the reference's, on all links and packets.
-/
import Derived.Test.YtpempgajejbdoaaSnd
import Derived.Test.YtpempgajejbdoaaRck
import Derived.Test.YtpempgajejbdoaaMid
namespace Go.Proofs.Ytpempgajejbdoaa
open Go Go.RowKit
variable {F : Nat → Prop}
theorem rsend_fin {w w2 w3 w5 : World} {n : Nt} {x : Pk} {pq pa p : Option Addr} {N cq M ca L c g cap : Nat} {xs : List Value} {ev : Value} (hev : ev = .int .i64 0) (HO : Op (Lo F w) w n pq N cq pa M ca) (hx : PKV (Lo F w) w (.agg #[.int .i64 x.1, .int .i64 x.2.1, .slice p L c]) x) (hb : Below w.heap.size w w2) (hz : w.heap.size + 2 < w2.heap.size) (hqc : QCells (Lo F w) w2 xs n.q)
    (hm : Mid 3 w2 w3 (.slice (some ⟨g, 0, none⟩) (N + 1) cap) (N + 1) (xs ++ [.int .i64 x.1, .int .i64 x.2.1, .slice p L c])) (hc : Chg (w.heap.size + 1 + 1) (w3.setCell ⟨w.heap.size, 0, none⟩ (.slice (some ⟨g, 0, none⟩) (N + 1) cap)) w5) :
    RetN F ⟨n.q ++ [x], n.a⟩ 0 w (.returned (.tuple #[.agg #[.slice (some ⟨g, 0, none⟩) (N + 1) cap, .slice pa M ca], ev])) w5 := by
  subst hev
  have hl : (n.q ++ [x]).length = N + 1 := by rw [List.length_append, HO.nq]; rfl
  have hxl : xs.length = N * 3 := by
    have h1 : (xs ++ [Value.int .i64 x.1, Value.int .i64 x.2.1, Value.slice p L c]).length = (N + 1) * 3 := by
      rcases hm.own with ⟨e, _⟩ | ⟨_, _, _, h⟩
      · cases e
      · exact h.len
    rw [List.length_append] at h1
    simp at h1
    omega
  obtain ⟨u, e, h1, h2, h3⟩ := hx
  cases e
  have hq := own_qv hm.own hm.new hl (hqc.append ((QCells.one h1 h2 h3).keep (.of_below hb)) (by rw [HO.nq]; exact hxl)) hm.below
  have hs3 := hm.below.size
  have hb1 : Below w.heap.size w w3 := hb.trans (hm.below.mono hb.size)
  have hk1 : KeepF (Nw (Lo F w) w2) w3 w5 := (KeepF.set w3 (nw_not (by omega) (by omega)) _).trans (KeepF.of_chg hc (nw_not (by omega) (by omega)))
  have hb5 : Below w.heap.size w w5 := Chg.below (below_set hb1 (Nat.le_refl _) _) (by have := hb1.size; simpa [World.setCell] using this) (by omega) hc
  exact ⟨_, rfl, ⟨_, _, rfl, (QV.keep (F := Nw (Lo F w) w2) hq hk1).wid (nw_wid (by omega)), ((HO.apa.below hb1).keep ((KeepF.set w3 (lo_not (Nat.le_refl _)) _).trans (KeepF.of_chg hc (lo_not (by omega))))).wid lo_wid⟩, hb5⟩
set_option maxHeartbeats 4000000 in
theorem rsend_yes (v u : Value) (n : Nt) (x : Pk) (w : World) (h : NV F w v n) (hp : PKV F w u x) (hok : okN n = true) (hpk : pkB x = true) (hlen : n.q.length ≠ 4096) : Calls Try.prog 12 #[v, u] w (RetN F ⟨n.q ++ [x], n.a⟩ 0 w) := by
  have hu := hp.lo
  obtain ⟨pq, N, cq, pa, M, ca, rfl, HO, hq1, hq2, ha1, ha2⟩ := h.lo.op
  obtain ⟨p, L, c, rfl, HX, hl1, hl2⟩ := hp.lo.open
  have HC : Hid (∀ w', Below w.heap.size w w' → Calls Try.prog 14 #[nval pq N cq pa M ca] w' (Ret (.int .i64 0) w')) := Lib.hid fun w' hb => by
    have := rcheck_any _ n w' (HO.out.below hb).nv
    rwa [chk_ok hok] at this
  have HP : Hid (∀ w', Below w.heap.size w w' → Calls Try.prog 30 #[.agg #[.int .i64 x.1, .int .i64 x.2.1, .slice p L c]] w' (Ret (.bool true) w')) := Lib.hid fun w' hb => by
    have := rpacket_any _ x w' (hu.below hb)
    rwa [hpk] at this
  have HBX := Lib.hid (box3 w (.slice pq N cq) (.slice pa M ca) (.int .i64 x.1) (.int .i64 x.2.1) (.slice p L c) (.slice none 0 0) (.slice none 0 0))
  have hN : N ≤ 4096 := by have := okN_len hok; rw [HO.out.nq] at this; exact this
  have h4 : N ≠ 4096 := by rw [HO.out.nq] at hlen; exact hlen
  have h5 : ((N : Int) == 4096) = false := by simp; omega
  have h6 : ¬ ((N : Int) = 4096) := by omega
  clear h hp hu hok hpk hlen
  go_enter Try.func12, Try.ntmps12
  go_wp2_with (first
    | (go_at_call 14; refine (HC.out _ HBX.out.below).mono ?_; rintro e w1 ⟨rfl, hb1⟩; have hz1 := HBX.out.hz; have hs1 := hb1.size; have f0 := (bfrozen hb1 (by omega) 0).trans (HBX.out.f 0); clear hz1 hs1; obtain ⟨⟨c0, c1⟩, ⟨p0, p1, p2⟩, r, hz, HB⟩ := HBX.out.later hb1; clear hb1)
    | (go_at_call 30; refine (HP.out _ HB.out).mono ?_; rintro e w2 ⟨rfl, hb2⟩; have c0' := (bcells hb2 (by omega) _).trans c0; have c1' := (bcells hb2 (by omega) _).trans c1; have p0' := (bcells hb2 (by omega) _).trans p0; have p1' := (bcells hb2 (by omega) _).trans p1; have p2' := (bcells hb2 (by omega) _).trans p2; have f0' := (bfrozen hb2 (by omega) 0).trans f0; have r' := Lib.hid ((hb2.block _ hz).trans r.out); have HB' := Lib.hid (HB.out.trans (hb2.mono HB.out.size)); have hz' : w.heap.size + 2 < w2.heap.size := (by have := hb2.size; omega); clear hb2))
  clear c0 c1 p0 p1 p2 f0 r HB hz
  obtain ⟨i0, hi0, hz0, hsz0, hby0⟩ := inf28
  have hw0 : w.heap.size < w2.heap.size := by omega
  have hw1 : w.heap.size + 1 < w2.heap.size := by omega
  obtain ⟨xs, hvl, hqc⟩ := (HO.out.below HB'.out).que.vl
  rw [HO.out.nq] at hvl
  have HVL := Lib.hid hvl
  have HQC := Lib.hid hqc
  clear hvl hqc
  go_region_law (first
    | (refine step_mid (by rfl) (.tmp 20) (.tmp 22) (.tmp 25) undef 22 (by rfl) (by rfl) 28 i0 _ 40 Try.underlying22 hi0 hz0 hsz0 (by decide) hby0 (by rfl) (.slice (some ⟨w2.heap.size, 0, none⟩) 0 0) (.slice pq N cq) (by rfl) (by rfl) w2 [] (mid_empty 28 (Below.refl _ _)) N xs (HVL.out.below (alloc_drew w2 _)) (by omega) (by omega) ?_; intro v1 w1' hm hg; rw [Nat.zero_add, List.nil_append] at hm; have MB := Lib.hid hm; have q0 := (bcells hm.below hw1 0).trans p0'; have q1 := (bcells hm.below hw1 1).trans p1'; have q2 := (bcells hm.below hw1 2).trans p2'; clear hm hg)
    | (refine step_mid (by rfl) (.tmp 20) (.tmp 22) (.tmp 25) (.slice (some ⟨w2.heap.size + 1, 0, none⟩) 1 1) 22 (by rfl) (by rfl) 28 i0 _ 40 Try.underlying22 hi0 hz0 hsz0 (by decide) hby0 (by rfl) (.slice (some ⟨w2.heap.size, 0, none⟩) 0 0) (.slice pq N cq) (by rfl) (by rfl) w2 [] (mid_empty2 28 _) N xs ((HVL.out.below (two_below w2 _ _)).below (bl_drew _)) (by omega) (by omega) ?_; intro v1 w1' hm hg; rw [Nat.zero_add, List.nil_append] at hm; have MB := Lib.hid hm; have HPK := Lib.hid (vl_second (one_vl ⟨rfl, rfl, rfl⟩) hg rfl); clear hm hg)
    | (refine step_mid (by rfl) (.tmp 20) (.tmp 22) (.tmp 25) (.slice (some ⟨w2.heap.size, 0, none⟩) 1 1) 22 (by rfl) (by rfl) 28 i0 _ 40 Try.underlying22 hi0 hz0 hsz0 (by decide) hby0 (by rfl) (.slice (some ⟨w2.heap.size + 1, 0, none⟩) 0 0) (.slice pq N cq) (by rfl) (by rfl) w2 [] (mid_second 28 _) N xs ((HVL.out.below (two_below w2 _ _)).below (bl_drew _)) (by omega) (by omega) ?_; intro v1 w1' hm hg; rw [Nat.zero_add, List.nil_append] at hm; have MB := Lib.hid hm; have HPK := Lib.hid (vl_first (one_vl ⟨rfl, rfl, rfl⟩) _ hg rfl); clear hm hg)
    | (have _ := HPK; refine step_mid (by rfl) (.tmp 23) (.tmp 25) (.tmp 23) v1 22 (by rfl) (by rfl) 28 i0 _ 40 Try.underlying22 hi0 hz0 hsz0 (by decide) hby0 (by rfl) v1 _ (by rfl) (by rfl) w2 xs MB.out 1 [.int .i64 x.1, .int .i64 x.2.1, .slice p L c] HPK.out (by omega) (by omega) ?_; intro v3 w3 hm hg; obtain ⟨g, cap, rfl⟩ := hm.form (by omega); have MC := Lib.hid hm; have d0 := (bcells hm.below hw0 0).trans c0'; have d1 := (bcells hm.below hw0 1).trans c1'; have f1 := (bfrozen hm.below hw0 0).trans f0'; clear hm hg)
    | (refine step_mid (by rfl) (.tmp 23) (.tmp 25) (.tmp 23) v1 22 (by rfl) (by rfl) 28 i0 _ 40 Try.underlying22 hi0 hz0 hsz0 (by decide) hby0 (by rfl) v1 (.slice (some ⟨w1'.heap.size, 0, none⟩) 1 1) (by rfl) (by rfl) w2 xs (MB.out.alloc _) 1 [.int .i64 x.1, .int .i64 x.2.1, .slice p L c] (one_vl ⟨rfl, rfl, rfl⟩) (by omega) (by omega) ?_; intro v3 w3 hm hg; obtain ⟨g, cap, rfl⟩ := hm.form (by omega); have MC := Lib.hid hm; have d0 := (bcells hm.below hw0 0).trans c0'; have d1 := (bcells hm.below hw0 1).trans c1'; have f1 := (bfrozen hm.below hw0 0).trans f0'; clear hm hg))
  all_goals
    have r4 := Lib.hid ((MC.out.below.block _ hz').trans r'.out)
    (try clear q0 q1 q2)
    go_wp2_with (refine nt_store rfl (.tmp 4) (.tmp 28) rfl (w.heap.size + 1 + 1) _ _ _ (row_set r4.out (by omega)) rfl rfl rfl ⟨rfl, rfl⟩ ?_; rintro w5 r5 hc5)
    exact bodyPost_ret (results_nt rfl _ _ _ _ _ _ rfl rfl r5.out) rfl (rsend_fin rfl HO.out HX.out.2 HB'.out hz' HQC.out MC.out hc5)
set_option maxHeartbeats 2000000 in
theorem rsend_bad (v u : Value) (n : Nt) (x : Pk) (w : World) (h : NV F w v n) (hp : PKV F w u x) (hbad : (okN n && pkB x) = false) : Calls Try.prog 12 #[v, u] w (RetN F zero 60 w) := by
  have hu := hp.lo
  obtain ⟨pq, N, cq, pa, M, ca, rfl, HO, hq1, hq2, ha1, ha2⟩ := h.lo.op
  obtain ⟨p, L, c, rfl, HX, hl1, hl2⟩ := hp.lo.open
  have HC : Hid (∀ w', Below w.heap.size w w' → Calls Try.prog 14 #[nval pq N cq pa M ca] w' (Ret (.int .i64 (chk n)) w')) := Lib.hid fun w' hb => rcheck_any _ n w' (HO.out.below hb).nv
  have HP : Hid (∀ w', Below w.heap.size w w' → Calls Try.prog 30 #[.agg #[.int .i64 x.1, .int .i64 x.2.1, .slice p L c]] w' (Ret (.bool (pkB x)) w')) := Lib.hid fun w' hb => rpacket_any _ x w' (hu.below hb)
  have HBX := Lib.hid (box3 w (.slice pq N cq) (.slice pa M ca) (.int .i64 x.1) (.int .i64 x.2.1) (.slice p L c) (.slice none 0 0) (.slice none 0 0))
  clear h hp hu
  cases hok : okN n
  · rw [chk_no hok] at HC
    clear hok hbad
    go_enter Try.func12, Try.ntmps12
    go_wp2_with (first
      | (go_at_call 14; refine (HC.out _ HBX.out.below).mono ?_; rintro e w1 ⟨rfl, hb1⟩; obtain ⟨⟨c0, c1⟩, _, r, hz, HB⟩ := HBX.out.later hb1; clear hb1)
      | (refine nt_store rfl (.tmp 4) (.tmp 14) rfl (w.heap.size + 1 + 1) _ _ _ r.out rfl rfl rfl ⟨rfl, rfl⟩ ?_; rintro w2 r2 hc2))
    exact bodyPost_ret (results_nt rfl _ _ _ _ _ _ rfl rfl r2.out) rfl ⟨.agg #[.slice none 0 0, .slice none 0 0], rfl, zero_NV _, Chg.below HB.out HB.out.size (by omega) hc2⟩
  rw [chk_ok hok] at HC
  have hpk : pkB x = false := by rw [hok, Bool.true_and] at hbad; exact hbad
  rw [hpk] at HP
  clear hok hbad hpk
  go_enter Try.func12, Try.ntmps12
  go_wp2_with (first
    | (go_at_call 14; refine (HC.out _ HBX.out.below).mono ?_; rintro e w1 ⟨rfl, hb1⟩; obtain ⟨⟨c0, c1⟩, ⟨p0, p1, p2⟩, r, hz, HB⟩ := HBX.out.later hb1; clear hb1)
    | (go_at_call 30; refine (HP.out _ HB.out).mono ?_; rintro e w2 ⟨rfl, hb2⟩; have r' := Lib.hid ((hb2.block _ hz).trans r.out); have HB' := Lib.hid (HB.out.trans (hb2.mono HB.out.size)); clear hb2)
    | (refine nt_store rfl (.tmp 4) (.tmp 14) rfl (w.heap.size + 1 + 1) _ _ _ r'.out rfl rfl rfl ⟨rfl, rfl⟩ ?_; rintro w3 r2 hc2))
  exact bodyPost_ret (results_nt rfl _ _ _ _ _ _ rfl rfl r2.out) rfl ⟨.agg #[.slice none 0 0, .slice none 0 0], rfl, zero_NV _, Chg.below HB'.out HB'.out.size (by omega) hc2⟩
set_option maxHeartbeats 2000000 in
theorem rsend_full (v u : Value) (n : Nt) (x : Pk) (w : World) (h : NV F w v n) (hp : PKV F w u x) (hok : okN n = true) (hpk : pkB x = true) (hlen : n.q.length = 4096) : Calls Try.prog 12 #[v, u] w (RetN F zero 2 w) := by
  have hu := hp.lo
  obtain ⟨pq, N, cq, pa, M, ca, rfl, HO, hq1, hq2, ha1, ha2⟩ := h.lo.op
  obtain ⟨p, L, c, rfl, HX, hl1, hl2⟩ := hp.lo.open
  have HC : Hid (∀ w', Below w.heap.size w w' → Calls Try.prog 14 #[nval pq N cq pa M ca] w' (Ret (.int .i64 0) w')) := Lib.hid fun w' hb => by
    have := rcheck_any _ n w' (HO.out.below hb).nv
    rwa [chk_ok hok] at this
  have HP : Hid (∀ w', Below w.heap.size w w' → Calls Try.prog 30 #[.agg #[.int .i64 x.1, .int .i64 x.2.1, .slice p L c]] w' (Ret (.bool true) w')) := Lib.hid fun w' hb => by
    have := rpacket_any _ x w' (hu.below hb)
    rwa [hpk] at this
  have HBX := Lib.hid (box3 w (.slice pq N cq) (.slice pa M ca) (.int .i64 x.1) (.int .i64 x.2.1) (.slice p L c) (.slice none 0 0) (.slice none 0 0))
  obtain rfl : N = 4096 := by rw [← HO.out.nq]; exact hlen
  clear h hp hu hok hpk hlen
  go_enter Try.func12, Try.ntmps12
  go_wp2_with (first
    | (go_at_call 14; refine (HC.out _ HBX.out.below).mono ?_; rintro e w1 ⟨rfl, hb1⟩; obtain ⟨⟨c0, c1⟩, ⟨p0, p1, p2⟩, r, hz, HB⟩ := HBX.out.later hb1; clear hb1)
    | (go_at_call 30; refine (HP.out _ HB.out).mono ?_; rintro e w2 ⟨rfl, hb2⟩; have c0' := (bcells hb2 (by omega) _).trans c0; have r' := Lib.hid ((hb2.block _ hz).trans r.out); have HB' := Lib.hid (HB.out.trans (hb2.mono HB.out.size)); clear hb2)
    | (refine nt_store rfl (.tmp 4) (.tmp 19) rfl (w.heap.size + 1 + 1) _ _ _ r'.out rfl rfl rfl ⟨rfl, rfl⟩ ?_; rintro w3 r2 hc2))
  exact bodyPost_ret (results_nt rfl _ _ _ _ _ _ rfl rfl r2.out) rfl ⟨.agg #[.slice none 0 0, .slice none 0 0], rfl, zero_NV _, Chg.below HB'.out HB'.out.size (by omega) hc2⟩
theorem rsend_any (v u : Value) (n : Nt) (x : Pk) (w : World) (h : NV F w v n) (hp : PKV F w u x) : Calls Try.prog 12 #[v, u] w (RetN F (sendN n x) (sendE n x) w) := by
  unfold sendN sendE
  cases hb : (okN n && pkB x)
  · exact rsend_bad v u n x w h hp hb
  · rw [Bool.and_eq_true] at hb
    unfold addN addE
    by_cases hl : n.q.length = 4096
    · rw [if_pos rfl, if_pos rfl, if_pos hl, if_pos hl]
      exact rsend_full v u n x w h hp hb.1 hb.2 hl
    · rw [if_pos rfl, if_pos rfl, if_neg hl, if_neg hl]
      exact rsend_yes v u n x w h hp hb.1 hb.2 hl
end Go.Proofs.Ytpempgajejbdoaa
