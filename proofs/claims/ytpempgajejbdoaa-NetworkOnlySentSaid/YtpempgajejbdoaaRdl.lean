/-
  Links: Deliver, the reference's.
-/
import Derived.Test.YtpempgajejbdoaaDel
namespace Go.Proofs.Ytpempgajejbdoaa
open Go Go.RowKit
variable {F : Nat → Prop}
/-- another block has changed -/
theorem Bx3.pk8 {w w1 w2 : World} {a b x y z c d : Value} {g : Nat} (h : Bx3 w w1 a b x y z c d) (hg : w.heap.size + 2 < g) (hc : Chg g w1 w2) : Bx3 w w2 a b x y z c d :=
  ⟨(hc.cell (by have := h.hz; omega) (by omega)).trans h.c0, (hc.cell (by have := h.hz; omega) (by omega)).trans h.c1, (hc.block _ (by have := h.hz; omega) (by omega)).trans h.p, (hc.block _ h.hz (by omega)).trans h.r, Nat.lt_of_lt_of_le h.hz hc.size, Chg.below h.below h.below.size (by omega) hc⟩
set_option maxHeartbeats 4000000 in
theorem rdeliver_any (v : Value) (n : Nt) (a : Int) (w : World) (h : NV F w v n) : Calls Try.prog 21 #[v, .int .i64 a] w (RetP F (delP n a) (loseN n a) (askE n a) w) := by
  have hv := h.lo
  obtain ⟨pq, N, cq, pa, M, ca, rfl, HO, hq1, hq2, ha1, ha2⟩ := h.lo.op
  have HA : Hid (∀ w', Below w.heap.size w w' → Calls Try.prog 43 #[nval pq N cq pa M ca, .int .i64 a] w' (Ret (.int .i64 (askE n a)) w')) := Lib.hid fun w' hb => asked_any _ n a w' (HO.out.below hb).nv
  have HBX := Lib.hid (bx3 w (.slice pq N cq) (.slice pa M ca) (.int .i64 0) (.int .i64 0) (.slice none 0 0) (.slice none 0 0) (.slice none 0 0))
  rcases askE_cases n a with hE | hE | ⟨hE, hok, k, rfl, hk⟩
  rotate_left 2
  · obtain ⟨b, o, f, t, pu, L, cu, l, rfl, hbl, g0, g1, g2, HL, hu1, hu2, HW⟩ := HO.out.que.pkAt k hk
    unfold maxLen at hu2
    have hx : pkAt n (k : Int) = (f, t, l) := by unfold pkAt; rw [Int.toNat_natCast, HL.out.1]; rfl
    have HX : Hid (PKV (Lo F w) w (.agg #[.int .i64 f, .int .i64 t, .slice pu L cu]) (f, t, l)) := Lib.hid ⟨_, rfl, HW.out.1, HW.out.2, HL.out.2.2⟩
    have HD : Hid (delP n (k : Int) = if cutB n f t = true then pk0 else (f, t, l)) := Lib.hid (by unfold delP; rw [if_pos hE, hx])
    have HWO : Hid (∀ w', Below w.heap.size w w' → Calls Try.prog 44 #[nval (some ⟨b, o, none⟩) N cq pa M ca, .int .i64 (k : Int)] w' (RetO (Lo F w) (wo n k) w')) := Lib.hid fun w' hb => rwithout_any _ n k w' (hv.below hb) hk (okN_len hok)
    have HCT : Hid (∀ w', Below w.heap.size w w' → Calls Try.prog 39 #[nval (some ⟨b, o, none⟩) N cq pa M ca, .int .i64 f, .int .i64 t] w' (Ret (.bool (cutB n f t)) w')) := Lib.hid fun w' hb => isCut_any _ n f t w' (HO.out.below hb).nv
    have HLS : Hid (loseN n (k : Int) = wo n k) := Lib.hid (by unfold loseN; rw [if_pos hE]; rfl)
    have hkN : (k : Int) < (N : Int) := by rw [HO.out.nq] at hk; omega
    rw [hE] at HA ⊢
    clear h hv hE hok hk hx HL HW
    cases hcut : cutB n f t
    · rw [hcut] at HD HCT
      replace HD : Hid (delP n (k : Int) = (f, t, l)) := HD
      clear hcut
      go_enter Try.func21, Try.ntmps21
      go_wp2_with (first
        | (go_at_call 43; refine (HA.out _ HBX.out.below).mono ?_; rintro e w1 ⟨rfl, hb1⟩; have HB1 := Lib.hid (HBX.out.later hb1); have c0 := HB1.out.c0; have c1 := HB1.out.c1; have hz1 := HB1.out.hz; have hz10 : w.heap.size < w1.heap.size := (by omega); have d0 := (bcells HB1.out.below hbl _).trans g0; have d1 := (bcells HB1.out.below hbl _).trans g1; have d2 := (bcells HB1.out.below hbl _).trans g2; clear hb1)
        | (go_at_call 39; refine (HCT.out _ (HB1.out.later (one_new _ _)).below).mono ?_; rintro e w3 ⟨rfl, hb3⟩; have HB3 := Lib.hid ((HB1.out.later (one_new _ _)).later hb3); have H8 := Lib.hid ((hb3.block w1.heap.size (by simp)).trans (heap_alloc_new w1 _)); have hB8 : w1.heap.size < w3.heap.size := (by have := hb3.size; simp at this; omega); clear hb3))
      clear g0 g1 g2 c0 c1 d0 d1 d2 HA
      have hz := HB3.out.hz
      obtain ⟨⟨p0, p1, p2⟩, p3, p4, p5⟩ := row3_cells HB3.out.p
      obtain ⟨s0, s1, s2⟩ := (row3_cells H8.out).1
      have c0 := HB3.out.c0
      have c1 := HB3.out.c1
      go_region_with (first
        | (go_at_call 44; refine (HWO.out _ HB3.out.drew.below).mono ?_; rintro e w4 ⟨v4, rfl, hv4, hb4⟩; have HV := Lib.hid hv4; obtain ⟨pq3, N3, cq3, pa3, M3, ca3, rfl, HO3, hq3, hq3', ha3, ha3'⟩ := hv4.op; have HB4 := Lib.hid (HB3.out.drew.later hb4); obtain ⟨⟨x0, x1⟩, x2, x3⟩ := row2_cells HB4.out.r; obtain ⟨⟨q0, q1, q2⟩, q3, q4, q5⟩ := row3_cells HB4.out.p; have hz4 : w.heap.size + 2 < w4.heap.size := HB4.out.hz; obtain ⟨s0, s1, s2⟩ := (row3_cells ((hb4.block _ hB8).trans H8.out)).1; clear hb4 hv4)
        | (go_at_call 44; refine (HWO.out _ (HB3.out.drew.set3 (.int .i64 f) (.int .i64 t) (.slice pu L cu)).below).mono ?_; rintro e w4 ⟨v4, rfl, hv4, hb4⟩; have HV := Lib.hid hv4; obtain ⟨pq3, N3, cq3, pa3, M3, ca3, rfl, HO3, hq3, hq3', ha3, ha3'⟩ := hv4.op; have HB4 := Lib.hid ((HB3.out.drew.set3 (.int .i64 f) (.int .i64 t) (.slice pu L cu)).later hb4); obtain ⟨⟨x0, x1⟩, x2, x3⟩ := row2_cells HB4.out.r; obtain ⟨⟨q0, q1, q2⟩, q3, q4, q5⟩ := row3_cells HB4.out.p; have hz4 : w.heap.size + 2 < w4.heap.size := HB4.out.hz; obtain ⟨s0, s1, s2⟩ := (row3_cells ((hb4.block _ (by simpa [World.setCell] using hB8)).trans ((set3_chg _ _ _ _ _).block _ hB8 (by omega) |>.trans H8.out))).1; clear hb4 hv4))
      all_goals
        go_wp2_with fail
        first
          | exact bodyPost_ret (results_pk rfl _ _ _ _ _ _ _ _ _ _ rfl rfl rfl (((set2_chg _ _ _ _).block _ (by simp [World.setCell]; omega) (by omega)).trans (set3_row HB4.out.p)) (set2_row (((set3_chg _ _ _ _ _).block _ hz4 (by omega)).trans HB4.out.r))) rfl (by rw [HLS.out, HD.out]; exact del_fin HX.out (by have := HB3.out.hz; exact this) HB4.out.r HB4.out.below HV.out (set3_chg _ _ _ _ _) (set2_chg _ _ _ _))
          | exact bodyPost_ret (results_pk rfl _ _ _ _ _ _ _ _ _ _ rfl rfl rfl (((set2_chg _ _ _ _).block _ (by omega) (by omega)).trans HB4.out.p) (set2_row HB4.out.r)) rfl (by rw [HLS.out, HD.out]; exact del_fin HX.out (by have := HB3.out.hz; simpa [World.setCell] using this) HB4.out.r HB4.out.below HV.out (Chg.refl _ _) (set2_chg _ _ _ _))
    · rw [hcut] at HD HCT
      replace HD : Hid (delP n (k : Int) = pk0) := HD
      clear hcut
      go_enter Try.func21, Try.ntmps21
      go_wp2_with (first
        | (go_at_call 43; refine (HA.out _ HBX.out.below).mono ?_; rintro e w1 ⟨rfl, hb1⟩; have HB1 := Lib.hid (HBX.out.later hb1); have c0 := HB1.out.c0; have c1 := HB1.out.c1; have hz1 := HB1.out.hz; have hz10 : w.heap.size < w1.heap.size := (by omega); have d0 := (bcells HB1.out.below hbl _).trans g0; have d1 := (bcells HB1.out.below hbl _).trans g1; have d2 := (bcells HB1.out.below hbl _).trans g2; clear hb1)
        | (go_at_call 39; refine (HCT.out _ (HB1.out.later (one_new _ _)).below).mono ?_; rintro e w2 ⟨rfl, hb3⟩; have HB2 := Lib.hid ((HB1.out.later (one_new _ _)).later hb3); have H7 := Lib.hid ((hb3.block w1.heap.size (by simp)).trans (heap_alloc_new w1 _)); have hB7 : w1.heap.size < w2.heap.size := (by have := hb3.size; simp at this; omega); clear hb3)
        | (refine pk_store rfl (.tmp 8) (.tmp 28) rfl w1.heap.size _ _ _ _ H7.out rfl rfl rfl ⟨rfl, rfl, rfl⟩ ?_; rintro w3 H8 hc8; have HB3 := Lib.hid (HB2.out.pk8 hz1 hc8); have hB8 : w1.heap.size < w3.heap.size := (by have := hc8.size; omega); clear hc8))
      clear g0 g1 g2 c0 c1 d0 d1 d2 HA
      simp only [Act.put]
      have hz := HB3.out.hz
      obtain ⟨⟨p0, p1, p2⟩, p3, p4, p5⟩ := row3_cells HB3.out.p
      obtain ⟨s0, s1, s2⟩ := (row3_cells H8.out).1
      have c0 := HB3.out.c0
      have c1 := HB3.out.c1
      go_region_with (first
        | (go_at_call 44; refine (HWO.out _ HB3.out.drew.below).mono ?_; rintro e w4 ⟨v4, rfl, hv4, hb4⟩; have HV := Lib.hid hv4; obtain ⟨pq3, N3, cq3, pa3, M3, ca3, rfl, HO3, hq3, hq3', ha3, ha3'⟩ := hv4.op; have HB4 := Lib.hid (HB3.out.drew.later hb4); obtain ⟨⟨x0, x1⟩, x2, x3⟩ := row2_cells HB4.out.r; obtain ⟨⟨q0, q1, q2⟩, q3, q4, q5⟩ := row3_cells HB4.out.p; have hz4 : w.heap.size + 2 < w4.heap.size := HB4.out.hz; obtain ⟨s0, s1, s2⟩ := (row3_cells ((hb4.block _ hB8).trans H8.out)).1; clear hb4 hv4)
        | (go_at_call 44; refine (HWO.out _ (HB3.out.drew.set3 (.int .i64 0) (.int .i64 0) (.slice none 0 0)).below).mono ?_; rintro e w4 ⟨v4, rfl, hv4, hb4⟩; have HV := Lib.hid hv4; obtain ⟨pq3, N3, cq3, pa3, M3, ca3, rfl, HO3, hq3, hq3', ha3, ha3'⟩ := hv4.op; have HB4 := Lib.hid ((HB3.out.drew.set3 (.int .i64 0) (.int .i64 0) (.slice none 0 0)).later hb4); obtain ⟨⟨x0, x1⟩, x2, x3⟩ := row2_cells HB4.out.r; obtain ⟨⟨q0, q1, q2⟩, q3, q4, q5⟩ := row3_cells HB4.out.p; have hz4 : w.heap.size + 2 < w4.heap.size := HB4.out.hz; obtain ⟨s0, s1, s2⟩ := (row3_cells ((hb4.block _ (by simpa [World.setCell] using hB8)).trans ((set3_chg _ _ _ _ _).block _ hB8 (by omega) |>.trans H8.out))).1; clear hb4 hv4))
      all_goals
        go_wp2_with fail
        first
          | exact bodyPost_ret (results_pk rfl _ _ _ _ _ _ _ _ _ _ rfl rfl rfl (((set2_chg _ _ _ _).block _ (by simp [World.setCell]; omega) (by omega)).trans (set3_row HB4.out.p)) (set2_row (((set3_chg _ _ _ _ _).block _ hz4 (by omega)).trans HB4.out.r))) rfl (by rw [HLS.out, HD.out]; exact del_fin (zero_PKV (F := Lo F w) w) (by have := HB3.out.hz; exact this) HB4.out.r HB4.out.below HV.out (set3_chg _ _ _ _ _) (set2_chg _ _ _ _))
          | exact bodyPost_ret (results_pk rfl _ _ _ _ _ _ _ _ _ _ rfl rfl rfl (((set2_chg _ _ _ _).block _ (by omega) (by omega)).trans HB4.out.p) (set2_row HB4.out.r)) rfl (by rw [HLS.out, HD.out]; exact del_fin (zero_PKV (F := Lo F w) w) (by have := HB3.out.hz; simpa [World.setCell] using this) HB4.out.r HB4.out.below HV.out (Chg.refl _ _) (set2_chg _ _ _ _))
  all_goals
    have HN : Hid (loseN n a = zero ∧ delP n a = pk0) := Lib.hid ⟨by unfold loseN; rw [if_neg (by rw [hE]; decide)], by unfold delP; rw [if_neg (by rw [hE]; decide)]⟩
    rw [HN.out.1, HN.out.2]
    rw [hE] at HA ⊢
    clear h hv hE HN
    go_enter Try.func21, Try.ntmps21
    go_wp2_with (first
      | (go_at_call 43; refine (HA.out _ HBX.out.below).mono ?_; rintro e w1 ⟨rfl, hb1⟩; have HB1 := Lib.hid (HBX.out.later hb1); clear hb1)
      | (refine pk_store rfl (.tmp 4) (.tmp 14) rfl (w.heap.size + 1) _ _ _ _ HB1.out.p rfl rfl rfl ⟨rfl, rfl, rfl⟩ ?_; rintro w2 r2 hc2; have HB2 := Lib.hid (HB1.out.pk r2.out hc2))
      | (refine nt_store rfl (.tmp 5) (.tmp 15) rfl (w.heap.size + 1 + 1) _ _ _ HB2.out.r rfl rfl rfl ⟨rfl, rfl⟩ ?_; rintro w3 r3 hc3))
    exact bodyPost_ret (results_pk rfl _ _ _ _ _ _ _ _ _ _ rfl rfl rfl ((hc3.block _ (by have := HB2.out.hz; omega) (by omega)).trans r2.out) r3.out) rfl ⟨.agg #[.int .i64 0, .int .i64 0, .slice none 0 0], .agg #[.slice none 0 0, .slice none 0 0], rfl, zero_PKV _, zero_NV _, Chg.below HB2.out.below HB2.out.below.size (by omega) hc3⟩
end Go.Proofs.Ytpempgajejbdoaa
