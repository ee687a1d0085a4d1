/-
  Links: what happens (function 27), a packet sent and one delivered.
-/
import Derived.Test.YtpempgajejbdoaaHpa
namespace Go.Proofs.Ytpempgajejbdoaa
open Go Go.RowKit
variable {F : Nat → Prop}
theorem one_bv {w : World} (W : World) (d : UInt8) : BV (Nw (Lo F w) W) (W.alloc (.cells #[byt d] 5)) (.slice (some ⟨W.heap.size, 0, none⟩) 1 1) [d] :=
  ⟨W.heap.size, 1, _, rfl, Nat.le_refl _, by unfold maxLen; omega, (fun e => by cases e), .inr ⟨0, rfl, ⟨by simp, .inr (Nat.le_refl _)⟩, fun j c hj => by
    obtain rfl : j = 0 := by
      have := (List.getElem?_eq_some_iff.1 hj).1
      simp at this
      omega
    simp at hj
    subst hj
    rw [World.cell?_alloc_new]
    rfl⟩⟩
theorem nw_nw {w : World} (W : World) (o : Obj) {m : Nat} : ∀ b, b < m → Nw (Nw (Lo F w) W) (W.alloc o) b → Nw (Lo F w) W b := fun b _ hb => by
  rcases hb with h | h
  · exact h
  · exact .inr (by simp at h; omega)
set_option maxHeartbeats 4000000 in
theorem hap_deliver (v : Value) (n : Nt) (m : Mv) (w : World) (h : NV F w v n) (hk : m.k < 256) (hi : m.i < 256) (ha : m.a < 256) (hb : m.b < 256) (h6 : m.k % 6 = 1) : Calls Try.prog 27 #[v, .agg #[.int .u8 m.k, .int .u8 m.i, .int .u8 m.a, .int .u8 m.b, byt m.d]] w (RetH F (loseN n (hapI n m)) (delP n (hapI n m)) (askE n (hapI n m)) w) := by
  obtain ⟨pq, N, cq, pa, M, ca, rfl, HO, hq1, hq2, ha1, ha2⟩ := h.lo.op
  obtain ⟨k, i, a, b, d⟩ := m
  simp only at hk hi ha hb h6 ⊢
  have HBX := bx4 w (.slice pq N cq) (.slice pa M ca) (.int .u8 k) (.int .u8 i) (.int .u8 a) (.int .u8 b) (byt d) (.slice none 0 0) (.slice none 0 0) (.int .i64 0) (.int .i64 0) (.slice none 0 0) 49
  have HC : Hid (∀ z w', Below w.heap.size w w' → Calls Try.prog 20 #[nval pq N cq pa M ca, .int .i64 z] w' (RetP (Lo F w) (delP n z) (loseN n z) (askE n z) w')) := Lib.hid fun z w' hb => deliver_any _ n z w' (HO.out.below hb).nv
  have f1 : IntKind.i64.wrap (i : Int) = (i : Int) := by rw [IntKind.wrap_i64]; omega
  have f2 : IntKind.i64.wrap (a : Int) = (a : Int) := by rw [IntKind.wrap_i64]; omega
  have f3 : IntKind.i64.wrap (b : Int) = (b : Int) := by rw [IntKind.wrap_i64]; omega
  have f4 : ((k : Int)).tmod 6 = 1 := by rw [show (6 : Int) = ((6 : Nat) : Int) from rfl, tmod_nat, h6]; rfl
  have f5 : ((a : Int)).tmod 24 = ((a % 24 : Nat) : Int) := tmod_nat a 24
  have f6 : ((b : Int)).tmod 24 = ((b % 24 : Nat) : Int) := tmod_nat b 24
  have HB := Lib.hid HBX
  have n0 := HBX.n0
  have n1 := HBX.n1
  have m0 := HBX.m 0 _ rfl
  have m1 := HBX.m 1 _ rfl
  have m2 := HBX.m 2 _ rfl
  have m3 := HBX.m 3 _ rfl
  have m4 := HBX.m 4 _ rfl
  clear h h6 HBX
  obtain ⟨z, hz⟩ : ∃ z, hapI n ⟨k, i, a, b, d⟩ = z := ⟨_, rfl⟩
  rw [hz]
  have hz2 : (N = 0 ∧ z = 0) ∨ (0 < N ∧ z = ((i % N : Nat) : Int)) := by
    rw [← hz]
    unfold hapI
    rw [HO.out.nq]
    by_cases h0 : 0 < N
    · right; rw [if_pos h0]; exact ⟨h0, rfl⟩
    · left; rw [if_neg h0]; exact ⟨by omega, rfl⟩
  have HCZ := Lib.hid (fun w' hb => HC.out z w' hb)
  clear hz HC
  generalize loseN n z = Y at *
  generalize delP n z = P at *
  generalize askE n z = E at *
  rcases hz2 with ⟨rfl, rfl⟩ | ⟨hN, rfl⟩
  rotate_left 1
  · have g1 : (0 : Int) < (N : Int) := by omega
    have g2 : ¬ ((N : Int) = 0) := by omega
    have g3 := tmod_nat i N
    go_enter Try.func27, Try.ntmps27
    go_wp2_with fail
    generalize ((((w.alloc (.cells #[.slice pq N cq, .slice pa M ca] 25)).alloc (.cells #[.int .u8 k, .int .u8 i, .int .u8 a, .int .u8 b, byt d] 49)).alloc (.cells #[.slice none 0 0, .slice none 0 0] 25)).alloc (.cells #[.int .i64 0, .int .i64 0, .slice none 0 0] 28)) = W1 at *
    go_quiet (fail)
    have HBq := Lib.hid (HB.out.drewN nq)
    generalize W1.drewN nq = Wq at *
    have n0 := HBq.out.n0
    have n1 := HBq.out.n1
    have m0 := HBq.out.m 0 _ rfl
    have hzq := HBq.out.hz
    go_wp2_with (first
      | (go_at_call 20; refine (HCZ.out _ HBq.out.below).mono ?_; rintro e W2 ⟨u2, v2, rfl, hu2, hv2, hb2⟩; have HV := Lib.hid hv2; have HU := Lib.hid hu2; obtain ⟨pq3, N3, cq3, pa3, M3, ca3, rfl, HO3, hq3, hq3', ha3, ha3'⟩ := hv2.op; obtain ⟨pp3, L3, c3, rfl, HX3, hx3, hx3'⟩ := hu2.open; have HB2 := Lib.hid (HBq.out.later hb2); clear hv2 hu2 hb2)
      | (refine pk_store rfl (.tmp 5) (.tmp 51) rfl (w.heap.size + 1 + 1 + 1) _ _ _ _ HB2.out.p rfl rfl rfl ⟨rfl, rfl, rfl⟩ ?_; rintro W3 r3 hc3; have HB3 := Lib.hid (HB2.out.pk r3.out hc3); have HV3 := Lib.hid (HV.out.keep (KeepF.of_chg hc3 (nw_not (by omega) (by omega)))); have HU3 := Lib.hid (HU.out.keep (KeepF.of_chg hc3 (nw_not (by omega) (by omega)))); clear hc3)
      | (refine nt_store rfl (.tmp 4) (.tmp 52) rfl (w.heap.size + 1 + 1) _ _ _ HB3.out.r rfl rfl rfl ⟨rfl, rfl⟩ ?_; rintro W4 r4 hc4; have HB4 := Lib.hid (HB3.out.nt r4.out hc4); have HV4 := Lib.hid (HV3.out.keep (KeepF.of_chg hc4 (nw_not (by omega) (by omega)))); have HU4 := Lib.hid (HU3.out.keep (KeepF.of_chg hc4 (nw_not (by omega) (by omega)))); clear hc4))
    obtain ⟨⟨x0, x1⟩, x2, x3⟩ := row2_cells HB4.out.r
    obtain ⟨⟨p0, p1, p2⟩, p3, p4, p5⟩ := row3_cells HB4.out.p
    try simp only [Act.put]
    go_region
    all_goals
      go_wp2_with fail
      exact bodyPost_ret (results_np rfl _ _ (w.heap.size + 1 + 1 + 1) (w.heap.size + 1 + 1) _ _ _ _ _ _ rfl rfl rfl (hap_rows HB4.out).2 (hap_rows HB4.out).1) rfl (hap_fin HB4.out HV4.out HU4.out hzq)
  · go_enter Try.func27, Try.ntmps27
    go_wp2_with fail
    generalize ((((w.alloc (.cells #[.slice pq 0 cq, .slice pa M ca] 25)).alloc (.cells #[.int .u8 k, .int .u8 i, .int .u8 a, .int .u8 b, byt d] 49)).alloc (.cells #[.slice none 0 0, .slice none 0 0] 25)).alloc (.cells #[.int .i64 0, .int .i64 0, .slice none 0 0] 28)) = W1 at *
    go_quiet (fail)
    have HBq := Lib.hid (HB.out.drewN nq)
    generalize W1.drewN nq = Wq at *
    have n0 := HBq.out.n0
    have n1 := HBq.out.n1
    have m0 := HBq.out.m 0 _ rfl
    have hzq := HBq.out.hz
    go_wp2_with (first
      | (go_at_call 20; refine (HCZ.out _ HBq.out.below).mono ?_; rintro e W2 ⟨u2, v2, rfl, hu2, hv2, hb2⟩; have HV := Lib.hid hv2; have HU := Lib.hid hu2; obtain ⟨pq3, N3, cq3, pa3, M3, ca3, rfl, HO3, hq3, hq3', ha3, ha3'⟩ := hv2.op; obtain ⟨pp3, L3, c3, rfl, HX3, hx3, hx3'⟩ := hu2.open; have HB2 := Lib.hid (HBq.out.later hb2); clear hv2 hu2 hb2)
      | (refine pk_store rfl (.tmp 5) (.tmp 51) rfl (w.heap.size + 1 + 1 + 1) _ _ _ _ HB2.out.p rfl rfl rfl ⟨rfl, rfl, rfl⟩ ?_; rintro W3 r3 hc3; have HB3 := Lib.hid (HB2.out.pk r3.out hc3); have HV3 := Lib.hid (HV.out.keep (KeepF.of_chg hc3 (nw_not (by omega) (by omega)))); have HU3 := Lib.hid (HU.out.keep (KeepF.of_chg hc3 (nw_not (by omega) (by omega)))); clear hc3)
      | (refine nt_store rfl (.tmp 4) (.tmp 52) rfl (w.heap.size + 1 + 1) _ _ _ HB3.out.r rfl rfl rfl ⟨rfl, rfl⟩ ?_; rintro W4 r4 hc4; have HB4 := Lib.hid (HB3.out.nt r4.out hc4); have HV4 := Lib.hid (HV3.out.keep (KeepF.of_chg hc4 (nw_not (by omega) (by omega)))); have HU4 := Lib.hid (HU3.out.keep (KeepF.of_chg hc4 (nw_not (by omega) (by omega)))); clear hc4))
    obtain ⟨⟨x0, x1⟩, x2, x3⟩ := row2_cells HB4.out.r
    obtain ⟨⟨p0, p1, p2⟩, p3, p4, p5⟩ := row3_cells HB4.out.p
    try simp only [Act.put]
    go_region
    all_goals
      go_wp2_with fail
      exact bodyPost_ret (results_np rfl _ _ (w.heap.size + 1 + 1 + 1) (w.heap.size + 1 + 1) _ _ _ _ _ _ rfl rfl rfl (hap_rows HB4.out).2 (hap_rows HB4.out).1) rfl (hap_fin HB4.out HV4.out HU4.out hzq)
set_option maxHeartbeats 4000000 in
theorem hap_send (v : Value) (n : Nt) (m : Mv) (w : World) (h : NV F w v n) (hk : m.k < 256) (hi : m.i < 256) (ha : m.a < 256) (hb : m.b < 256) (h6 : m.k % 6 = 0) : Calls Try.prog 27 #[v, .agg #[.int .u8 m.k, .int .u8 m.i, .int .u8 m.a, .int .u8 m.b, byt m.d]] w (RetH F (sendN n (hapA m, hapB m, [m.d])) pk0 (sendE n (hapA m, hapB m, [m.d])) w) := by
  obtain ⟨pq, N, cq, pa, M, ca, rfl, HO, hq1, hq2, ha1, ha2⟩ := h.lo.op
  obtain ⟨k, i, a, b, d⟩ := m
  simp only at hk hi ha hb h6 ⊢
  unfold byt
  have HBX := bx4 w (.slice pq N cq) (.slice pa M ca) (.int .u8 k) (.int .u8 i) (.int .u8 a) (.int .u8 b) ((.int .u8 (d.toNat : Int))) (.slice none 0 0) (.slice none 0 0) (.int .i64 0) (.int .i64 0) (.slice none 0 0) 49
  have e1 : hapA ⟨k, i, a, b, d⟩ = (a : Int) % 24 := by unfold hapA; simp only; omega
  have e2 : hapB ⟨k, i, a, b, d⟩ = (b : Int) % 24 := by unfold hapB; simp only; omega
  rw [e1, e2]
  clear e1 e2
  have f1 : IntKind.i64.wrap (i : Int) = (i : Int) := by rw [IntKind.wrap_i64]; omega
  have f2 : IntKind.i64.wrap (a : Int) = (a : Int) := by rw [IntKind.wrap_i64]; omega
  have f3 : IntKind.i64.wrap (b : Int) = (b : Int) := by rw [IntKind.wrap_i64]; omega
  have f4 : ((k : Int)).tmod 6 = 0 := by rw [show (6 : Int) = ((6 : Nat) : Int) from rfl, tmod_nat, h6]; rfl
  have f5 : ((a : Int)).tmod 24 = ((a % 24 : Nat) : Int) := tmod_nat a 24
  have f6 : ((b : Int)).tmod 24 = ((b % 24 : Nat) : Int) := tmod_nat b 24
  have HB := Lib.hid HBX
  have n0 := HBX.n0
  have n1 := HBX.n1
  have m0 := HBX.m 0 _ rfl
  have m1 := HBX.m 1 _ rfl
  have m2 := HBX.m 2 _ rfl
  have m3 := HBX.m 3 _ rfl
  have m4 := HBX.m 4 _ rfl
  clear h h6 HBX
  have hz2 : N = 0 ∨ 0 < N := by omega
  have HSN : Hid (∀ (u : Value) (G : Nat → Prop) (W : World), NV G W (nval pq N cq pa M ca) n → PKV G W u ((a : Int) % 24, (b : Int) % 24, [d]) → Calls Try.prog 11 #[nval pq N cq pa M ca, u] W (RetN G (sendN n ((a : Int) % 24, (b : Int) % 24, [d])) (sendE n ((a : Int) % 24, (b : Int) % 24, [d])) W)) := Lib.hid fun u G W h1 h2 => send_any _ u n _ W h1 h2
  generalize sendN n ((a : Int) % 24, (b : Int) % 24, [d]) = Y at *
  generalize sendE n ((a : Int) % 24, (b : Int) % 24, [d]) = E at *
  rcases hz2 with rfl | hN
  rotate_left 1
  · have g1 : (0 : Int) < (N : Int) := by omega
    have g2 : ¬ ((N : Int) = 0) := by omega
    have g3 := tmod_nat i N
    go_enter Try.func27, Try.ntmps27
    go_wp2_with fail
    generalize ((((w.alloc (.cells #[.slice pq N cq, .slice pa M ca] 25)).alloc (.cells #[.int .u8 k, .int .u8 i, .int .u8 a, .int .u8 b, (.int .u8 (d.toNat : Int))] 49)).alloc (.cells #[.slice none 0 0, .slice none 0 0] 25)).alloc (.cells #[.int .i64 0, .int .i64 0, .slice none 0 0] 28)) = W1 at *
    go_quiet (fail)
    have HBq := Lib.hid (HB.out.drewN nq)
    generalize W1.drewN nq = Wq at *
    have n0 := HBq.out.n0
    have n1 := HBq.out.n1
    have m0 := HBq.out.m 0 _ rfl
    have hzq := HBq.out.hz
    have m4 := HBq.out.m 4 _ rfl
    have HSD := Lib.hid (HSN.out (.agg #[.int .i64 ((a : Int) % 24), .int .i64 ((b : Int) % 24), .slice (some ⟨Wq.heap.size, 0, none⟩) 1 1]) (Nw (Lo F w) Wq) (Wq.alloc (.cells #[(.int .u8 (d.toNat : Int))] 5)) ((((HO.out.below HBq.out.below).nv).wid (fun _ _ hb => .inl hb)).below (one_new _ _)) ⟨_, rfl, (show W64 ((a : Int) % 24) by unfold W64; omega), (show W64 ((b : Int) % 24) by unfold W64; omega), one_bv Wq d⟩)
    go_wp2_with (first
      | (go_at_call 11; go_must (refine HSD.out.mono ?_); rintro e W2 ⟨v2, rfl, hv2, hb2⟩; have HV := Lib.hid (hv2.wid (nw_nw Wq _)); obtain ⟨pq3, N3, cq3, pa3, M3, ca3, rfl, HO3, hq3, hq3', ha3, ha3'⟩ := hv2.op; have HB2 := Lib.hid (HBq.out.later (one_later hb2)); clear hv2 hb2)
      | (refine nt_store rfl (.tmp 4) (.tmp 43) rfl (w.heap.size + 1 + 1) _ _ _ HB2.out.r rfl rfl rfl ⟨rfl, rfl⟩ ?_; rintro W3 r3 hc3; have HB3 := Lib.hid (HB2.out.nt r3.out hc3); have HV3 := Lib.hid (HV.out.keep (KeepF.of_chg hc3 (nw_not (by omega) (by omega)))); clear hc3))
    obtain ⟨⟨x0, x1⟩, x2, x3⟩ := row2_cells HB3.out.r
    obtain ⟨⟨p0, p1, p2⟩, p3, p4, p5⟩ := row3_cells HB3.out.p
    try simp only [Act.put]
    go_region
    all_goals
      go_wp2_with fail
      exact bodyPost_ret (results_np rfl _ _ (w.heap.size + 1 + 1 + 1) (w.heap.size + 1 + 1) _ _ _ _ _ _ rfl rfl rfl (hap_rows HB3.out).2 (hap_rows HB3.out).1) rfl (hap_fin HB3.out HV3.out (zero_PKV _) hzq)
  · go_enter Try.func27, Try.ntmps27
    go_wp2_with fail
    generalize ((((w.alloc (.cells #[.slice pq 0 cq, .slice pa M ca] 25)).alloc (.cells #[.int .u8 k, .int .u8 i, .int .u8 a, .int .u8 b, (.int .u8 (d.toNat : Int))] 49)).alloc (.cells #[.slice none 0 0, .slice none 0 0] 25)).alloc (.cells #[.int .i64 0, .int .i64 0, .slice none 0 0] 28)) = W1 at *
    go_quiet (fail)
    have HBq := Lib.hid (HB.out.drewN nq)
    generalize W1.drewN nq = Wq at *
    have n0 := HBq.out.n0
    have n1 := HBq.out.n1
    have m0 := HBq.out.m 0 _ rfl
    have hzq := HBq.out.hz
    have m4 := HBq.out.m 4 _ rfl
    have HSD := Lib.hid (HSN.out (.agg #[.int .i64 ((a : Int) % 24), .int .i64 ((b : Int) % 24), .slice (some ⟨Wq.heap.size, 0, none⟩) 1 1]) (Nw (Lo F w) Wq) (Wq.alloc (.cells #[(.int .u8 (d.toNat : Int))] 5)) ((((HO.out.below HBq.out.below).nv).wid (fun _ _ hb => .inl hb)).below (one_new _ _)) ⟨_, rfl, (show W64 ((a : Int) % 24) by unfold W64; omega), (show W64 ((b : Int) % 24) by unfold W64; omega), one_bv Wq d⟩)
    go_wp2_with (first
      | (go_at_call 11; go_must (refine HSD.out.mono ?_); rintro e W2 ⟨v2, rfl, hv2, hb2⟩; have HV := Lib.hid (hv2.wid (nw_nw Wq _)); obtain ⟨pq3, N3, cq3, pa3, M3, ca3, rfl, HO3, hq3, hq3', ha3, ha3'⟩ := hv2.op; have HB2 := Lib.hid (HBq.out.later (one_later hb2)); clear hv2 hb2)
      | (refine nt_store rfl (.tmp 4) (.tmp 43) rfl (w.heap.size + 1 + 1) _ _ _ HB2.out.r rfl rfl rfl ⟨rfl, rfl⟩ ?_; rintro W3 r3 hc3; have HB3 := Lib.hid (HB2.out.nt r3.out hc3); have HV3 := Lib.hid (HV.out.keep (KeepF.of_chg hc3 (nw_not (by omega) (by omega)))); clear hc3))
    obtain ⟨⟨x0, x1⟩, x2, x3⟩ := row2_cells HB3.out.r
    obtain ⟨⟨p0, p1, p2⟩, p3, p4, p5⟩ := row3_cells HB3.out.p
    try simp only [Act.put]
    go_region
    all_goals
      go_wp2_with fail
      exact bodyPost_ret (results_np rfl _ _ (w.heap.size + 1 + 1 + 1) (w.heap.size + 1 + 1) _ _ _ _ _ _ rfl rfl rfl (hap_rows HB3.out).2 (hap_rows HB3.out).1) rfl (hap_fin HB3.out HV3.out (zero_PKV _) hzq)
end Go.Proofs.Ytpempgajejbdoaa
