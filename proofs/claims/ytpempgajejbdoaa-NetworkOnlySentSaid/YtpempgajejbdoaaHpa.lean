/-
  Links: what happens (function 27), for every move.
-/
import Derived.Test.YtpempgajejbdoaaHap
import Derived.BigQuiet
namespace Go.Proofs.Ytpempgajejbdoaa
open Go Go.RowKit
variable {F : Nat → Prop}
theorem Bx4.drewN {w w1 : World} {c0 c1 : Value} {ms : Array Value} {a b x y z : Value} (h : Bx4 w w1 c0 c1 ms a b x y z) (n : Nat) : Bx4 w (w1.drewN n) c0 c1 ms a b x y z :=
  ⟨h.n0, h.n1, h.m, h.r, h.p, h.hz, h.below.trans ⟨rfl, rfl, rfl, Nat.le_refl _, fun _ _ => rfl⟩⟩
def set5 (W : World) (s : Nat) (a b x y z : Value) : World := (((((W.setCell ⟨s + 1 + 1, 0, none⟩ a).setCell ⟨s + 1 + 1, 1, none⟩ b).setCell ⟨s + 1 + 1 + 1, 0, none⟩ x).setCell ⟨s + 1 + 1 + 1, 1, none⟩ y).setCell ⟨s + 1 + 1 + 1, 2, none⟩ z).drew
theorem heap_drw (W : World) : W.drew.heap = W.heap := rfl
theorem hap_rows {w W3 : World} {c0 c1 : Value} {ms : Array Value} {a b x y z : Value} (HB : Bx4 w W3 c0 c1 ms a b x y z) : (set5 W3 w.heap.size a b x y z).heap[w.heap.size + 1 + 1]? = some (.cells #[a, b] 25 (0, 0)) ∧ (set5 W3 w.heap.size a b x y z).heap[w.heap.size + 1 + 1 + 1]? = some (.cells #[x, y, z] 28 (0, 0)) := by
  have hz := HB.hz
  have r : W3.heap[w.heap.size + 1 + 1]? = some (.cells #[a, b] 25 (0, 0)) := HB.r
  have p : W3.heap[w.heap.size + 1 + 1 + 1]? = some (.cells #[x, y, z] 28 (0, 0)) := HB.p
  generalize w.heap.size = s at *
  have h1 := set2_chg W3 (s + 1 + 1) a b
  have r2 := set2_row (a := a) (b := b) r
  have p2 := (h1.block (s + 1 + 1 + 1) (by omega) (by omega)).trans p
  have hs := h1.size
  unfold set5
  rw [heap_drw]
  generalize ((W3.setCell ⟨s + 1 + 1, 0, none⟩ a).setCell ⟨s + 1 + 1, 1, none⟩ b) = W4 at *
  have h2 := set3_chg W4 (s + 1 + 1 + 1) x y z
  exact ⟨(h2.block (s + 1 + 1) (by omega) (by omega)).trans r2, set3_row p2⟩
theorem hap_fin {w W1 W3 : World} {c0 c1 : Value} {ms : Array Value} {a b x y z : Value} {n' : Nt} {x' : Pk} {E : Int} (HB : Bx4 w W3 c0 c1 ms a b x y z) (hv : NV (Nw (Lo F w) W1) W3 (.agg #[a, b]) n') (hp : PKV (Nw (Lo F w) W1) W3 (.agg #[x, y, z]) x') (hz : w.heap.size + 3 < W1.heap.size) :
    RetH F n' x' E w (.returned (.tuple #[.agg #[a, b], .agg #[x, y, z], .int .i64 E])) (set5 W3 w.heap.size a b x y z) := by
  have hz3 := HB.hz
  have h1 := set2_chg W3 (w.heap.size + 1 + 1) a b
  have hb1 : Below w.heap.size w _ := Chg.below HB.below HB.below.size (by omega) h1
  have hv1 := hv.keep (KeepF.of_chg h1 (nw_not (by omega) (by omega)))
  have hp1 := hp.keep (KeepF.of_chg h1 (nw_not (by omega) (by omega)))
  have hs := h1.size
  unfold set5
  generalize ((W3.setCell ⟨w.heap.size + 1 + 1, 0, none⟩ a).setCell ⟨w.heap.size + 1 + 1, 1, none⟩ b) = W4 at *
  have h2 := set3_chg W4 (w.heap.size + 1 + 1 + 1) x y z
  have hb2 : Below w.heap.size w _ := Chg.below hb1 hb1.size (by omega) h2
  have hv2 := (hv1.keep (KeepF.of_chg h2 (nw_not (by omega) (by omega)))).wid (nw_wid (w := w) (by omega))
  have hp2 := (hp1.keep (KeepF.of_chg h2 (nw_not (by omega) (by omega)))).wid (nw_wid (w := w) (by omega))
  generalize (((W4.setCell ⟨w.heap.size + 1 + 1 + 1, 0, none⟩ x).setCell ⟨w.heap.size + 1 + 1 + 1, 1, none⟩ y).setCell ⟨w.heap.size + 1 + 1 + 1, 2, none⟩ z) = W5 at *
  exact ⟨_, _, rfl, hv2.below (drew_bel (Below.refl _ _)), hp2.below (drew_bel (Below.refl _ _)), drew_bel hb2⟩
theorem tmod_nat (a b : Nat) : ((a : Int)).tmod (b : Int) = ((a % b : Nat) : Int) := rfl
set_option maxHeartbeats 4000000 in
theorem hap_lose (v : Value) (n : Nt) (m : Mv) (w : World) (h : NV F w v n) (hk : m.k < 256) (hi : m.i < 256) (ha : m.a < 256) (hb : m.b < 256) (h6 : m.k % 6 = 2) : Calls Try.prog 27 #[v, .agg #[.int .u8 m.k, .int .u8 m.i, .int .u8 m.a, .int .u8 m.b, byt m.d]] w (RetH F (loseN n (hapI n m)) pk0 (askE n (hapI n m)) w) := by
  obtain ⟨pq, N, cq, pa, M, ca, rfl, HO, hq1, hq2, ha1, ha2⟩ := h.lo.op
  obtain ⟨k, i, a, b, d⟩ := m
  simp only at hk hi ha hb h6 ⊢
  have HBX := bx4 w (.slice pq N cq) (.slice pa M ca) (.int .u8 k) (.int .u8 i) (.int .u8 a) (.int .u8 b) (byt d) (.slice none 0 0) (.slice none 0 0) (.int .i64 0) (.int .i64 0) (.slice none 0 0) 49
  have HC : Hid (∀ z w', Below w.heap.size w w' → Calls Try.prog 23 #[nval pq N cq pa M ca, .int .i64 z] w' (RetN (Lo F w) (loseN n z) (askE n z) w')) := Lib.hid fun z w' hb => lose_any _ n z w' (HO.out.below hb).nv
  have f1 : IntKind.i64.wrap (i : Int) = (i : Int) := by rw [IntKind.wrap_i64]; omega
  have f2 : IntKind.i64.wrap (a : Int) = (a : Int) := by rw [IntKind.wrap_i64]; omega
  have f3 : IntKind.i64.wrap (b : Int) = (b : Int) := by rw [IntKind.wrap_i64]; omega
  have f4 : ((k : Int)).tmod 6 = 2 := by rw [show (6 : Int) = ((6 : Nat) : Int) from rfl, tmod_nat, h6]; rfl
  have f5 : ((a : Int)).tmod 24 = ((a % 24 : Nat) : Int) := tmod_nat a 24
  have f6 : ((b : Int)).tmod 24 = ((b % 24 : Nat) : Int) := tmod_nat b 24
  have HB := Lib.hid HBX
  have n0 := HBX.n0
  have n1 := HBX.n1
  have m0 := HBX.m 0 _ rfl
  have m1 := HBX.m 1 _ rfl
  have m2 := HBX.m 2 _ rfl
  have m3 := HBX.m 3 _ rfl
  have m4 := HBX.m 4 _ rfl
  clear h h6 HBX
  obtain ⟨z, hz⟩ : ∃ z, hapI n ⟨k, i, a, b, d⟩ = z := ⟨_, rfl⟩
  rw [hz]
  have hz2 : (N = 0 ∧ z = 0) ∨ (0 < N ∧ z = ((i % N : Nat) : Int)) := by
    rw [← hz]
    unfold hapI
    rw [HO.out.nq]
    by_cases h0 : 0 < N
    · right; rw [if_pos h0]; exact ⟨h0, rfl⟩
    · left; rw [if_neg h0]; exact ⟨by omega, rfl⟩
  have HCZ := Lib.hid (fun w' hb => HC.out z w' hb)
  clear hz HC
  generalize loseN n z = Y at *
  generalize askE n z = E at *
  rcases hz2 with ⟨rfl, rfl⟩ | ⟨hN, rfl⟩
  rotate_left 1
  · have g1 : (0 : Int) < (N : Int) := by omega
    have g2 : ¬ ((N : Int) = 0) := by omega
    have g3 := tmod_nat i N
    go_enter Try.func27, Try.ntmps27
    go_wp2_with fail
    generalize ((((w.alloc (.cells #[.slice pq N cq, .slice pa M ca] 25)).alloc (.cells #[.int .u8 k, .int .u8 i, .int .u8 a, .int .u8 b, byt d] 49)).alloc (.cells #[.slice none 0 0, .slice none 0 0] 25)).alloc (.cells #[.int .i64 0, .int .i64 0, .slice none 0 0] 28)) = W1 at *
    go_quiet (fail)
    have HBq := Lib.hid (HB.out.drewN nq)
    generalize W1.drewN nq = Wq at *
    have n0 := HBq.out.n0
    have n1 := HBq.out.n1
    have m0 := HBq.out.m 0 _ rfl
    have hzq := HBq.out.hz
    go_wp2_with (first
      | (go_at_call 23; refine (HCZ.out _ HBq.out.below).mono ?_; rintro e W2 ⟨v2, rfl, hv2, hb2⟩; have HV := Lib.hid hv2; obtain ⟨pq3, N3, cq3, pa3, M3, ca3, rfl, HO3, hq3, hq3', ha3, ha3'⟩ := hv2.op; have HB2 := Lib.hid (HBq.out.later hb2); clear hv2 hb2)
      | (refine nt_store rfl (.tmp 4) (.tmp 60) rfl (w.heap.size + 1 + 1) _ _ _ HB2.out.r rfl rfl rfl ⟨rfl, rfl⟩ ?_; rintro W3 r3 hc3; have HB3 := Lib.hid (HB2.out.nt r3.out hc3); have HV3 := Lib.hid (HV.out.keep (KeepF.of_chg hc3 (nw_not (by omega) (by omega)))); clear hc3))
    obtain ⟨⟨x0, x1⟩, x2, x3⟩ := row2_cells HB3.out.r
    obtain ⟨⟨p0, p1, p2⟩, p3, p4, p5⟩ := row3_cells HB3.out.p
    try simp only [Act.put]
    go_region
    all_goals
      go_wp2_with fail
      exact bodyPost_ret (results_np rfl _ _ (w.heap.size + 1 + 1 + 1) (w.heap.size + 1 + 1) _ _ _ _ _ _ rfl rfl rfl (hap_rows HB3.out).2 (hap_rows HB3.out).1) rfl (hap_fin HB3.out HV3.out (zero_PKV _) hzq)
  · go_enter Try.func27, Try.ntmps27
    go_wp2_with fail
    generalize ((((w.alloc (.cells #[.slice pq 0 cq, .slice pa M ca] 25)).alloc (.cells #[.int .u8 k, .int .u8 i, .int .u8 a, .int .u8 b, byt d] 49)).alloc (.cells #[.slice none 0 0, .slice none 0 0] 25)).alloc (.cells #[.int .i64 0, .int .i64 0, .slice none 0 0] 28)) = W1 at *
    go_quiet (fail)
    have HBq := Lib.hid (HB.out.drewN nq)
    generalize W1.drewN nq = Wq at *
    have n0 := HBq.out.n0
    have n1 := HBq.out.n1
    have m0 := HBq.out.m 0 _ rfl
    have hzq := HBq.out.hz
    go_wp2_with (first
      | (go_at_call 23; refine (HCZ.out _ HBq.out.below).mono ?_; rintro e W2 ⟨v2, rfl, hv2, hb2⟩; have HV := Lib.hid hv2; obtain ⟨pq3, N3, cq3, pa3, M3, ca3, rfl, HO3, hq3, hq3', ha3, ha3'⟩ := hv2.op; have HB2 := Lib.hid (HBq.out.later hb2); clear hv2 hb2)
      | (refine nt_store rfl (.tmp 4) (.tmp 60) rfl (w.heap.size + 1 + 1) _ _ _ HB2.out.r rfl rfl rfl ⟨rfl, rfl⟩ ?_; rintro W3 r3 hc3; have HB3 := Lib.hid (HB2.out.nt r3.out hc3); have HV3 := Lib.hid (HV.out.keep (KeepF.of_chg hc3 (nw_not (by omega) (by omega)))); clear hc3))
    obtain ⟨⟨x0, x1⟩, x2, x3⟩ := row2_cells HB3.out.r
    obtain ⟨⟨p0, p1, p2⟩, p3, p4, p5⟩ := row3_cells HB3.out.p
    try simp only [Act.put]
    go_region
    all_goals
      go_wp2_with fail
      exact bodyPost_ret (results_np rfl _ _ (w.heap.size + 1 + 1 + 1) (w.heap.size + 1 + 1) _ _ _ _ _ _ rfl rfl rfl (hap_rows HB3.out).2 (hap_rows HB3.out).1) rfl (hap_fin HB3.out HV3.out (zero_PKV _) hzq)
set_option maxHeartbeats 4000000 in
theorem hap_repeat (v : Value) (n : Nt) (m : Mv) (w : World) (h : NV F w v n) (hk : m.k < 256) (hi : m.i < 256) (ha : m.a < 256) (hb : m.b < 256) (h6 : m.k % 6 = 3) : Calls Try.prog 27 #[v, .agg #[.int .u8 m.k, .int .u8 m.i, .int .u8 m.a, .int .u8 m.b, byt m.d]] w (RetH F (repN n (hapI n m)) pk0 (repE n (hapI n m)) w) := by
  obtain ⟨pq, N, cq, pa, M, ca, rfl, HO, hq1, hq2, ha1, ha2⟩ := h.lo.op
  obtain ⟨k, i, a, b, d⟩ := m
  simp only at hk hi ha hb h6 ⊢
  have HBX := bx4 w (.slice pq N cq) (.slice pa M ca) (.int .u8 k) (.int .u8 i) (.int .u8 a) (.int .u8 b) (byt d) (.slice none 0 0) (.slice none 0 0) (.int .i64 0) (.int .i64 0) (.slice none 0 0) 49
  have HC : Hid (∀ z w', Below w.heap.size w w' → Calls Try.prog 25 #[nval pq N cq pa M ca, .int .i64 z] w' (RetN (Lo F w) (repN n z) (repE n z) w')) := Lib.hid fun z w' hb => repeat_any _ n z w' (HO.out.below hb).nv
  have f1 : IntKind.i64.wrap (i : Int) = (i : Int) := by rw [IntKind.wrap_i64]; omega
  have f2 : IntKind.i64.wrap (a : Int) = (a : Int) := by rw [IntKind.wrap_i64]; omega
  have f3 : IntKind.i64.wrap (b : Int) = (b : Int) := by rw [IntKind.wrap_i64]; omega
  have f4 : ((k : Int)).tmod 6 = 3 := by rw [show (6 : Int) = ((6 : Nat) : Int) from rfl, tmod_nat, h6]; rfl
  have f5 : ((a : Int)).tmod 24 = ((a % 24 : Nat) : Int) := tmod_nat a 24
  have f6 : ((b : Int)).tmod 24 = ((b % 24 : Nat) : Int) := tmod_nat b 24
  have HB := Lib.hid HBX
  have n0 := HBX.n0
  have n1 := HBX.n1
  have m0 := HBX.m 0 _ rfl
  have m1 := HBX.m 1 _ rfl
  have m2 := HBX.m 2 _ rfl
  have m3 := HBX.m 3 _ rfl
  have m4 := HBX.m 4 _ rfl
  clear h h6 HBX
  obtain ⟨z, hz⟩ : ∃ z, hapI n ⟨k, i, a, b, d⟩ = z := ⟨_, rfl⟩
  rw [hz]
  have hz2 : (N = 0 ∧ z = 0) ∨ (0 < N ∧ z = ((i % N : Nat) : Int)) := by
    rw [← hz]
    unfold hapI
    rw [HO.out.nq]
    by_cases h0 : 0 < N
    · right; rw [if_pos h0]; exact ⟨h0, rfl⟩
    · left; rw [if_neg h0]; exact ⟨by omega, rfl⟩
  have HCZ := Lib.hid (fun w' hb => HC.out z w' hb)
  clear hz HC
  generalize repN n z = Y at *
  generalize repE n z = E at *
  rcases hz2 with ⟨rfl, rfl⟩ | ⟨hN, rfl⟩
  rotate_left 1
  · have g1 : (0 : Int) < (N : Int) := by omega
    have g2 : ¬ ((N : Int) = 0) := by omega
    have g3 := tmod_nat i N
    go_enter Try.func27, Try.ntmps27
    go_wp2_with fail
    generalize ((((w.alloc (.cells #[.slice pq N cq, .slice pa M ca] 25)).alloc (.cells #[.int .u8 k, .int .u8 i, .int .u8 a, .int .u8 b, byt d] 49)).alloc (.cells #[.slice none 0 0, .slice none 0 0] 25)).alloc (.cells #[.int .i64 0, .int .i64 0, .slice none 0 0] 28)) = W1 at *
    go_quiet (fail)
    have HBq := Lib.hid (HB.out.drewN nq)
    generalize W1.drewN nq = Wq at *
    have n0 := HBq.out.n0
    have n1 := HBq.out.n1
    have m0 := HBq.out.m 0 _ rfl
    have hzq := HBq.out.hz
    go_wp2_with (first
      | (go_at_call 25; refine (HCZ.out _ HBq.out.below).mono ?_; rintro e W2 ⟨v2, rfl, hv2, hb2⟩; have HV := Lib.hid hv2; obtain ⟨pq3, N3, cq3, pa3, M3, ca3, rfl, HO3, hq3, hq3', ha3, ha3'⟩ := hv2.op; have HB2 := Lib.hid (HBq.out.later hb2); clear hv2 hb2)
      | (refine nt_store rfl (.tmp 4) (.tmp 68) rfl (w.heap.size + 1 + 1) _ _ _ HB2.out.r rfl rfl rfl ⟨rfl, rfl⟩ ?_; rintro W3 r3 hc3; have HB3 := Lib.hid (HB2.out.nt r3.out hc3); have HV3 := Lib.hid (HV.out.keep (KeepF.of_chg hc3 (nw_not (by omega) (by omega)))); clear hc3))
    obtain ⟨⟨x0, x1⟩, x2, x3⟩ := row2_cells HB3.out.r
    obtain ⟨⟨p0, p1, p2⟩, p3, p4, p5⟩ := row3_cells HB3.out.p
    try simp only [Act.put]
    go_region
    all_goals
      go_wp2_with fail
      exact bodyPost_ret (results_np rfl _ _ (w.heap.size + 1 + 1 + 1) (w.heap.size + 1 + 1) _ _ _ _ _ _ rfl rfl rfl (hap_rows HB3.out).2 (hap_rows HB3.out).1) rfl (hap_fin HB3.out HV3.out (zero_PKV _) hzq)
  · go_enter Try.func27, Try.ntmps27
    go_wp2_with fail
    generalize ((((w.alloc (.cells #[.slice pq 0 cq, .slice pa M ca] 25)).alloc (.cells #[.int .u8 k, .int .u8 i, .int .u8 a, .int .u8 b, byt d] 49)).alloc (.cells #[.slice none 0 0, .slice none 0 0] 25)).alloc (.cells #[.int .i64 0, .int .i64 0, .slice none 0 0] 28)) = W1 at *
    go_quiet (fail)
    have HBq := Lib.hid (HB.out.drewN nq)
    generalize W1.drewN nq = Wq at *
    have n0 := HBq.out.n0
    have n1 := HBq.out.n1
    have m0 := HBq.out.m 0 _ rfl
    have hzq := HBq.out.hz
    go_wp2_with (first
      | (go_at_call 25; refine (HCZ.out _ HBq.out.below).mono ?_; rintro e W2 ⟨v2, rfl, hv2, hb2⟩; have HV := Lib.hid hv2; obtain ⟨pq3, N3, cq3, pa3, M3, ca3, rfl, HO3, hq3, hq3', ha3, ha3'⟩ := hv2.op; have HB2 := Lib.hid (HBq.out.later hb2); clear hv2 hb2)
      | (refine nt_store rfl (.tmp 4) (.tmp 68) rfl (w.heap.size + 1 + 1) _ _ _ HB2.out.r rfl rfl rfl ⟨rfl, rfl⟩ ?_; rintro W3 r3 hc3; have HB3 := Lib.hid (HB2.out.nt r3.out hc3); have HV3 := Lib.hid (HV.out.keep (KeepF.of_chg hc3 (nw_not (by omega) (by omega)))); clear hc3))
    obtain ⟨⟨x0, x1⟩, x2, x3⟩ := row2_cells HB3.out.r
    obtain ⟨⟨p0, p1, p2⟩, p3, p4, p5⟩ := row3_cells HB3.out.p
    try simp only [Act.put]
    go_region
    all_goals
      go_wp2_with fail
      exact bodyPost_ret (results_np rfl _ _ (w.heap.size + 1 + 1 + 1) (w.heap.size + 1 + 1) _ _ _ _ _ _ rfl rfl rfl (hap_rows HB3.out).2 (hap_rows HB3.out).1) rfl (hap_fin HB3.out HV3.out (zero_PKV _) hzq)
set_option maxHeartbeats 4000000 in
theorem hap_cut (v : Value) (n : Nt) (m : Mv) (w : World) (h : NV F w v n) (hk : m.k < 256) (hi : m.i < 256) (ha : m.a < 256) (hb : m.b < 256) (h6 : m.k % 6 = 4) : Calls Try.prog 27 #[v, .agg #[.int .u8 m.k, .int .u8 m.i, .int .u8 m.a, .int .u8 m.b, byt m.d]] w (RetH F (cutN n (hapA m) (hapB m) true) pk0 (cutE n (hapA m) (hapB m)) w) := by
  obtain ⟨pq, N, cq, pa, M, ca, rfl, HO, hq1, hq2, ha1, ha2⟩ := h.lo.op
  obtain ⟨k, i, a, b, d⟩ := m
  simp only at hk hi ha hb h6 ⊢
  have HBX := bx4 w (.slice pq N cq) (.slice pa M ca) (.int .u8 k) (.int .u8 i) (.int .u8 a) (.int .u8 b) (byt d) (.slice none 0 0) (.slice none 0 0) (.int .i64 0) (.int .i64 0) (.slice none 0 0) 49
  have HCZ : Hid (∀ w', Below w.heap.size w w' → Calls Try.prog 18 #[nval pq N cq pa M ca, .int .i64 ((a : Int) % 24), .int .i64 ((b : Int) % 24), .bool true] w' (RetN (Lo F w) (cutN n (hapA ⟨k, i, a, b, d⟩) (hapB ⟨k, i, a, b, d⟩) true) (cutE n (hapA ⟨k, i, a, b, d⟩) (hapB ⟨k, i, a, b, d⟩)) w')) := Lib.hid fun w' hb => by
    have e1 : hapA ⟨k, i, a, b, d⟩ = (a : Int) % 24 := by unfold hapA; simp only; omega
    have e2 : hapB ⟨k, i, a, b, d⟩ = (b : Int) % 24 := by unfold hapB; simp only; omega
    rw [e1, e2]
    exact cut_any _ n _ _ true w' (HO.out.below hb).nv
  have f1 : IntKind.i64.wrap (i : Int) = (i : Int) := by rw [IntKind.wrap_i64]; omega
  have f2 : IntKind.i64.wrap (a : Int) = (a : Int) := by rw [IntKind.wrap_i64]; omega
  have f3 : IntKind.i64.wrap (b : Int) = (b : Int) := by rw [IntKind.wrap_i64]; omega
  have f4 : ((k : Int)).tmod 6 = 4 := by rw [show (6 : Int) = ((6 : Nat) : Int) from rfl, tmod_nat, h6]; rfl
  have f5 : ((a : Int)).tmod 24 = ((a % 24 : Nat) : Int) := tmod_nat a 24
  have f6 : ((b : Int)).tmod 24 = ((b % 24 : Nat) : Int) := tmod_nat b 24
  have HB := Lib.hid HBX
  have n0 := HBX.n0
  have n1 := HBX.n1
  have m0 := HBX.m 0 _ rfl
  have m1 := HBX.m 1 _ rfl
  have m2 := HBX.m 2 _ rfl
  have m3 := HBX.m 3 _ rfl
  have m4 := HBX.m 4 _ rfl
  clear h h6 HBX
  have hz2 : N = 0 ∨ 0 < N := by omega
  generalize cutN n (hapA ⟨k, i, a, b, d⟩) (hapB ⟨k, i, a, b, d⟩) true = Y at *
  generalize cutE n (hapA ⟨k, i, a, b, d⟩) (hapB ⟨k, i, a, b, d⟩) = E at *
  rcases hz2 with rfl | hN
  rotate_left 1
  · have g1 : (0 : Int) < (N : Int) := by omega
    have g2 : ¬ ((N : Int) = 0) := by omega
    have g3 := tmod_nat i N
    go_enter Try.func27, Try.ntmps27
    go_wp2_with fail
    generalize ((((w.alloc (.cells #[.slice pq N cq, .slice pa M ca] 25)).alloc (.cells #[.int .u8 k, .int .u8 i, .int .u8 a, .int .u8 b, byt d] 49)).alloc (.cells #[.slice none 0 0, .slice none 0 0] 25)).alloc (.cells #[.int .i64 0, .int .i64 0, .slice none 0 0] 28)) = W1 at *
    go_quiet (fail)
    have HBq := Lib.hid (HB.out.drewN nq)
    generalize W1.drewN nq = Wq at *
    have n0 := HBq.out.n0
    have n1 := HBq.out.n1
    have m0 := HBq.out.m 0 _ rfl
    have hzq := HBq.out.hz
    go_wp2_with (first
      | (go_at_call 18; refine (HCZ.out _ HBq.out.below).mono ?_; rintro e W2 ⟨v2, rfl, hv2, hb2⟩; have HV := Lib.hid hv2; obtain ⟨pq3, N3, cq3, pa3, M3, ca3, rfl, HO3, hq3, hq3', ha3, ha3'⟩ := hv2.op; have HB2 := Lib.hid (HBq.out.later hb2); clear hv2 hb2)
      | (refine nt_store rfl (.tmp 4) (.tmp 77) rfl (w.heap.size + 1 + 1) _ _ _ HB2.out.r rfl rfl rfl ⟨rfl, rfl⟩ ?_; rintro W3 r3 hc3; have HB3 := Lib.hid (HB2.out.nt r3.out hc3); have HV3 := Lib.hid (HV.out.keep (KeepF.of_chg hc3 (nw_not (by omega) (by omega)))); clear hc3))
    obtain ⟨⟨x0, x1⟩, x2, x3⟩ := row2_cells HB3.out.r
    obtain ⟨⟨p0, p1, p2⟩, p3, p4, p5⟩ := row3_cells HB3.out.p
    try simp only [Act.put]
    go_region
    all_goals
      go_wp2_with fail
      exact bodyPost_ret (results_np rfl _ _ (w.heap.size + 1 + 1 + 1) (w.heap.size + 1 + 1) _ _ _ _ _ _ rfl rfl rfl (hap_rows HB3.out).2 (hap_rows HB3.out).1) rfl (hap_fin HB3.out HV3.out (zero_PKV _) hzq)
  · go_enter Try.func27, Try.ntmps27
    go_wp2_with fail
    generalize ((((w.alloc (.cells #[.slice pq 0 cq, .slice pa M ca] 25)).alloc (.cells #[.int .u8 k, .int .u8 i, .int .u8 a, .int .u8 b, byt d] 49)).alloc (.cells #[.slice none 0 0, .slice none 0 0] 25)).alloc (.cells #[.int .i64 0, .int .i64 0, .slice none 0 0] 28)) = W1 at *
    go_quiet (fail)
    have HBq := Lib.hid (HB.out.drewN nq)
    generalize W1.drewN nq = Wq at *
    have n0 := HBq.out.n0
    have n1 := HBq.out.n1
    have m0 := HBq.out.m 0 _ rfl
    have hzq := HBq.out.hz
    go_wp2_with (first
      | (go_at_call 18; refine (HCZ.out _ HBq.out.below).mono ?_; rintro e W2 ⟨v2, rfl, hv2, hb2⟩; have HV := Lib.hid hv2; obtain ⟨pq3, N3, cq3, pa3, M3, ca3, rfl, HO3, hq3, hq3', ha3, ha3'⟩ := hv2.op; have HB2 := Lib.hid (HBq.out.later hb2); clear hv2 hb2)
      | (refine nt_store rfl (.tmp 4) (.tmp 77) rfl (w.heap.size + 1 + 1) _ _ _ HB2.out.r rfl rfl rfl ⟨rfl, rfl⟩ ?_; rintro W3 r3 hc3; have HB3 := Lib.hid (HB2.out.nt r3.out hc3); have HV3 := Lib.hid (HV.out.keep (KeepF.of_chg hc3 (nw_not (by omega) (by omega)))); clear hc3))
    obtain ⟨⟨x0, x1⟩, x2, x3⟩ := row2_cells HB3.out.r
    obtain ⟨⟨p0, p1, p2⟩, p3, p4, p5⟩ := row3_cells HB3.out.p
    try simp only [Act.put]
    go_region
    all_goals
      go_wp2_with fail
      exact bodyPost_ret (results_np rfl _ _ (w.heap.size + 1 + 1 + 1) (w.heap.size + 1 + 1) _ _ _ _ _ _ rfl rfl rfl (hap_rows HB3.out).2 (hap_rows HB3.out).1) rfl (hap_fin HB3.out HV3.out (zero_PKV _) hzq)
set_option maxHeartbeats 4000000 in
theorem hap_mend (v : Value) (n : Nt) (m : Mv) (w : World) (h : NV F w v n) (hk : m.k < 256) (hi : m.i < 256) (ha : m.a < 256) (hb : m.b < 256) (h6 : m.k % 6 = 5) : Calls Try.prog 27 #[v, .agg #[.int .u8 m.k, .int .u8 m.i, .int .u8 m.a, .int .u8 m.b, byt m.d]] w (RetH F (cutN n (hapA m) (hapB m) false) pk0 (cutE n (hapA m) (hapB m)) w) := by
  obtain ⟨pq, N, cq, pa, M, ca, rfl, HO, hq1, hq2, ha1, ha2⟩ := h.lo.op
  obtain ⟨k, i, a, b, d⟩ := m
  simp only at hk hi ha hb h6 ⊢
  have HBX := bx4 w (.slice pq N cq) (.slice pa M ca) (.int .u8 k) (.int .u8 i) (.int .u8 a) (.int .u8 b) (byt d) (.slice none 0 0) (.slice none 0 0) (.int .i64 0) (.int .i64 0) (.slice none 0 0) 49
  have HCZ : Hid (∀ w', Below w.heap.size w w' → Calls Try.prog 18 #[nval pq N cq pa M ca, .int .i64 ((a : Int) % 24), .int .i64 ((b : Int) % 24), .bool false] w' (RetN (Lo F w) (cutN n (hapA ⟨k, i, a, b, d⟩) (hapB ⟨k, i, a, b, d⟩) false) (cutE n (hapA ⟨k, i, a, b, d⟩) (hapB ⟨k, i, a, b, d⟩)) w')) := Lib.hid fun w' hb => by
    have e1 : hapA ⟨k, i, a, b, d⟩ = (a : Int) % 24 := by unfold hapA; simp only; omega
    have e2 : hapB ⟨k, i, a, b, d⟩ = (b : Int) % 24 := by unfold hapB; simp only; omega
    rw [e1, e2]
    exact cut_any _ n _ _ false w' (HO.out.below hb).nv
  have f1 : IntKind.i64.wrap (i : Int) = (i : Int) := by rw [IntKind.wrap_i64]; omega
  have f2 : IntKind.i64.wrap (a : Int) = (a : Int) := by rw [IntKind.wrap_i64]; omega
  have f3 : IntKind.i64.wrap (b : Int) = (b : Int) := by rw [IntKind.wrap_i64]; omega
  have f4 : ((k : Int)).tmod 6 = 5 := by rw [show (6 : Int) = ((6 : Nat) : Int) from rfl, tmod_nat, h6]; rfl
  have f5 : ((a : Int)).tmod 24 = ((a % 24 : Nat) : Int) := tmod_nat a 24
  have f6 : ((b : Int)).tmod 24 = ((b % 24 : Nat) : Int) := tmod_nat b 24
  have HB := Lib.hid HBX
  have n0 := HBX.n0
  have n1 := HBX.n1
  have m0 := HBX.m 0 _ rfl
  have m1 := HBX.m 1 _ rfl
  have m2 := HBX.m 2 _ rfl
  have m3 := HBX.m 3 _ rfl
  have m4 := HBX.m 4 _ rfl
  clear h h6 HBX
  have hz2 : N = 0 ∨ 0 < N := by omega
  generalize cutN n (hapA ⟨k, i, a, b, d⟩) (hapB ⟨k, i, a, b, d⟩) false = Y at *
  generalize cutE n (hapA ⟨k, i, a, b, d⟩) (hapB ⟨k, i, a, b, d⟩) = E at *
  rcases hz2 with rfl | hN
  rotate_left 1
  · have g1 : (0 : Int) < (N : Int) := by omega
    have g2 : ¬ ((N : Int) = 0) := by omega
    have g3 := tmod_nat i N
    go_enter Try.func27, Try.ntmps27
    go_wp2_with fail
    generalize ((((w.alloc (.cells #[.slice pq N cq, .slice pa M ca] 25)).alloc (.cells #[.int .u8 k, .int .u8 i, .int .u8 a, .int .u8 b, byt d] 49)).alloc (.cells #[.slice none 0 0, .slice none 0 0] 25)).alloc (.cells #[.int .i64 0, .int .i64 0, .slice none 0 0] 28)) = W1 at *
    go_quiet (fail)
    have HBq := Lib.hid (HB.out.drewN nq)
    generalize W1.drewN nq = Wq at *
    have n0 := HBq.out.n0
    have n1 := HBq.out.n1
    have m0 := HBq.out.m 0 _ rfl
    have hzq := HBq.out.hz
    go_wp2_with (first
      | (go_at_call 18; refine (HCZ.out _ HBq.out.below).mono ?_; rintro e W2 ⟨v2, rfl, hv2, hb2⟩; have HV := Lib.hid hv2; obtain ⟨pq3, N3, cq3, pa3, M3, ca3, rfl, HO3, hq3, hq3', ha3, ha3'⟩ := hv2.op; have HB2 := Lib.hid (HBq.out.later hb2); clear hv2 hb2)
      | (refine nt_store rfl (.tmp 4) (.tmp 86) rfl (w.heap.size + 1 + 1) _ _ _ HB2.out.r rfl rfl rfl ⟨rfl, rfl⟩ ?_; rintro W3 r3 hc3; have HB3 := Lib.hid (HB2.out.nt r3.out hc3); have HV3 := Lib.hid (HV.out.keep (KeepF.of_chg hc3 (nw_not (by omega) (by omega)))); clear hc3))
    obtain ⟨⟨x0, x1⟩, x2, x3⟩ := row2_cells HB3.out.r
    obtain ⟨⟨p0, p1, p2⟩, p3, p4, p5⟩ := row3_cells HB3.out.p
    try simp only [Act.put]
    go_region
    all_goals
      go_wp2_with fail
      exact bodyPost_ret (results_np rfl _ _ (w.heap.size + 1 + 1 + 1) (w.heap.size + 1 + 1) _ _ _ _ _ _ rfl rfl rfl (hap_rows HB3.out).2 (hap_rows HB3.out).1) rfl (hap_fin HB3.out HV3.out (zero_PKV _) hzq)
  · go_enter Try.func27, Try.ntmps27
    go_wp2_with fail
    generalize ((((w.alloc (.cells #[.slice pq 0 cq, .slice pa M ca] 25)).alloc (.cells #[.int .u8 k, .int .u8 i, .int .u8 a, .int .u8 b, byt d] 49)).alloc (.cells #[.slice none 0 0, .slice none 0 0] 25)).alloc (.cells #[.int .i64 0, .int .i64 0, .slice none 0 0] 28)) = W1 at *
    go_quiet (fail)
    have HBq := Lib.hid (HB.out.drewN nq)
    generalize W1.drewN nq = Wq at *
    have n0 := HBq.out.n0
    have n1 := HBq.out.n1
    have m0 := HBq.out.m 0 _ rfl
    have hzq := HBq.out.hz
    go_wp2_with (first
      | (go_at_call 18; refine (HCZ.out _ HBq.out.below).mono ?_; rintro e W2 ⟨v2, rfl, hv2, hb2⟩; have HV := Lib.hid hv2; obtain ⟨pq3, N3, cq3, pa3, M3, ca3, rfl, HO3, hq3, hq3', ha3, ha3'⟩ := hv2.op; have HB2 := Lib.hid (HBq.out.later hb2); clear hv2 hb2)
      | (refine nt_store rfl (.tmp 4) (.tmp 86) rfl (w.heap.size + 1 + 1) _ _ _ HB2.out.r rfl rfl rfl ⟨rfl, rfl⟩ ?_; rintro W3 r3 hc3; have HB3 := Lib.hid (HB2.out.nt r3.out hc3); have HV3 := Lib.hid (HV.out.keep (KeepF.of_chg hc3 (nw_not (by omega) (by omega)))); clear hc3))
    obtain ⟨⟨x0, x1⟩, x2, x3⟩ := row2_cells HB3.out.r
    obtain ⟨⟨p0, p1, p2⟩, p3, p4, p5⟩ := row3_cells HB3.out.p
    try simp only [Act.put]
    go_region
    all_goals
      go_wp2_with fail
      exact bodyPost_ret (results_np rfl _ _ (w.heap.size + 1 + 1 + 1) (w.heap.size + 1 + 1) _ _ _ _ _ _ rfl rfl rfl (hap_rows HB3.out).2 (hap_rows HB3.out).1) rfl (hap_fin HB3.out HV3.out (zero_PKV _) hzq)
end Go.Proofs.Ytpempgajejbdoaa
