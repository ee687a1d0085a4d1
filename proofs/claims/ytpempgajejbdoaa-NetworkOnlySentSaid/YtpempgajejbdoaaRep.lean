/-
  Links: Repeat, both.
-/
import Derived.Test.YtpempgajejbdoaaAsk
import Derived.Test.YtpempgajejbdoaaSnd
import Derived.Test.YtpempgajejbdoaaRsn
import Derived.Deep.RegionWith
namespace Go.Proofs.Ytpempgajejbdoaa
open Go Go.RowKit
variable {F : Nat → Prop}
theorem set2_row {w : World} {B : Nat} {x y a b : Value} (r : w.heap[B]? = some (.cells #[x, y] 25 (0, 0))) : ((w.setCell ⟨B, 0, none⟩ a).setCell ⟨B, 1, none⟩ b).heap[B]? = some (.cells #[a, b] 25 (0, 0)) := by
  simp only [World.setCell, Array.getElem?_modify, r]
  simp
theorem set2_chg (w : World) (B : Nat) (a b : Value) : Chg B w ((w.setCell ⟨B, 0, none⟩ a).setCell ⟨B, 1, none⟩ b) := ((Chg.refl B w).set (.inl rfl) a).set (.inl rfl) b
theorem row2_cells {w : World} {B : Nat} {x y : Value} (r : w.heap[B]? = some (.cells #[x, y] 25 (0, 0))) : (w.cell? ⟨B, 0, none⟩ = some x ∧ w.cell? ⟨B, 1, none⟩ = some y) ∧ (w.frozen? ⟨B, 0, none⟩ = false ∧ w.frozen? ⟨B, 1, none⟩ = false) := by
  refine ⟨⟨?_, ?_⟩, ?_, ?_⟩
  · unfold World.cell?; simp only [r]; rfl
  · unfold World.cell?; simp only [r]; rfl
  · unfold World.frozen?; simp only [r]; simp
  · unfold World.frozen?; simp only [r]; simp
theorem okN_pk {n : Nt} {k : Nat} {x : Pk} (h : okN n = true) (hx : n.q[k]? = some x) : pkB x = true := by
  unfold okN okQ at h
  simp only [Bool.and_eq_true] at h
  exact List.all_eq_true.1 h.1.2 x (List.mem_of_getElem? hx)
theorem drew_bel {m : Nat} {w0 w : World} (h : Below m w0 w) : Below m w0 w.drew := ⟨h.os, h.tape, h.output, h.size, h.block⟩
def pkAt (n : Nt) (a : Int) : Pk := (n.q[a.toNat]?).getD pk0
def repE (n : Nt) (a : Int) : Int := if askE n a = 0 then addE n else askE n a
def repN (n : Nt) (a : Int) : Nt := if askE n a = 0 then addN n (pkAt n a) else zero
set_option maxHeartbeats 2000000 in
theorem repeat_any (v : Value) (n : Nt) (a : Int) (w : World) (h : NV F w v n) : Calls Try.prog 25 #[v, .int .i64 a] w (RetN F (repN n a) (repE n a) w) := by
  have hv := h.lo
  obtain ⟨pq, N, cq, pa, M, ca, rfl, HO, hq1, hq2, ha1, ha2⟩ := h.lo.op
  have HA : Hid (∀ w', Below w.heap.size w w' → Calls Try.prog 40 #[nval pq N cq pa M ca, .int .i64 a] w' (Ret (.int .i64 (askE n a)) w')) := Lib.hid fun w' hb => checkAt_any _ n a w' (HO.out.below hb).nv
  have HBX := Lib.hid (box2 w (.slice pq N cq) (.slice pa M ca) (.slice none 0 0) (.slice none 0 0))
  rcases askE_cases n a with hE | hE | ⟨hE, hok, k, rfl, hk⟩
  rotate_left 2
  · obtain ⟨b, o, f, t, pu, L, cu, l, rfl, hbl, g0, g1, g2, HL, hu1, hu2, HW⟩ := HO.out.que.pkAt k hk
    have hx : pkAt n (k : Int) = (f, t, l) := by unfold pkAt; rw [Int.toNat_natCast, HL.out.1]; rfl
    have HN : Hid (repN n (k : Int) = addN n (f, t, l) ∧ repE n (k : Int) = addE n) := Lib.hid ⟨by unfold repN; rw [if_pos hE, hx], by unfold repE; rw [if_pos hE]⟩
    have HAD : Hid (∀ w', Below w.heap.size w w' → Calls Try.prog 29 #[nval (some ⟨b, o, none⟩) N cq pa M ca, .agg #[.int .i64 f, .int .i64 t, .slice pu L cu]] w' (RetN (Lo F w) (addN n (f, t, l)) (addE n) w')) :=
      Lib.hid fun w' hb => added_any _ _ n (f, t, l) w' (hv.below hb) (PKV.below ⟨_, rfl, HW.out.1, HW.out.2, HL.out.2.2⟩ hb) (okN_len hok)
    rw [HN.out.1, HN.out.2]
    generalize addE n = E at HAD ⊢
    have hkN : (k : Int) < (N : Int) := by rw [HO.out.nq] at hk; omega
    rw [hE] at HA
    clear h hv hE hok hk hx HN
    go_enter Try.func25, Try.ntmps25
    go_wp2_with (go_at_call 40; refine (HA.out _ HBX.out.below).mono ?_; rintro e w1 ⟨rfl, hb1⟩; obtain ⟨⟨c0, c1⟩, f0, r, hz, HB⟩ := HBX.out.later hb1; clear hb1)
    have d0 := (bcells HB.out hbl _).trans g0
    have d1 := (bcells HB.out hbl _).trans g1
    have d2 := (bcells HB.out hbl _).trans g2
    clear g0 g1 g2 HA HBX
    go_region_with ((go_at_call 29; refine (HAD.out _ (drew_bel HB.out)).mono ?_; rintro e w2 ⟨v2, rfl, hv2, hb2⟩; have HV := Lib.hid hv2; obtain ⟨pq3, N3, cq3, pa3, M3, ca3, rfl, HO3, hq3, hq3', ha3, ha3'⟩ := hv2.op; have r3 := Lib.hid ((hb2.block _ hz).trans r.out); have HB2 := Lib.hid ((drew_bel HB.out).trans (hb2.mono HB.out.size)); obtain ⟨⟨x0, x1⟩, y0, y1⟩ := row2_cells r3.out; clear hb2 hv2))
    all_goals
      go_wp2_with fail
      exact bodyPost_ret (results_nt rfl _ _ _ _ _ _ rfl rfl (set2_row r3.out)) rfl ⟨_, rfl, (HV.out.keep (KeepF.of_chg (set2_chg _ _ _ _) (nw_not (by omega) (by show _ < w1.heap.size; omega)))).wid (nw_wid (by show _ ≤ w1.heap.size; omega)), Chg.below HB2.out HB2.out.size (by omega) (set2_chg _ _ _ _)⟩
  all_goals
    have HN : Hid (repN n a = zero ∧ repE n a = askE n a) := Lib.hid ⟨by unfold repN; rw [if_neg (by rw [hE]; decide)], by unfold repE; rw [if_neg (by rw [hE]; decide)]⟩
    rw [HN.out.1, HN.out.2]
    rw [hE] at HA ⊢
    clear h hv hE HN
    go_enter Try.func25, Try.ntmps25
    go_wp2_with (first
      | (go_at_call 40; refine (HA.out _ HBX.out.below).mono ?_; rintro e w1 ⟨rfl, hb1⟩; obtain ⟨⟨c0, c1⟩, f0, r, hz, HB⟩ := HBX.out.later hb1; clear hb1)
      | (refine nt_store rfl (.tmp 4) (.tmp 11) rfl (w.heap.size + 1) _ _ _ r.out rfl rfl rfl ⟨rfl, rfl⟩ ?_; rintro w4 r2 hc2))
    exact bodyPost_ret (results_nt rfl _ _ _ _ _ _ rfl rfl r2.out) rfl ⟨.agg #[.slice none 0 0, .slice none 0 0], rfl, zero_NV _, Chg.below HB.out HB.out.size (by omega) hc2⟩
set_option maxHeartbeats 2000000 in
theorem rrepeat_any (v : Value) (n : Nt) (a : Int) (w : World) (h : NV F w v n) : Calls Try.prog 26 #[v, .int .i64 a] w (RetN F (repN n a) (repE n a) w) := by
  have hv := h.lo
  obtain ⟨pq, N, cq, pa, M, ca, rfl, HO, hq1, hq2, ha1, ha2⟩ := h.lo.op
  have HA : Hid (∀ w', Below w.heap.size w w' → Calls Try.prog 43 #[nval pq N cq pa M ca, .int .i64 a] w' (Ret (.int .i64 (askE n a)) w')) := Lib.hid fun w' hb => asked_any _ n a w' (HO.out.below hb).nv
  have HBX := Lib.hid (box2 w (.slice pq N cq) (.slice pa M ca) (.slice none 0 0) (.slice none 0 0))
  rcases askE_cases n a with hE | hE | ⟨hE, hok, k, rfl, hk⟩
  rotate_left 2
  · obtain ⟨b, o, f, t, pu, L, cu, l, rfl, hbl, g0, g1, g2, HL, hu1, hu2, HW⟩ := HO.out.que.pkAt k hk
    have hx : pkAt n (k : Int) = (f, t, l) := by unfold pkAt; rw [Int.toNat_natCast, HL.out.1]; rfl
    have HN : Hid (repN n (k : Int) = addN n (f, t, l) ∧ repE n (k : Int) = addE n) := Lib.hid ⟨by unfold repN; rw [if_pos hE, hx], by unfold repE; rw [if_pos hE]⟩
    have HAD : Hid (∀ w', Below w.heap.size w w' → Calls Try.prog 12 #[nval (some ⟨b, o, none⟩) N cq pa M ca, .agg #[.int .i64 f, .int .i64 t, .slice pu L cu]] w' (RetN (Lo F w) (addN n (f, t, l)) (addE n) w')) :=
      Lib.hid fun w' hb => by
        have hs := rsend_any _ _ n (f, t, l) w' (hv.below hb) (PKV.below ⟨_, rfl, HW.out.1, HW.out.2, HL.out.2.2⟩ hb)
        have hb2 : (okN n && pkB (f, t, l)) = true := by rw [hok, okN_pk hok HL.out.1]; rfl
        have e1 : sendN n (f, t, l) = addN n (f, t, l) := by unfold sendN; rw [if_pos hb2]
        have e2 : sendE n (f, t, l) = addE n := by unfold sendE; rw [if_pos hb2]
        rwa [e1, e2] at hs
    rw [HN.out.1, HN.out.2]
    generalize addE n = E at HAD ⊢
    have hkN : (k : Int) < (N : Int) := by rw [HO.out.nq] at hk; omega
    rw [hE] at HA
    clear h hv hE hok hk hx HN
    go_enter Try.func26, Try.ntmps26
    go_wp2_with (go_at_call 43; refine (HA.out _ HBX.out.below).mono ?_; rintro e w1 ⟨rfl, hb1⟩; obtain ⟨⟨c0, c1⟩, f0, r, hz, HB⟩ := HBX.out.later hb1; clear hb1)
    have d0 := (bcells HB.out hbl _).trans g0
    have d1 := (bcells HB.out hbl _).trans g1
    have d2 := (bcells HB.out hbl _).trans g2
    clear g0 g1 g2 HA HBX
    go_region_with ((go_at_call 12; refine (HAD.out _ (drew_bel HB.out)).mono ?_; rintro e w2 ⟨v2, rfl, hv2, hb2⟩; have HV := Lib.hid hv2; obtain ⟨pq3, N3, cq3, pa3, M3, ca3, rfl, HO3, hq3, hq3', ha3, ha3'⟩ := hv2.op; have r3 := Lib.hid ((hb2.block _ hz).trans r.out); have HB2 := Lib.hid ((drew_bel HB.out).trans (hb2.mono HB.out.size)); obtain ⟨⟨x0, x1⟩, y0, y1⟩ := row2_cells r3.out; clear hb2 hv2))
    all_goals
      go_wp2_with fail
      exact bodyPost_ret (results_nt rfl _ _ _ _ _ _ rfl rfl (set2_row r3.out)) rfl ⟨_, rfl, (HV.out.keep (KeepF.of_chg (set2_chg _ _ _ _) (nw_not (by omega) (by show _ < w1.heap.size; omega)))).wid (nw_wid (by show _ ≤ w1.heap.size; omega)), Chg.below HB2.out HB2.out.size (by omega) (set2_chg _ _ _ _)⟩
  all_goals
    have HN : Hid (repN n a = zero ∧ repE n a = askE n a) := Lib.hid ⟨by unfold repN; rw [if_neg (by rw [hE]; decide)], by unfold repE; rw [if_neg (by rw [hE]; decide)]⟩
    rw [HN.out.1, HN.out.2]
    rw [hE] at HA ⊢
    clear h hv hE HN
    go_enter Try.func26, Try.ntmps26
    go_wp2_with (first
      | (go_at_call 43; refine (HA.out _ HBX.out.below).mono ?_; rintro e w1 ⟨rfl, hb1⟩; obtain ⟨⟨c0, c1⟩, f0, r, hz, HB⟩ := HBX.out.later hb1; clear hb1)
      | (refine nt_store rfl (.tmp 4) (.tmp 12) rfl (w.heap.size + 1) _ _ _ r.out rfl rfl rfl ⟨rfl, rfl⟩ ?_; rintro w4 r2 hc2))
    exact bodyPost_ret (results_nt rfl _ _ _ _ _ _ rfl rfl r2.out) rfl ⟨.agg #[.slice none 0 0, .slice none 0 0], rfl, zero_NV _, Chg.below HB.out HB.out.size (by omega) hc2⟩
end Go.Proofs.Ytpempgajejbdoaa
