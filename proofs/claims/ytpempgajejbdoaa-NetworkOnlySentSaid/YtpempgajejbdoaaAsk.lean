/-
  Links: which numbers of packets are refused; Lose, both.
-/
import Derived.Test.YtpempgajejbdoaaRwo
import Derived.Test.YtpempgajejbdoaaRck
namespace Go.Proofs.Ytpempgajejbdoaa
open Go Go.RowKit
variable {F : Nat → Prop}
def askE (n : Nt) (a : Int) : Int := if okN n = true then (if a < 0 ∨ (n.q.length : Int) ≤ a then 1 else 0) else 60
theorem askE_bad {n : Nt} {a : Int} (h : okN n = false) : askE n a = 60 := by unfold askE; rw [if_neg (by simp [h])]
theorem askE_out {n : Nt} {a : Int} (h : okN n = true) (ho : a < 0 ∨ (n.q.length : Int) ≤ a) : askE n a = 1 := by unfold askE; rw [if_pos h, if_pos ho]
theorem askE_in {n : Nt} {k : Nat} (h : okN n = true) (ho : k < n.q.length) : askE n (k : Int) = 0 := by unfold askE; rw [if_pos h, if_neg (by omega)]
theorem askE_cases (n : Nt) (a : Int) : askE n a = 60 ∨ askE n a = 1 ∨ (askE n a = 0 ∧ okN n = true ∧ ∃ k : Nat, a = (k : Int) ∧ k < n.q.length) := by
  cases h : okN n
  · exact .inl (askE_bad h)
  · by_cases ho : a < 0 ∨ (n.q.length : Int) ≤ a
    · exact .inr (.inl (askE_out h ho))
    · obtain ⟨k, rfl⟩ := Int.eq_ofNat_of_zero_le (show 0 ≤ a by omega)
      exact .inr (.inr ⟨askE_in h (by omega), rfl, k, rfl, by omega⟩)
theorem checkAt_any (v : Value) (n : Nt) (a : Int) (w : World) (h : NV F w v n) : Calls Try.prog 40 #[v, .int .i64 a] w (Ret (.int .i64 (askE n a)) w) := by
  obtain ⟨pq, N, cq, pa, M, ca, rfl, HO, hq1, hq2, ha1, ha2⟩ := h.op
  have HC : Hid (∀ w', Below w.heap.size w w' → Calls Try.prog 13 #[nval pq N cq pa M ca] w' (Ret (.int .i64 (chk n)) w')) := Lib.hid fun w' hb => check_any _ n w' (HO.out.below hb).nv
  clear h
  cases hok : okN n
  · rw [chk_no hok] at HC
    have HE := Lib.hid (askE_bad (a := a) hok)
    clear hok
    go_enter Try.func40, Try.ntmps40
    go_wp2_with (go_at_call 13; refine (HC.out _ (one_new _ _)).mono ?_; rintro e w1 ⟨rfl, hb1⟩; have HB := Lib.hid (one_later hb1); clear hb1)
    go_ret
    exact ⟨ret_int HE.out.symm, HB.out⟩
  rw [chk_ok hok] at HC
  by_cases h0 : a < 0
  · have HE := Lib.hid (askE_out (a := a) hok (.inl h0))
    clear hok
    go_enter Try.func40, Try.ntmps40
    go_wp2_with (go_at_call 13; refine (HC.out _ (one_new _ _)).mono ?_; rintro e w1 ⟨rfl, hb1⟩; have HB := Lib.hid (one_later hb1); clear hb1)
    go_ret
    exact ⟨ret_int HE.out.symm, HB.out⟩
  by_cases h1 : (N : Int) ≤ a
  · have HE := Lib.hid (askE_out (a := a) hok (.inr (by rw [HO.out.nq]; exact h1)))
    clear hok
    go_enter Try.func40, Try.ntmps40
    go_wp2_with (go_at_call 13; refine (HC.out _ (one_new _ _)).mono ?_; rintro e w1 ⟨rfl, hb1⟩; obtain ⟨c0, c1⟩ := boxed (Nat.lt_succ_self _) (hb1.mono (by simp)); have HB := Lib.hid (one_later hb1); clear hb1)
    go_ret
    exact ⟨ret_int HE.out.symm, HB.out⟩
  · have HE : Hid (askE n a = 0) := Lib.hid (by unfold askE; rw [if_pos hok, if_neg (by rw [HO.out.nq]; omega)])
    clear hok
    go_enter Try.func40, Try.ntmps40
    go_wp2_with (go_at_call 13; refine (HC.out _ (one_new _ _)).mono ?_; rintro e w1 ⟨rfl, hb1⟩; obtain ⟨c0, c1⟩ := boxed (Nat.lt_succ_self _) (hb1.mono (by simp)); have HB := Lib.hid (one_later hb1); clear hb1)
    go_ret
    exact ⟨ret_int HE.out.symm, HB.out⟩
theorem asked_any (v : Value) (n : Nt) (a : Int) (w : World) (h : NV F w v n) : Calls Try.prog 43 #[v, .int .i64 a] w (Ret (.int .i64 (askE n a)) w) := by
  obtain ⟨pq, N, cq, pa, M, ca, rfl, HO, hq1, hq2, ha1, ha2⟩ := h.op
  have HC : Hid (∀ w', Below w.heap.size w w' → Calls Try.prog 14 #[nval pq N cq pa M ca] w' (Ret (.int .i64 (chk n)) w')) := Lib.hid fun w' hb => rcheck_any _ n w' (HO.out.below hb).nv
  clear h
  cases hok : okN n
  · rw [chk_no hok] at HC
    have HE := Lib.hid (askE_bad (a := a) hok)
    clear hok
    go_enter Try.func43, Try.ntmps43
    go_wp2_with (go_at_call 14; refine (HC.out _ (one_new _ _)).mono ?_; rintro e w1 ⟨rfl, hb1⟩; have HB := Lib.hid (one_later hb1); clear hb1)
    go_ret
    exact ⟨ret_int HE.out.symm, HB.out⟩
  rw [chk_ok hok] at HC
  by_cases h0 : a < 0
  · have HE := Lib.hid (askE_out (a := a) hok (.inl h0))
    clear hok
    go_enter Try.func43, Try.ntmps43
    go_wp2_with (go_at_call 14; refine (HC.out _ (one_new _ _)).mono ?_; rintro e w1 ⟨rfl, hb1⟩; have HB := Lib.hid (one_later hb1); clear hb1)
    go_ret
    exact ⟨ret_int HE.out.symm, HB.out⟩
  by_cases h1 : (N : Int) ≤ a
  · have HE := Lib.hid (askE_out (a := a) hok (.inr (by rw [HO.out.nq]; exact h1)))
    clear hok
    go_enter Try.func43, Try.ntmps43
    go_wp2_with (go_at_call 14; refine (HC.out _ (one_new _ _)).mono ?_; rintro e w1 ⟨rfl, hb1⟩; obtain ⟨c0, c1⟩ := boxed (Nat.lt_succ_self _) (hb1.mono (by simp)); have HB := Lib.hid (one_later hb1); clear hb1)
    go_ret
    exact ⟨ret_int HE.out.symm, HB.out⟩
  · have HE : Hid (askE n a = 0) := Lib.hid (by unfold askE; rw [if_pos hok, if_neg (by rw [HO.out.nq]; omega)])
    clear hok
    go_enter Try.func43, Try.ntmps43
    go_wp2_with (go_at_call 14; refine (HC.out _ (one_new _ _)).mono ?_; rintro e w1 ⟨rfl, hb1⟩; obtain ⟨c0, c1⟩ := boxed (Nat.lt_succ_self _) (hb1.mono (by simp)); have HB := Lib.hid (one_later hb1); clear hb1)
    go_ret
    exact ⟨ret_int HE.out.symm, HB.out⟩
def loseN (n : Nt) (a : Int) : Nt := if askE n a = 0 then wo n a.toNat else zero
set_option maxHeartbeats 2000000 in
theorem lose_any (v : Value) (n : Nt) (a : Int) (w : World) (h : NV F w v n) : Calls Try.prog 23 #[v, .int .i64 a] w (RetN F (loseN n a) (askE n a) w) := by
  have hv := h.lo
  obtain ⟨pq, N, cq, pa, M, ca, rfl, HO, hq1, hq2, ha1, ha2⟩ := h.lo.op
  have HA : Hid (∀ w', Below w.heap.size w w' → Calls Try.prog 40 #[nval pq N cq pa M ca, .int .i64 a] w' (Ret (.int .i64 (askE n a)) w')) := Lib.hid fun w' hb => checkAt_any _ n a w' (HO.out.below hb).nv
  have HBX := Lib.hid (box2 w (.slice pq N cq) (.slice pa M ca) (.slice none 0 0) (.slice none 0 0))
  rcases askE_cases n a with hE | hE | ⟨hE, hok, k, rfl, hk⟩
  rotate_left 2
  · have HW : Hid (∀ w', Below w.heap.size w w' → Calls Try.prog 42 #[nval pq N cq pa M ca, .int .i64 (k : Int)] w' (RetO (Lo F w) (wo n k) w')) := Lib.hid fun w' hb => without_any _ n k w' (hv.below hb) hk (okN_len hok)
    have HL : Hid (loseN n (k : Int) = wo n k) := Lib.hid (by unfold loseN; rw [if_pos hE]; rfl)
    rw [hE] at HA ⊢
    clear h hv hE hok hk
    go_enter Try.func23, Try.ntmps23
    go_wp2_with (first
      | (go_at_call 40; refine (HA.out _ HBX.out.below).mono ?_; rintro e w1 ⟨rfl, hb1⟩; obtain ⟨⟨c0, c1⟩, f0, r, hz, HB⟩ := HBX.out.later hb1; clear hb1)
      | (go_at_call 42; refine (HW.out _ HB.out).mono ?_; rintro e w2 ⟨v2, rfl, hv2, hb2⟩; have HV := Lib.hid hv2; obtain ⟨pq3, N3, cq3, pa3, M3, ca3, rfl, HO3, hq3, hq3', ha3, ha3'⟩ := hv2.op; have r3 := Lib.hid ((hb2.block _ hz).trans r.out); have HB2 := Lib.hid (HB.out.trans (hb2.mono HB.out.size)); clear hb2 hv2)
      | (refine nt_store rfl (.tmp 4) (.tmp 15) rfl (w.heap.size + 1) _ _ _ r3.out rfl rfl rfl ⟨rfl, rfl⟩ ?_; rintro w4 r2 hc2))
    refine bodyPost_ret (results_nt rfl _ _ _ _ _ _ rfl rfl r2.out) rfl ⟨_, rfl, ?_, Chg.below HB2.out HB2.out.size (by omega) hc2⟩
    rw [HL.out]
    exact (HV.out.keep (KeepF.of_chg hc2 (nw_not (by omega) (by omega)))).wid (nw_wid (by have := HB.out.size; omega))
  all_goals
    have HL : Hid (loseN n a = zero) := Lib.hid (by unfold loseN; rw [if_neg (by rw [hE]; decide)])
    rw [hE] at HA ⊢
    clear h hv hE
    go_enter Try.func23, Try.ntmps23
    go_wp2_with (first
      | (go_at_call 40; refine (HA.out _ HBX.out.below).mono ?_; rintro e w1 ⟨rfl, hb1⟩; obtain ⟨⟨c0, c1⟩, f0, r, hz, HB⟩ := HBX.out.later hb1; clear hb1)
      | (refine nt_store rfl (.tmp 4) (.tmp 11) rfl (w.heap.size + 1) _ _ _ r.out rfl rfl rfl ⟨rfl, rfl⟩ ?_; rintro w4 r2 hc2))
    refine bodyPost_ret (results_nt rfl _ _ _ _ _ _ rfl rfl r2.out) rfl ⟨.agg #[.slice none 0 0, .slice none 0 0], rfl, ?_, Chg.below HB.out HB.out.size (by omega) hc2⟩
    rw [HL.out]
    exact zero_NV _
set_option maxHeartbeats 2000000 in
theorem rlose_any (v : Value) (n : Nt) (a : Int) (w : World) (h : NV F w v n) : Calls Try.prog 24 #[v, .int .i64 a] w (RetN F (loseN n a) (askE n a) w) := by
  have hv := h.lo
  obtain ⟨pq, N, cq, pa, M, ca, rfl, HO, hq1, hq2, ha1, ha2⟩ := h.lo.op
  have HA : Hid (∀ w', Below w.heap.size w w' → Calls Try.prog 43 #[nval pq N cq pa M ca, .int .i64 a] w' (Ret (.int .i64 (askE n a)) w')) := Lib.hid fun w' hb => asked_any _ n a w' (HO.out.below hb).nv
  have HBX := Lib.hid (box2 w (.slice pq N cq) (.slice pa M ca) (.slice none 0 0) (.slice none 0 0))
  rcases askE_cases n a with hE | hE | ⟨hE, hok, k, rfl, hk⟩
  rotate_left 2
  · have HW : Hid (∀ w', Below w.heap.size w w' → Calls Try.prog 44 #[nval pq N cq pa M ca, .int .i64 (k : Int)] w' (RetO (Lo F w) (wo n k) w')) := Lib.hid fun w' hb => rwithout_any _ n k w' (hv.below hb) hk (okN_len hok)
    have HL : Hid (loseN n (k : Int) = wo n k) := Lib.hid (by unfold loseN; rw [if_pos hE]; rfl)
    rw [hE] at HA ⊢
    clear h hv hE hok hk
    go_enter Try.func24, Try.ntmps24
    go_wp2_with (first
      | (go_at_call 43; refine (HA.out _ HBX.out.below).mono ?_; rintro e w1 ⟨rfl, hb1⟩; obtain ⟨⟨c0, c1⟩, f0, r, hz, HB⟩ := HBX.out.later hb1; clear hb1)
      | (go_at_call 44; refine (HW.out _ HB.out).mono ?_; rintro e w2 ⟨v2, rfl, hv2, hb2⟩; have HV := Lib.hid hv2; obtain ⟨pq3, N3, cq3, pa3, M3, ca3, rfl, HO3, hq3, hq3', ha3, ha3'⟩ := hv2.op; have r3 := Lib.hid ((hb2.block _ hz).trans r.out); have HB2 := Lib.hid (HB.out.trans (hb2.mono HB.out.size)); clear hb2 hv2)
      | (refine nt_store rfl (.tmp 4) (.tmp 16) rfl (w.heap.size + 1) _ _ _ r3.out rfl rfl rfl ⟨rfl, rfl⟩ ?_; rintro w4 r2 hc2))
    refine bodyPost_ret (results_nt rfl _ _ _ _ _ _ rfl rfl r2.out) rfl ⟨_, rfl, ?_, Chg.below HB2.out HB2.out.size (by omega) hc2⟩
    rw [HL.out]
    exact (HV.out.keep (KeepF.of_chg hc2 (nw_not (by omega) (by omega)))).wid (nw_wid (by have := HB.out.size; omega))
  all_goals
    have HL : Hid (loseN n a = zero) := Lib.hid (by unfold loseN; rw [if_neg (by rw [hE]; decide)])
    rw [hE] at HA ⊢
    clear h hv hE
    go_enter Try.func24, Try.ntmps24
    go_wp2_with (first
      | (go_at_call 43; refine (HA.out _ HBX.out.below).mono ?_; rintro e w1 ⟨rfl, hb1⟩; obtain ⟨⟨c0, c1⟩, f0, r, hz, HB⟩ := HBX.out.later hb1; clear hb1)
      | (refine nt_store rfl (.tmp 4) (.tmp 12) rfl (w.heap.size + 1) _ _ _ r.out rfl rfl rfl ⟨rfl, rfl⟩ ?_; rintro w4 r2 hc2))
    refine bodyPost_ret (results_nt rfl _ _ _ _ _ _ rfl rfl r2.out) rfl ⟨.agg #[.slice none 0 0, .slice none 0 0], rfl, ?_, Chg.below HB.out HB.out.size (by omega) hc2⟩
    rw [HL.out]
    exact zero_NV _
end Go.Proofs.Ytpempgajejbdoaa
