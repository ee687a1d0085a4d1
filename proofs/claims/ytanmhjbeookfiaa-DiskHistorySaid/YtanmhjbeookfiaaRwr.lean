/-
  Disks: the reference's Write: what it refuses.
-/
import Derived.Test.YtanmhjbeookfiaaWr
import Derived.Test.YtanmhjbeookfiaaRstp
namespace Go.Proofs.Ytanmhjbeookfiaa
open Go Go.RowKit
set_option maxHeartbeats 2000000 in
theorem rwrite_bad (v : Value) (d : D) (a : Int) (bv : Value) (l : List UInt8) (w : World) (h : DV w v d) (hb : BV w bv l) (hn : writeE d a l ≠ 0) : Calls Try.prog 20 #[v, .int .i64 a, bv] w (RetD (writeD d a l) (writeE d a l) w) := by
  have hz : writeD d a l = zero := by unfold writeD; rw [if_neg hn]
  rw [hz]
  obtain ⟨ps, N, cs, pp, M, cp, rfl, HO, hs1, hs2, hp1, hp2⟩ := h.op
  clear h
  have HR : Hid (∀ w', Below w.heap.size w w' → Calls Try.prog 16 #[dval d ps N cs pp M cp] w' (Ret (.int .i64 (chk d)) w')) := Lib.hid fun w' hb => rcheck_any _ d w' (HO.out.below hb).dv
  obtain ⟨pb, cb, rfl, hl1, hl2⟩ := hb.shape
  cases hv : valid d
  · rw [chk_no hv] at HR
    have hr := runs_false (.inl hv)
    have he : writeE d a l = 40 := by unfold writeE; rw [if_neg (by simp [hr])]
    rw [he]
    clear hr hv hn hz he hb
    go_enter Try.func20, Try.ntmps20
    go_wp2_with (first
      | (go_at_call 16; refine (HR.out _ (two_below _ _ _)).mono ?_; rintro e w1 ⟨rfl, hb1⟩; obtain ⟨⟨c0, c1, c2, c3⟩, r, f, hz1⟩ := boxedR (by simp) hb1; have HB := Lib.hid (two_later hb1); clear hb1)
      | (refine dk_store rfl (.tmp 6) (.tmp 27) rfl (w.heap.size + 1) _ _ _ _ _ r.out rfl rfl rfl ⟨rfl, rfl, rfl, rfl⟩ ?_; rintro w2 r2 hc2))
    exact bodyPost_ret (results_dk rfl _ _ _ _ _ _ _ _ rfl rfl r2.out) rfl ⟨_, rfl, zero_DV _, Chg.below HB.out HB.out.size (by omega) hc2⟩
  rw [chk_ok hv] at HR
  have hst2 : d.st = true ∨ d.st = false := by cases d.st <;> simp
  rcases hst2 with hst | hst
  · have HST := Lib.hid hst
    have hr := runs_false (d := d) (.inr hst)
    have he : writeE d a l = 40 := by unfold writeE; rw [if_neg (by simp [hr])]
    rw [he]
    clear hr hv hst hn hz he hb
    go_enter Try.func20, Try.ntmps20
    go_wp2_with (first
      | (go_at_call 16; refine (HR.out _ (two_below _ _ _)).mono ?_; rintro e w1 ⟨rfl, hb1⟩; obtain ⟨⟨c0, c1, c2, c3⟩, r, f, hz1⟩ := boxedR (by simp) hb1; have HB := Lib.hid (two_later hb1); clear hb1; have q := HST.out)
      | (refine dk_store rfl (.tmp 6) (.tmp 27) rfl (w.heap.size + 1) _ _ _ _ _ r.out rfl rfl rfl ⟨rfl, rfl, rfl, rfl⟩ ?_; rintro w2 r2 hc2))
    exact bodyPost_ret (results_dk rfl _ _ _ _ _ _ _ _ rfl rfl r2.out) rfl ⟨_, rfl, zero_DV _, Chg.below HB.out HB.out.size (by omega) hc2⟩
  have hr := runs_true hv hst
  have HST := Lib.hid hst
  have hN := HO.out.n
  have hM := HO.out.m
  clear hst hv
  by_cases hi : inB d.s.length a = true
  · by_cases hl : 128 < l.length
    · have he : writeE d a l = 1 := by unfold writeE; rw [if_pos ⟨hr, hi⟩, if_pos hl]
      rw [he]
      unfold inB at hi
      have hi' := of_decide_eq_true hi
      have a1 : ¬ a < 0 := by omega
      have a2 : ¬ (N : Int) ≤ a := by omega
      have a3 : (128 : Int) < (l.length : Int) := by omega
      clear hr hn hz he hb hi hi' hN hM
      go_enter Try.func20, Try.ntmps20
      go_wp2_with (first
        | (go_at_call 16; refine (HR.out _ (two_below _ _ _)).mono ?_; rintro e w1 ⟨rfl, hb1⟩; obtain ⟨⟨c0, c1, c2, c3⟩, r, f, hz1⟩ := boxedR (by simp) hb1; have HB := Lib.hid (two_later hb1); clear hb1; have q := HST.out)
        | (refine dk_store rfl (.tmp 6) (.tmp 31) rfl (w.heap.size + 1) _ _ _ _ _ r.out rfl rfl rfl ⟨rfl, rfl, rfl, rfl⟩ ?_; rintro w2 r2 hc2))
      exact bodyPost_ret (results_dk rfl _ _ _ _ _ _ _ _ rfl rfl r2.out) rfl ⟨_, rfl, zero_DV _, Chg.below HB.out HB.out.size (by omega) hc2⟩
    · by_cases hm : d.p.length = 4096
      · have he : writeE d a l = 2 := by unfold writeE; rw [if_pos ⟨hr, hi⟩, if_neg hl, if_pos hm]
        rw [he]
        unfold inB at hi
        have hi' := of_decide_eq_true hi
        have a1 : ¬ a < 0 := by omega
        have a2 : ¬ (N : Int) ≤ a := by omega
        have a3 : ¬ (128 : Int) < (l.length : Int) := by omega
        obtain rfl : M = 4096 := by omega
        clear hr hn hz he hb hi hi' hN hM
        go_enter Try.func20, Try.ntmps20
        go_wp2_with (first
          | (go_at_call 16; refine (HR.out _ (two_below _ _ _)).mono ?_; rintro e w1 ⟨rfl, hb1⟩; obtain ⟨⟨c0, c1, c2, c3⟩, r, f, hz1⟩ := boxedR (by simp) hb1; have HB := Lib.hid (two_later hb1); clear hb1; have q := HST.out)
          | (refine dk_store rfl (.tmp 6) (.tmp 36) rfl (w.heap.size + 1) _ _ _ _ _ r.out rfl rfl rfl ⟨rfl, rfl, rfl, rfl⟩ ?_; rintro w2 r2 hc2))
        exact bodyPost_ret (results_dk rfl _ _ _ _ _ _ _ _ rfl rfl r2.out) rfl ⟨_, rfl, zero_DV _, Chg.below HB.out HB.out.size (by omega) hc2⟩
      · exact absurd (by unfold writeE; rw [if_pos ⟨hr, hi⟩, if_neg hl, if_neg hm]) hn
  · have he : writeE d a l = 40 := by unfold writeE; rw [if_neg (by simp [hi])]
    rw [he]
    have hi2 : a < 0 ∨ (¬ a < 0 ∧ (N : Int) ≤ a) := by
      unfold inB at hi
      simp only [decide_eq_true_eq] at hi
      omega
    clear hr hn hz he hb hi hM hN
    rcases hi2 with hi2 | ⟨hi1, hi2⟩
    all_goals
      go_enter Try.func20, Try.ntmps20
      go_wp2_with (first
        | (go_at_call 16; refine (HR.out _ (two_below _ _ _)).mono ?_; rintro e w1 ⟨rfl, hb1⟩; obtain ⟨⟨c0, c1, c2, c3⟩, r, f, hz1⟩ := boxedR (by simp) hb1; have HB := Lib.hid (two_later hb1); clear hb1; have q := HST.out)
        | (refine dk_store rfl (.tmp 6) (.tmp 27) rfl (w.heap.size + 1) _ _ _ _ _ r.out rfl rfl rfl ⟨rfl, rfl, rfl, rfl⟩ ?_; rintro w2 r2 hc2))
      exact bodyPost_ret (results_dk rfl _ _ _ _ _ _ _ _ rfl rfl r2.out) rfl ⟨_, rfl, zero_DV _, Chg.below HB.out HB.out.size (by omega) hc2⟩
end Go.Proofs.Ytanmhjbeookfiaa
