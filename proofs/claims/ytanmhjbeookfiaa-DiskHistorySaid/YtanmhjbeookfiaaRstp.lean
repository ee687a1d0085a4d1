/-
  Disks: the reference's Stop.
-/
import Derived.Test.YtanmhjbeookfiaaRst
import Derived.Test.YtanmhjbeookfiaaRchk
namespace Go.Proofs.Ytanmhjbeookfiaa
open Go Go.RowKit
theorem runs_false {d : D} (h : valid d = false ∨ d.st = true) : runsB d = false := by unfold runsB; rcases h with h | h <;> simp [h]
theorem runs_true {d : D} (h : valid d = true) (h' : d.st = false) : runsB d = true := by unfold runsB; simp [h, h']
set_option maxHeartbeats 1000000 in
theorem rstop_any (v : Value) (d : D) (k : Int) (w : World) (h : DV w v d) : Calls Try.prog 26 #[v, .int .i64 k] w (RetD (stopD d k) (stopE d k) w) := by
  obtain ⟨ps, N, cs, pp, M, cp, rfl, HO, hs1, hs2, hp1, hp2⟩ := h.op
  clear h
  have HR : Hid (∀ w', Below w.heap.size w w' → Calls Try.prog 16 #[dval d ps N cs pp M cp] w' (Ret (.int .i64 (chk d)) w')) := Lib.hid fun w' hb => rcheck_any _ d w' (HO.out.below hb).dv
  cases hv : valid d
  · rw [chk_no hv] at HR
    have hr := runs_false (.inl hv)
    rw [(stop_no hr).1, (stop_no hr).2]
    clear hr hv
    go_enter Try.func26, Try.ntmps26
    go_wp2_with (first
      | (go_at_call 16; refine (HR.out _ (two_below _ _ _)).mono ?_; rintro e w1 ⟨rfl, hb1⟩; obtain ⟨⟨c0, c1, c2, c3⟩, r, f, hz1⟩ := boxedR (by simp) hb1; have HB := Lib.hid (two_later hb1); clear hb1)
      | (refine dk_store rfl (.tmp 4) (.tmp 13) rfl (w.heap.size + 1) _ _ _ _ _ r.out rfl rfl rfl ⟨rfl, rfl, rfl, rfl⟩ ?_; rintro w2 r2 hc2))
    exact bodyPost_ret (results_dk rfl _ _ _ _ _ _ _ _ rfl rfl r2.out) rfl ⟨_, rfl, zero_DV _, Chg.below HB.out HB.out.size (by omega) hc2⟩
  rw [chk_ok hv] at HR
  have hst2 : d.st = true ∨ d.st = false := by cases d.st <;> simp
  rcases hst2 with hst | hst
  · have HST := Lib.hid hst
    have hr := runs_false (d := d) (.inr hst)
    rw [(stop_no hr).1, (stop_no hr).2]
    clear hr hv hst
    go_enter Try.func26, Try.ntmps26
    go_wp2_with (first
      | (go_at_call 16; refine (HR.out _ (two_below _ _ _)).mono ?_; rintro e w1 ⟨rfl, hb1⟩; obtain ⟨⟨c0, c1, c2, c3⟩, r, f, hz1⟩ := boxedR (by simp) hb1; have HB := Lib.hid (two_later hb1); clear hb1; have q := HST.out)
      | (refine dk_store rfl (.tmp 4) (.tmp 13) rfl (w.heap.size + 1) _ _ _ _ _ r.out rfl rfl rfl ⟨rfl, rfl, rfl, rfl⟩ ?_; rintro w2 r2 hc2))
    exact bodyPost_ret (results_dk rfl _ _ _ _ _ _ _ _ rfl rfl r2.out) rfl ⟨_, rfl, zero_DV _, Chg.below HB.out HB.out.size (by omega) hc2⟩
  have hr := runs_true hv hst
  have HST := Lib.hid hst
  clear hst
  by_cases hk : k < 0 ∨ 65536 < k
  · rw [(stop_bad hr hk).1, (stop_bad hr hk).2]
    clear hr hv
    rcases hk with hk | hk
    all_goals
      go_enter Try.func26, Try.ntmps26
      go_wp2_with (first
        | (go_at_call 16; refine (HR.out _ (two_below _ _ _)).mono ?_; rintro e w1 ⟨rfl, hb1⟩; obtain ⟨⟨c0, c1, c2, c3⟩, r, f, hz1⟩ := boxedR (by simp) hb1; have HB := Lib.hid (two_later hb1); clear hb1; have q := HST.out)
        | (refine dk_store rfl (.tmp 4) (.tmp 20) rfl (w.heap.size + 1) _ _ _ _ _ r.out rfl rfl rfl ⟨rfl, rfl, rfl, rfl⟩ ?_; rintro w2 r2 hc2))
      exact bodyPost_ret (results_dk rfl _ _ _ _ _ _ _ _ rfl rfl r2.out) rfl ⟨_, rfl, zero_DV _, Chg.below HB.out HB.out.size (by omega) hc2⟩
  · rw [(stop_ok hr hk).1, (stop_ok hr hk).2]
    clear hr hv
    have HK := Lib.hid hk
    have hk1 : ¬ k < 0 := by omega
    have hk2 : ¬ 65536 < k := by omega
    clear hk
    go_enter Try.func26, Try.ntmps26
    go_wp2_with (first
      | (go_at_call 16; refine (HR.out _ (two_below _ _ _)).mono ?_; rintro e w1 ⟨rfl, hb1⟩; obtain ⟨⟨c0, c1, c2, c3⟩, r, f, hz1⟩ := boxedR (by simp) hb1; have HB := Lib.hid (two_later hb1); clear hb1; have q := HST.out)
      | (refine dk_store rfl (.tmp 4) (.tmp 23) rfl (w.heap.size + 1) _ _ _ _ _ (row_set r.out (by omega)) rfl rfl rfl ⟨rfl, rfl, rfl, rfl⟩ ?_; rintro w2 r2 hc2))
    have hb2 : Below w.heap.size w w2 := Chg.below (below_set HB.out (Nat.le_refl _) _) (by have := HB.out.size; simpa [World.setCell] using this) (by omega) hc2
    exact bodyPost_ret (results_dk rfl _ _ _ _ _ _ _ _ rfl rfl r2.out) rfl ⟨_, rfl, by rw [← HST.out]; exact op_stop HO.out HK.out hb2, hb2⟩
end Go.Proofs.Ytanmhjbeookfiaa
