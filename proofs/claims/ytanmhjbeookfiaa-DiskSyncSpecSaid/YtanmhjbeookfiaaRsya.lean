/-
  Disks: the reference's Sync, for every disk.
-/
import Derived.Test.YtanmhjbeookfiaaRsyn
namespace Go.Proofs.Ytanmhjbeookfiaa
open Go Go.RowKit
set_option maxHeartbeats 1000000 in
theorem rsync_any (v : Value) (d : D) (w : World) (h : DV w v d) : Calls Try.prog 24 #[v] w (RetD (syncD d) (syncE d) w) := by
  cases hv : valid d
  · obtain ⟨ps, N, cs, pp, M, cp, rfl, HO, hs1, hs2, hp1, hp2⟩ := h.op
    clear h
    have HR : Hid (∀ w', Below w.heap.size w w' → Calls Try.prog 16 #[dval d ps N cs pp M cp] w' (Ret (.int .i64 (chk d)) w')) := Lib.hid fun w' hb => rcheck_any _ d w' (HO.out.below hb).dv
    rw [chk_no hv] at HR
    have hr := runs_false (.inl hv)
    rw [(sync_no hr).1, (sync_no hr).2]
    clear hr hv
    go_enter Try.func24, Try.ntmps24
    go_wp2_with (first
      | (go_at_call 16; refine (HR.out _ (two_below _ _ _)).mono ?_; rintro e w1 ⟨rfl, hb1⟩; obtain ⟨⟨c0, c1, c2, c3⟩, r, f, hz1⟩ := boxedR (by simp) hb1; have HB := Lib.hid (two_later hb1); clear hb1)
      | (refine dk_store rfl (.tmp 2) (.tmp 16) rfl (w.heap.size + 1) _ _ _ _ _ r.out rfl rfl rfl ⟨rfl, rfl, rfl, rfl⟩ ?_; rintro w2 r2 hc2))
    exact bodyPost_ret (results_dk rfl _ _ _ _ _ _ _ _ rfl rfl r2.out) rfl ⟨_, rfl, zero_DV _, Chg.below HB.out HB.out.size (by omega) hc2⟩
  have hst2 : d.st = true ∨ d.st = false := by cases d.st <;> simp
  rcases hst2 with hst | hst
  · obtain ⟨ps, N, cs, pp, M, cp, rfl, HO, hs1, hs2, hp1, hp2⟩ := h.op
    clear h
    have HR : Hid (∀ w', Below w.heap.size w w' → Calls Try.prog 16 #[dval d ps N cs pp M cp] w' (Ret (.int .i64 (chk d)) w')) := Lib.hid fun w' hb => rcheck_any _ d w' (HO.out.below hb).dv
    rw [chk_ok hv] at HR
    have HST := Lib.hid hst
    have hr := runs_false (d := d) (.inr hst)
    rw [(sync_no hr).1, (sync_no hr).2]
    clear hr hv hst
    go_enter Try.func24, Try.ntmps24
    go_wp2_with (first
      | (go_at_call 16; refine (HR.out _ (two_below _ _ _)).mono ?_; rintro e w1 ⟨rfl, hb1⟩; obtain ⟨⟨c0, c1, c2, c3⟩, r, f, hz1⟩ := boxedR (by simp) hb1; have HB := Lib.hid (two_later hb1); clear hb1; have q := HST.out)
      | (refine dk_store rfl (.tmp 2) (.tmp 16) rfl (w.heap.size + 1) _ _ _ _ _ r.out rfl rfl rfl ⟨rfl, rfl, rfl, rfl⟩ ?_; rintro w2 r2 hc2))
    exact bodyPost_ret (results_dk rfl _ _ _ _ _ _ _ _ rfl rfl r2.out) rfl ⟨_, rfl, zero_DV _, Chg.below HB.out HB.out.size (by omega) hc2⟩
  · exact rsync_yes v d w h (runs_true hv hst)
end Go.Proofs.Ytanmhjbeookfiaa
