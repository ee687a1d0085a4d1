/-
  Disks: a disk that does not run is neither read nor written; DiskStopped's own body.
-/
import Derived.Test.YtanmhjbeookfiaaSynT
import Derived.Test.YtanmhjbeookfiaaRst
import Derived.Test.YtanmhjbeookfiaaSam
namespace Go.Proofs.Ytanmhjbeookfiaa
open Go Go.RowKit
def RetB40 (w : World) (e : Ending) (w' : World) : Prop := e = .returned (.tuple #[.slice none 0 0, .int .i64 40]) ∧ Below w.heap.size w w'
set_option maxHeartbeats 1000000 in
theorem read_no (v : Value) (d : D) (a : Int) (w : World) (h : DV w v d) (hr : runsB d = false) : Calls Try.prog 21 #[v, .int .i64 a] w (RetB40 w) := by
  obtain ⟨ps, N, cs, pp, M, cp, rfl, HO, hs1, hs2, hp1, hp2⟩ := h.op
  clear h
  have HR : Hid (∀ w', Below w.heap.size w w' → Calls Try.prog 31 #[dval d ps N cs pp M cp] w' (Ret (.bool false) w')) := Lib.hid fun w' hb => by
    have := runs_any _ d w' (HO.out.below hb).dv
    rwa [hr] at this
  clear hr
  go_enter Try.func21, Try.ntmps21
  go_wp2_with (go_at_call 31; refine (HR.out _ (one_new _ _)).mono ?_; rintro e w1 ⟨rfl, hb1⟩; have HB := Lib.hid (one_later hb1); clear hb1)
  go_ret2
  exact ⟨rfl, HB.out⟩
set_option maxHeartbeats 1000000 in
theorem write_no (v : Value) (d : D) (a : Int) (bv : Value) (w : World) (h : DV w v d) (hr : runsB d = false) : Calls Try.prog 19 #[v, .int .i64 a, bv] w (RetD zero 40 w) := by
  obtain ⟨ps, N, cs, pp, M, cp, rfl, HO, hs1, hs2, hp1, hp2⟩ := h.op
  clear h
  have HR : Hid (∀ w', Below w.heap.size w w' → Calls Try.prog 31 #[dval d ps N cs pp M cp] w' (Ret (.bool false) w')) := Lib.hid fun w' hb => by
    have := runs_any _ d w' (HO.out.below hb).dv
    rwa [hr] at this
  clear hr
  go_enter Try.func19, Try.ntmps19
  go_wp2_with (first
    | (go_at_call 31; refine (HR.out _ (two_below _ _ _)).mono ?_; rintro e w1 ⟨rfl, hb1⟩; obtain ⟨⟨c0, c1, c2, c3⟩, r, f, hz1⟩ := boxedR (by simp) hb1; have HB := Lib.hid (two_later hb1); clear hb1)
    | (refine dk_store rfl (.tmp 6) (.tmp 17) rfl (w.heap.size + 1) _ _ _ _ _ r.out rfl rfl rfl ⟨rfl, rfl, rfl, rfl⟩ ?_; rintro w2 r2 hc2))
  exact bodyPost_ret (results_dk rfl _ _ _ _ _ _ _ _ rfl rfl r2.out) rfl ⟨_, rfl, zero_DV _, Chg.below HB.out HB.out.size (by omega) hc2⟩
theorem sync_no40 (v : Value) (d : D) (w : World) (h : DV w v d) (hr : runsB d = false) : Calls Try.prog 23 #[v] w (RetD zero 40 w) := by
  have := sync_any v d w h
  rwa [(sync_no hr).1, (sync_no hr).2] at this
theorem stop_no40 (v : Value) (d : D) (k : Int) (w : World) (h : DV w v d) (hr : runsB d = false) : Calls Try.prog 25 #[v, .int .i64 k] w (RetD zero 40 w) := by
  have := stop_any v d k w h
  rwa [(stop_no hr).1, (stop_no hr).2] at this
end Go.Proofs.Ytanmhjbeookfiaa
