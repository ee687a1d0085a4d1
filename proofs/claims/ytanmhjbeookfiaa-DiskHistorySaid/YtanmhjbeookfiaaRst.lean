/-
  Disks: Restart and Stop, the program's and the reference's; the reference's Check.
-/
import Derived.Test.YtanmhjbeookfiaaChk
import Derived.OpenShut
namespace Go.Proofs.Ytanmhjbeookfiaa
open Go Go.RowKit
/-- it returns a disk -/
def RetV (d : D) (w : World) (e : Ending) (w' : World) : Prop := ∃ v, e = .returned v ∧ DV w' v d ∧ Below w.heap.size w w'
def rst (d : D) : D := ⟨d.s, [], -1, false⟩
theorem op_rst {w : World} {d : D} {ps pp : Option Addr} {N cs M cp : Nat} (h : Op w d ps N cs pp M cp) {w' : World} (hb : Below w.heap.size w w') : DV w' (.agg #[.slice ps N cs, .slice none 0 0, .int .i64 (-1), .bool false]) (rst d) :=
  ⟨_, _, rfl, h.sec.below hb, nil_PV _, ⟨by show (-9223372036854775808 : Int) ≤ -1; decide, by show (-1 : Int) ≤ 9223372036854775807; decide⟩⟩
set_option maxHeartbeats 1000000 in
theorem restart_any (v : Value) (d : D) (w : World) (h : DV w v d) : Calls Try.prog 17 #[v] w (RetV (rst d) w) := by
  obtain ⟨ps, N, cs, pp, M, cp, rfl, HO, hs1, hs2, hp1, hp2⟩ := h.op
  clear h
  go_enter Try.func17, Try.ntmps17
  go_wp2_with fail
  exact bodyPost_ret (v := .agg #[.slice ps N cs, .slice none 0 0, .int .i64 (-1), .bool false]) (by simp [results, Try.results17, go_sem]) rfl ⟨_, rfl, op_rst HO.out (two_below _ _ _), two_below _ _ _⟩
set_option maxHeartbeats 1000000 in
theorem rrestart_any (v : Value) (d : D) (w : World) (h : DV w v d) : Calls Try.prog 18 #[v] w (RetV (rst d) w) := by
  obtain ⟨ps, N, cs, pp, M, cp, rfl, HO, hs1, hs2, hp1, hp2⟩ := h.op
  clear h
  go_enter Try.func18, Try.ntmps18
  go_wp2_with fail
  exact bodyPost_ret (v := .agg #[.slice ps N cs, .slice none 0 0, .int .i64 (-1), .bool false]) (by simp [results, Try.results18, go_sem]) rfl ⟨_, rfl, op_rst HO.out (two_below _ _ _), two_below _ _ _⟩
def stopD (d : D) (k : Int) : D := if runsB d = true then (if k < 0 ∨ 65536 < k then zero else ⟨d.s, d.p, k, d.st⟩) else zero
def stopE (d : D) (k : Int) : Int := if runsB d = true then (if k < 0 ∨ 65536 < k then 1 else 0) else 40
theorem stop_no {d : D} {k : Int} (h : runsB d = false) : stopD d k = zero ∧ stopE d k = 40 := by unfold stopD stopE; rw [h]; exact ⟨rfl, rfl⟩
theorem stop_bad {d : D} {k : Int} (h : runsB d = true) (hk : k < 0 ∨ 65536 < k) : stopD d k = zero ∧ stopE d k = 1 := by unfold stopD stopE; rw [h]; simp [hk]
theorem stop_ok {d : D} {k : Int} (h : runsB d = true) (hk : ¬(k < 0 ∨ 65536 < k)) : stopD d k = ⟨d.s, d.p, k, d.st⟩ ∧ stopE d k = 0 := by unfold stopD stopE; rw [h]; simp [hk]
theorem op_stop {w : World} {d : D} {ps pp : Option Addr} {N cs M cp : Nat} (h : Op w d ps N cs pp M cp) {k : Int} (hk : ¬(k < 0 ∨ 65536 < k)) {w' : World} (hb : Below w.heap.size w w') : DV w' (.agg #[.slice ps N cs, .slice pp M cp, .int .i64 k, .bool d.st]) ⟨d.s, d.p, k, d.st⟩ :=
  ⟨_, _, rfl, h.sec.below hb, h.pen.below hb, by show W64 k; unfold W64; omega⟩
set_option maxHeartbeats 1000000 in
theorem stop_any (v : Value) (d : D) (k : Int) (w : World) (h : DV w v d) : Calls Try.prog 25 #[v, .int .i64 k] w (RetD (stopD d k) (stopE d k) w) := by
  obtain ⟨ps, N, cs, pp, M, cp, rfl, HO, hs1, hs2, hp1, hp2⟩ := h.op
  clear h
  have HR : Hid (∀ w', Below w.heap.size w w' → Calls Try.prog 31 #[dval d ps N cs pp M cp] w' (Ret (.bool (runsB d)) w')) := Lib.hid fun w' hb => runs_any _ d w' (HO.out.below hb).dv
  cases hr : runsB d
  · rw [hr] at HR
    rw [(stop_no hr).1, (stop_no hr).2]
    clear hr
    go_enter Try.func25, Try.ntmps25
    go_wp2_with (first
      | (go_at_call 31; refine (HR.out _ (two_below _ _ _)).mono ?_; rintro e w1 ⟨rfl, hb1⟩; obtain ⟨⟨c0, c1, c2, c3⟩, r, f, hz1⟩ := boxedR (by simp) hb1; have HB := Lib.hid (two_later hb1); clear hb1)
      | (refine dk_store rfl (.tmp 4) (.tmp 9) rfl (w.heap.size + 1) _ _ _ _ _ r.out rfl rfl rfl ⟨rfl, rfl, rfl, rfl⟩ ?_; rintro w2 r2 hc2))
    exact bodyPost_ret (results_dk rfl _ _ _ _ _ _ _ _ rfl rfl r2.out) rfl ⟨_, rfl, zero_DV _, Chg.below HB.out HB.out.size (by omega) hc2⟩
  rw [hr] at HR
  by_cases hk : k < 0 ∨ 65536 < k
  · rw [(stop_bad hr hk).1, (stop_bad hr hk).2]
    clear hr
    rcases hk with hk | hk
    all_goals
      go_enter Try.func25, Try.ntmps25
      go_wp2_with (first
        | (go_at_call 31; refine (HR.out _ (two_below _ _ _)).mono ?_; rintro e w1 ⟨rfl, hb1⟩; obtain ⟨⟨c0, c1, c2, c3⟩, r, f, hz1⟩ := boxedR (by simp) hb1; have HB := Lib.hid (two_later hb1); clear hb1)
        | (refine dk_store rfl (.tmp 4) (.tmp 16) rfl (w.heap.size + 1) _ _ _ _ _ r.out rfl rfl rfl ⟨rfl, rfl, rfl, rfl⟩ ?_; rintro w2 r2 hc2))
      exact bodyPost_ret (results_dk rfl _ _ _ _ _ _ _ _ rfl rfl r2.out) rfl ⟨_, rfl, zero_DV _, Chg.below HB.out HB.out.size (by omega) hc2⟩
  · rw [(stop_ok hr hk).1, (stop_ok hr hk).2]
    clear hr
    have HK := Lib.hid hk
    have hk1 : ¬ k < 0 := by omega
    have hk2 : ¬ 65536 < k := by omega
    clear hk
    go_enter Try.func25, Try.ntmps25
    go_wp2_with (first
      | (go_at_call 31; refine (HR.out _ (two_below _ _ _)).mono ?_; rintro e w1 ⟨rfl, hb1⟩; obtain ⟨⟨c0, c1, c2, c3⟩, r, f, hz1⟩ := boxedR (by simp) hb1; have HB := Lib.hid (two_later hb1); clear hb1)
      | (refine dk_store rfl (.tmp 4) (.tmp 19) rfl (w.heap.size + 1) _ _ _ _ _ (row_set r.out (by omega)) rfl rfl rfl ⟨rfl, rfl, rfl, rfl⟩ ?_; rintro w2 r2 hc2))
    have hb2 : Below w.heap.size w w2 := Chg.below (below_set HB.out (Nat.le_refl _) _) (by have := HB.out.size; simpa [World.setCell] using this) (by omega) hc2
    exact bodyPost_ret (results_dk rfl _ _ _ _ _ _ _ _ rfl rfl r2.out) rfl ⟨_, rfl, op_stop HO.out HK.out hb2, hb2⟩
end Go.Proofs.Ytanmhjbeookfiaa
