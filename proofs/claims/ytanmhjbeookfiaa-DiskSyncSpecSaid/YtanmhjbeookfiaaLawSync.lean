/-
  DiskSyncSpec's own body: it returns true.
-/
import Derived.Test.YtanmhjbeookfiaaRsya
import Derived.Test.YtanmhjbeookfiaaSynT
import Derived.Test.YtanmhjbeookfiaaLawNew
namespace Go.Proofs.Ytanmhjbeookfiaa
open Go Go.RowKit
set_option maxRecDepth 100000 in
set_option maxHeartbeats 2000000 in
theorem lawSync (v : Value) (d : D) (k : Int) (w : World) (h : DV w v d) (hsane : ∀ w : World, Calls Try.prog 10 #[] w (Ret (.bool true) w)) :
    Calls Try.prog 5 #[v, .int .i64 k] w (Ret (.bool true) w) := by
  obtain ⟨ps, N, cs, pp, M, cp, rfl, HO, hs1, hs2, hp1, hp2⟩ := h.op
  have HSN := Lib.hid hsane
  clear h hsane
  have HF : Hid (∀ W, Below w.heap.size w W → Calls Try.prog 11 #[dval d ps N cs pp M cp] W (SomeB W)) := Lib.hid fun W hb => few_any _ d W (HO.out.below hb).dv
  have H1 : Hid (∀ W, Below w.heap.size w W → Calls Try.prog 23 #[dval d ps N cs pp M cp] W (RetD (syncD d) (syncE d) W)) := Lib.hid fun W hb => sync_any _ d W (HO.out.below hb).dv
  have H2 : Hid (∀ W, Below w.heap.size w W → Calls Try.prog 24 #[dval d ps N cs pp M cp] W (RetD (syncD d) (syncE d) W)) := Lib.hid fun W hb => rsync_any _ d W (HO.out.below hb).dv
  have H3 : Hid (∀ W, Below w.heap.size w W → Calls Try.prog 25 #[dval d ps N cs pp M cp, .int .i64 k] W (RetD (stopD d k) (stopE d k) W)) := Lib.hid fun W hb => stop_any _ d k W (HO.out.below hb).dv
  have H4 : Hid (∀ W, Below w.heap.size w W → Calls Try.prog 26 #[dval d ps N cs pp M cp, .int .i64 k] W (RetD (stopD d k) (stopE d k) W)) := Lib.hid fun W hb => rstop_any _ d k W (HO.out.below hb).dv
  generalize syncE d = E at H1 H2
  generalize syncD d = X at H1 H2
  generalize stopE d k = E2 at H3 H4
  generalize stopD d k = Y at H3 H4
  have hE : (E == E) = true := by simp
  have hE2 : (E2 == E2) = true := by simp
  go_enter Try.func5, Try.ntmps5
  go_wp2_with fail
  refine (HSN.out _).mono ?_
  rintro e w1 ⟨rfl, hbe1⟩
  obtain ⟨c0, c1, c2, c3⟩ := boxed (Nat.lt_of_lt_of_eq (Nat.lt_succ_self _) (by simp)) hbe1
  have hz1 : w.heap.size < w1.heap.size := by have := hbe1.size; simp at this; omega
  have HB1 := Lib.hid (one_later hbe1)
  clear hbe1
  go_wp2_with fail
  refine (HF.out _ HB1.out).mono ?_
  rintro e w2 ⟨bb, rfl, hbe2⟩
  obtain ⟨d0, d1, d2, d3⟩ := cells4L hbe2 hz1 ⟨c0, c1, c2, c3⟩
  have hz2 : w.heap.size < w2.heap.size := by have := hbe2.size; omega
  have HB2 := Lib.hid (HB1.out.trans (hbe2.mono HB1.out.size))
  clear hbe2 c0 c1 c2 c3 hz1 HB1
  cases bb
  · go_wp2_with fail
    go_ret
    exact ⟨rfl, HB2.out⟩
  go_wp2_with fail
  refine (H1.out _ HB2.out).mono ?_
  rintro e w3 ⟨v3, rfl, hdv3, hbe3⟩
  obtain ⟨ps3, N3, cs3, pp3, M3, cp3, rfl, HO3, hs31, hs32, hp31, hp32⟩ := hdv3.op
  obtain ⟨e0, e1, e2, e3⟩ := cells4L hbe3 hz2 ⟨d0, d1, d2, d3⟩
  have hz3 : w.heap.size < w3.heap.size := by have := hbe3.size; omega
  have HB3 := Lib.hid (HB2.out.trans (hbe3.mono HB2.out.size))
  clear hbe3 d0 d1 d2 d3 hz2 HB2 hdv3 H1
  go_wp2_with fail
  refine (H2.out _ (HB3.out.trans ((one_new _ _).mono HB3.out.size))).mono ?_
  rintro e w4 ⟨v4, rfl, hdv4, hbe4⟩
  obtain ⟨ps4, N4, cs4, pp4, M4, cp4, rfl, HO4, hs41, hs42, hp41, hp42⟩ := hdv4.op
  obtain ⟨f0, f1, f2, f3⟩ := cells4L (one_later hbe4) hz3 ⟨e0, e1, e2, e3⟩
  obtain ⟨x0, x1, x2, x3⟩ := boxed (Nat.lt_of_lt_of_eq (Nat.lt_succ_self _) (by simp)) hbe4
  have hz4 : w3.heap.size < w4.heap.size := by have := hbe4.size; simp at this; omega
  have hz40 : w.heap.size < w4.heap.size := by omega
  have HB34 := Lib.hid (one_later hbe4)
  have HB4 := Lib.hid (HB3.out.trans ((one_later hbe4).mono HB3.out.size))
  clear hbe4 e0 e1 e2 e3 HB3 hdv4 H2
  go_wp2_with fail
  refine (H3.out _ (HB4.out.trans ((one_new _ _).mono HB4.out.size))).mono ?_
  rintro e w5 ⟨v5, rfl, hdv5, hbe5⟩
  obtain ⟨ps5, N5, cs5, pp5, M5, cp5, rfl, HO5, hs51, hs52, hp51, hp52⟩ := hdv5.op
  obtain ⟨g0, g1, g2, g3⟩ := cells4L (one_later hbe5) hz40 ⟨f0, f1, f2, f3⟩
  obtain ⟨y0, y1, y2, y3⟩ := cells4L (one_later hbe5) hz4 ⟨x0, x1, x2, x3⟩
  obtain ⟨z0, z1, z2, z3⟩ := boxed (Nat.lt_of_lt_of_eq (Nat.lt_succ_self _) (by simp)) hbe5
  have hz5 : w4.heap.size < w5.heap.size := by have := hbe5.size; simp at this; omega
  have hz50 : w.heap.size < w5.heap.size := by omega
  have hz53 : w3.heap.size < w5.heap.size := by omega
  have HB45 := Lib.hid (one_later hbe5)
  have HB5 := Lib.hid (HB4.out.trans (HB45.out.mono HB4.out.size))
  have HB35 := Lib.hid (HB34.out.trans (HB45.out.mono HB34.out.size))
  clear hbe5 f0 f1 f2 f3 x0 x1 x2 x3 HB4 hdv5 H3
  go_wp2_with fail
  refine (H4.out _ (HB5.out.trans ((one_new _ _).mono HB5.out.size))).mono ?_
  rintro e w6 ⟨v6, rfl, hdv6, hbe6⟩
  obtain ⟨ps6, N6, cs6, pp6, M6, cp6, rfl, HO6, hs61, hs62, hp61, hp62⟩ := hdv6.op
  obtain ⟨x0, x1, x2, x3⟩ := cells4L (one_later hbe6) hz53 ⟨y0, y1, y2, y3⟩
  obtain ⟨f0, f1, f2, f3⟩ := cells4L (one_later hbe6) hz5 ⟨z0, z1, z2, z3⟩
  obtain ⟨e0, e1, e2, e3⟩ := boxed (Nat.lt_of_lt_of_eq (Nat.lt_succ_self _) (by simp)) hbe6
  have hz6 : w5.heap.size < w6.heap.size := by have := hbe6.size; simp at this; omega
  have hz63 : w3.heap.size < w6.heap.size := by omega
  have hz64 : w4.heap.size < w6.heap.size := by omega
  have HB56 := Lib.hid (one_later hbe6)
  have HB6 := Lib.hid (HB5.out.trans (HB56.out.mono HB5.out.size))
  have HB36 := Lib.hid (HB35.out.trans (HB56.out.mono HB35.out.size))
  have HB46 := Lib.hid (HB45.out.trans (HB56.out.mono HB45.out.size))
  clear hbe6 g0 g1 g2 g3 y0 y1 y2 y3 z0 z1 z2 z3 hdv6 H4
  obtain ⟨w7, hw7⟩ : ∃ w7, w7 = w6.alloc (.cells #[.slice ps6 N6 cs6, .slice pp6 M6 cp6, .int .i64 Y.left, .bool Y.st] 25) := ⟨_, rfl⟩
  have HB67 : Hid (Below w6.heap.size w6 w7) := Lib.hid (by rw [hw7]; exact one_new _ _)
  obtain ⟨t0, t1, t2, t3⟩ : w7.cell? ⟨w6.heap.size, 0, none⟩ = some (.slice ps6 N6 cs6) ∧ w7.cell? ⟨w6.heap.size, 1, none⟩ = some (.slice pp6 M6 cp6) ∧ w7.cell? ⟨w6.heap.size, 2, none⟩ = some (.int .i64 Y.left) ∧ w7.cell? ⟨w6.heap.size, 3, none⟩ = some (.bool Y.st) := by
    rw [hw7]
    refine ⟨?_, ?_, ?_, ?_⟩ <;> go_simp
  have hz7 : w6.heap.size < w7.heap.size := by rw [hw7]; simp
  obtain ⟨y0, y1, y2, y3⟩ := cells4L HB67.out hz63 ⟨x0, x1, x2, x3⟩
  obtain ⟨z0, z1, z2, z3⟩ := cells4L HB67.out hz64 ⟨f0, f1, f2, f3⟩
  obtain ⟨g0, g1, g2, g3⟩ := cells4L HB67.out hz6 ⟨e0, e1, e2, e3⟩
  have HB7 := Lib.hid (HB6.out.trans (HB67.out.mono HB6.out.size))
  have HS1 := same_any _ _ X X w7 (HO3.out.below (HB36.out.trans (HB67.out.mono HB36.out.size))).dv (HO4.out.below (HB46.out.trans (HB67.out.mono HB46.out.size))).dv
  have HS2 : ∀ W, Below w7.heap.size w7 W → _ := fun W hb => same_any _ _ Y Y W (HO5.out.below ((HB56.out.trans (HB67.out.mono HB56.out.size)).trans (hb.mono (HB56.out.trans (HB67.out.mono HB56.out.size)).size))).dv (HO6.out.below (HB67.out.trans (hb.mono HB67.out.size))).dv
  rw [sameD_self] at HS1 HS2
  have HS1 := Lib.hid HS1
  have HS2 := Lib.hid HS2
  clear e0 e1 e2 e3
  go_wp2_with fail
  rw [← hw7]
  clear x0 x1 x2 x3 f0 f1 f2 f3
  refine HS1.out.mono ?_
  rintro e w8 ⟨rfl, hbe8⟩
  obtain ⟨f0, f1, f2, f3⟩ := cells4L hbe8 (show w5.heap.size < w7.heap.size by omega) ⟨g0, g1, g2, g3⟩
  obtain ⟨e0, e1, e2, e3⟩ := cells4L hbe8 hz7 ⟨t0, t1, t2, t3⟩
  have HBE := Lib.hid hbe8
  clear hbe8 g0 g1 g2 g3 t0 t1 t2 t3 y0 y1 y2 y3 z0 z1 z2 z3
  go_wp2_with fail
  refine (HS2.out _ HBE.out).mono ?_
  rintro e w9 ⟨rfl, hbe9⟩
  have HB9 := Lib.hid (HB7.out.trans ((HBE.out.trans (hbe9.mono HBE.out.size)).mono HB7.out.size))
  clear hbe9
  go_wp2_with fail
  go_ret
  exact ⟨rfl, HB9.out⟩
end Go.Proofs.Ytanmhjbeookfiaa
