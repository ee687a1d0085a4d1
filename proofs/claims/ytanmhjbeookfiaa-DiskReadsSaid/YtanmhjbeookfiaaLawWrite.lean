/-
  DiskWriteSpec's own body: it returns true.
-/
import Derived.Test.YtanmhjbeookfiaaRdy
import Derived.Test.YtanmhjbeookfiaaLawNew
namespace Go.Proofs.Ytanmhjbeookfiaa
open Go Go.RowKit
theorem w64_wf {n : Int} (h : (Lit.int .i64 n).wf = true) : W64 n := by
  have e := h
  have e1 : IntKind.i64.min = -9223372036854775808 := by decide +kernel
  have e2 : IntKind.i64.max = 9223372036854775807 := by decide +kernel
  simp only [Lit.wf, Bool.and_eq_true, decide_eq_true_eq, e1, e2] at e
  exact e
set_option maxHeartbeats 2000000 in
theorem lawWrite (v : Value) (d : D) (a : Int) (bv : Value) (l : List UInt8) (w : World) (h : DV w v d) (hb : BV w bv l) (ha : W64 a) (hsane : ∀ w : World, Calls Try.prog 10 #[] w (Ret (.bool true) w)) :
    Calls Try.prog 4 #[v, .int .i64 a, bv] w (Ret (.bool true) w) := by
  obtain ⟨ps, N, cs, pp, M, cp, rfl, HO, hs1, hs2, hp1, hp2⟩ := h.op
  obtain ⟨pb, cb, rfl, hb1, hb2⟩ := hb.shape
  unfold maxLen at hb2
  have HSN := Lib.hid hsane
  have HBV := Lib.hid hb
  have HA := Lib.hid ha
  clear h hsane hb ha
  have HF : Hid (∀ W, Below w.heap.size w W → Calls Try.prog 11 #[dval d ps N cs pp M cp] W (SomeB W)) := Lib.hid fun W hb => few_any _ d W (HO.out.below hb).dv
  have HW1 : Hid (∀ W, Below w.heap.size w W → Calls Try.prog 19 #[dval d ps N cs pp M cp, .int .i64 a, .slice pb l.length cb] W (RetD (writeD d a l) (writeE d a l) W)) := Lib.hid fun W hb => write_any _ d a _ l W (HO.out.below hb).dv (HBV.out.below hb) HA.out
  have HW2 : Hid (∀ W, Below w.heap.size w W → Calls Try.prog 20 #[dval d ps N cs pp M cp, .int .i64 a, .slice pb l.length cb] W (RetD (writeD d a l) (writeE d a l) W)) := Lib.hid fun W hb => rwrite_any _ d a _ l W (HO.out.below hb).dv (HBV.out.below hb) HA.out
  have HR1 : Hid (∀ W, Below w.heap.size w W → Calls Try.prog 21 #[dval d ps N cs pp M cp, .int .i64 a] W (RetL (readL d a) (readE d a) W)) := Lib.hid fun W hb => read_any _ d a W (HO.out.below hb).dv
  have HR2 : Hid (∀ W, Below w.heap.size w W → Calls Try.prog 22 #[dval d ps N cs pp M cp, .int .i64 a] W (RetL (readL d a) (readE d a) W)) := Lib.hid fun W hb => rread_any _ d a W (HO.out.below hb).dv
  generalize writeE d a l = E at HW1 HW2
  generalize writeD d a l = X at HW1 HW2
  generalize readE d a = E2 at HR1 HR2
  generalize readL d a = Y at HR1 HR2
  generalize l.length = L at *
  have hE : (E == E) = true := by simp
  have hE2 : (E2 == E2) = true := by simp
  go_enter Try.func4, Try.ntmps4
  go_wp2_with fail
  refine (HSN.out _).mono ?_
  rintro e w1 ⟨rfl, hbe1⟩
  obtain ⟨c0, c1, c2, c3⟩ := boxed (Nat.lt_of_lt_of_eq (Nat.lt_succ_self _) (by simp)) hbe1
  have hz1 : w.heap.size < w1.heap.size := by have := hbe1.size; simp at this; omega
  have HB1 := Lib.hid (one_later hbe1)
  clear hbe1
  go_wp2_with fail
  refine (HF.out _ HB1.out).mono ?_
  rintro e w2 ⟨bb, rfl, hbe2⟩
  obtain ⟨d0, d1, d2, d3⟩ := cells4L hbe2 hz1 ⟨c0, c1, c2, c3⟩
  have hz2 : w.heap.size < w2.heap.size := by have := hbe2.size; omega
  have HB2 := Lib.hid (HB1.out.trans (hbe2.mono HB1.out.size))
  clear hbe2 c0 c1 c2 c3 hz1 HB1
  cases bb
  · go_wp2_with fail
    go_ret
    exact ⟨rfl, HB2.out⟩
  by_cases hL : 1000 < L
  · go_wp2_with fail
    go_ret
    exact ⟨rfl, HB2.out⟩
  have hL' : L ≤ 1000 := by omega
  clear hL
  go_wp2_with fail
  refine (HW1.out _ HB2.out).mono ?_
  rintro e w3 ⟨v3, rfl, hdv3, hbe3⟩
  obtain ⟨ps3, N3, cs3, pp3, M3, cp3, rfl, HO3, hs31, hs32, hp31, hp32⟩ := hdv3.op
  obtain ⟨e0, e1, e2, e3⟩ := cells4L hbe3 hz2 ⟨d0, d1, d2, d3⟩
  have hz3 : w.heap.size < w3.heap.size := by have := hbe3.size; omega
  have HB3 := Lib.hid (HB2.out.trans (hbe3.mono HB2.out.size))
  clear hbe3 d0 d1 d2 d3 hz2 HB2 hdv3 HW1
  go_wp2_with fail
  refine (HW2.out _ (HB3.out.trans ((one_new _ _).mono HB3.out.size))).mono ?_
  rintro e w4 ⟨v4, rfl, hdv4, hbe4⟩
  obtain ⟨ps4, N4, cs4, pp4, M4, cp4, rfl, HO4, hs41, hs42, hp41, hp42⟩ := hdv4.op
  obtain ⟨f0, f1, f2, f3⟩ := cells4L (one_later hbe4) hz3 ⟨e0, e1, e2, e3⟩
  obtain ⟨x0, x1, x2, x3⟩ := boxed (Nat.lt_of_lt_of_eq (Nat.lt_succ_self _) (by simp)) hbe4
  have hz4 : w3.heap.size < w4.heap.size := by have := hbe4.size; simp at this; omega
  have hz40 : w.heap.size < w4.heap.size := by omega
  have HB34 := Lib.hid (one_later hbe4)
  have HB4 := Lib.hid (HB3.out.trans ((one_later hbe4).mono HB3.out.size))
  clear hbe4 e0 e1 e2 e3 HB3 hdv4 HW2
  go_wp2_with fail
  refine (HR1.out _ (HB4.out.trans ((one_new _ _).mono HB4.out.size))).mono ?_
  rintro e w5 ⟨v5, rfl, hbv5, hbe5⟩
  obtain ⟨y0, y1, y2, y3⟩ := boxed (Nat.lt_of_lt_of_eq (Nat.lt_succ_self _) (by simp)) hbe5
  have HB45 := Lib.hid (one_later hbe5)
  obtain ⟨g0, g1, g2, g3⟩ := cells4L HB45.out (show w.heap.size < w4.heap.size by omega) ⟨f0, f1, f2, f3⟩
  obtain ⟨z0, z1, z2, z3⟩ := cells4L HB45.out hz4 ⟨x0, x1, x2, x3⟩
  have hz5 : w4.heap.size < w5.heap.size := by have := hbe5.size; simp at this; omega
  have HB5 := Lib.hid (HB4.out.trans (HB45.out.mono HB4.out.size))
  have HB35 := Lib.hid (HB34.out.trans (HB45.out.mono HB34.out.size))
  obtain ⟨p5, k5, rfl, _, _⟩ := hbv5.shape
  have HV5 := Lib.hid hbv5
  clear hbe5 hbv5 f0 f1 f2 f3 x0 x1 x2 x3 HR1
  go_wp2_with fail
  refine (HR2.out _ HB5.out).mono ?_
  rintro e w6 ⟨v6, rfl, hbv6, hbe6⟩
  obtain ⟨f0, f1, f2, f3⟩ := cells4L hbe6 (show w4.heap.size < w5.heap.size by omega) ⟨y0, y1, y2, y3⟩
  obtain ⟨x0, x1, x2, x3⟩ := cells4L hbe6 (show w3.heap.size < w5.heap.size by omega) ⟨z0, z1, z2, z3⟩
  have HB6 := Lib.hid (HB5.out.trans (hbe6.mono HB5.out.size))
  have HB36 := Lib.hid (HB35.out.trans (hbe6.mono HB35.out.size))
  have HB46 := Lib.hid (HB45.out.trans (hbe6.mono HB45.out.size))
  have HV56 := Lib.hid (HV5.out.below hbe6)
  obtain ⟨p6, k6, rfl, _, _⟩ := hbv6.shape
  have HV6 := Lib.hid hbv6
  clear hbe6 hbv6 g0 g1 g2 g3 y0 y1 y2 y3 z0 z1 z2 z3 HR2
  have HS1 := same_any _ _ X X w6 (HO3.out.below HB36.out).dv (HO4.out.below HB46.out).dv
  rw [sameD_self] at HS1
  have HS1 := Lib.hid HS1
  go_wp2_with fail
  refine HS1.out.mono ?_
  rintro e w7 ⟨rfl, hbe7⟩
  have s1 := bv_string (HV56.out.below hbe7)
  have s2 := bv_string (HV6.out.below hbe7)
  have HB7 := Lib.hid (HB6.out.trans (hbe7.mono HB6.out.size))
  clear hbe7
  go_wp2_with fail
  go_ret
  exact ⟨rfl, HB7.out⟩
end Go.Proofs.Ytanmhjbeookfiaa
