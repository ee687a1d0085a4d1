/-
  DiskStopped's own body: it returns true.
-/
import Derived.Test.YtanmhjbeookfiaaStop
namespace Go.Proofs.Ytanmhjbeookfiaa
open Go Go.RowKit
theorem cellsB {w w1 : World} {B : Nat} {a b c d : Value} (hb : Below w.heap.size w w1) (hB : B < w.heap.size) (h : w.cell? ⟨B, 0, none⟩ = some a ∧ w.cell? ⟨B, 1, none⟩ = some b ∧ w.cell? ⟨B, 2, none⟩ = some c ∧ w.cell? ⟨B, 3, none⟩ = some d) :
    w1.cell? ⟨B, 0, none⟩ = some a ∧ w1.cell? ⟨B, 1, none⟩ = some b ∧ w1.cell? ⟨B, 2, none⟩ = some c ∧ w1.cell? ⟨B, 3, none⟩ = some d :=
  ⟨(bcells hb hB _).trans h.1, (bcells hb hB _).trans h.2.1, (bcells hb hB _).trans h.2.2.1, (bcells hb hB _).trans h.2.2.2⟩
set_option maxHeartbeats 2000000 in
theorem lawStopped (v : Value) (d : D) (a k : Int) (bv : Value) (l : List UInt8) (w : World) (h : DV w v d) (hbv : BV w bv l) (hsane : ∀ w : World, Calls Try.prog 10 #[] w (Ret (.bool true) w)) :
    Calls Try.prog 9 #[v, .int .i64 a, .int .i64 k, bv] w (Ret (.bool true) w) := by
  obtain ⟨ps, N, cs, pp, M, cp, rfl, HO, hs1, hs2, hp1, hp2⟩ := h.op
  obtain ⟨pb, cb, rfl, hq1, hq2⟩ := hbv.shape
  have HSN := Lib.hid hsane
  have HBV := Lib.hid hbv
  unfold maxLen at hq2
  generalize l.length = L at *
  clear h hsane hbv
  have HF : Hid (∀ W, Below w.heap.size w W → Calls Try.prog 11 #[dval d ps N cs pp M cp] W (SomeB W)) := Lib.hid fun W hb => few_any _ d W (HO.out.below hb).dv
  have HRS : Hid (∀ W, Below w.heap.size w W → Calls Try.prog 17 #[dval d ps N cs pp M cp] W (RetV (rst d) W)) := Lib.hid fun W hb => restart_any _ d W (HO.out.below hb).dv
  go_enter Try.func9, Try.ntmps9
  go_wp2_with fail
  refine (HSN.out _).mono ?_
  rintro e w1 ⟨rfl, hb1⟩
  have C1 := boxed (Nat.lt_of_lt_of_eq (Nat.lt_succ_self _) (by simp)) hb1
  have hz1 : w.heap.size < w1.heap.size := by have := hb1.size; simp at this; omega
  have HB1 := Lib.hid (one_later hb1)
  have HD1 := Lib.hid hb1
  clear hb1
  obtain ⟨c0, c1, c2, c3⟩ := C1
  go_wp2_with fail
  refine (HF.out _ HB1.out).mono ?_
  rintro e w2 ⟨bb, rfl, hb2⟩
  obtain ⟨d0, d1, d2, d3⟩ := cellsB hb2 hz1 ⟨c0, c1, c2, c3⟩
  have hz2 : w.heap.size < w2.heap.size := by have := hb2.size; omega
  have HB2 := Lib.hid (HB1.out.trans (hb2.mono HB1.out.size))
  have HD2 := Lib.hid (HD1.out.trans (hb2.mono HD1.out.size))
  clear hb2 c0 c1 c2 c3 HF hz1 HB1
  cases bb
  · go_wp2_with fail
    go_ret
    exact ⟨rfl, HB2.out⟩
  by_cases hL : (1000 : Int) < L
  · go_wp2_with fail
    go_ret
    exact ⟨rfl, HB2.out⟩
  go_wp2_with fail
  refine (HRS.out _ HB2.out).mono ?_
  rintro e w3 ⟨v3, rfl, hdv3, hb3⟩
  obtain ⟨ps3, N3, cs3, pp3, M3, cp3, rfl, HO3, hs31, hs32, hp31, hp32⟩ := hdv3.op
  obtain rfl : M3 = 0 := HO3.out.m.symm
  obtain rfl : N3 = N := HO3.out.n.symm.trans HO.out.n
  obtain ⟨e0, e1, e2, e3⟩ := cellsB hb3 hz2 ⟨d0, d1, d2, d3⟩
  have hz3 : w.heap.size < w3.heap.size := by have := hb3.size; omega
  have HB3 := Lib.hid (HB2.out.trans (hb3.mono HB2.out.size))
  have HD3 := Lib.hid (HD2.out.trans (hb3.mono HD2.out.size))
  clear hb3 d0 d1 d2 d3 hz2 HB2 HRS hdv3
  have HR2 : Hid (∀ W, Below w3.heap.size w3 W → Calls Try.prog 17 #[dval (rst d) ps3 N3 cs3 pp3 0 cp3] W (RetV (rst d) W)) := Lib.hid fun W hb => restart_any _ (rst d) W (HO3.out.below hb).dv
  go_wp2_with fail
  refine (HR2.out _ (one_new _ _)).mono ?_
  rintro e w4 ⟨v4, rfl, hdv4, hb4⟩
  obtain ⟨ps4, N4, cs4, pp4, M4, cp4, rfl, HO4, hs41, hs42, hp41, hp42⟩ := hdv4.op
  obtain ⟨f0, f1, f2, f3⟩ := cellsB (one_later hb4) hz3 ⟨e0, e1, e2, e3⟩
  obtain ⟨x0, x1, x2, x3⟩ := boxed (Nat.lt_of_lt_of_eq (Nat.lt_succ_self _) (by simp)) hb4
  have hz4 : w3.heap.size < w4.heap.size := by have := hb4.size; simp at this; omega
  have HB34 := Lib.hid (one_later hb4)
  have HB4 := Lib.hid (HB3.out.trans (HB34.out.mono HB3.out.size))
  have HD4 := Lib.hid (HD3.out.trans (HB34.out.mono HD3.out.size))
  clear hb4 e0 e1 e2 e3 HR2 HB3 hdv4
  have HSM : Hid (∀ W, Below w4.heap.size w4 W → Calls Try.prog 14 #[dval (rst d) ps3 N3 cs3 pp3 0 cp3, dval (rst d) ps4 N4 cs4 pp4 M4 cp4] W (Ret (.bool true) W)) := Lib.hid fun W hb => by
    have := same_any _ _ (rst d) (rst d) W ((HO3.out.below HB34.out).below hb).dv (HO4.out.below hb).dv
    rwa [sameD_self] at this
  have L3 : (rst d).left = -1 := rfl
  have S3 : (rst d).st = false := rfl
  go_wp2_with fail
  refine (HSM.out _ (one_new _ _)).mono ?_
  rintro e w5 ⟨rfl, hb5⟩
  obtain ⟨g0, g1, g2, g3⟩ := cellsB (one_later hb5) (show w.heap.size < w4.heap.size by have := HB4.out.size; have := HB34.out.size; omega) ⟨f0, f1, f2, f3⟩
  obtain ⟨y0, y1, y2, y3⟩ := cellsB (one_later hb5) hz4 ⟨x0, x1, x2, x3⟩
  have hz5 : w3.heap.size < w5.heap.size := by have := (one_later hb5).size; omega
  have HB35 := Lib.hid (HB34.out.trans ((one_later hb5).mono HB34.out.size))
  have HB5 := Lib.hid (HB4.out.trans ((one_later hb5).mono HB4.out.size))
  have HD5 := Lib.hid (HD4.out.trans ((one_later hb5).mono HD4.out.size))
  clear hb5 f0 f1 f2 f3 x0 x1 x2 x3 HSM HB4 HB34 hz4 HO4
  have hN : (N3 != N3) = false := by simp
  have CB := Lib.hid (And.intro g0 (And.intro g1 (And.intro g2 g3)))
  have CX := Lib.hid y0
  go_wp2_with fail
  go_loopw [11] (fun i wr => ∃ j : Nat, j ≤ N3 ∧ i = .int .i64 j ∧ Hid (Below w5.heap.size w5 wr)) (fun i _ => N3 - (intOf i).toNat)
  case atStart => exact ⟨0, Nat.zero_le _, rfl, Lib.hid (Below.refl _ _)⟩
  case round =>
    clear g0 g1 g2 g3 y0 y1 y2 y3
    obtain ⟨j, hj, rfl, HB⟩ := hrel
    have hzw : w.heap.size < w5.heap.size := by omega
    obtain ⟨g0, g1, g2, g3⟩ := cellsB HB.out hzw CB.out
    have y0 := (bcells HB.out hz5 _).trans CX.out
    have hzr : w3.heap.size < wr.heap.size := by have := HB.out.size; omega
    have hzr0 : w.heap.size < wr.heap.size := by omega
    by_cases hlt : j < N3
    · obtain ⟨b, o, pu, L1, cu, l1, rfl, hbl, q0, HL1, hu1, hu2⟩ := (HO.out.below (HB5.out.trans (HB.out.mono HB5.out.size))).secAt j hlt
      obtain ⟨b', o', pu', L2, cu', l2, rfl, hbl', q0', HL2, hu1', hu2'⟩ := (HO3.out.below (HB35.out.trans (HB.out.mono HB35.out.size))).secAt j hlt
      have hll : l2 = l1 := Option.some.inj (HL2.out.1.symm.trans HL1.out.1)
      subst hll
      have G0 := Later.cell hzr0 g0
      have Y0 := Later.cell hzr y0
      have Q0 := Later.cell hbl q0
      have Q0' := Later.cell hbl' q0'
      have S1 := fun x : Later wr => bv_string (HL1.out.2.2.below x.b)
      have S2 := fun x : Later wr => bv_string (HL2.out.2.2.below x.b)
      go_wp2_with fail
      refine wp_region_later (by kernel_rfl) (by kernel_rfl) ?_
      repeat (go_big_quiet_step (fail))
      refine wpQuiet_nil ?_
      intro _ hw'
      obtain ⟨x, hx⟩ := hw'
      subst hx
      have HBX := Lib.hid (HB.out.trans (x.b.mono HB.out.size))
      clear G0 Y0 Q0 Q0' S1 S2 g0 g1 g2 g3 y0 q0 q0'
      go_wp2_with fail
      go_roundw
      case rel => exact ⟨j + 1, by omega, by go_num, HBX⟩
      case measure => simp [intOf]; omega
    · have f0 : wr.frozen? ⟨w.heap.size, 3, none⟩ = false := ((HD5.out.trans (HB.out.mono HD5.out.size)).frozen (p := ⟨w.heap.size, 3, none⟩) (by simp)).trans (by simp)
      have HBr := Lib.hid (below_set (HB5.out.trans (HB.out.mono HB5.out.size)) (Nat.le_refl w.heap.size) (o := 3) (.bool true))
      have HOT : Hid (Op w ⟨d.s, d.p, d.left, true⟩ ps N3 cs pp M cp) := Lib.hid ⟨HO.out.n, HO.out.m, HO.out.sec, HO.out.pen, HO.out.left⟩
      have hrn : runsB ⟨d.s, d.p, d.left, true⟩ = false := by unfold runsB; simp
      have H21 : Hid (∀ W, Below w.heap.size w W → Calls Try.prog 21 #[.agg #[.slice ps N3 cs, .slice pp M cp, .int .i64 d.left, .bool true], .int .i64 a] W (RetB40 W)) := Lib.hid fun W hb => read_no _ _ a W (HOT.out.below hb).dv hrn
      have H19 : Hid (∀ W, Below w.heap.size w W → Calls Try.prog 19 #[.agg #[.slice ps N3 cs, .slice pp M cp, .int .i64 d.left, .bool true], .int .i64 a, .slice pb L cb] W (RetD zero 40 W)) := Lib.hid fun W hb => write_no _ _ a _ W (HOT.out.below hb).dv hrn
      have H23 : Hid (∀ W, Below w.heap.size w W → Calls Try.prog 23 #[.agg #[.slice ps N3 cs, .slice pp M cp, .int .i64 d.left, .bool true]] W (RetD zero 40 W)) := Lib.hid fun W hb => sync_no40 _ _ W (HOT.out.below hb).dv hrn
      have H25 : Hid (∀ W, Below w.heap.size w W → Calls Try.prog 25 #[.agg #[.slice ps N3 cs, .slice pp M cp, .int .i64 d.left, .bool true], .int .i64 k] W (RetD zero 40 W)) := Lib.hid fun W hb => stop_no40 _ _ k W (HOT.out.below hb).dv hrn
      clear hrn HOT CB CX HD1 HD2 HD3 HD4 HD5 L3 S3
      obtain ⟨wt, hwt⟩ : ∃ wt, wt = wr.setCell ⟨w.heap.size, 3, none⟩ (.bool true) := ⟨_, rfl⟩
      have t0 : wt.cell? ⟨w.heap.size, 0, none⟩ = some (.slice ps N3 cs) := by rw [hwt, World.cell?_setCell_other]; exact g0; intro e; cases e
      have t1 : wt.cell? ⟨w.heap.size, 1, none⟩ = some (.slice pp M cp) := by rw [hwt, World.cell?_setCell_other]; exact g1; intro e; cases e
      have t2 : wt.cell? ⟨w.heap.size, 2, none⟩ = some (.int .i64 d.left) := by rw [hwt, World.cell?_setCell_other]; exact g2; intro e; cases e
      have t3 : wt.cell? ⟨w.heap.size, 3, none⟩ = some (.bool true) := by rw [hwt]; exact World.cell?_setCell_same _ _ _ (by rw [g3])
      have hzt : w.heap.size < wt.heap.size := by rw [hwt]; simpa [World.setCell] using hzr0
      rw [← hwt] at HBr
      go_wp2_with fail
      rw [← hwt]
      refine (H21.out _ HBr.out).mono ?_
      rintro e w6 ⟨rfl, hb6⟩
      obtain ⟨a0, a1, a2, a3⟩ := cellsB hb6 hzt ⟨t0, t1, t2, t3⟩
      have hz6 : w.heap.size < w6.heap.size := by have := hb6.size; omega
      have HB6 := Lib.hid (HBr.out.trans (hb6.mono HBr.out.size))
      clear hb6 t0 t1 t2 t3 hzt HBr hwt g0 g1 g2 g3 y0
      go_wp2_with fail
      refine (H19.out _ HB6.out).mono ?_
      rintro e w7 ⟨v7, rfl, hdv7, hb7⟩
      obtain ⟨ps7, N7, cs7, pp7, M7, cp7, rfl, -, -⟩ := hdv7.op
      obtain ⟨b0, b1, b2, b3⟩ := cellsB hb7 hz6 ⟨a0, a1, a2, a3⟩
      have hz7 : w.heap.size < w7.heap.size := by have := hb7.size; omega
      have HB7 := Lib.hid (HB6.out.trans (hb7.mono HB6.out.size))
      clear hb7 a0 a1 a2 a3 hz6 HB6 hdv7
      go_wp2_with fail
      refine (H23.out _ (HB7.out.trans ((one_new _ _).mono HB7.out.size))).mono ?_
      rintro e w8 ⟨v8, rfl, hdv8, hb8⟩
      obtain ⟨ps8, N8, cs8, pp8, M8, cp8, rfl, -, -⟩ := hdv8.op
      obtain ⟨e0, e1, e2, e3⟩ := cellsB (one_later hb8) hz7 ⟨b0, b1, b2, b3⟩
      have hz8 : w.heap.size < w8.heap.size := by have := (one_later hb8).size; omega
      have HB8 := Lib.hid (HB7.out.trans ((one_later hb8).mono HB7.out.size))
      clear hb8 b0 b1 b2 b3 hz7 HB7 hdv8
      go_wp2_with fail
      refine (H25.out _ (HB8.out.trans ((one_new _ _).mono HB8.out.size))).mono ?_
      rintro e w9 ⟨v9, rfl, hdv9, hb9⟩
      obtain ⟨ps9, N9, cs9, pp9, M9, cp9, rfl, -, -⟩ := hdv9.op
      have HB9 := Lib.hid (HB8.out.trans ((one_later hb9).mono HB8.out.size))
      clear hb9 e0 e1 e2 e3 hz8 HB8 hdv9
      go_wp2_with fail
      go_ret
      exact ⟨rfl, HB9.out.trans ((one_new _ _).mono HB9.out.size)⟩
end Go.Proofs.Ytanmhjbeookfiaa
