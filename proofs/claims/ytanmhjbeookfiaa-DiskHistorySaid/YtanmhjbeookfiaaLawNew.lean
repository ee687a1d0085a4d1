/-
  DiskNewSpec's own body: it returns true.
-/
import Derived.Test.YtanmhjbeookfiaaRnew
import Derived.Test.YtanmhjbeookfiaaRst
import Derived.Test.YtanmhjbeookfiaaRchk
import Derived.Test.YtanmhjbeookfiaaSam
namespace Go.Proofs.Ytanmhjbeookfiaa
open Go Go.RowKit
theorem cells4L {w w1 : World} {B : Nat} {a b c d : Value} (hb : Below w.heap.size w w1) (hB : B < w.heap.size) (h : w.cell? ⟨B, 0, none⟩ = some a ∧ w.cell? ⟨B, 1, none⟩ = some b ∧ w.cell? ⟨B, 2, none⟩ = some c ∧ w.cell? ⟨B, 3, none⟩ = some d) :
    w1.cell? ⟨B, 0, none⟩ = some a ∧ w1.cell? ⟨B, 1, none⟩ = some b ∧ w1.cell? ⟨B, 2, none⟩ = some c ∧ w1.cell? ⟨B, 3, none⟩ = some d :=
  ⟨(bcells hb hB _).trans h.1, (bcells hb hB _).trans h.2.1, (bcells hb hB _).trans h.2.2.1, (bcells hb hB _).trans h.2.2.2⟩
theorem restart_val (d : D) (ps : Option Addr) (N cs : Nat) (pp : Option Addr) (M cp : Nat) (w : World) (hs2 : N ≤ 9223372036854775807) : Calls Try.prog 17 #[dval d ps N cs pp M cp] w (Ret (.agg #[.slice ps N cs, .slice none 0 0, .int .i64 (-1), .bool false]) w) := by
  go_enter Try.func17, Try.ntmps17
  go_wp2_with fail
  exact bodyPost_ret (v := .agg #[.slice ps N cs, .slice none 0 0, .int .i64 (-1), .bool false]) (by simp [results, Try.results17, go_sem]) rfl ⟨rfl, two_below _ _ _⟩
theorem rrestart_val (d : D) (ps : Option Addr) (N cs : Nat) (pp : Option Addr) (M cp : Nat) (w : World) (hs2 : N ≤ 9223372036854775807) : Calls Try.prog 18 #[dval d ps N cs pp M cp] w (Ret (.agg #[.slice ps N cs, .slice none 0 0, .int .i64 (-1), .bool false]) w) := by
  go_enter Try.func18, Try.ntmps18
  go_wp2_with fail
  exact bodyPost_ret (v := .agg #[.slice ps N cs, .slice none 0 0, .int .i64 (-1), .bool false]) (by simp [results, Try.results18, go_sem]) rfl ⟨rfl, two_below _ _ _⟩
set_option maxHeartbeats 2000000 in
theorem lawNew (n : Int) (v : Value) (d : D) (w : World) (h : DV w v d) (hsane : ∀ w : World, Calls Try.prog 10 #[] w (Ret (.bool true) w)) :
    Calls Try.prog 3 #[.int .i64 n, v] w (Ret (.bool true) w) := by
  obtain ⟨ps, N, cs, pp, M, cp, rfl, HO, hs1, hs2, hp1, hp2⟩ := h.op
  have HSN := Lib.hid hsane
  clear h hsane
  have HF : Hid (∀ W, Below w.heap.size w W → Calls Try.prog 11 #[dval d ps N cs pp M cp] W (SomeB W)) := Lib.hid fun W hb => few_any _ d W (HO.out.below hb).dv
  by_cases hb : 60 < n ∧ n ≤ 4096
  · obtain ⟨hb1, hb2⟩ := hb
    go_enter Try.func3, Try.ntmps3
    go_wp2_with fail
    refine (HSN.out _).mono ?_
    rintro e w1 ⟨rfl, hbe⟩
    have HB1 := Lib.hid (one_later hbe)
    clear hbe
    go_wp2_with fail
    go_ret
    exact ⟨rfl, HB1.out⟩
  have hn : n ≤ 60 ∨ 4096 < n := by omega
  clear hb
  rcases hn with hn | hn
  all_goals
    go_enter Try.func3, Try.ntmps3
    go_wp2_with fail
    refine (HSN.out _).mono ?_
    rintro e w1 ⟨rfl, hbe1⟩
    obtain ⟨c0, c1, c2, c3⟩ := boxed (Nat.lt_of_lt_of_eq (Nat.lt_succ_self _) (by simp)) hbe1
    have hz1 : w.heap.size < w1.heap.size := by have := hbe1.size; simp at this; omega
    have HB1 := Lib.hid (one_later hbe1)
    clear hbe1
    go_wp2_with fail
    refine (HF.out _ HB1.out).mono ?_
    rintro e w2 ⟨bb, rfl, hbe2⟩
    obtain ⟨d0, d1, d2, d3⟩ := cells4L hbe2 hz1 ⟨c0, c1, c2, c3⟩
    have hz2 : w.heap.size < w2.heap.size := by have := hbe2.size; omega
    have HB2 := Lib.hid (HB1.out.trans (hbe2.mono HB1.out.size))
    clear hbe2 c0 c1 c2 c3 hz1 HB1
    cases bb
  · go_wp2_with fail
    go_ret
    exact ⟨rfl, HB2.out⟩
  rotate_left
  · go_wp2_with fail
    go_ret
    exact ⟨rfl, HB2.out⟩
  all_goals
    have hnw := new_any n w2
    have hrn := fun W => rnew_any n W
    generalize newE n = E at hnw hrn
    generalize newD n = X at hnw hrn
    have HNW := Lib.hid hnw
    have HRN := Lib.hid hrn
    clear hnw hrn
    go_wp2_with fail
    refine HNW.out.mono ?_
    rintro e w3 ⟨v3, rfl, hdv3, hbe3⟩
    obtain ⟨ps3, N3, cs3, pp3, M3, cp3, rfl, HO3, hs31, hs32, hp31, hp32⟩ := hdv3.op
    obtain ⟨e0, e1, e2, e3⟩ := cells4L hbe3 hz2 ⟨d0, d1, d2, d3⟩
    have hz3 : w.heap.size < w3.heap.size := by have := hbe3.size; omega
    have HB3 := Lib.hid (HB2.out.trans (hbe3.mono HB2.out.size))
    clear hbe3 d0 d1 d2 d3 hz2 HB2 hdv3 HNW
    go_wp2_with fail
    refine (HRN.out _).mono ?_
    rintro e w4 ⟨v4, rfl, hdv4, hbe4⟩
    obtain ⟨ps4, N4, cs4, pp4, M4, cp4, rfl, HO4, hs41, hs42, hp41, hp42⟩ := hdv4.op
    obtain ⟨f0, f1, f2, f3⟩ := cells4L (one_later hbe4) hz3 ⟨e0, e1, e2, e3⟩
    obtain ⟨x0, x1, x2, x3⟩ := boxed (Nat.lt_of_lt_of_eq (Nat.lt_succ_self _) (by simp)) hbe4
    have hz4 : w3.heap.size < w4.heap.size := by have := hbe4.size; simp at this; omega
    have HB34 := Lib.hid (one_later hbe4)
    have HB4 := Lib.hid (HB3.out.trans ((one_later hbe4).mono HB3.out.size))
    clear hbe4 e0 e1 e2 e3 HB3 hdv4 HRN
    obtain ⟨w5, hw5⟩ : ∃ w5, w5 = w4.alloc (.cells #[.slice ps4 N4 cs4, .slice pp4 M4 cp4, .int .i64 X.left, .bool X.st] 25) := ⟨_, rfl⟩
    have HB45 : Hid (Below w4.heap.size w4 w5) := Lib.hid (by rw [hw5]; exact one_new _ _)
    obtain ⟨y0, y1, y2, y3⟩ : w5.cell? ⟨w4.heap.size, 0, none⟩ = some (.slice ps4 N4 cs4) ∧ w5.cell? ⟨w4.heap.size, 1, none⟩ = some (.slice pp4 M4 cp4) ∧ w5.cell? ⟨w4.heap.size, 2, none⟩ = some (.int .i64 X.left) ∧ w5.cell? ⟨w4.heap.size, 3, none⟩ = some (.bool X.st) := by
      rw [hw5]
      refine ⟨?_, ?_, ?_, ?_⟩ <;> go_simp
    obtain ⟨g0, g1, g2, g3⟩ := cells4L HB45.out (show w.heap.size < w4.heap.size by omega) ⟨f0, f1, f2, f3⟩
    obtain ⟨z0, z1, z2, z3⟩ := cells4L HB45.out hz4 ⟨x0, x1, x2, x3⟩
    have hz5 : w4.heap.size < w5.heap.size := by rw [hw5]; simp
    have HB5 := Lib.hid (HB4.out.trans (HB45.out.mono HB4.out.size))
    have HB35 := Lib.hid (HB34.out.trans (HB45.out.mono HB34.out.size))
    have hE : (E == E) = true := by simp
    have HS1 := fun x : Later w5 => same_any _ _ X X x.v (HO3.out.below (HB35.out.trans (x.b.mono HB35.out.size))).dv (HO4.out.below (HB45.out.trans (x.b.mono HB45.out.size))).dv
    have HC1 := fun x : Later w5 => check_any _ d x.v (HO.out.below (HB5.out.trans (x.b.mono HB5.out.size))).dv
    have HC2 := fun x : Later w5 => rcheck_any _ d x.v (HO.out.below (HB5.out.trans (x.b.mono HB5.out.size))).dv
    have HR1 := fun x : Later w5 => restart_val d ps N cs pp M cp x.v (by omega)
    have HR2 := fun x : Later w5 => rrestart_val d ps N cs pp M cp x.v (by omega)
    have HS2 := fun x : Later w5 => same_any _ _ (rst d) (rst d) x.v (op_rst HO.out (HB5.out.trans (x.b.mono HB5.out.size))) (op_rst HO.out (HB5.out.trans (x.b.mono HB5.out.size)))
    rw [sameD_self] at HS1 HS2
    generalize chk d = c at HC1 HC2
    have hC : (c == c) = true := by simp
    have HS1 := Lib.hid HS1
    have HS2 := Lib.hid HS2
    have HC1 := Lib.hid HC1
    have HC2 := Lib.hid HC2
    have HR1 := Lib.hid HR1
    have HR2 := Lib.hid HR2
    have G0 := Later.cell (by omega) g0
    have G1 := Later.cell (by omega) g1
    have G2 := Later.cell (by omega) g2
    have G3 := Later.cell (by omega) g3
    have Z0 := Later.cell (by omega) z0
    have Z1 := Later.cell (by omega) z1
    have Z2 := Later.cell (by omega) z2
    have Z3 := Later.cell (by omega) z3
    have Y0 := Later.cell hz5 y0
    have Y1 := Later.cell hz5 y1
    have Y2 := Later.cell hz5 y2
    have Y3 := Later.cell hz5 y3
    clear g0 g1 g2 g3 z0 z1 z2 z3 y0 y1 y2 y3 f0 f1 f2 f3 x0 x1 x2 x3
    go_wp2_with fail
    rw [← hw5]
    refine wp_region_later (by kernel_rfl) (by kernel_rfl) ?_
    iterate 2 (go_big_quiet_step (fail))
    go_big_quiet_step ((go_at_call 14; exact Later.calls (HS1.out _)))
    iterate 7 (go_big_quiet_step (fail))
    go_big_quiet_step ((go_at_call 15; exact Later.calls (HC1.out _)))
    go_big_quiet_step (fail)
    go_big_quiet_step ((go_at_call 16; exact Later.calls (HC2.out _)))
    iterate 4 (go_big_quiet_step (fail))
    go_big_quiet_step ((go_at_call 17; exact Later.calls (HR1.out _)))
    go_big_quiet_step (fail)
    go_big_quiet_step ((go_at_call 18; exact Later.calls (HR2.out _)))
    go_big_quiet_step ((go_at_call 14; exact Later.calls (HS2.out _)))
    iterate 2 (go_big_quiet_step (fail))
    refine wpQuiet_nil ?_
    intro _ hw'
    obtain ⟨x, hx⟩ := hw'
    subst hx
    go_wp2_with fail
    go_ret
    exact ⟨rfl, HB5.out.trans (x.b.mono HB5.out.size)⟩
end Go.Proofs.Ytanmhjbeookfiaa
