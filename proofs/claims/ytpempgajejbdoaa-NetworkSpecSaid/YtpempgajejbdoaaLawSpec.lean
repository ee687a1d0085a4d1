/-
  NetworkSpec's own body: it returns true.
-/
import Derived.Test.YtpempgajejbdoaaTee
namespace Go.Proofs.Ytpempgajejbdoaa
open Go Go.RowKit
theorem new_val (w : World) : Calls Try.prog 16 #[] w (Ret (.agg #[.slice none 0 0, .slice none 0 0]) w) := by
  go_enter Try.func16, Try.ntmps16
  go_wp2_with fail
  exact bodyPost_ret (v := .agg #[.slice none 0 0, .slice none 0 0]) (by simp [results, Try.results16, go_sem]) rfl ⟨rfl, one_new _ _⟩
theorem rnew_val (w : World) : Calls Try.prog 17 #[] w (Ret (.agg #[.slice none 0 0, .slice none 0 0]) w) := by
  go_enter Try.func17, Try.ntmps17
  go_wp2_with fail
  exact bodyPost_ret (v := .agg #[.slice none 0 0, .slice none 0 0]) (by simp [results, Try.results17, go_sem]) rfl ⟨rfl, one_new _ _⟩
theorem boxes23 (w : World) (a b x y z : Value) : Below w.heap.size w ((w.alloc (.cells #[a, b] 25)).alloc (.cells #[x, y, z] 28)) ∧ ((w.alloc (.cells #[a, b] 25)).alloc (.cells #[x, y, z] 28)).heap.size = w.heap.size + 2 ∧
    (((w.alloc (.cells #[a, b] 25)).alloc (.cells #[x, y, z] 28)).cell? ⟨w.heap.size, 0, none⟩ = some a ∧ ((w.alloc (.cells #[a, b] 25)).alloc (.cells #[x, y, z] 28)).cell? ⟨w.heap.size, 1, none⟩ = some b) ∧
    (((w.alloc (.cells #[a, b] 25)).alloc (.cells #[x, y, z] 28)).cell? ⟨w.heap.size + 1, 0, none⟩ = some x ∧ ((w.alloc (.cells #[a, b] 25)).alloc (.cells #[x, y, z] 28)).cell? ⟨w.heap.size + 1, 1, none⟩ = some y ∧ ((w.alloc (.cells #[a, b] 25)).alloc (.cells #[x, y, z] 28)).cell? ⟨w.heap.size + 1, 2, none⟩ = some z) := by
  have h := new3 (w.alloc (.cells #[a, b] 25)) x y z 28
  rw [World.size_alloc] at h
  exact ⟨two_below _ _ _, by simp, keep2 (one_new _ _) (by simp) (new2 w a b 25), h⟩
set_option maxHeartbeats 4000000 in
theorem lawSpec (v : Value) (n : Nt) (u : Value) (x : Pk) (w : World) (h : NV Ev w v n) (hp : PKV Ev w u x) (hsane : ∀ w : World, Calls Try.prog 9 #[] w (Ret (.bool true) w)) : Calls Try.prog 3 #[v, u] w (Ret (.bool true) w) := by
  obtain ⟨pq, N, cq, pa, M, ca, rfl, HO, hq1, hq2, ha1, ha2⟩ := h.op
  obtain ⟨p, L, c, rfl, HX, hl1, hl2⟩ := hp.open
  have HP := Lib.hid hp
  have HSN := Lib.hid hsane
  clear h hp hsane
  obtain ⟨hB, hsz, ⟨b0, b1⟩, b2, b3, b4⟩ := boxes23 w (.slice pq N cq) (.slice pa M ca) (.int .i64 x.1) (.int .i64 x.2.1) (.slice p L c)
  have HB := Lib.hid hB
  have HZ := Lib.hid hsz
  have HB0 := Lib.hid (And.intro b0 b1)
  have HB1 := Lib.hid (And.intro b2 (And.intro b3 b4))
  clear hB hsz b0 b1 b2 b3 b4
  go_enter Try.func3, Try.ntmps3
  go_wp2_with fail
  refine (HSN.out _).mono ?_
  rintro e w1 ⟨rfl, hb1⟩
  obtain ⟨t0, t1⟩ := keep2 hb1 (by rw [HZ.out]; omega) HB0.out
  obtain ⟨s0, s1, s2⟩ := keep3 hb1 (by rw [HZ.out]; omega) HB1.out
  have hz1 : w.heap.size + 1 < w1.heap.size := by have := hb1.size; rw [HZ.out] at this; omega
  have HB1' := Lib.hid (HB.out.trans (hb1.mono HB.out.size))
  clear hb1 HB HZ HB0 HB1
  have hf := few_any _ n w1 (HO.out.below HB1'.out).nv
  cases hfew : fewB n
  · rw [hfew] at hf
    have HF := Lib.hid hf
    clear hf hfew
    go_wp2_with fail
    refine HF.out.mono ?_
    rintro e w2 ⟨rfl, hb2⟩
    go_wp2_with fail
    go_ret
    exact ⟨rfl, HB1'.out.trans (hb2.mono HB1'.out.size)⟩
  rw [hfew] at hf
  have HF := Lib.hid hf
  clear hf hfew
  go_wp2_with fail
  refine HF.out.mono ?_
  rintro e w2 ⟨rfl, hb2⟩
  obtain ⟨t0, t1⟩ := keep2 hb2 (by omega) ⟨t0, t1⟩
  obtain ⟨s0, s1, s2⟩ := keep3 hb2 (by omega) ⟨s0, s1, s2⟩
  have hz2 : w.heap.size + 1 < w2.heap.size := by have := hb2.size; omega
  have HB2 := Lib.hid (HB1'.out.trans (hb2.mono HB1'.out.size))
  clear hb2 HF HB1' hz1
  have hs := send_g (HO.out.below HB2.out) (HP.out.below HB2.out)
  go_wp2_with fail
  refine hs.mono ?_
  clear hs
  rintro e w3 ⟨q3, N3, k3, a3, M3, l3, rfl, HO3, hb3⟩
  obtain ⟨t0, t1⟩ := keep2 hb3 (by omega) ⟨t0, t1⟩
  obtain ⟨s0, s1, s2⟩ := keep3 hb3 (by omega) ⟨s0, s1, s2⟩
  have hz3 : w.heap.size + 1 < w3.heap.size := by have := hb3.size; omega
  have hz30 : w.heap.size < w3.heap.size := by omega
  have HB3 := Lib.hid (HB2.out.trans (hb3.mono HB2.out.size))
  clear hb3 HB2 hz2
  have hb4 := one_new w3 (.cells #[.slice q3 N3 k3, .slice a3 M3 l3] 25)
  have hs := rsend_g ((HO.out.below HB3.out).below hb4) ((HP.out.below HB3.out).below hb4)
  go_wp2_with fail
  refine hs.mono ?_
  clear hs
  rintro e w5 ⟨q5, N5, k5, a5, M5, l5, rfl, HO5, hb5⟩
  have hb35 := one_later hb5
  obtain ⟨t0, t1⟩ := keep2 hb35 (by omega) ⟨t0, t1⟩
  obtain ⟨y0, y1⟩ := keep2 hb5 (by simp) (new2 w3 (.slice q3 N3 k3) (.slice a3 M3 l3) 25)
  have hz5 : w3.heap.size < w5.heap.size := by have := hb5.size; simp at this; omega
  have hz50 : w.heap.size < w5.heap.size := by omega
  have HO35 := Lib.hid (HO3.out.below hb35)
  have HB5 := Lib.hid (HB3.out.trans (hb35.mono HB3.out.size))
  clear hb5 hb4 hb35 HO3 HB3 s0 s1 s2
  generalize sendE n x = E at *
  go_wp2_with fail
  have hb6 := one_new w5 (.cells #[.slice q5 N5 k5, .slice a5 M5 l5] 25)
  obtain ⟨z0, z1⟩ := new2 w5 (.slice q5 N5 k5) (.slice a5 M5 l5) 25
  have hz6 : w5.heap.size < (w5.alloc (.cells #[.slice q5 N5 k5, .slice a5 M5 l5] 25)).heap.size := by simp
  obtain ⟨t0, t1⟩ := keep2 hb6 hz50 ⟨t0, t1⟩
  obtain ⟨y0, y1⟩ := keep2 hb6 hz5 ⟨y0, y1⟩
  have HO6 := Lib.hid (HO5.out.below hb6)
  have HO36 := Lib.hid (HO35.out.below hb6)
  have HB6 := Lib.hid (HB5.out.trans (hb6.mono HB5.out.size))
  clear HO5 HO35 HB5 hb6
  generalize (w5.alloc (.cells #[.slice q5 N5 k5, .slice a5 M5 l5] 25)) = W at *
  have T0 := Later.cell (by omega) t0
  have T1 := Later.cell (by omega) t1
  have Y0 := Later.cell (by omega) y0
  have Y1 := Later.cell (by omega) y1
  have Z0 := Later.cell hz6 z0
  have Z1 := Later.cell hz6 z1
  have HC1 := Lib.hid (fun X : Later W => check_any _ n X.v ((HO.out.below HB6.out).below X.b).nv)
  have HC2 := Lib.hid (fun X : Later W => rcheck_any _ n X.v ((HO.out.below HB6.out).below X.b).nv)
  have HS1 := fun X : Later W => same_any _ _ (sendN n x) (sendN n x) X.v (HO36.out.below X.b).nv (HO6.out.below X.b).nv
  have HS2 := fun X : Later W => same_any _ _ zero zero X.v (zero_NV (F := Ev) X.v) (zero_NV (F := Ev) X.v)
  rw [sameN_self] at HS1 HS2
  have HS1 := Lib.hid HS1
  have HS2 := Lib.hid HS2
  have HN1 := Lib.hid (fun X : Later W => new_val X.v)
  have HN2 := Lib.hid (fun X : Later W => rnew_val X.v)
  generalize chk n = cc at HC1 HC2
  have hC : (cc == cc) = true := by simp
  have hE : (E == E) = true := by simp
  clear t0 t1 y0 y1 z0 z1 HO6 HO36
  refine wp_region_later (by kernel_rfl) (by kernel_rfl) ?_
  go_big_quiet_step (fail)
  go_big_quiet_step ((go_at_call 13; exact Later.calls (HC1.out _)))
  go_big_quiet_step (fail)
  go_big_quiet_step ((go_at_call 14; exact Later.calls (HC2.out _)))
  iterate 4 (go_big_quiet_step (fail))
  go_big_quiet_step ((go_at_call 15; exact Later.calls (HS1.out _)))
  iterate 7 (go_big_quiet_step (fail))
  go_big_quiet_step ((go_at_call 16; exact Later.calls (HN1.out _)))
  go_big_quiet_step ((go_at_call 17; exact Later.calls (HN2.out _)))
  go_big_quiet_step ((go_at_call 15; exact Later.calls (HS2.out _)))
  iterate 2 (go_big_quiet_step (fail))
  refine wpQuiet_nil ?_
  intro _ hw'
  obtain ⟨X, hX⟩ := hw'
  subst hX
  go_wp2_with fail
  go_ret
  exact ⟨rfl, HB6.out.trans (X.b.mono HB6.out.size)⟩
end Go.Proofs.Ytpempgajejbdoaa
