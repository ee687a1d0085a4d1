/-
  sane() of the links' statements returns true, in every world.
-/
import Derived.Test.YtpempgajejbdoaaTee
namespace Go.Proofs.Ytpempgajejbdoaa
open Go Go.RowKit
def p1 : Pk := (1, 3, [7])
def p3 : Pk := (3, 3, [])
def nA : Nt := ⟨[p1], []⟩
def nB : Nt := ⟨[p1, p1], []⟩
def nC : Nt := ⟨[p1, p1], [(1, 3)]⟩
theorem v1 : askE zero 0 = 1 := by kernel_rfl
theorem v2 : sendE zero p3 = 60 := by kernel_rfl
theorem v3 : cutE zero 2 2 = 1 := by kernel_rfl
theorem v4 : sendE zero p1 = 0 := by kernel_rfl
theorem v5 : sendN zero p1 = nA := by kernel_rfl
theorem v6 : repE nA 0 = 0 := by kernel_rfl
theorem v7 : repN nA 0 = nB := by kernel_rfl
theorem v8 : cutE nB 3 1 = 0 := by kernel_rfl
theorem v9 : cutN nB 3 1 true = nC := by
  have h1 : okN nB = true := by kernel_rfl
  have h2 : endsB 3 1 = true := by kernel_rfl
  unfold cutN
  rw [if_pos ⟨h1, h2⟩, cutL_scn true (okN_a h1) (mk_ok h2)]
  have h3 : scn nB.a (mkL 3 1) true = [(1, 3)] := by kernel_rfl
  rw [h3]
  rfl
theorem v10 : askE nB 0 = 0 := by kernel_rfl
theorem v11 : delP nB 0 = p1 := by kernel_rfl
theorem v12 : loseN nB 0 = nA := by kernel_rfl
theorem v13 : askE nC 1 = 0 := by kernel_rfl
theorem v14 : delP nC 1 = pk0 := by kernel_rfl
theorem v15 : chk zero = 0 := by kernel_rfl
theorem p3_pkv (w : World) : PKV Ev w (.agg #[.int .i64 3, .int .i64 3, .slice none 0 0]) p3 := ⟨_, rfl, by show W64 3; unfold W64; omega, by show W64 3; unfold W64; omega, nil_BV w⟩
theorem seven_bv (w : World) : BV Ev (w.alloc (.cells #[.int .u8 7] 5)) (.slice (some ⟨w.heap.size, 0, none⟩) 1 1) [7] :=
  ⟨w.heap.size, 1, _, rfl, Nat.le_refl _, by unfold maxLen; omega, (fun e => by cases e), .inr ⟨0, rfl, ⟨by simp, trivial⟩, fun j c hj => by
    match j, hj with
    | 0, hj => cases hj; rw [World.cell?_alloc_new]; rfl⟩⟩
theorem p1_pkv {w : World} {v : Value} (h : BV Ev w v [7]) : PKV Ev w (.agg #[.int .i64 1, .int .i64 3, v]) p1 := ⟨_, rfl, by show W64 1; unfold W64; omega, by show W64 3; unfold W64; omega, h⟩
abbrev C2 (W : World) (b : Nat) (x y : Value) : Prop := W.cell? ⟨b, 0, none⟩ = some x ∧ W.cell? ⟨b, 1, none⟩ = some y
abbrev C3 (W : World) (b : Nat) (x y z : Value) : Prop := W.cell? ⟨b, 0, none⟩ = some x ∧ W.cell? ⟨b, 1, none⟩ = some y ∧ W.cell? ⟨b, 2, none⟩ = some z
/-- the boxes that the last statement reads -/
structure Sv (W : World) (b1 b9 b10 b14 b16 b17 b19 : Nat) (n0 n1 p0 p1 p2 a0 a1 c0 c1 q0 q1 q2 d0 d1 r0 r1 r2 : Value) : Prop where
  s1 : C2 W b1 n0 n1
  s9 : C3 W b9 p0 p1 p2
  s10 : C2 W b10 a0 a1
  s14 : C2 W b14 c0 c1
  s16 : C3 W b16 q0 q1 q2
  s17 : C2 W b17 d0 d1
  s19 : C3 W b19 r0 r1 r2
  lt : b1 < W.heap.size ∧ b9 < W.heap.size ∧ b10 < W.heap.size ∧ b14 < W.heap.size ∧ b16 < W.heap.size ∧ b17 < W.heap.size ∧ b19 < W.heap.size
theorem Sv.below {W W' : World} {b1 b9 b10 b14 b16 b17 b19 : Nat} {n0 n1 p0 p1 p2 a0 a1 c0 c1 q0 q1 q2 d0 d1 r0 r1 r2 : Value} (h : Sv W b1 b9 b10 b14 b16 b17 b19 n0 n1 p0 p1 p2 a0 a1 c0 c1 q0 q1 q2 d0 d1 r0 r1 r2) (hb : Below W.heap.size W W') :
    Sv W' b1 b9 b10 b14 b16 b17 b19 n0 n1 p0 p1 p2 a0 a1 c0 c1 q0 q1 q2 d0 d1 r0 r1 r2 := by
  obtain ⟨l1, l2, l3, l4, l5, l6, l7⟩ := h.lt
  have hs := hb.size
  exact ⟨keep2 hb l1 h.s1, keep3 hb l2 h.s9, keep2 hb l3 h.s10, keep2 hb l4 h.s14, keep3 hb l5 h.s16, keep2 hb l6 h.s17, keep3 hb l7 h.s19, by omega, by omega, by omega, by omega, by omega, by omega, by omega⟩
set_option maxHeartbeats 4000000 in
theorem sane_any (w : World) : Calls Try.prog 9 #[] w (Ret (.bool true) w) := by
  go_enter Try.func9, Try.ntmps9
  go_wp2_with fail
  refine (new_g _).mono ?_
  rintro e w1 ⟨q1, N1, k1, a1, M1, l1, rfl, HO1, hb1⟩
  have HB1 := Lib.hid hb1
  clear hb1
  go_wp2_with fail
  have hd := deliver_g (HO1.out.below (one_new w1 (.cells #[.slice q1 N1 k1, .slice a1 M1 l1] 25))) 0
  rw [v1] at hd
  generalize delP zero 0 = x2 at hd
  refine hd.mono ?_
  clear hd
  rintro e w2 ⟨q2, N2, k2, a2, M2, l2, p2, L2, c2, rfl, _, _, hb2⟩
  obtain ⟨t0, t1⟩ := keep2 hb2 (by simp) (new2 w1 (.slice q1 N1 k1) (.slice a1 M1 l1) 25)
  have hz2 : w1.heap.size < w2.heap.size := by have := hb2.size; simp at this; omega
  have HO1b := Lib.hid (HO1.out.below (one_later hb2))
  have HB2 := Lib.hid (HB1.out.trans ((one_later hb2).mono HB1.out.size))
  clear HB1 HO1 hb2
  go_wp2_with fail
  have hd := send_g (HO1b.out.below (two_below w2 (.cells #[.int .i64 x2.1, .int .i64 x2.2.1, .slice p2 L2 c2] 28) (.cells #[.slice q2 N2 k2, .slice a2 M2 l2] 25))) (p3_pkv _)
  rw [v2] at hd
  generalize sendN zero p3 = x3 at hd
  refine hd.mono ?_
  clear hd
  rintro e w3 ⟨q3, N3, k3, a3, M3, l3, rfl, _, hb3⟩
  obtain ⟨t0, t1⟩ := keep2 (two_later hb3) hz2 ⟨t0, t1⟩
  have hz3 : w1.heap.size < w3.heap.size := by have := (two_later hb3).size; omega
  have HO1c := Lib.hid (HO1b.out.below (two_later hb3))
  have HB3 := Lib.hid (HB2.out.trans ((two_later hb3).mono HB2.out.size))
  clear HB2 HO1b hb3 hz2
  go_wp2_with fail
  have hd := cut_g (HO1c.out.below (one_new w3 (.cells #[.slice q3 N3 k3, .slice a3 M3 l3] 25))) 2 2 true
  rw [v3] at hd
  generalize cutN zero 2 2 true = x4 at hd
  refine hd.mono ?_
  clear hd
  rintro e w4 ⟨q4, N4, k4, a4, M4, l4, rfl, _, hb4⟩
  obtain ⟨t0, t1⟩ := keep2 (one_later hb4) hz3 ⟨t0, t1⟩
  have hz4 : w1.heap.size < w4.heap.size := by have := (one_later hb4).size; omega
  have HO1d := Lib.hid (HO1c.out.below (one_later hb4))
  have HB4 := Lib.hid (HB3.out.trans ((one_later hb4).mono HB3.out.size))
  clear HB3 HO1c hb4 hz3
  have hz4a : w1.heap.size < w4.heap.size + 1 := by omega
  have hz4b : w1.heap.size < w4.heap.size + 1 + 1 := by omega
  go_wp2_with fail
  have hp : PKV Ev ((w4.alloc (.cells #[.slice q4 N4 k4, .slice a4 M4 l4] 25)).alloc (.cells #[.int .u8 7] 5)) (.agg #[.int .i64 1, .int .i64 3, .slice (some ⟨w4.heap.size + 1, 0, none⟩) 1 1]) p1 := by
    have := p1_pkv (seven_bv (w4.alloc (.cells #[.slice q4 N4 k4, .slice a4 M4 l4] 25)))
    rwa [World.size_alloc] at this
  obtain ⟨s0, s1, s2⟩ := new3 ((w4.alloc (.cells #[.slice q4 N4 k4, .slice a4 M4 l4] 25)).alloc (.cells #[.int .u8 7] 5)) (.int .i64 1) (.int .i64 3) (.slice (some ⟨w4.heap.size + 1, 0, none⟩) 1 1) 28
  rw [World.size_alloc, World.size_alloc] at s0 s1 s2
  have hb4' := three_below w4 (.cells #[.slice q4 N4 k4, .slice a4 M4 l4] 25) (.cells #[.int .u8 7] 5) (.cells #[.int .i64 1, .int .i64 3, .slice (some ⟨w4.heap.size + 1, 0, none⟩) 1 1] 28)
  have hp' := hp.below (one_new _ (.cells #[.int .i64 1, .int .i64 3, .slice (some ⟨w4.heap.size + 1, 0, none⟩) 1 1] 28))
  have hs5 : (((w4.alloc (.cells #[.slice q4 N4 k4, .slice a4 M4 l4] 25)).alloc (.cells #[.int .u8 7] 5)).alloc (.cells #[.int .i64 1, .int .i64 3, .slice (some ⟨w4.heap.size + 1, 0, none⟩) 1 1] 28)).heap.size = w4.heap.size + 3 := by simp
  have hd := send_g (HO1d.out.below hb4') hp'
  rw [v4, v5] at hd
  obtain ⟨t0, t1⟩ := keep2 hb4' hz4 ⟨t0, t1⟩
  have HO1e := Lib.hid (HO1d.out.below hb4')
  have HB4' := Lib.hid (HB4.out.trans (hb4'.mono HB4.out.size))
  have HP := Lib.hid hp'
  clear hp hp' hb4' HB4 HO1d
  generalize (((w4.alloc (.cells #[.slice q4 N4 k4, .slice a4 M4 l4] 25)).alloc (.cells #[.int .u8 7] 5)).alloc (.cells #[.int .i64 1, .int .i64 3, .slice (some ⟨w4.heap.size + 1, 0, none⟩) 1 1] 28)) = W5 at *
  refine hd.mono ?_
  clear hd
  rintro e w5 ⟨q5, N5, k5, a5, M5, l5, rfl, HOa, hb5⟩
  have hz5 : w4.heap.size + 3 ≤ w5.heap.size := by have := hb5.size; omega
  obtain ⟨t0, t1⟩ := keep2 hb5 (by omega) ⟨t0, t1⟩
  obtain ⟨s0, s1, s2⟩ := keep3 hb5 (by omega) ⟨s0, s1, s2⟩
  have HO1f := Lib.hid (HO1e.out.below hb5)
  have HP5 := Lib.hid (HP.out.below hb5)
  have HB5 := Lib.hid (HB4'.out.trans (hb5.mono HB4'.out.size))
  clear HB4' HO1e hb5 HP hs5
  go_wp2_with fail
  have hd := repeat_g (HOa.out.below (one_new w5 (.cells #[.slice q5 N5 k5, .slice a5 M5 l5] 25))) 0
  rw [v6, v7] at hd
  refine hd.mono ?_
  clear hd
  rintro e w6 ⟨q6, N6, k6, a6, M6, l6, rfl, HOb, hb6⟩
  obtain ⟨t0, t1⟩ := keep2 (one_later hb6) (by omega) ⟨t0, t1⟩
  obtain ⟨s0, s1, s2⟩ := keep3 (one_later hb6) (by omega) ⟨s0, s1, s2⟩
  obtain ⟨g0, g1⟩ := keep2 hb6 (by simp) (new2 w5 (.slice q5 N5 k5) (.slice a5 M5 l5) 25)
  have hz6 : w5.heap.size < w6.heap.size := by have := hb6.size; simp at this; omega
  have HO1g := Lib.hid (HO1f.out.below (one_later hb6))
  have HP6 := Lib.hid (HP5.out.below (one_later hb6))
  have HOa6 := Lib.hid (HOa.out.below (one_later hb6))
  have HB6 := Lib.hid (HB5.out.trans ((one_later hb6).mono HB5.out.size))
  clear HB5 HO1f hb6 HP5 HOa
  go_wp2_with fail
  have hd := cut_g (HOb.out.below (one_new w6 (.cells #[.slice q6 N6 k6, .slice a6 M6 l6] 25))) 3 1 true
  rw [v8, v9] at hd
  refine hd.mono ?_
  clear hd
  rintro e w7 ⟨q7, N7, k7, a7, M7, l7, rfl, HOc, hb7⟩
  obtain ⟨t0, t1⟩ := keep2 (one_later hb7) (by omega) ⟨t0, t1⟩
  obtain ⟨s0, s1, s2⟩ := keep3 (one_later hb7) (by omega) ⟨s0, s1, s2⟩
  obtain ⟨g0, g1⟩ := keep2 (one_later hb7) (by omega) ⟨g0, g1⟩
  obtain ⟨i0, i1⟩ := keep2 hb7 (by simp) (new2 w6 (.slice q6 N6 k6) (.slice a6 M6 l6) 25)
  have hz7 : w6.heap.size < w7.heap.size := by have := hb7.size; simp at this; omega
  have HO1h := Lib.hid (HO1g.out.below (one_later hb7))
  have HP7 := Lib.hid (HP6.out.below (one_later hb7))
  have HOa7 := Lib.hid (HOa6.out.below (one_later hb7))
  have HOb7 := Lib.hid (HOb.out.below (one_later hb7))
  have HB7 := Lib.hid (HB6.out.trans ((one_later hb7).mono HB6.out.size))
  clear HB6 HO1g hb7 HP6 HOa6 HOb
  go_wp2_with fail
  have hd := deliver_g (HOb7.out.below (one_new w7 (.cells #[.slice q7 N7 k7, .slice a7 M7 l7] 25))) 0
  rw [v10, v11, v12] at hd
  refine hd.mono ?_
  clear hd
  rintro e w8 ⟨q8, N8, k8, a8, M8, l8, p8, L8, c8, rfl, HOd, HXq, hb8⟩
  obtain ⟨t0, t1⟩ := keep2 (one_later hb8) (by omega) ⟨t0, t1⟩
  obtain ⟨s0, s1, s2⟩ := keep3 (one_later hb8) (by omega) ⟨s0, s1, s2⟩
  obtain ⟨g0, g1⟩ := keep2 (one_later hb8) (by omega) ⟨g0, g1⟩
  obtain ⟨j0, j1⟩ := keep2 hb8 (by simp) (new2 w7 (.slice q7 N7 k7) (.slice a7 M7 l7) 25)
  have hz8 : w7.heap.size < w8.heap.size := by have := hb8.size; simp at this; omega
  have HO1i := Lib.hid (HO1h.out.below (one_later hb8))
  have HP8 := Lib.hid (HP7.out.below (one_later hb8))
  have HOa8 := Lib.hid (HOa7.out.below (one_later hb8))
  have HOc8 := Lib.hid (HOc.out.below (one_later hb8))
  have HB8 := Lib.hid (HB7.out.trans ((one_later hb8).mono HB7.out.size))
  clear HB7 HO1h hb8 HP7 HOa7 HOb7 HOc i0 i1
  have hd := deliver_g (HOc8.out.below (two_below w8 (.cells #[.int .i64 p1.1, .int .i64 p1.2.1, .slice p8 L8 c8] 28) (.cells #[.slice q8 N8 k8, .slice a8 M8 l8] 25))) 1
  rw [v13, v14] at hd
  generalize loseN nC 1 = x9 at hd
  go_wp2_with fail
  refine hd.mono ?_
  clear hd
  rintro e w9 ⟨q9, N9, k9, a9, M9, l9, p9, L9, c9, rfl, _, HXr, hb9⟩
  obtain ⟨t0, t1⟩ := keep2 (two_later hb9) (by omega) ⟨t0, t1⟩
  obtain ⟨s0, s1, s2⟩ := keep3 (two_later hb9) (by omega) ⟨s0, s1, s2⟩
  obtain ⟨g0, g1⟩ := keep2 (two_later hb9) (by omega) ⟨g0, g1⟩
  obtain ⟨j0, j1⟩ := keep2 (two_later hb9) (by omega) ⟨j0, j1⟩
  have hsz8 : ((w8.alloc (.cells #[.int .i64 p1.1, .int .i64 p1.2.1, .slice p8 L8 c8] 28)).alloc (.cells #[.slice q8 N8 k8, .slice a8 M8 l8] 25)).heap.size = w8.heap.size + 2 := by simp
  obtain ⟨y0, y1, y2⟩ := keep3 hb9 (by rw [hsz8]; omega) (keep3 (one_new _ (.cells #[.slice q8 N8 k8, .slice a8 M8 l8] 25)) (by simp) (new3 w8 (.int .i64 p1.1) (.int .i64 p1.2.1) (.slice p8 L8 c8) 28))
  have hn8 := new2 (w8.alloc (.cells #[.int .i64 p1.1, .int .i64 p1.2.1, .slice p8 L8 c8] 28)) (.slice q8 N8 k8) (.slice a8 M8 l8) 25
  rw [World.size_alloc] at hn8
  obtain ⟨x0, x1⟩ := keep2 hb9 (by rw [hsz8]; omega) hn8
  have hz9 : w8.heap.size + 2 ≤ w9.heap.size := by have := hb9.size; omega
  have hb9w := two_below w9 (.cells #[.int .i64 pk0.1, .int .i64 pk0.2.1, .slice p9 L9 c9] 28) (.cells #[.slice q9 N9 k9, .slice a9 M9 l9] 25)
  have hn9 := keep3 (one_new _ (.cells #[.slice q9 N9 k9, .slice a9 M9 l9] 25)) (by simp) (new3 w9 (.int .i64 pk0.1) (.int .i64 pk0.2.1) (.slice p9 L9 c9) 28)
  have hsz9 : ((w9.alloc (.cells #[.int .i64 pk0.1, .int .i64 pk0.2.1, .slice p9 L9 c9] 28)).alloc (.cells #[.slice q9 N9 k9, .slice a9 M9 l9] 25)).heap.size = w9.heap.size + 2 := by simp
  have HS : Hid (Sv ((w9.alloc (.cells #[.int .i64 pk0.1, .int .i64 pk0.2.1, .slice p9 L9 c9] 28)).alloc (.cells #[.slice q9 N9 k9, .slice a9 M9 l9] 25)) w1.heap.size (w4.heap.size + 1 + 1) w5.heap.size w7.heap.size w8.heap.size (w8.heap.size + 1) w9.heap.size (.slice q1 N1 k1) (.slice a1 M1 l1) (.int .i64 1) (.int .i64 3) (.slice (some ⟨w4.heap.size + 1, 0, none⟩) 1 1) (.slice q5 N5 k5) (.slice a5 M5 l5) (.slice q7 N7 k7) (.slice a7 M7 l7) (.int .i64 p1.1) (.int .i64 p1.2.1) (.slice p8 L8 c8) (.slice q8 N8 k8) (.slice a8 M8 l8) (.int .i64 pk0.1) (.int .i64 pk0.2.1) (.slice p9 L9 c9)) :=
    Lib.hid ⟨keep2 hb9w (by omega) ⟨t0, t1⟩, keep3 hb9w (by omega) ⟨s0, s1, s2⟩, keep2 hb9w (by omega) ⟨g0, g1⟩, keep2 hb9w (by omega) ⟨j0, j1⟩, keep3 hb9w (by omega) ⟨y0, y1, y2⟩, keep2 hb9w (by omega) ⟨x0, x1⟩, hn9, by omega, by omega, by omega, by omega, by omega, by omega, by omega⟩
  have hb89 := (two_later hb9).trans (hb9w.mono (two_later hb9).size)
  have hb99 := hb9w
  have HO1j := Lib.hid (HO1i.out.below hb89)
  have HP9 := Lib.hid (HP8.out.below hb89)
  have HOa9 := Lib.hid (HOa8.out.below hb89)
  have HOc9 := Lib.hid (HOc8.out.below hb89)
  have HOd9 := Lib.hid ((HOd.out.below (two_later hb9)).below hb9w)
  have HXq9 := Lib.hid ((HXq.out.below (two_later hb9)).below hb9w)
  have HXr9 := Lib.hid (HXr.out.below hb9w)
  have HB9 := Lib.hid (HB8.out.trans (hb89.mono HB8.out.size))
  have hq1 : w1.heap.size < w9.heap.size := by omega
  have hq2 : w1.heap.size < w9.heap.size + 1 := by omega
  clear HB8 HO1i HP8 HOa8 HOc8 HOd HXq HXr hb9 hb9w hb89 hb99 hn8 hn9 s0 s1 s2 g0 g1 j0 j1 y0 y1 y2 x0 x1 hsz8 hsz9
  go_wp2_with fail
  generalize ((w9.alloc (.cells #[.int .i64 pk0.1, .int .i64 pk0.2.1, .slice p9 L9 c9] 28)).alloc (.cells #[.slice q9 N9 k9, .slice a9 M9 l9] 25)) = W at *
  clear t0 t1
  have hc := check_any _ zero W HO1j.out.nv
  rw [v15] at hc
  refine hc.mono ?_
  clear hc
  rintro e wA ⟨rfl, hbA⟩
  have SA := Lib.hid (HS.out.below hbA)
  have HPA := Lib.hid (HP9.out.below hbA)
  have HOaA := Lib.hid (HOa9.out.below hbA)
  have HOcA := Lib.hid (HOc9.out.below hbA)
  have HOdA := Lib.hid (HOd9.out.below hbA)
  have HXqA := Lib.hid (HXq9.out.below hbA)
  have HXrA := Lib.hid (HXr9.out.below hbA)
  have HBA := Lib.hid (HB9.out.trans (hbA.mono HB9.out.size))
  clear HB9 HO1j HP9 HOa9 HOc9 HOd9 HXq9 HXr9 hbA HS
  obtain ⟨e0, e1, e2⟩ := SA.out.s9
  obtain ⟨e3, e4, e5⟩ := SA.out.s16
  have hc := samep_any _ _ p1 p1 wA HPA.out HXqA.out
  have hv16 : sameP p1 p1 = true := by kernel_rfl
  rw [hv16] at hc
  go_wp2_with fail
  refine hc.mono ?_
  clear hc
  rintro e wB ⟨rfl, hbB⟩
  have SB := Lib.hid (SA.out.below hbB)
  have HOaB := Lib.hid (HOaA.out.below hbB)
  have HOcB := Lib.hid (HOcA.out.below hbB)
  have HOdB := Lib.hid (HOdA.out.below hbB)
  have HXrB := Lib.hid (HXrA.out.below hbB)
  have HBB := Lib.hid (HBA.out.trans (hbB.mono HBA.out.size))
  clear HBA HPA HOaA HOcA HOdA HXqA HXrA hbB SA e0 e1 e2 e3 e4 e5
  obtain ⟨e0, e1, e2⟩ := SB.out.s19
  have hc := samep_any _ _ pk0 pk0 wB HXrB.out (zero_PKV (F := Ev) wB)
  have hv17 : sameP pk0 pk0 = true := by kernel_rfl
  rw [hv17] at hc
  go_wp2_with fail
  refine hc.mono ?_
  clear hc
  rintro e wC ⟨rfl, hbC⟩
  have SC := Lib.hid (SB.out.below hbC)
  have HOcC := Lib.hid (HOcB.out.below hbC)
  have HBC := Lib.hid (HBB.out.trans (hbC.mono HBB.out.size))
  have hc := same_any _ _ nA nA wC (HOdB.out.below hbC).nv (HOaB.out.below hbC).nv
  rw [sameN_self] at hc
  clear HBB HOaB HOcB HOdB HXrB hbC SB e0 e1 e2
  obtain ⟨e0, e1⟩ := SC.out.s17
  obtain ⟨e2, e3⟩ := SC.out.s10
  go_wp2_with fail
  refine hc.mono ?_
  clear hc
  rintro e wD ⟨rfl, hbD⟩
  have SD := Lib.hid (SC.out.below hbD)
  have HOcD := Lib.hid (HOcC.out.below hbD)
  have HBD := Lib.hid (HBC.out.trans (hbD.mono HBC.out.size))
  clear HBC HOcC hbD SC e0 e1 e2 e3
  obtain ⟨e0, e1⟩ := SD.out.s14
  have hN7 : N7 = 2 := HOcD.out.nq.symm
  have hM7 : M7 = 1 := HOcD.out.na.symm
  subst hN7 hM7
  obtain ⟨bb, oo, xx, yy, hpa, hbl, z0, z1, HL, _⟩ := HOcD.out.apa.lkAt 0 (by show 0 < 1; omega)
  have hxy : xx = 1 ∧ yy = 3 := by
    have h : ([(1, 3)] : List Lk)[0]? = some (xx, yy) := HL.out
    simp at h
    exact ⟨h.1.symm, h.2.symm⟩
  obtain ⟨rfl, rfl⟩ := hxy
  subst hpa
  have LE := fun W => lk_equal 1 3 1 3 W
  have hee : ((1 : Int) == 1 && (3 : Int) == 3) = true := by decide
  simp only [hee] at LE
  rw [Nat.zero_mul, Nat.add_zero] at z0 z1
  go_wp2_with fail
  go_ret
  exact ⟨rfl, HBD.out⟩
end Go.Proofs.Ytpempgajejbdoaa
