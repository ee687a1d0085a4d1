/-
  Links: the reference's Check, on all links.
-/
import Derived.Test.YtpempgajejbdoaaChn
namespace Go.Proofs.Ytpempgajejbdoaa
open Go Go.RowKit Go.Sort
variable {F : Nat → Prop}
theorem ltL_no {a b c d : Int} (h : c < a ∨ (c = a ∧ d ≤ b)) : ltL (a, b) (c, d) = false := by
  unfold ltL
  simp only [decide_eq_false_iff_not]
  omega
theorem ltL_yes {a b c d : Int} (h : a < c ∨ (c = a ∧ b < d)) : ltL (a, b) (c, d) = true := by
  unfold ltL
  simp only [decide_eq_true_eq]
  omega
set_option maxHeartbeats 2000000 in
theorem rcheck_any (v : Value) (n : Nt) (w : World) (h : NV F w v n) : Calls Try.prog 14 #[v] w (Ret (.int .i64 (chk n)) w) := by
  obtain ⟨pq, N, cq, pa, M, ca, rfl, HO, hq1, hq2, ha1, ha2⟩ := h.op
  clear h
  have HC : Hid (chk n = if (okQ n.q && okA n.a) = true then 0 else 60) := Lib.hid rfl
  by_cases h3 : 4096 < N
  · have HQ : Hid (okQ n.q = false) := Lib.hid (by unfold okQ; rw [HO.out.nq]; have : decide (N ≤ 4096) = false := (by simp; omega); rw [this, Bool.false_and])
    go_enter Try.func14, Try.ntmps14
    go_wp2_with fail
    go_ret
    exact ⟨ret_int (by rw [HC.out, HQ.out]; rfl), one_new _ _⟩
  go_enter Try.func14, Try.ntmps14
  go_wp2_with fail
  go_loopw [3] (fun i wr => ∃ k : Nat, k ≤ N ∧ i = .int .i64 k ∧ Hid ((n.q.take k).all pkB = true) ∧ Below (w.heap.size + 1) (nbox w pq N cq pa M ca) wr) (fun i _ => N - (intOf i).toNat)
  case atStart => exact ⟨0, Nat.zero_le _, rfl, Lib.hid (by simp), Below.refl _ _⟩
  case round =>
    obtain ⟨k, hk, rfl, HA, hb⟩ := hrel
    obtain ⟨c0, c1⟩ := boxed (Nat.lt_succ_self _) hb
    have hb2 : Below w.heap.size w wr := (one_new _ _).trans (hb.mono (by omega))
    have HB := Lib.hid hb2
    have HB0 := Lib.hid hb
    by_cases hlt : k < N
    · obtain ⟨b, o, f, t, pu, L, cu, l, rfl, hbl, g0, g1, g2, HL, hu1, hu2, HW⟩ := (HO.out.below hb2).que.pkAt k (by rw [HO.out.nq]; omega)
      have HV : Hid (∀ w', Below wr.heap.size wr w' → Calls Try.prog 30 #[.agg #[.int .i64 f, .int .i64 t, .slice pu L cu]] w' (Ret (.bool (pkB (f, t, l))) w')) :=
        Lib.hid fun w' hb' => rpacket_any _ (f, t, l) w' (PKV.below ⟨_, rfl, HW.out.1, HW.out.2, HL.out.2.2⟩ hb')
      have HP : Hid (n.q[k]? = some (f, t, l)) := Lib.hid HL.out.1
      clear hb hb2 HL
      cases hv : pkB (f, t, l)
      all_goals
        rw [hv] at HV
        have HVV := Lib.hid hv
        clear hv
        go_wp2_with (go_at_call 30; refine (HV.out _ (Below.refl _ _)).mono ?_; rintro e w1 ⟨rfl, hb3⟩; have HB3 := Lib.hid (HB.out.trans (hb3.mono HB.out.size)); have HB4 := Lib.hid (HB0.out.trans (hb3.mono (by have := HB0.out.size; simp at this; omega))); clear hb3)
      · go_ret
        exact ⟨ret_int (by rw [HC.out]; unfold okQ; rw [List.all_eq_false.2 ⟨_, List.mem_of_getElem? HP.out, by rw [HVV.out]; simp⟩, Bool.and_false]; rfl), HB3.out⟩
      · go_roundw
        case rel => exact ⟨k + 1, by omega, by go_num, Lib.hid (by rw [List.take_add_one, HP.out, List.all_append, HA.out]; simp [HVV.out]), HB4.out⟩
        case measure => simp [intOf]; omega
    · have HQ : Hid (okQ n.q = true) := Lib.hid (by
        unfold okQ
        have := HA.out
        rw [List.take_of_length_le (by rw [HO.out.nq]; omega)] at this
        rw [this, HO.out.nq]
        simp; omega)
      clear HA
      go_wp2_with fail
      go_loopw [4] (fun i wr => ∃ k : Nat, k ≤ M ∧ i = .int .i64 k ∧ Hid (OkUp n.a k) ∧ Below (w.heap.size + 1) (nbox w pq N cq pa M ca) wr) (fun i _ => M - (intOf i).toNat)
      case atStart => exact ⟨0, Nat.zero_le _, rfl, Lib.hid (okUp_zero n.a), hb⟩
      case round =>
        clear hb hb2 c0 c1 hlt hk HB HB0
        obtain ⟨k, hk, rfl, HA, hb⟩ := hrel
        obtain ⟨c0, c1⟩ := boxed (Nat.lt_succ_self _) hb
        have hb2 : Below w.heap.size w wr := (one_new _ _).trans (hb.mono (by omega))
        have HB := Lib.hid hb2
        have HB0 := Lib.hid hb
        have hzr : w.heap.size < wr.heap.size := by have := hb.size; simp at this; omega
        by_cases hlt : k < M
        · obtain ⟨b, o, x, y, rfl, hbl, g0, g1, HL, HW⟩ := (HO.out.below hb2).apa.lkAt k (by rw [HO.out.na]; omega)
          have HX := fun W => site_any x W
          have HY := fun W => site_any y W
          have HLK : Hid (lkB (x, y) = ((siteB x && siteB y) && decide (x < y))) := Lib.hid rfl
          generalize siteB x = sx at HX HLK
          generalize siteB y = sy at HY HLK
          have HX := Lib.hid HX
          have HY := Lib.hid HY
          clear hb hb2
          have hbad : ∀ W : World, Hid (lkB (x, y) = false) → Hid (Below w.heap.size w W) → Ret (.int .i64 (chk n)) w (.returned (.int .i64 60)) W := fun W h1 h2 => ⟨ret_int (by rw [HC.out, okA_bad1 HL.out h1.out, Bool.and_false]; rfl), h2.out⟩
          have HBAD := Lib.hid hbad
          clear hbad
          cases sx
          · go_wp2_with (go_at_call 33; refine (HX.out _).mono ?_; rintro e w1 ⟨rfl, rfl⟩)
            go_ret
            exact HBAD.out _ (Lib.hid (by rw [HLK.out]; rfl)) (Lib.hid (HB.out.trans ((one_new _ _).mono HB.out.size)))
          cases sy
          · go_wp2_with fail
            refine (HX.out _).mono ?_
            rintro e w1 ⟨rfl, rfl⟩
            go_wp2_with fail
            refine (HY.out _).mono ?_
            rintro e w1 ⟨rfl, rfl⟩
            go_wp2_with fail
            go_ret
            exact HBAD.out _ (Lib.hid (by rw [HLK.out]; rfl)) (Lib.hid (HB.out.trans ((one_new _ _).mono HB.out.size)))
          by_cases hxy : y ≤ x
          · have HN := Lib.hid hxy
            go_wp2_with fail
            refine (HX.out _).mono ?_
            rintro e w1 ⟨rfl, rfl⟩
            go_wp2_with fail
            refine (HY.out _).mono ?_
            rintro e w1 ⟨rfl, rfl⟩
            go_wp2_with fail
            go_ret
            exact HBAD.out _ (Lib.hid (by rw [HLK.out]; have := HN.out; simp; omega)) (Lib.hid (HB.out.trans ((one_new _ _).mono HB.out.size)))
          have HL0 : Hid (lkB (x, y) = true) := Lib.hid (by rw [HLK.out]; simp; omega)
          clear HBAD HLK
          go_wp2_with fail
          refine (HX.out _).mono ?_
          rintro e w1 ⟨rfl, rfl⟩
          go_wp2_with fail
          refine (HY.out _).mono ?_
          rintro e w1 ⟨rfl, rfl⟩
          go_wp2_with fail
          clear HX HY
          obtain ⟨r0, r1⟩ := boxed (w := wr) (a := .int .i64 x) (b := .int .i64 y) (T := 55) (Nat.lt_succ_self _) (Below.refl _ _)
          have HB1 := Lib.hid (HB.out.trans ((one_new wr (.cells #[.int .i64 x, .int .i64 y] 55)).mono HB.out.size))
          have HB2 := Lib.hid (HB0.out.trans ((one_new wr (.cells #[.int .i64 x, .int .i64 y] 55)).mono (by have := HB0.out.size; simp at this; omega)))
          have hz : wr.heap.size < (wr.alloc (.cells #[.int .i64 x, .int .i64 y] 55)).heap.size := by simp
          have c0' := (bcells (one_new wr (.cells #[.int .i64 x, .int .i64 y] 55)) hzr 0).trans c0
          have c1' := (bcells (one_new wr (.cells #[.int .i64 x, .int .i64 y] 55)) hzr 1).trans c1
          clear c0 c1 g0 g1
          generalize (wr.alloc (.cells #[.int .i64 x, .int .i64 y] 55)) = W1 at *
          have C1 := Later.cell (by omega) c1'
          have R0 := Later.cell hz r0
          have R1 := Later.cell hz r1
          cases k with
          | zero =>
            refine wp_region_later (by kernel_rfl) (by kernel_rfl) ?_
            repeat (go_big_quiet_step (fail))
            refine wpQuiet_nil ?_
            intro _ hw'
            obtain ⟨X, hx⟩ := hw'
            subst hx
            go_wp2_with fail
            go_roundw
            case rel => exact ⟨1, by omega, by go_num, Lib.hid (OkUp.first HL.out HL0.out), HB2.out.trans (X.b.mono (by have := HB2.out.size; simp at this; omega))⟩
            case measure => simp [intOf]; omega
          | succ k =>
            obtain ⟨b', o', x', y', hp, hbl', g0', g1', HL', HW'⟩ := (HO.out.below HB1.out).apa.lkAt k (by rw [HO.out.na]; omega)
            cases hp
            have G0 := Later.cell hbl' g0'
            have G1 := Later.cell hbl' g1'
            clear r0 r1 c0' c1' g0' g1'
            have e1 : ((k + 1 : Nat) : Int) - 1 = (k : Int) := by omega
            have e2 : ((k : Int) + 1) - 1 = (k : Int) := by omega
            have e3 : decide ((0 : Int) < ((k : Int) + 1)) = true := by simp
            have e4 : decide ((0 : Int) < (((k + 1 : Nat)) : Int)) = true := by simp
            have e5 : (k : Int) < (M : Int) := by omega
            have hbad : ∀ W : World, Hid (ltL (x', y') (x, y) = false) → Hid (Below w.heap.size w W) → Ret (.int .i64 (chk n)) w (.returned (.int .i64 60)) W := fun W h1 h2 => ⟨ret_int (by rw [HC.out, okA_bad2 HL'.out HL.out h1.out, Bool.and_false]; rfl), h2.out⟩
            have HBAD := Lib.hid hbad
            clear hbad
            rcases Int.lt_trichotomy x x' with hx | hx | hx
            · have HN := Lib.hid hx
              have d1 : decide (x < x') = true := by simp; omega
              refine wp_region_later (by kernel_rfl) (by kernel_rfl) ?_
              repeat (go_big_quiet_step (fail))
              refine wpQuiet_nil ?_
              intro _ hw'
              obtain ⟨X, hx⟩ := hw'
              subst hx
              go_wp2_with fail
              go_ret
              exact HBAD.out _ (Lib.hid (ltL_no (.inl HN.out))) (Lib.hid (HB1.out.trans (X.b.mono HB1.out.size)))
            · subst hx
              have d1 : decide (x < x) = false := by simp
              have d2 : (x == x) = true := by simp
              by_cases hy : y ≤ y'
              · have HN := Lib.hid hy
                have d3 : decide (y ≤ y') = true := by simp; omega
                refine wp_region_later (by kernel_rfl) (by kernel_rfl) ?_
                repeat (go_big_quiet_step (fail))
                refine wpQuiet_nil ?_
                intro _ hw'
                obtain ⟨X, hx⟩ := hw'
                subst hx
                go_wp2_with fail
                go_ret
                exact HBAD.out _ (Lib.hid (ltL_no (.inr ⟨rfl, HN.out⟩))) (Lib.hid (HB1.out.trans (X.b.mono HB1.out.size)))
              · have HN : Hid (y' < y) := Lib.hid (by omega)
                have d3 : decide (y ≤ y') = false := by simp; omega
                refine wp_region_later (by kernel_rfl) (by kernel_rfl) ?_
                repeat (go_big_quiet_step (fail))
                refine wpQuiet_nil ?_
                intro _ hw'
                obtain ⟨X, hx⟩ := hw'
                subst hx
                go_wp2_with fail
                go_roundw
                case rel => exact ⟨k + 2, by omega, by go_num, Lib.hid (HA.out.step HL'.out HL.out HL0.out (ltL_yes (.inr ⟨rfl, HN.out⟩))), HB2.out.trans (X.b.mono (by have := HB2.out.size; simp at this; omega))⟩
                case measure => simp [intOf]; omega
            · have HN := Lib.hid hx
              have d1 : decide (x < x') = false := by simp; omega
              have d2 : (x == x') = false := by simp; omega
              refine wp_region_later (by kernel_rfl) (by kernel_rfl) ?_
              repeat (go_big_quiet_step (fail))
              refine wpQuiet_nil ?_
              intro _ hw'
              obtain ⟨X, hx⟩ := hw'
              subst hx
              go_wp2_with fail
              go_roundw
              case rel => exact ⟨k + 2, by omega, by go_num, Lib.hid (HA.out.step HL'.out HL.out HL0.out (ltL_yes (.inl HN.out))), HB2.out.trans (X.b.mono (by have := HB2.out.size; simp at this; omega))⟩
              case measure => simp [intOf]; omega
        · go_wp2_with fail
          go_ret
          have hkM : k = M := by omega
          exact ⟨ret_int (by rw [HC.out, HQ.out, HA.out.full (by rw [HO.out.na]; omega)]; rfl), hb2⟩
end Go.Proofs.Ytpempgajejbdoaa
