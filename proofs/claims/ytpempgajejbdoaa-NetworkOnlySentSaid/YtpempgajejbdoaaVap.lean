/-
  Links: validApart, the program's, on every list of pairs.
-/
import Derived.Test.YtpempgajejbdoaaApt
namespace Go.Proofs.Ytpempgajejbdoaa
open Go Go.RowKit Go.Sort
variable {F : Nat → Prop}
theorem neq55 (a b c d : Int) (w : World) : (binOp .neq 55 (.agg #[.int .i64 a, .int .i64 b]) (.agg #[.int .i64 c, .int .i64 d])).run Try.prog w = .ok (.bool (!(a == c && b == d))) w := by
  rw [run_neq_struct, lk_equal]
  rfl
theorem grow_below {W w' : World} {q : Nat} {os : Array Obj} (h : w' = grow (W.drewN q) os) : Below W.heap.size W w' := by
  subst h
  exact ⟨rfl, rfl, rfl, by simp [grow], fun k hk => by show (W.heap ++ os)[k]? = _; rw [Array.getElem?_append_left hk]⟩
theorem cmpl_below (x y : Lk) (w : World) : Calls Try.prog 38 #[lkv x, lkv y] w (Ret (.int .i64 (cmpL x y)) w) :=
  (cmpl_any x y w).mono fun _ _ ⟨he, _, _, hw⟩ => ⟨he, grow_below hw⟩
theorem link_below (a b : Int) (w : World) : Calls Try.prog 36 #[.int .i64 a, .int .i64 b] w (Ret (lkv (mkL a b)) w) :=
  (linkOf_any a b w).mono fun _ _ ⟨he, _, hw⟩ => ⟨he, by subst hw; exact one_new _ _⟩
theorem ends_below (a b : Int) (w : World) : Calls Try.prog 34 #[.int .i64 a, .int .i64 b] w (Ret (.bool (endsB a b)) w) :=
  (ends_any a b w).mono fun _ _ ⟨he, hw⟩ => ⟨he, by subst hw; exact Below.refl _ _⟩
set_option maxHeartbeats 1000000 in
theorem vapart_any (v : Value) (s : List Lk) (w : World) (h : AV F w v s) : Calls Try.prog 32 #[v] w (Ret (.bool (okA s)) w) := by
  obtain ⟨pa, ca, rfl, h1, h2, _⟩ := h.shape
  unfold maxLen at h2
  obtain ⟨M, hM⟩ : ∃ M, s.length = M := ⟨_, rfl⟩
  rw [hM] at h h1 ⊢
  have HQ := Lib.hid h
  have HM := Lib.hid hM
  clear h hM
  go_enter Try.func32, Try.ntmps32
  go_wp2_with fail
  go_loopw [7] (fun i wr => ∃ k : Nat, k ≤ M ∧ i = .int .i64 k ∧ Hid (OkUp s k) ∧ Below w.heap.size w wr) (fun i _ => M - (intOf i).toNat)
  case atStart => exact ⟨0, Nat.zero_le _, rfl, Lib.hid (okUp_zero s), Below.refl _ _⟩
  case round =>
    obtain ⟨k, hk, rfl, HA, hb⟩ := hrel
    by_cases hlt : k < M
    · obtain ⟨b, o, x, y, rfl, hbl, g0, g1, HL, HW⟩ := (HQ.out.below hb).lkAt k (by rw [HM.out]; omega)
      have HB := Lib.hid hb
      clear hb
      go_wp2_with fail
      obtain ⟨r0, r1⟩ := boxed (w := wr) (a := .int .i64 x) (b := .int .i64 y) (T := 55) (Nat.lt_succ_self _) (Below.refl _ _)
      have HB1 := Lib.hid (HB.out.trans ((one_new wr (.cells #[.int .i64 x, .int .i64 y] 55)).mono HB.out.size))
      have hz : wr.heap.size < (wr.alloc (.cells #[.int .i64 x, .int .i64 y] 55)).heap.size := by simp
      have g0' := (bcells (one_new wr (.cells #[.int .i64 x, .int .i64 y] 55)) hbl _).trans g0
      generalize (wr.alloc (.cells #[.int .i64 x, .int .i64 y] 55)) = W1 at *
      have C0 := Later.cell hz r0
      have C1 := Later.cell hz r1
      have HE := Lib.hid (fun X : Later W1 => ends_below x y X.v)
      have HK := Lib.hid (fun X : Later W1 => link_below x y X.v)
      have LE := fun W => lk_equal x y (mkL x y).1 (mkL x y).2 W
      have HLK := Lib.hid (lkB_ends x y)
      cases he : endsB x y
      · rw [he] at HE HLK
        have HL0 : Hid (lkB (x, y) = false) := Lib.hid (by rw [HLK.out]; rfl)
        clear he
        refine wp_region_later (by kernel_rfl) (by kernel_rfl) ?_
        repeat (go_big_quiet_step (first | (go_at_call 34; exact Later.calls (HE.out _)) | (go_at_call 36; exact Later.calls (HK.out _))))
        refine wpQuiet_nil ?_
        intro _ hw'
        obtain ⟨X, hx⟩ := hw'
        subst hx
        go_wp2_with fail
        go_ret
        exact ⟨ret_bool (okA_bad1 HL.out HL0.out).symm, HB1.out.trans (X.b.mono HB1.out.size)⟩
      · rw [he, Bool.true_and] at HLK
        rw [he] at HE
        cases hr : (x == (mkL x y).1 && y == (mkL x y).2)
        · rw [hr] at HLK
          have HL0 := Lib.hid HLK.out
          simp only [hr] at LE
          clear he hr
          refine wp_region_later (by kernel_rfl) (by kernel_rfl) ?_
          repeat (go_big_quiet_step (first | (go_at_call 34; exact Later.calls (HE.out _)) | (go_at_call 36; exact Later.calls (HK.out _))))
          refine wpQuiet_nil ?_
          intro _ hw'
          obtain ⟨X, hx⟩ := hw'
          subst hx
          go_wp2_with fail
          go_ret
          exact ⟨ret_bool (okA_bad1 HL.out HL0.out).symm, HB1.out.trans (X.b.mono HB1.out.size)⟩
        rw [hr] at HLK
        have HL0 := Lib.hid HLK.out
        simp only [hr] at LE
        clear he hr
        refine wp_region_later (by kernel_rfl) (by kernel_rfl) ?_
        repeat (go_big_quiet_step (first | (go_at_call 34; exact Later.calls (HE.out _)) | (go_at_call 36; exact Later.calls (HK.out _))))
        refine wpQuiet_nil ?_
        intro _ hw'
        obtain ⟨X, hx⟩ := hw'
        subst hx
        have HB2 := Lib.hid (HB1.out.trans (X.b.mono HB1.out.size))
        replace C0 := C0 X
        replace C1 := C1 X
        have hz2 : wr.heap.size < X.v.heap.size := Nat.lt_of_lt_of_le hz X.b.size
        clear HE HK LE r0 r1 g0' g0 g1 HLK
        obtain ⟨W2, hW2⟩ : ∃ W2, X.v = W2 := ⟨_, rfl⟩
        rw [hW2] at C0 C1 hz2 HB2 ⊢
        clear hW2 X
        have D0 := Later.cell hz2 C0
        have D1 := Later.cell hz2 C1
        cases k with
        | zero =>
          go_wp2_with fail
          refine wp_region_later (by kernel_rfl) (by kernel_rfl) ?_
          repeat (go_big_quiet_step (fail))
          refine wpQuiet_nil ?_
          intro _ hw'
          obtain ⟨X, hx⟩ := hw'
          subst hx
          go_wp2_with fail
          go_roundw
          case rel => exact ⟨1, by omega, by go_num, Lib.hid (OkUp.first HL.out HL0.out), HB2.out.trans (X.b.mono HB2.out.size)⟩
          case measure => simp [intOf]; omega
        | succ k =>
          obtain ⟨b', o', x', y', hp, hbl', g0', g1', HL', HW'⟩ := (HQ.out.below HB2.out).lkAt k (by rw [HM.out]; omega)
          cases hp
          have G0 := Later.cell hbl' g0'
          have G1 := Later.cell hbl' g1'
          have HC := Lib.hid (fun X : Later W2 => cmpl_below (x', y') (x, y) X.v)
          have HLT := Lib.hid (ltL_cmp (x', y') (x, y))
          generalize cmpL (x', y') (x, y) = r at HC HLT
          have e1 : ((k + 1 : Nat) : Int) - 1 = (k : Int) := by omega
          have e2 : ((k : Int) + 1) - 1 = (k : Int) := by omega
          have e3 : decide ((0 : Int) < ((k : Int) + 1)) = true := by simp
          have e4 : decide ((0 : Int) < (((k + 1 : Nat)) : Int)) = true := by simp
          have e5 : (k : Int) < (M : Int) := by omega
          go_wp2_with fail
          refine wp_region_later (by kernel_rfl) (by kernel_rfl) ?_
          repeat (go_big_quiet_step ((go_at_call 38; exact Later.calls (HC.out _))))
          refine wpQuiet_nil ?_
          intro _ hw'
          obtain ⟨X, hx⟩ := hw'
          subst hx
          by_cases hr : r < 0
          · have HR := Lib.hid hr
            have hr' : ¬ 0 ≤ r := by omega
            clear hr
            go_wp2_with fail
            go_roundw
            case rel => exact ⟨k + 2, by omega, by go_num, Lib.hid (HA.out.step HL'.out HL.out HL0.out (by rw [HLT.out]; exact decide_eq_true HR.out)), HB2.out.trans (X.b.mono HB2.out.size)⟩
            case measure => simp [intOf]; omega
          · have HR := Lib.hid hr
            have hr' : 0 ≤ r := by omega
            clear hr
            go_wp2_with fail
            go_ret
            exact ⟨ret_bool (okA_bad2 HL'.out HL.out (by rw [HLT.out]; exact decide_eq_false (by have := HR.out; omega))).symm, HB2.out.trans (X.b.mono HB2.out.size)⟩
    · go_wp2_with fail
      go_ret
      have hkM : k = M := by omega
      exact ⟨ret_bool (HA.out.full (by rw [HM.out]; omega)).symm, hb⟩
end Go.Proofs.Ytpempgajejbdoaa
