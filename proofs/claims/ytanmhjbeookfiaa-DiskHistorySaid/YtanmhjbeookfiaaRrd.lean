/-
  Disks: the reference's Read.
-/
import Derived.Test.YtanmhjbeookfiaaRwy
import Derived.Test.YtanmhjbeookfiaaFew
namespace Go.Proofs.Ytanmhjbeookfiaa
open Go Go.RowKit
/-- what a sector reads as after k of the writes -/
def cur (d : D) (a k : Nat) : List UInt8 := (d.p.take k).foldl (fun x y => if y.1 = (a : Int) then y.2 else x) (d.s.getD a [])
theorem cur_succ (d : D) (a k : Nat) {n : Int} {l : List UInt8} (h : d.p[k]? = some (n, l)) : cur d a (k + 1) = if n = (a : Int) then l else cur d a k := by
  obtain ⟨hlt, e⟩ := List.getElem?_eq_some_iff.1 h
  unfold cur
  rw [List.take_succ_eq_append_getElem hlt, List.foldl_append, e]
  rfl
def goodA (d : D) (a : Int) : Prop := runsB d = true ∧ inB d.s.length a = true
/-- it returns bytes and an error -/
def RetL (l : List UInt8) (E : Int) (w : World) (e : Ending) (w' : World) : Prop := ∃ v, e = .returned (.tuple #[v, .int .i64 E]) ∧ BV w' v l ∧ Below w.heap.size w w'
set_option maxHeartbeats 2000000 in
theorem rread_bad (v : Value) (d : D) (a : Int) (w : World) (h : DV w v d) (hn : ¬ goodA d a) : Calls Try.prog 22 #[v, .int .i64 a] w (RetL [] 40 w) := by
  obtain ⟨ps, N, cs, pp, M, cp, rfl, HO, hs1, hs2, hp1, hp2⟩ := h.op
  clear h
  have HR : Hid (∀ w', Below w.heap.size w w' → Calls Try.prog 16 #[dval d ps N cs pp M cp] w' (Ret (.int .i64 (chk d)) w')) := Lib.hid fun w' hb => rcheck_any _ d w' (HO.out.below hb).dv
  cases hv : valid d
  · rw [chk_no hv] at HR
    clear hv hn
    go_enter Try.func22, Try.ntmps22
    go_wp2_with (go_at_call 16; refine (HR.out _ (one_new _ _)).mono ?_; rintro e w1 ⟨rfl, hb1⟩; obtain ⟨c0, c1, c2, c3⟩ := boxed (Nat.lt_of_lt_of_eq (Nat.lt_succ_self _) (by simp)) hb1; have HB := Lib.hid (one_later hb1); clear hb1)
    go_ret2
    exact ⟨_, rfl, nil_BV _, HB.out⟩
  rw [chk_ok hv] at HR
  have hst2 : d.st = true ∨ d.st = false := by cases d.st <;> simp
  rcases hst2 with hst | hst
  · have HST := Lib.hid hst
    clear hv hst hn
    go_enter Try.func22, Try.ntmps22
    go_wp2_with (go_at_call 16; refine (HR.out _ (one_new _ _)).mono ?_; rintro e w1 ⟨rfl, hb1⟩; obtain ⟨c0, c1, c2, c3⟩ := boxed (Nat.lt_of_lt_of_eq (Nat.lt_succ_self _) (by simp)) hb1; have HB := Lib.hid (one_later hb1); clear hb1; have q := HST.out)
    go_ret2
    exact ⟨_, rfl, nil_BV _, HB.out⟩
  have hr := runs_true hv hst
  have HST := Lib.hid hst
  have hN := HO.out.n
  have hi2 : a < 0 ∨ (¬ a < 0 ∧ (N : Int) ≤ a) := by
    have hi : ¬ inB d.s.length a = true := fun h => hn ⟨hr, h⟩
    unfold inB at hi
    simp only [decide_eq_true_eq] at hi
    omega
  clear hr hv hst hn hN
  rcases hi2 with hi2 | ⟨hi1, hi2⟩
  all_goals
    go_enter Try.func22, Try.ntmps22
    go_wp2_with (go_at_call 16; refine (HR.out _ (one_new _ _)).mono ?_; rintro e w1 ⟨rfl, hb1⟩; obtain ⟨c0, c1, c2, c3⟩ := boxed (Nat.lt_of_lt_of_eq (Nat.lt_succ_self _) (by simp)) hb1; have HB := Lib.hid (one_later hb1); clear hb1; have q := HST.out)
    go_ret2
    exact ⟨_, rfl, nil_BV _, HB.out⟩
set_option maxHeartbeats 2000000 in
theorem rread_yes (v : Value) (d : D) (a : Int) (w : World) (h : DV w v d) (hn : goodA d a) : Calls Try.prog 22 #[v, .int .i64 a] w (RetL (cur d a.toNat d.p.length) 0 w) := by
  obtain ⟨hr, hi⟩ := hn
  obtain ⟨hv, hst⟩ := runs_of hr
  obtain ⟨ps, N, cs, pp, M, cp, rfl, HO, hs1, hs2, hp1, hp2⟩ := h.op
  clear h
  have HR : Hid (∀ w', Below w.heap.size w w' → Calls Try.prog 16 #[dval d ps N cs pp M cp] w' (Ret (.int .i64 0) w')) := Lib.hid fun w' hb => by
    have := rcheck_any _ d w' (HO.out.below hb).dv
    rwa [chk_ok hv] at this
  have HST := Lib.hid hst
  unfold inB at hi
  have hi' := of_decide_eq_true hi
  rw [HO.out.n] at hi'
  obtain ⟨A, rfl⟩ := Int.eq_ofNat_of_zero_le hi'.1
  have hA : A < N := by omega
  have HM := Lib.hid HO.out.m
  rw [Int.toNat_natCast]
  clear hr hi hv hst hi'
  have a1 : ¬ ((A : Nat) : Int) < 0 := by omega
  have a2 : ¬ (N : Int) ≤ (A : Int) := by omega
  go_enter Try.func22, Try.ntmps22
  go_wp2_with (go_at_call 16; refine (HR.out _ (one_new _ _)).mono ?_; rintro e w1 ⟨rfl, hb1⟩; obtain ⟨c0, c1, c2, c3⟩ := boxed (Nat.lt_of_lt_of_eq (Nat.lt_succ_self _) (by simp)) hb1; have HB := Lib.hid (one_later hb1); clear hb1; have q := HST.out; obtain ⟨b, o, pu, L, cu, l0, rfl, hbl, g0, HL, hu1, hu2⟩ := (HO.out.below HB.out).secAt A hA)
  have HC0 : Hid (BV w1 (.slice pu L cu) (cur d A 0)) := Lib.hid (by
    unfold cur
    rw [List.take_zero, List.foldl_nil, List.getD, HL.out.1]
    exact HL.out.2.2)
  go_loopw [6, 7] (fun x i wr => ∃ k : Nat, k ≤ M ∧ i = .int .i64 k ∧ wr = w1 ∧ Hid (BV w1 x (cur d A k))) (fun _ i _ => M - (intOf i).toNat)
  case atStart => exact ⟨0, Nat.zero_le _, rfl, rfl, HC0⟩
  case round =>
    clear HC0
    obtain ⟨k, hk, rfl, rfl, hc⟩ := hrel
    by_cases hlt : k < M
    · obtain ⟨b2, o2, n, pu2, L2, cu2, l2, rfl, hbl2, k0, k1, HL2, hv1, hv2, hw⟩ := (HO.out.below HB.out).penAt k hlt
      have hcs := cur_succ d A k HL2.out.1
      by_cases hna : n = (A : Int)
      · rw [if_pos hna] at hcs
        subst hna
        have hc2 : Hid (BV wr (.slice pu2 L2 cu2) (cur d A (k + 1))) := Lib.hid (by rw [hcs]; exact HL2.out.2.2)
        clear hcs
        go_wp2_with fail
        go_roundw
        case rel => exact ⟨k + 1, by omega, by go_num, trivial, hc2⟩
        case measure => simp [intOf]; omega
      · rw [if_neg hna] at hcs
        rw [← hcs] at hc
        have hnb : (n == (A : Int)) = false := by simp [hna]
        clear hcs
        go_wp2_with fail
        go_roundw
        case rel => exact ⟨k + 1, by omega, by go_num, trivial, hc⟩
        case measure => simp [intOf]; omega
    · obtain rfl : k = M := by omega
      go_wp2_with fail
      go_ret2
      exact ⟨_, rfl, by rw [HM.out]; exact hc.out, HB.out⟩
end Go.Proofs.Ytanmhjbeookfiaa
