/-
  Digest: the reference's half: the greatest power of 2 below n, for every n up to 2^40.
-/
import Derived.Test.YtekboemijafplaaDoorRNode
namespace Go.Proofs.YtekboemijafplaaDoor
open Go Go.RowKit
/-- the greatest power of 2 that is less than n -/
def hfx (n : Nat) : Nat := 2 ^ Nat.log2 (n - 1)
theorem hp_of {j n : Nat} (h1 : 2 ^ j < n) (h2 : n ≤ 2 * 2 ^ j) : 2 ^ j = hfx n := by
  unfold hfx
  have h0 : 0 < 2 ^ j := Nat.pow_pos (by omega)
  have : Nat.log2 (n - 1) = j := (Nat.log2_eq_iff (by omega)).2 ⟨by omega, by rw [Nat.pow_succ]; omega⟩
  rw [this]
theorem hp_half {n : Nat} (h : 2 ≤ n) (h2 : n ≤ 64) : hfx n = half n := by
  have h9 : (List.range 65).all (fun n => decide (2 ≤ n → hfx n = half n)) = true := by decide +kernel
  exact of_decide_eq_true (List.all_eq_true.1 h9 n (List.mem_range.2 (by omega))) h
theorem hp_pos (n : Nat) : 1 ≤ hfx n := Nat.pow_pos (by omega)
theorem hp_lt {n : Nat} (h : 2 ≤ n) : hfx n < n := by
  unfold hfx
  have := Nat.log2_self_le (n := n - 1) (by omega)
  omega
set_option maxRecDepth 100000 in
set_option maxHeartbeats 1000000 in
theorem rhalf_any (n : Nat) (h0 : 2 ≤ n) (h1 : n ≤ 1099511627776) (w : World) : Calls Tryd.prog 37 #[.int .i64 (n : Int)] w (Ret (.int .i64 (hfx n : Int)) w) := by
  go_enter Tryd.func37, Tryd.ntmps37
  go_wp2_with fail
  go_loopw [3] (fun i w' => ∃ j : Nat, 2 ^ j < n ∧ i = .int .i64 ((2 ^ j : Nat) : Int) ∧ w' = w) (fun i _ => n - (intOf i).toNat)
  case atStart => exact ⟨0, by omega, rfl, rfl⟩
  case round =>
    obtain ⟨j, hj, rfl, rfl⟩ := hrel
    have hp0 : 0 < 2 ^ j := Nat.pow_pos (by omega)
    have hps : 2 ^ (j + 1) = 2 * 2 ^ j := by rw [Nat.pow_succ]; omega
    have hpo := @hp_of j n hj
    generalize hx : 2 ^ j = x at *
    by_cases hlt : 2 * x < n
    · have c1 : 2 * (x : Int) < (n : Int) := by omega
      go_wp2_with fail
      go_roundw
      case rel => exact ⟨j + 1, by omega, by rw [hps]; go_num, by first | trivial | rfl⟩
      case measure => simp [intOf]; omega
    · have c1 : ¬ 2 * (x : Int) < (n : Int) := by omega
      go_wp2_with fail
      go_ret
      rw [← hpo (by omega)]
      exact ⟨rfl, Below.refl _ _⟩
end Go.Proofs.YtekboemijafplaaDoor
