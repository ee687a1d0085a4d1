/-
  Digest: pathLength.
-/
import Derived.Test.YtekboemijafplaaDoorTree
namespace Go.Proofs.YtekboemijafplaaDoor
open Go Go.RowKit
/-- how many digests a path has -/
def plen : Nat → Nat → Nat → Nat
  | 0, _, _ => 0
  | f + 1, at', n => if n ≤ 1 then 0 else if at' < half n then 1 + plen f at' (half n) else 1 + plen f (at' - half n) (n - half n)
theorem plen_fuel : ∀ (f f' at' n : Nat), n ≤ f → n ≤ f' → plen f at' n = plen f' at' n
  | 0, f', at', n, h, _ => by
    obtain rfl : n = 0 := by omega
    cases f' <;> simp [plen]
  | f + 1, 0, at', n, _, h => by
    obtain rfl : n = 0 := by omega
    simp [plen]
  | f + 1, f' + 1, at', n, h, h' => by
    unfold plen
    by_cases h1 : n ≤ 1
    · simp [h1]
    have hp := half_pos n
    have hl := half_lt (n := n) (by omega)
    rw [if_neg h1, if_neg h1, plen_fuel f f' at' (half n) (by omega) (by omega), plen_fuel f f' (at' - half n) (n - half n) (by omega) (by omega)]
def PL (at' n : Nat) : Nat := plen n at' n
theorem PL_one (at' : Nat) : PL at' 1 = 0 := by simp [PL, plen]
theorem PL_two (at' n : Nat) (h : 2 ≤ n) : PL at' n = if at' < half n then 1 + PL at' (half n) else 1 + PL (at' - half n) (n - half n) := by
  have hp := half_pos n
  have hl := half_lt h
  unfold PL
  obtain ⟨f, hf⟩ : ∃ f, n = f + 1 := ⟨n - 1, by omega⟩
  conv => lhs; rw [hf]; unfold plen; rw [← hf]
  rw [if_neg (by omega), plen_fuel f _ at' (half n) (by omega) (Nat.le_refl _), plen_fuel f _ (at' - half n) (n - half n) (by omega) (Nat.le_refl _)]
theorem PL_lt : ∀ (n at' : Nat), 1 ≤ n → PL at' n < n := fun n => Nat.strongRecOn n fun n ih => by
  intro at' h
  by_cases h1 : n = 1
  · subst h1; rw [PL_one]; omega
  have hp := half_pos n
  have hl := half_lt (n := n) (by omega)
  rw [PL_two _ _ (by omega)]
  have a := ih (half n) hl at' hp
  have b := ih (n - half n) (by omega) (at' - half n) (by omega)
  split <;> omega
theorem half_le_half {n : Nat} (h : n ≤ 64) (h2 : 2 ≤ n) : n - half n ≤ half n := by
  unfold half
  repeat' split
  all_goals omega
set_option maxHeartbeats 1000000 in
theorem pl_all : ∀ n, 1 ≤ n → n ≤ 64 → ∀ (at' : Nat) (w : World), at' < n → Calls Tryd.prog 41 #[.int .i64 (at' : Int), .int .i64 (n : Int)] w (Ret (.int .i64 (PL at' n : Int)) w) := fun n => Nat.strongRecOn n fun n ih => by
  intro h1 h64 at' w hat
  by_cases hn : n = 1
  · subst hn
    go_enter Tryd.func41, Tryd.ntmps41
    go_wp2_with fail
    go_ret
    exact ⟨rfl, Below.refl _ _⟩
  have hp := half_pos n
  have hl := half_lt (n := n) (by omega)
  have hn1 : ((n : Int) == 1) = false := by simp; omega
  by_cases hlt : at' < half n
  · have hr := ih (half n) hl hp (by omega) at'
    have hpl := PL_two at' n (by omega)
    rw [if_pos hlt] at hpl
    have hb := PL_lt (half n) at' hp
    have HR := Lib.hid hr
    have HP := Lib.hid hpl
    clear ih hr hpl
    go_enter Tryd.func41, Tryd.ntmps41
    go_wp2_with (first
      | (go_at_call 35; refine (fp_any n (by omega) h64 _).mono ?_; rintro e w1 ⟨rfl, hb1⟩)
      | (go_at_call 41; refine (HR.out _ hlt).mono ?_; rintro e w2 ⟨rfl, hb2⟩))
    go_ret
    refine ⟨?_, hb1.trans (hb2.mono hb1.size)⟩
    rw [HP.out]
    go_num
  · have hr := ih (n - half n) (by omega) (by omega) (by omega) (at' - half n)
    have hpl := PL_two at' n (by omega)
    rw [if_neg hlt] at hpl
    have hb := PL_lt (n - half n) (at' - half n) (by omega)
    have hs := hr
    have HR := Lib.hid hr
    have HP := Lib.hid hpl
    clear ih hr hpl hs
    have e1 : IntKind.i64.wrap ((at' : Int) - (half n : Int)) = ((at' - half n : Nat) : Int) := by rw [IntWalk.i64_in _ (by omega)]; omega
    have e2 : IntKind.i64.wrap ((n : Int) - (half n : Int)) = ((n - half n : Nat) : Int) := by rw [IntWalk.i64_in _ (by omega)]; omega
    go_enter Tryd.func41, Tryd.ntmps41
    go_wp2_with (first
      | (go_at_call 35; refine (fp_any n (by omega) h64 _).mono ?_; rintro e w1 ⟨rfl, hb1⟩)
      | (go_at_call 41; refine (HR.out _ (by omega)).mono ?_; rintro e w2 ⟨rfl, hb2⟩))
    go_ret
    refine ⟨?_, hb1.trans (hb2.mono hb1.size)⟩
    rw [HP.out]
    go_num
end Go.Proofs.YtekboemijafplaaDoor
