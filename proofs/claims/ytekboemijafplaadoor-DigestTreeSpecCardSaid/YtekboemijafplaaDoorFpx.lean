/-
  Digest: firstPart for every count up to 2^40.
-/
import Derived.Test.YtekboemijafplaaDoorLen
namespace Go.Proofs.YtekboemijafplaaDoor
open Go Go.RowKit
theorem pow_wrap : ∀ k, k < 40 → wrap64 ((2 : Int) ^ k) = ((2 ^ k : Nat) : Int) := by decide +kernel
set_option maxHeartbeats 1000000 in
theorem len_any (x : Nat) (h1 : 1 ≤ x) (h : x < 1099511627776) (w : World) : Calls Tryd.prog 50 #[.int .u64 (x : Int)] w (Ret (.int .i64 ((Nat.log2 x + 1 : Nat) : Int)) w) := by
  have C := Lib.hid (len64_any x h1 h)
  go_enter Tryd.func50, Tryd.ntmps50
  go_wp2_with (go_at_call 54; refine (C.out _).mono ?_; rintro e w1 ⟨rfl, hb1⟩)
  go_ret
  exact ⟨rfl, hb1⟩
set_option maxRecDepth 100000 in
set_option maxHeartbeats 1000000 in
theorem fpx_any (n : Nat) (h0 : 2 ≤ n) (h1 : n ≤ 1099511627776) (w : World) : Calls Tryd.prog 35 #[.int .i64 (n : Int)] w (Ret (.int .i64 (hfx n : Int)) w) := by
  have hk : Nat.log2 (n - 1) < 40 := (Nat.log2_lt (by omega)).2 (by omega)
  have e1 : IntKind.i64.wrap ((n : Int) - 1) = ((n - 1 : Nat) : Int) := by rw [IntWalk.i64_in _ (by omega)]; omega
  unfold hfx
  have C := Lib.hid (len_any (n - 1) (by omega) (by omega))
  generalize Nat.log2 (n - 1) = k at *
  go_enter Tryd.func35, Tryd.ntmps35
  go_wp2_with (go_at_call 50; refine (C.out _).mono ?_; rintro e w1 ⟨rfl, hb1⟩)
  go_ret
  refine ⟨?_, hb1⟩
  refine congrArg Ending.returned ?_
  refine congrArg (Value.int IntKind.i64) ?_
  exact pow_wrap k hk
set_option maxHeartbeats 1000000 in
theorem plen_all : ∀ n, 1 ≤ n → n ≤ 1099511627776 → ∀ (at' : Nat) (w : World), at' < n → Calls Tryd.prog 41 #[.int .i64 (at' : Int), .int .i64 (n : Int)] w (Ret (.int .i64 (QL at' n : Int)) w) := fun n => Nat.strongRecOn n fun n ih => by
  intro h1 h64 at' w hat
  by_cases hn : n = 1
  · subst hn
    go_enter Tryd.func41, Tryd.ntmps41
    go_wp2_with fail
    go_ret
    exact ⟨by rw [QL_one]; rfl, Below.refl _ _⟩
  have hp0 := hp_pos n
  have hl := hp_lt (n := n) (by omega)
  have hn1 : ((n : Int) == 1) = false := by simp; omega
  by_cases hlt : at' < hfx n
  · have hr := ih (hfx n) hl hp0 (by omega) at'
    have hpl := QL_two at' n (by omega)
    rw [if_pos hlt] at hpl
    have hb := QL_lt (hfx n) at' hp0
    have HR := Lib.hid hr
    have HP := Lib.hid hpl
    clear ih hr hpl
    go_enter Tryd.func41, Tryd.ntmps41
    go_wp2_with (first
      | (go_at_call 35; refine (fpx_any n (by omega) h64 _).mono ?_; rintro e w1 ⟨rfl, hb1⟩)
      | (go_at_call 41; refine (HR.out _ hlt).mono ?_; rintro e w2 ⟨rfl, hb2⟩))
    go_ret
    refine ⟨?_, hb1.trans (hb2.mono hb1.size)⟩
    rw [HP.out]
    go_num
  · have hr := ih (n - hfx n) (by omega) (by omega) (by omega) (at' - hfx n)
    have hpl := QL_two at' n (by omega)
    rw [if_neg hlt] at hpl
    have hb := QL_lt (n - hfx n) (at' - hfx n) (by omega)
    have HR := Lib.hid hr
    have HP := Lib.hid hpl
    clear ih hr hpl
    have e1 : IntKind.i64.wrap ((at' : Int) - (hfx n : Int)) = ((at' - hfx n : Nat) : Int) := by rw [IntWalk.i64_in _ (by omega)]; omega
    have e2 : IntKind.i64.wrap ((n : Int) - (hfx n : Int)) = ((n - hfx n : Nat) : Int) := by rw [IntWalk.i64_in _ (by omega)]; omega
    go_enter Tryd.func41, Tryd.ntmps41
    go_wp2_with (first
      | (go_at_call 35; refine (fpx_any n (by omega) h64 _).mono ?_; rintro e w1 ⟨rfl, hb1⟩)
      | (go_at_call 41; refine (HR.out _ (by omega)).mono ?_; rintro e w2 ⟨rfl, hb2⟩))
    go_ret
    refine ⟨?_, hb1.trans (hb2.mono hb1.size)⟩
    rw [HP.out]
    go_num
end Go.Proofs.YtekboemijafplaaDoor
