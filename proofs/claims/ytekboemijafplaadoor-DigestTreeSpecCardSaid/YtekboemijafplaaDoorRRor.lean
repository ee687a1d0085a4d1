/-
  Digest, the reference: words and their rotations.
-/
import Derived.Test.YtekboemijafplaaDoorRor
import Derived.BigQuiet
import Derived.Deep.QuietTactic
namespace Go.Proofs.YtekboemijafplaaDoor
open Go Go.RowKit
theorem or_comm32 (x y : Int) : bits .or .u32 x y = bits .or .u32 y x := by
  unfold bits
  dsimp only
  rw [BitVec.or_comm]
theorem rrorq_any (v : Int) (n : Nat) (h0 : 0 < n) (h1 : n < 32) (w : World) : Calls Tryd.prog 48 #[.int .u32 v, .int .i64 (n : Int)] w fun e w' => e = .returned (.int .u32 (rotr v n)) ∧ ∃ m, w' = w.drewN m := by
  have e1 : IntKind.i64.wrap (32 - (n : Int)) = ((32 - n : Nat) : Int) := by rw [IntWalk.i64_in _ (by omega)]; omega
  have i1 : (0 : Int) ≤ (n : Int) := by omega
  have i2 : (0 : Int) ≤ ((32 - n : Nat) : Int) := by omega
  go_enter Tryd.func48, Tryd.ntmps48
  go_wp2_with fail
  go_quiet (fail)
  go_wp2_with fail
  go_ret
  refine ⟨?_, _, rfl⟩
  unfold rotr rotl
  rw [show 32 - (32 - n) = n by omega, or_comm32]
  rfl
theorem rror_any (v : Int) (n : Nat) (h0 : 0 < n) (h1 : n < 32) (w : World) : Calls Tryd.prog 48 #[.int .u32 v, .int .i64 (n : Int)] w fun e w' => e = .returned (.int .u32 (rotr v n)) ∧ Below w.heap.size w w' := (rrorq_any v n h0 h1 w).mono fun e w' ⟨he, m, hm⟩ => ⟨he, by rw [hm]; exact ⟨rfl, rfl, rfl, Nat.le_refl _, fun _ _ => rfl⟩⟩
theorem rrorq6 (v : Int) (w : World) : Calls Tryd.prog 48 #[.int .u32 v, .int .i64 6] w fun e w' => e = .returned (.int .u32 (rotr v 6)) ∧ ∃ m, w' = w.drewN m := rrorq_any v 6 (by decide) (by decide) w
theorem rrorq11 (v : Int) (w : World) : Calls Tryd.prog 48 #[.int .u32 v, .int .i64 11] w fun e w' => e = .returned (.int .u32 (rotr v 11)) ∧ ∃ m, w' = w.drewN m := rrorq_any v 11 (by decide) (by decide) w
theorem rrorq25 (v : Int) (w : World) : Calls Tryd.prog 48 #[.int .u32 v, .int .i64 25] w fun e w' => e = .returned (.int .u32 (rotr v 25)) ∧ ∃ m, w' = w.drewN m := rrorq_any v 25 (by decide) (by decide) w
theorem rror6 (v : Int) (w : World) : Calls Tryd.prog 48 #[.int .u32 v, .int .i64 6] w fun e w' => e = .returned (.int .u32 (rotr v 6)) ∧ Below w.heap.size w w' := rror_any v 6 (by decide) (by decide) w
theorem rror11 (v : Int) (w : World) : Calls Tryd.prog 48 #[.int .u32 v, .int .i64 11] w fun e w' => e = .returned (.int .u32 (rotr v 11)) ∧ Below w.heap.size w w' := rror_any v 11 (by decide) (by decide) w
theorem rror25 (v : Int) (w : World) : Calls Tryd.prog 48 #[.int .u32 v, .int .i64 25] w fun e w' => e = .returned (.int .u32 (rotr v 25)) ∧ Below w.heap.size w w' := rror_any v 25 (by decide) (by decide) w
theorem rror2 (v : Int) (w : World) : Calls Tryd.prog 48 #[.int .u32 v, .int .i64 2] w fun e w' => e = .returned (.int .u32 (rotr v 2)) ∧ Below w.heap.size w w' := rror_any v 2 (by decide) (by decide) w
theorem rror13 (v : Int) (w : World) : Calls Tryd.prog 48 #[.int .u32 v, .int .i64 13] w fun e w' => e = .returned (.int .u32 (rotr v 13)) ∧ Below w.heap.size w w' := rror_any v 13 (by decide) (by decide) w
theorem rror22 (v : Int) (w : World) : Calls Tryd.prog 48 #[.int .u32 v, .int .i64 22] w fun e w' => e = .returned (.int .u32 (rotr v 22)) ∧ Below w.heap.size w w' := rror_any v 22 (by decide) (by decide) w
theorem rror7 (v : Int) (w : World) : Calls Tryd.prog 48 #[.int .u32 v, .int .i64 7] w fun e w' => e = .returned (.int .u32 (rotr v 7)) ∧ Below w.heap.size w w' := rror_any v 7 (by decide) (by decide) w
theorem rror18 (v : Int) (w : World) : Calls Tryd.prog 48 #[.int .u32 v, .int .i64 18] w fun e w' => e = .returned (.int .u32 (rotr v 18)) ∧ Below w.heap.size w w' := rror_any v 18 (by decide) (by decide) w
theorem rror17 (v : Int) (w : World) : Calls Tryd.prog 48 #[.int .u32 v, .int .i64 17] w fun e w' => e = .returned (.int .u32 (rotr v 17)) ∧ Below w.heap.size w w' := rror_any v 17 (by decide) (by decide) w
theorem rror19 (v : Int) (w : World) : Calls Tryd.prog 48 #[.int .u32 v, .int .i64 19] w fun e w' => e = .returned (.int .u32 (rotr v 19)) ∧ Below w.heap.size w w' := rror_any v 19 (by decide) (by decide) w
end Go.Proofs.YtekboemijafplaaDoor
