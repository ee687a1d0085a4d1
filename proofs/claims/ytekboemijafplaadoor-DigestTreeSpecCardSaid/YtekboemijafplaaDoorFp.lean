/-
  Digest: firstPart.
-/
import Derived.Test.YtekboemijafplaaDoorLeaf
import Derived.Test.YtekboemijafplaaDoorArg
import Derived.Test.YtekboemijafplaaDoorChecked
namespace Go.Proofs.YtekboemijafplaaDoor
open Go Go.RowKit
/-- the greatest power of 2 that is less than n, for n at least 2 and at most 64 -/
def half (n : Nat) : Nat := if n ≤ 2 then 1 else if n ≤ 4 then 2 else if n ≤ 8 then 4 else if n ≤ 16 then 8 else if n ≤ 32 then 16 else 32
set_option maxRecDepth 100000 in
theorem fp_run : (List.range 63).all (fun i => Simul.closedRunA Tryd.prog 1000 35 #[.int .i64 ((i + 2 : Nat) : Int)] (.int .i64 ((half (i + 2) : Nat) : Int))) = true := by kernel_rfl
theorem fp_any (n : Nat) (h0 : 2 ≤ n) (h1 : n ≤ 64) (w : World) : Calls Tryd.prog 35 #[.int .i64 (n : Int)] w (Ret (.int .i64 (half n : Int)) w) := by
  have h := List.all_eq_true.1 fp_run (n - 2) (List.mem_range.2 (by omega))
  rw [show n - 2 + 2 = n by omega] at h
  exact Simul.calls_of_closedRunA Tryd.checked.mixed (by simp [Simul.closed]) (by simp [Simul.closed]) h w
end Go.Proofs.YtekboemijafplaaDoor
