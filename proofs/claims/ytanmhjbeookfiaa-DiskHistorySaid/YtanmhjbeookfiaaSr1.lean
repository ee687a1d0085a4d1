/-
  sane() of the disk's statements: part 1 of its run.
-/
import Derived.Test.YtanmhjbeookfiaaSt
namespace Go.Proofs.Ytanmhjbeookfiaa
open Go Go.RowKit Simul
set_option maxRecDepth 100000 in
theorem sr1 : adv Try.prog 101410 416 [st0 Try.prog] = some [st1 Try.prog] := by kernel_rfl
end Go.Proofs.Ytanmhjbeookfiaa
