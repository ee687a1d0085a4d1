/-
  sane() of the disk's statements: part 4 of its run.
-/
import Derived.Test.YtanmhjbeookfiaaSt
namespace Go.Proofs.Ytanmhjbeookfiaa
open Go Go.RowKit Simul
set_option maxRecDepth 100000 in
theorem sr4 : adv Try.prog 100000 430 [st3 Try.prog] = some [st4 Try.prog] := by kernel_rfl
end Go.Proofs.Ytanmhjbeookfiaa
