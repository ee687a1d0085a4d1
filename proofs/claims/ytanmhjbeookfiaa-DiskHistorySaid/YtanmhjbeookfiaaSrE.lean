/-
  sane() of the disk's statements: the last part of its run.
-/
import Derived.Test.YtanmhjbeookfiaaSt
namespace Go.Proofs.Ytanmhjbeookfiaa
open Go Go.RowKit Simul
set_option maxRecDepth 100000 in
theorem srE : closedFrom Try.prog 100000 10 (st4 Try.prog) (.bool true) = true := by kernel_rfl
end Go.Proofs.Ytanmhjbeookfiaa
