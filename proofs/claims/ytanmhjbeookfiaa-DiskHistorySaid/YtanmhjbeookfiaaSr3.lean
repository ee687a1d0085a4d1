/-
  sane() of the disk's statements: part 3 of its run.
-/
import Derived.Test.YtanmhjbeookfiaaSt
namespace Go.Proofs.Ytanmhjbeookfiaa
open Go Go.RowKit Simul
set_option maxRecDepth 100000 in
theorem sr3 : adv Try.prog 100430 2 [st2 Try.prog] = some [st3 Try.prog] := by kernel_rfl
end Go.Proofs.Ytanmhjbeookfiaa
