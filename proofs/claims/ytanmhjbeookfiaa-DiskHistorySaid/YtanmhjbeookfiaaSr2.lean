/-
  sane() of the disk's statements: part 2 of its run.
-/
import Derived.Test.YtanmhjbeookfiaaSt
namespace Go.Proofs.Ytanmhjbeookfiaa
open Go Go.RowKit Simul
set_option maxRecDepth 100000 in
theorem sr2 : adv Try.prog 100432 978 [st1 Try.prog] = some [st2 Try.prog] := by kernel_rfl
end Go.Proofs.Ytanmhjbeookfiaa
