/-
  sane() of the disk's statements returns true, in every world.
-/
import Derived.Test.YtanmhjbeookfiaaSr1
import Derived.Test.YtanmhjbeookfiaaSr2
import Derived.Test.YtanmhjbeookfiaaSr3
import Derived.Test.YtanmhjbeookfiaaSr4
import Derived.Test.YtanmhjbeookfiaaSrE
import Derived.Test.YtanmhjbeookfiaaLater
namespace Go.Proofs.Ytanmhjbeookfiaa
open Go Go.RowKit Simul
theorem sane_run : closedRun Try.prog 101826 10 (.bool true) = true := by
  have h1 := go_adv sr1
  have h2 := go_adv sr2
  have h3 := go_adv sr3
  have h4 := go_adv sr4
  simp only [Nat.reduceAdd] at h1 h2 h3 h4
  exact closedRun_of (h1.trans (h2.trans (h3.trans h4))) srE
theorem sane_any (w : World) : Calls Try.prog 10 #[] w (Ret (.bool true) w) := Simul.calls_of_closedRun Try.checked.mixed (by kernel_rfl) sane_run w
end Go.Proofs.Ytanmhjbeookfiaa
