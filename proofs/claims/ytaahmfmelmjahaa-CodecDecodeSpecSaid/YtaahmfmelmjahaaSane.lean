/-
  sane() of the codec's statements returns true, in every world.
-/
import Derived.Test.YtaahmfmelmjahaaRows
import Derived.Test.YtaahmfmelmjahaaSim3
import Derived.Test.YtaahmfmelmjahaaLater
namespace Go.Proofs.Ytaahmfmelmjahaa
open Go Go.RowKit
theorem sane_run : Simul.closedRun Try.prog 100000 10 (.bool true) = true := by kernel_rfl
theorem sane_any (w : World) : Calls Try.prog 10 #[] w (Ret (.bool true) w) := Simul.calls_of_closedRun Try.checked.mixed (by kernel_rfl) sane_run w
end Go.Proofs.Ytaahmfmelmjahaa
