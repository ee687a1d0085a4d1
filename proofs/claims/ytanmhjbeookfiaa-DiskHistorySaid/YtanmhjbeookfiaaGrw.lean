/-
  Disks: slices.Grow of nil.
-/
import Derived.Test.YtanmhjbeookfiaaCat
namespace Go.Proofs.Ytanmhjbeookfiaa
open Go Go.RowKit
/-- an empty list of writes of the call's own -/
def Grown (w : World) (e : Ending) (w' : World) : Prop := ∃ v, e = .returned v ∧ OwnN 2 w' v 0 [] ∧ Below w.heap.size w w' ∧ (∀ k, v.ownBlock = some k → w.heap.size ≤ k)
set_option maxHeartbeats 1000000 in
theorem grow_any (m : Nat) (hm : m ≤ 1048576) (w : World) : Calls Try.prog 39 #[.slice none 0 0, .int .i64 (m : Int)] w (Grown w) := by
  by_cases h0 : m = 0
  · subst h0
    go_enter Try.func39, Try.ntmps39
    go_wp2_with fail
    go_ret
    exact ⟨_, rfl, OwnN.nil _ _, Below.refl _ _, fun k hk => by cases hk⟩
  · have hp : 0 < m := by omega
    go_enter Try.func39, Try.ntmps39
    go_wp2_with (at_builtin; refine wpList_zeros rfl (.tmp 20) (.tmp 21) rfl m rfl rfl hp hm ?_; intro c w1 hc1 hc2 hO1 hB1)
    go_ret
    exact ⟨_, rfl, hO1, hB1, fun k hk => by simp [Value.ownBlock] at hk; omega⟩
end Go.Proofs.Ytanmhjbeookfiaa
