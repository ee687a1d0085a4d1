/-
  A canonical run with arguments that hold no address serves every run.
-/
import Derived.Test.YtekboemijafplaaDoorSim3
namespace Go.Proofs.Simul
open Go Go.RowKit
section
variable {P : Program}
def closedRunA (P : Program) (n : Nat) (f : FuncId) (args : Array Value) (v : Value) : Bool :=
  match callBy P (go P n) f args bare0 with
  | some outs => outs.all fun x => veq 3 x.1 v
  | none => false
theorem calls_of_closedRunA (hm : P.follows .mixedOrders = true) {n : Nat} {f : FuncId} {args : Array Value} {v : Value} (hv : closed 3 v = true) (ha : args.toList.all (closed 3) = true) (h : closedRunA P n f args v = true) (w : World) :
    Calls P f args w fun e w' => e = .returned v ∧ Below w.heap.size w w' := by
  intro cs
  have hargs : VRs [] args args := ⟨rfl, fun i a b hi hj => by rw [hi] at hj; cases hj; exact VR.of_closed (closed_all ha hi)⟩
  unfold closedRunA at h
  split at h
  case h_2 => cases h
  rename_i outs hout
  have hno : ∀ (r : Nat) (x : Nat × Nat × Nat), ent ([] : Ren) r ≠ some x := fun r x h => by rw [ent_some] at h; simp at h
  have H0 : HR P (· < w.heap.size) [] bare0 w := ⟨fun _ h => h, rfl, fun r s hr => by obtain ⟨_, _, hr⟩ := hr; exact (hno _ _ hr).elim, fun r o ho => by simp [bare0] at ho, fun r r' s hr => by obtain ⟨_, _, hr⟩ := hr; exact (hno _ _ hr).elim,
    fun r s o hr => by obtain ⟨_, _, hr⟩ := hr; exact (hno _ _ hr).elim, fun r s n z c e fz hr => (hno _ _ hr).elim⟩
  obtain ⟨x, hx, u', w', v', fr, _, _, hb, hV, hsteps, hfn, hleave⟩ := callBy_ok (go_ok (rfl : Fine P) hm n) f args bare0 outs hout (· < w.heap.size) [] args w hargs H0 cs
  have hxv : x.1 = v := veq_eq _ _ _ (List.all_eq_true.1 h x hx)
  have : v' = v := by rw [hxv] at hV; exact hV.eq_of_closed hv
  subst this
  exact ⟨.returned v', w', fr, ⟨rfl, hb.os, hb.tape, hb.output, hb.size, hb.block⟩, hsteps, hfn, hleave⟩
end
end Go.Proofs.Simul
