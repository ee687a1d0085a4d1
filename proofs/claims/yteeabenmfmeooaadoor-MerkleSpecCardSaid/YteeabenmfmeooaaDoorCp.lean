/-
  Merkle: climbing, as data.
-/
import Derived.Test.YteeabenmfmeooaaDoorCk
import Derived.Test.YteeabenmfmeooaaDoorStx
namespace Go.Proofs.YteeabenmfmeooaaDoor
open Go Go.RowKit
abbrev CS := List UInt8 × List (List UInt8)
/-- a step: the digest so far, and what is left of the path -/
def cst (z : Nat × Nat) (x : CS) : CS := if aloneB z.1 z.2 = true then x else (sha (stepT z.1 x.1 (x.2.headD [])), x.2.tail)
def csL (L : List (Nat × Nat)) (k : Nat) (x : CS) : CS := (L.take k).foldl (fun x z => cst z x) x
theorem cs_next {L : List (Nat × Nat)} {k : Nat} {z : Nat × Nat} (h : L[k]? = some z) (x : CS) : csL L (k + 1) x = cst z (csL L k x) := by
  unfold csL
  rw [List.take_add_one, h, List.foldl_append]
  rfl
theorem cs_zero (L : List (Nat × Nat)) (x : CS) : csL L 0 x = x := rfl
theorem cs_path (L : List (Nat × Nat)) (x : CS) : ∀ (k : Nat), k ≤ L.length → (csL L k x).2 = x.2.drop (cntL (L.take k))
  | 0, _ => by simp [cs_zero, cntL]
  | k + 1, h => by
    obtain ⟨z, hz⟩ : ∃ z, L[k]? = some z := ⟨_, List.getElem?_eq_getElem (by omega)⟩
    have ih := cs_path L x k (by omega)
    rw [cs_next hz, cnt_next hz]
    unfold cst
    cases ha : aloneB z.1 z.2
    · simp only [if_neg (show ¬ (false = true) by simp), ih, List.tail_drop]
    · simp only [if_true, ih, Nat.add_zero]
theorem cs_len (L : List (Nat × Nat)) (x : CS) (hx : x.1.length = 32) : ∀ (k : Nat), (csL L k x).1.length = 32 := by
  intro k
  induction k with
  | zero => exact hx
  | succ k ih =>
    cases hz : L[k]? with
    | none =>
      have : csL L (k + 1) x = csL L k x := by
        unfold csL
        rw [List.take_add_one, hz]
        simp
      rw [this]
      exact ih
    | some z =>
      rw [cs_next hz]
      unfold cst
      split
      · exact ih
      · exact sha_len _
/-- climbing -/
def climbB (i n : Nat) (leaf : List UInt8) (path : List (List UInt8)) : List UInt8 := (csL (stepsL i n) (stepsL i n).length (sha (leafT leaf), path)).1
theorem climb_len (i n : Nat) (leaf : List UInt8) (path : List (List UInt8)) : (climbB i n leaf path).length = 32 := cs_len _ _ (sha_len _) _
theorem cnt_all (L : List (Nat × Nat)) (k : Nat) : cntL (L.take k) ≤ cntL L := by
  unfold cntL
  exact (List.Sublist.filter _ (List.take_sublist k L)).length_le
/-- where a step is not alone, something of the path is left -/
theorem cs_more {L : List (Nat × Nat)} {k : Nat} {z : Nat × Nat} (h : L[k]? = some z) (ha : aloneB z.1 z.2 = false) (x : CS) (hx : x.2.length = cntL L) : ∃ o r, (csL L k x).2 = o :: r ∧ o ∈ x.2 := by
  have hk := (List.getElem?_eq_some_iff.1 h).1
  have h1 := cs_path L x k (by omega)
  have h2 := cnt_next h
  rw [ha] at h2
  have h3 := cnt_all L (k + 1)
  simp at h2
  cases hd : (csL L k x).2 with
  | nil =>
    rw [h1] at hd
    have := congrArg List.length hd
    rw [List.length_drop] at this
    simp at this
    omega
  | cons o r => exact ⟨o, r, rfl, List.mem_of_mem_drop (by rw [← h1, hd]; exact List.mem_cons_self ..)⟩
end Go.Proofs.YteeabenmfmeooaaDoor
