/-
  Digest: digests are compared.
-/
import Derived.Test.YteeabenmfmeooaaDoorDig
import Derived.DeepKeys
namespace Go.Proofs.YteeabenmfmeooaaDoor
open Go Go.RowKit
theorem part5 (l : List UInt8) (i : Nat) (hi : i < l.length) (w : World) : (part 5 (l.map byt).toArray i).run Tryd.prog w = .ok (byt (l.getD i 0)) w := by
  have h : (l.map byt).toArray[i]? = some (byt (l.getD i 0)) := by simp [List.getD, List.getElem?_eq_getElem hi]
  simp [part, isAgg, h]
theorem cells5' : Tryd.prog.cellsOf 5 = 1 := by kernel_rfl
theorem info5' : ∃ i, Tryd.prog.info? 5 = some i := by
  cases h : Tryd.prog.info? 5 with
  | none => exact absurd (show (Tryd.prog.info? 5).isSome = true by kernel_rfl) (by rw [h]; simp)
  | some i => exact ⟨i, rfl⟩
theorem u8_beq (a b : UInt8) : (((a.toNat : Int)) == ((b.toNat : Int))) = (a == b) := by
  by_cases hab : a = b
  · rw [hab, beq_self_eq_true, beq_self_eq_true]
  · have h1 : ¬ ((a.toNat : Int) = (b.toNat : Int)) := fun h => hab (UInt8.toNat_inj.1 (by omega))
    rw [beq_eq_false_iff_ne.2 hab, beq_eq_false_iff_ne.2 h1]
theorem eqItems_dg (l r : List UInt8) (d : Nat) (hl : l.length = 32) (hr : r.length = 32) (w : World) : ∀ is : List Nat, (∀ i ∈ is, i < 32) →
    (Op.eqItems (d + 1) 5 1 (l.map byt).toArray (r.map byt).toArray is).run Tryd.prog w = .ok (is.all fun i => l.getD i 0 == r.getD i 0) w
  | [], _ => by simp [Op.eqItems]
  | i :: is, h => by
    have hi := h i (List.mem_cons_self ..)
    have ih := eqItems_dg l r d hl hr w is (fun j hj => h j (List.mem_cons_of_mem _ hj))
    have e : (Op.equalIn (d + 1) 5 (byt (l.getD i 0)) (byt (r.getD i 0))).run Tryd.prog w = .ok (l.getD i 0 == r.getD i 0) w := by
      unfold byt
      rw [run_equalIn_int w d 5 .u8 .u8 _ _ Tryd.underlying5]
      rw [u8_beq]
    simp only [Op.eqItems, Sem.run_bind, Nat.mul_one, part5 l i (by omega) w, part5 r i (by omega) w, Result.andThen_ok, e]
    cases hb : (l.getD i 0 == r.getD i 0) with
    | false => simp only [List.all_cons, hb, Bool.false_and, Bool.not_false, if_true, Sem.run_pure]
    | true =>
      simp only [List.all_cons, hb, Bool.true_and, Bool.not_true, Bool.false_eq_true, if_false]
      exact ih
theorem all_range_eq (l r : List UInt8) (hl : l.length = 32) (hr : r.length = 32) : ((List.range 32).all fun i => l.getD i 0 == r.getD i 0) = (l == r) := by
  by_cases h : l = r
  · subst h; simp
  · have : (l == r) = false := by simpa using h
    rw [this]
    by_cases h2 : ((List.range 32).all fun i => l.getD i 0 == r.getD i 0) = true
    · exact absurd (List.ext_getElem (by omega) (fun i h3 h4 => by
        have := List.all_eq_true.1 h2 i (List.mem_range.2 (by omega))
        simpa [List.getD, List.getElem?_eq_getElem h3, List.getElem?_eq_getElem h4] using this)) h
    · simpa using h2
/-- two digests are compared -/
theorem dg_equal (l r : List UInt8) (hl : l.length = 32) (hr : r.length = 32) (w : World) : (Op.equalIn 10000 30 (dgv l) (dgv r)).run Tryd.prog w = .ok (l == r) w := by
  obtain ⟨i, hi⟩ := info5'
  rw [run_equalIn_array w 9999 _ _ Tryd.underlying30 hi, cells5', eqItems_dg l r 9998 hl hr w _ (fun i hi => List.mem_range.1 hi), all_range_eq l r hl hr]
end Go.Proofs.YteeabenmfmeooaaDoor
