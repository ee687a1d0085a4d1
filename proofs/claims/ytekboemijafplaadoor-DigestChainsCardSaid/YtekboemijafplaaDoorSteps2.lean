/-
  Digest: bytes that a region makes and appends to.
-/
import Derived.Test.YtekboemijafplaaDoorSteps
namespace Go.Proofs.YtekboemijafplaaDoor
open Go Go.RowKit
section
variable {ops : Array Oper} {o : Oper} {a : Act} {w : World} {K : Act → World → Prop} {Q : Exit → Act → World → Prop}
theorem wp_b0b {k : Nat} (hd' : o.dst = some k) (ho : o.op = .buildSlice 22 0 #[]) (h : ∀ (U : World) (g0 : Nat), Below w.heap.size w U → w.heap.size ≤ g0 → g0 < U.heap.size → Hid (Own U (.slice (some ⟨g0, 0, none⟩) 0 0) (([] : List UInt8).map byt)) → K (a.put (some k) (.slice (some ⟨g0, 0, none⟩) 0 0)) U) :
    Oper.wp Tryd.prog o a w K Q := by
  have h1 := h (w.alloc (.cells #[] 5)) w.heap.size (one_new _ _) (Nat.le_refl _) (by simp) (Lib.hid (own_empty w))
  unfold Oper.wp execOp
  simp only [ho]
  go_simp
  exact h1
theorem wp_apb {k : Nat} (hd' : o.dst = some k) (s x : Operand) (ho : o.op = .call { callee := .builtin .append, args := #[s, x], argTypes := #[22, 22] })
    (v xv : Value) (l l' : List UInt8) (hs : a.eval s = v) (hown : Own w v (l.map byt)) (hx : a.eval x = xv) (hb : BV w xv l') (hl : l.length + l'.length ≤ 1099511627776)
    (h : ∀ v' w', Hid (Own w' v' ((l ++ l').map byt)) → w.grownBy w' v.ownBlock → (v'.ownBlock = v.ownBlock ∨ ∃ k, v'.ownBlock = some k ∧ w.heap.size ≤ k) → K (a.put (some k) v') w') : o.wp Tryd.prog a w K Q := by
  have h5 := info5
  cases hi : Tryd.prog.info? 5 with
  | none => rw [hi] at h5; cases h5
  | some i =>
    rw [hi] at h5
    simp only [Option.map_some, Option.some.injEq, Prod.mk.injEq] at h5
    obtain ⟨s1, s2, s3⟩ := h5
    refine wp_own s x 22 22 ho 5 i (.int .u8 0) 1 Tryd.underlying22 hi s3 s1 s2 rfl v xv (l.map byt) hs hown l'.length (l'.map byt) hx (bv_src hb) (by rw [List.length_map]; unfold maxLen; omega) (by rw [List.length_map]; omega) ?_
    intro v' w' h1 h2 h3
    rw [hd']
    exact h v' w' (Lib.hid (by rw [List.map_append]; exact h1)) h2 h3
end
theorem own_grown_lt {w : World} {v v' : Value} {m : Nat} (hv : ∀ j, v.ownBlock = some j → m ≤ j) (hm : m ≤ w.heap.size) (h : v'.ownBlock = v.ownBlock ∨ ∃ k, v'.ownBlock = some k ∧ w.heap.size ≤ k) : ∀ j, v'.ownBlock = some j → m ≤ j := fun j e => by
  rcases h with h | ⟨k, h, h'⟩
  · exact hv j (by rw [← h]; exact e)
  · rw [h] at e
    have e' : k = j := Option.some.inj e
    omega
/-- one more behind a full list -/
theorem half_next {m : Nat} (hm : m = 1 ∨ m = 2 ∨ m = 4 ∨ m = 8 ∨ m = 16 ∨ m = 32) : half (m + 1) = m := by
  rcases hm with rfl | rfl | rfl | rfl | rfl | rfl <;> decide
theorem T_next {l : List (List UInt8)} {d : List UInt8} (hm : l.length = 1 ∨ l.length = 2 ∨ l.length = 4 ∨ l.length = 8 ∨ l.length = 16 ∨ l.length = 32) : T (l ++ [d]) = tg (bts sNode) (T l ++ T [d]) := by
  have hl : (l ++ [d]).length = l.length + 1 := by simp
  rw [T_node _ (by omega), hl, half_next hm]
  simp
theorem PA_next {l : List (List UInt8)} {d : List UInt8} (hm : l.length = 1 ∨ l.length = 2 ∨ l.length = 4 ∨ l.length = 8 ∨ l.length = 16 ∨ l.length = 32) : PA (l ++ [d]) l.length = [T l] := by
  have hl : (l ++ [d]).length = l.length + 1 := by simp
  rw [PA_two _ _ (by omega), hl, half_next hm, if_neg (by omega)]
  simp [PA_one]
end Go.Proofs.YtekboemijafplaaDoor
