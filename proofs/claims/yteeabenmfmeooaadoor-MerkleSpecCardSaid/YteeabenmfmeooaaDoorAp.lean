/-
  Merkle: bytes that a law appends itself, in a region that draws its order; parts of a list of byte slices.
-/
import Derived.Test.YteeabenmfmeooaaDoorFe
import Derived.Test.YteeabenmfmeooaaDoorKp
namespace Go.Proofs.YteeabenmfmeooaaDoor
open Go Go.RowKit
theorem grown_below {m : Nat} {w w1 w2 : World} {o : Option Nat} (h : Below m w w1) (hm : m ≤ w1.heap.size) (hg : w1.grownBy w2 o) (ho : ∀ k, o = some k → m ≤ k) : Below m w w2 :=
  ⟨hg.os.trans h.os, hg.tape.trans h.tape, hg.output.trans h.output, Nat.le_trans h.size hg.size, fun k hk => (hg.block k (by omega) (fun e => by have := ho k e.symm; omega)).trans (h.block k hk)⟩
theorem own_below {w w' : World} {v : Value} {xs : List Value} (h : Own w v xs) (hb : Below w.heap.size w w') : Own w' v xs := h.keep hb.size fun k hk => hb.block k (h.lt hk)
theorem bytes_op {o : Oper} {a : Act} {w : World} {K : Act → World → Prop} {Q : Exit → Act → World → Prop} (s x : Operand) (ho : o.op = .call { callee := .builtin .append, args := #[s, x], argTypes := #[34, 34] })
    (v xv : Value) (l l' : List UInt8) (hs : a.eval s = v) (hown : Own w v (l.map byt)) (hx : a.eval x = xv) (hb : BV w xv l') (hl : l.length + l'.length ≤ 1099511627776)
    (h : ∀ v' w', Hid (Own w' v' ((l ++ l').map byt)) → w.grownBy w' v.ownBlock → (v'.ownBlock = v.ownBlock ∨ ∃ k, v'.ownBlock = some k ∧ w.heap.size ≤ k) → K (a.put o.dst v') w') : Oper.wp Tryd.prog o a w K Q := by
  have h5 := info5
  cases hi : Tryd.prog.info? 5 with
  | none => rw [hi] at h5; cases h5
  | some i =>
    rw [hi] at h5
    simp only [Option.map_some, Option.some.injEq, Prod.mk.injEq] at h5
    obtain ⟨s1, s2, s3⟩ := h5
    refine wp_own s x 34 34 ho 5 i (.int .u8 0) 1 Tryd.underlying34 hi s3 s1 s2 rfl v xv (l.map byt) hs hown l'.length (l'.map byt) hx (bv_src hb) (by rw [List.length_map]; unfold maxLen; omega) (by rw [List.length_map]; omega) ?_
    intro v' w' h1 h2 h3
    exact h v' w' (Lib.hid (by rw [List.map_append]; exact h1)) h2 h3
theorem own_empty (w : World) : Own (w.alloc (.cells #[] 5)) (.slice (some ⟨w.heap.size, 0, none⟩) 0 0) (([] : List UInt8).map byt) := Own.made w #[] 5 0 (by simp) (by simp)
theorem bs0_op {o : Oper} {a : Act} {w : World} {K : Act → World → Prop} {Q : Exit → Act → World → Prop} {k : Nat} (hd : o.dst = some k) (ho : o.op = .buildSlice 34 0 #[])
    (h : ∀ (U : World) (g : Nat), Hid (Own U (.slice (some ⟨g, 0, none⟩) 0 0) (([] : List UInt8).map byt)) → Below w.heap.size w U → w.heap.size ≤ g → K (a.put (some k) (.slice (some ⟨g, 0, none⟩) 0 0)) U) : Oper.wp Tryd.prog o a w K Q := by
  have h1 := h _ _ (Lib.hid (own_empty w)) (one_new w _) (Nat.le_refl _)
  unfold Oper.wp execOp
  simp only [ho]
  go_simp
  exact h1
theorem LB.pre {w : World} {b o n cap : Nat} {l : List (List UInt8)} (h : LB w (.slice (some ⟨b, o, none⟩) n cap) l) (k : Nat) (hk : k ≤ l.length) : LB w (.slice (some ⟨b, o, none⟩) k cap) (l.take k) := by
  obtain ⟨b', cap', p, hv, h1, h2, h3, h4⟩ := h
  cases hv
  have hl : (l.take k).length = k := by rw [List.length_take]; omega
  refine ⟨b, cap, _, by rw [hl], by omega, h2, h3, ?_⟩
  rcases h4 with rfl | ⟨o', e, hlt, hc⟩
  · exact .inl (by simp)
  · cases e
    refine .inr ⟨o, rfl, hlt, fun j x hj => hc j x ?_⟩
    rw [List.getElem?_take] at hj
    split at hj
    · exact hj
    · cases hj
theorem LB.suf {w : World} {b o n cap : Nat} {l : List (List UInt8)} (h : LB w (.slice (some ⟨b, o, none⟩) n cap) l) (k : Nat) (hk : k ≤ l.length) : LB w (.slice (some ⟨b, o + k, none⟩) (n - k) (cap - k)) (l.drop k) := by
  obtain ⟨b', cap', p, hv, h1, h2, h3, h4⟩ := h
  cases hv
  have hl : (l.drop k).length = l.length - k := by rw [List.length_drop]
  refine ⟨b, cap - k, _, by rw [hl], by omega, by omega, (fun e => by cases e), ?_⟩
  rcases h4 with rfl | ⟨o', e, hlt, hc⟩
  · exact .inl (by simp)
  · cases e
    refine .inr ⟨o + k, rfl, hlt, fun j x hj => ?_⟩
    rw [List.getElem?_drop] at hj
    rw [show o + k + j = o + (k + j) by omega]
    exact hc _ x hj
theorem Dg.other {w w' : World} {g g' : Nat} {l : List UInt8} (h : Dg w g l) (hc : Chg g' w w') (hne : g ≠ g') : Dg w' g l := (hc.block g h.lt hne).trans h
end Go.Proofs.YteeabenmfmeooaaDoor
