/-
  Digest: single operations of a region that draws its order, with what they make named.
-/
import Derived.Test.YtekboemijafplaaDoorPeel
import Derived.Deep.RegionHeld2
namespace Go.Proofs.YtekboemijafplaaDoor
open Go Go.RowKit
section
variable {ops : Array Oper} {o : Oper} {a : Act} {w : World} {K : Act → World → Prop} {Q : Exit → Act → World → Prop} {E : Prop}
theorem ownN_empty (w : World) : OwnN 32 (w.alloc (.cells #[] 26)) (.slice (some ⟨w.heap.size, 0, none⟩) 0 0) ([] : List (List UInt8)).length (fl []) :=
  .inr ⟨w.heap.size, 0, rfl, ⟨Nat.le_refl _, by unfold maxLen; omega, by simp, rfl, fun j hj => by omega, fun j => by simp, fun j u hu => by cases hu⟩⟩
theorem wp_b0 {k : Nat} (hd' : o.dst = some k) (ho : o.op = .buildSlice 30 0 #[]) (h : ∀ (U : World) (g0 : Nat), Below w.heap.size w U → w.heap.size ≤ g0 → g0 < U.heap.size → Hid (OwnN 32 U (.slice (some ⟨g0, 0, none⟩) 0 0) ([] : List (List UInt8)).length (fl [])) → K (a.put (some k) (.slice (some ⟨g0, 0, none⟩) 0 0)) U) :
    Oper.wp Tryd.prog o a w K Q := by
  have h1 := h (w.alloc (.cells #[] 26)) w.heap.size (one_new _ _) (Nat.le_refl _) (by simp) (Lib.hid (ownN_empty w))
  unfold Oper.wp execOp
  simp only [ho]
  go_simp
  exact h1
theorem wp_b1 {k : Nat} (hd' : o.dst = some k) (t : Nat) (ho : o.op = .buildSlice 30 1 #[(0, .tmp t)]) (d : List UInt8) (hx : a.eval (.tmp t) = dgv d) (hd : d.length = 32)
    (h : ∀ (U : World) (g1 : Nat), Below w.heap.size w U → w.heap.size ≤ g1 → g1 < U.heap.size → Hid (LD U (.slice (some ⟨g1, 0, none⟩) 1 1) [d]) → K (a.put (some k) (.slice (some ⟨g1, 0, none⟩) 1 1)) U) :
    Oper.wp Tryd.prog o a w K Q := by
  have h1 := h (w.alloc (.cells (d.map byt).toArray 26)) w.heap.size (one_new _ _) (Nat.le_refl _) (by simp) (Lib.hid (ld_one w d hd))
  have hx' : a.tmps[t]?.getD undef = dgv d := by simpa [Act.eval] using hx
  have hF := fold_dg d hd
  have hFn : ¬ (32 < d.length) := by omega
  unfold Oper.wp execOp
  simp only [ho]
  go_simp
  exact h1
theorem wp_al {k : Nat} (hd' : o.dst = some k) (ho : o.op = .alloc 26) (h : ∀ (U : World) (ga : Nat), Below w.heap.size w U → w.heap.size ≤ ga → ga < U.heap.size → Hid (Dg U ga zeros) → K (a.put (some k) (.pointer (some ⟨ga, 0, none⟩))) U) :
    Oper.wp Tryd.prog o a w K Q := by
  have h1 := h (w.alloc Z26) w.heap.size (one_new _ _) (Nat.le_refl _) (by simp) (Lib.hid (zeros32 w))
  unfold Oper.wp execOp
  simp only [ho]
  go_simp
  exact h1
theorem wp_ap {k : Nat} (hd' : o.dst = some k) (s x : Operand) (ho : o.op = .call { callee := .builtin .append, args := #[s, x], argTypes := #[30, 30] })
    (v xv : Value) (l l' : List (List UInt8)) (hs : a.eval s = v) (hown : OwnN 32 w v l.length (fl l)) (hx : a.eval x = xv) (hb : LD w xv l') (h32 : D32 l') (hl : l.length + l'.length ≤ 1000)
    (h : ∀ v' w', Hid (OwnN 32 w' v' (l ++ l').length (fl (l ++ l'))) → w.grownBy w' v.ownBlock → (v'.ownBlock = v.ownBlock ∨ ∃ k, v'.ownBlock = some k ∧ w.heap.size ≤ k) → K (a.put (some k) v') w') : o.wp Tryd.prog a w K Q :=
  wp_digs s x ho v xv l l' hs hown hx hb h32 hl (fun v' w' h1 h2 h3 => by rw [hd']; exact h v' w' h1 h2 h3)
theorem wp_st (x y : Operand) (hd' : o.dst = none) (ho : o.op = .store 26 x y) (g : Nat) (l' l : List UInt8) (hl : Dg w g l') (hy : l'.length = 32) (hx : l.length = 32)
    (hp : a.eval x = .pointer (some ⟨g, 0, none⟩)) (hv : a.eval y = dgv l) (h : ∀ w2 : World, Hid (Dg w2 g l) → Chg g w w2 → K a w2) : o.wp Tryd.prog a w K Q :=
  wp_store_row 26 x y ho g _ hp hv 26 _ hl (dg_size hx) (by simp [hx, hy]) (byt_one l) (by rw [hd']; exact h _ (Lib.hid (setRow_heap _ _ _ _ _ _ hl)) (chg_row _ _ _))
end
theorem ld_grown {w w' : World} {o : Option Nat} {g n cap off : Nat} {l : List (List UInt8)} (h : LD w (.slice (some ⟨g, off, none⟩) n cap) l) (hg : w.grownBy w' o) (hne : ∀ k, o = some k → g ≠ k) : LD w' (.slice (some ⟨g, off, none⟩) n cap) l := by
  obtain ⟨b', cap', p, hv, h1, h2, h3, h4⟩ := h
  cases hv
  refine ⟨g, cap, _, rfl, h1, h2, h3, ?_⟩
  rcases h4 with h4 | ⟨o', e, hlt, hc⟩
  · exact .inl h4
  · cases e
    exact .inr ⟨off, rfl, Nat.lt_of_lt_of_le hlt hg.size, fun j u hj => by rw [World.cell?_of_block (w := w) (a := ⟨g, off + j, none⟩) (hg.block g hlt (fun e => hne g e.symm rfl))]; exact hc j u hj⟩
end Go.Proofs.YtekboemijafplaaDoor
