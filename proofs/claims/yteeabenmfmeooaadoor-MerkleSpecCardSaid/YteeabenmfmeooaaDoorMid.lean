/-
  Two appends in a region that draws its order: what the first has made.
-/
import Derived.Test.YteeabenmfmeooaaDoorVl
namespace Go.Proofs
open Go Go.RowKit
/-- a slice of the call's own, all in memory that W does not have -/
structure Mid (sz : Nat) (W w1 : World) (v : Value) (n : Nat) (xs : List Value) : Prop where
  own : OwnN sz w1 v n xs
  below : Below W.heap.size W w1
  new : ∀ k, v.ownBlock = some k → W.heap.size ≤ k
theorem mid_empty {sz : Nat} {W w : World} (T : TypeId) (h : Below W.heap.size W w) : Mid sz W (w.alloc (.cells #[] T)).drew (.slice (some ⟨w.heap.size, 0, none⟩) 0 0) 0 [] :=
  ⟨.inr ⟨w.heap.size, 0, rfl, ⟨Nat.le_refl _, by unfold maxLen; omega, by show _ < (w.alloc _).heap.size; simp, by simp, fun j hj => by omega, fun j => by show (w.alloc _).frozen? _ = _; simp, fun j u hu => by cases hu⟩⟩,
    ⟨h.os, h.tape, h.output, by have := h.size; simp; omega, fun k hk => (heap_alloc_old w _ (by have := h.size; omega)).trans (h.block k hk)⟩, fun k e => by cases e; exact h.size⟩
theorem Mid.alloc {sz : Nat} {W w1 : World} {v : Value} {n : Nat} {xs : List Value} (h : Mid sz W w1 v n xs) (o : Obj) : Mid sz W (w1.alloc o) v n xs :=
  ⟨h.own.alloc o, h.below.alloc h.below.size _, h.new⟩
/-- behind an empty block another block -/
theorem mid_empty2 {sz : Nat} {W : World} (T : TypeId) (o : Obj) : Mid sz W ((W.alloc (.cells #[] T)).alloc o).drew (.slice (some ⟨W.heap.size, 0, none⟩) 0 0) 0 [] := by
  have h := (mid_empty (sz := sz) (W := W) (w := W) T (Below.refl _ _)).alloc o
  exact ⟨h.own.keep (by show _ ≤ ((W.alloc _).alloc o).heap.size; simp) (fun _ _ => rfl), ⟨h.below.os, h.below.tape, h.below.output, h.below.size, h.below.block⟩, h.new⟩
theorem Mid.next {sz : Nat} {W w1 w2 : World} {v v2 : Value} {n m : Nat} {xs ys : List Value} (h : Mid sz W w1 v n xs) (ho : OwnN sz w2 v2 (n + m) (xs ++ ys)) (hg : w1.grownBy w2 v.ownBlock) (hn : v2.ownBlock = v.ownBlock ∨ ∃ k, v2.ownBlock = some k ∧ w1.heap.size ≤ k) : Mid sz W w2 v2 (n + m) (xs ++ ys) :=
  ⟨ho, ⟨hg.os.trans h.below.os, hg.tape.trans h.below.tape, hg.output.trans h.below.output, Nat.le_trans h.below.size hg.size, fun k hk => (hg.block k (by have := h.below.size; omega) (fun e => by have := h.new k e.symm; omega)).trans (h.below.block k hk)⟩, fun j e => by
    rcases hn with h1 | ⟨k, h1, h2⟩
    · exact h.new j (by rw [← h1]; exact e)
    · rw [h1] at e
      cases e
      have := h.below.size
      omega⟩
theorem Mid.form {sz : Nat} {W w1 : World} {v : Value} {n : Nat} {xs : List Value} (h : Mid sz W w1 v n xs) (hn : 0 < n) : ∃ g cap, v = .slice (some ⟨g, 0, none⟩) n cap := by
  rcases h.own with ⟨_, h, _⟩ | ⟨g, cap, rfl, _⟩
  · omega
  · exact ⟨g, cap, rfl⟩
/-- the slice of m elements in a block of its own has these cells, where another block has grown -/
theorem VL.grown {sz : Nat} {w w' : World} {b o m c : Nat} {xs : List Value} {k : Option Nat} (h : VL sz w (.slice (some ⟨b, o, none⟩) m c) m xs) (hg : w.grownBy w' k) (hne : some b ≠ k) : VL sz w' (.slice (some ⟨b, o, none⟩) m c) m xs := by
  obtain ⟨p, c', e, h1, h2, h3, h4, h5, h6⟩ := h
  cases e
  refine ⟨_, c, rfl, h1, h2, h3, h4, h5, ?_⟩
  rcases h6 with h6 | ⟨b', o', e, hlt, hc⟩
  · exact .inl h6
  · cases e
    exact .inr ⟨b, o, rfl, Nat.lt_of_lt_of_le hlt hg.size, fun j u hj => (World.cell?_of_block (w := w) (a := ⟨b, o + j, none⟩) (hg.block b hlt hne)).trans (hc j u hj)⟩
theorem mid_second {sz : Nat} {W : World} (T : TypeId) (o : Obj) : Mid sz W ((W.alloc o).alloc (.cells #[] T)).drew (.slice (some ⟨W.heap.size + 1, 0, none⟩) 0 0) 0 [] := by
  have h := mid_empty (sz := sz) (W := W) (w := W.alloc o) T ((Below.refl _ _).alloc (Nat.le_refl _) _)
  rwa [World.size_alloc] at h
theorem bl_drew (w : World) : Below w.heap.size w w.drew := ⟨rfl, rfl, rfl, Nat.le_refl _, fun _ _ => rfl⟩
theorem vl_first {sz : Nat} {W w1 : World} {m : Nat} {xs : List Value} {o : Obj} {g : Nat} (h : VL sz (W.alloc o) (.slice (some ⟨W.heap.size, 0, none⟩) m m) m xs) (o' : Obj) (hg : (((W.alloc o).alloc o').drew).grownBy w1 (some (W.heap.size + 1))) (he : g = W.heap.size) : VL sz w1 (.slice (some ⟨g, 0, none⟩) m m) m xs := by
  subst he
  exact VL.grown ((h.below ((Below.refl _ _).alloc (Nat.le_refl _) o')).below (bl_drew _)) hg (fun e => by have := Option.some.inj e; omega)
theorem vl_second {sz : Nat} {W w1 : World} {m : Nat} {xs : List Value} {o o' : Obj} {g : Nat} (h : VL sz ((W.alloc o).alloc o') (.slice (some ⟨(W.alloc o).heap.size, 0, none⟩) m m) m xs) (hg : (((W.alloc o).alloc o').drew).grownBy w1 (some W.heap.size)) (he : g = W.heap.size + 1) : VL sz w1 (.slice (some ⟨g, 0, none⟩) m m) m xs := by
  subst he
  rw [World.size_alloc] at h
  exact VL.grown (h.below (bl_drew _)) hg (fun e => by have := Option.some.inj e; omega)
section
variable {P : Program}
theorem step_mid {sz n : Nat} {ops : Array Oper} {o : Oper} {a : Act} {w : World} {K : Act → World → Prop} {Q : Exit → Act → World → Prop} {E : Prop} (hgd : o.guard = none) (s x y : Operand) (gv : Value) (t : TypeId) (ho : o.op = .call { callee := .builtin .append, args := #[s, x], argTypes := #[t, t] }) (_ : a.eval y = gv)
    (e : TypeId) (i : TypeInfo) (z : Value) (bytes : Nat) (ht : P.underlying t = some (.slice e)) (hi : P.info? e = some i) (hz : i.zero = some z) (hsize : i.size = sz) (hpos : 0 < sz) (hby : i.bytes = bytes) (hzs : z.cells.size = sz)
    (v xv : Value) (hs : a.eval s = v) (hx : a.eval x = xv) (W : World) (xs : List Value) (hown : Mid sz W w v n xs) (m : Nat) (news : List Value) (hsrc : VL sz w xv m news)
    (h63 : n + m ≤ 1048576) (hbytes : bytes ≤ 65536)
    (h : ∀ v' w', Mid sz W w' v' (n + m) (xs ++ news) → w.grownBy w' v.ownBlock → K (a.put o.dst v') w') :
    if Region.wanted o (yielded ops a.tmps) = true then Oper.wp P o a w K Q else E := by
  have hw : Region.wanted o (yielded ops a.tmps) = true := by simp [Region.wanted, hgd]
  rw [if_pos hw]
  refine wp_ownN s x t t ho e i z bytes ht hi hz hsize hpos hby hzs v xv xs hs hown.own m news hx (hsrc.src ht) (by unfold maxLen; omega) ?_ fun v' w' h1 h2 h3 => h v' w' (hown.next h1 h2 h3) h2
  exact Nat.le_trans (Nat.mul_le_mul h63 hbytes) (by decide)
end
end Go.Proofs
