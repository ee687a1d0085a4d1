/-
  Digest: boxes that float in a region that draws its order.
-/
import Derived.Test.YtekboemijafplaaDoorPi
namespace Go.Proofs.YtekboemijafplaaDoor
open Go Go.RowKit
/-- a new box of zeros -/
abbrev Z26 : Obj := .cells ((List.replicate 32 (0 : UInt8)).map byt).toArray 26
theorem box_new {W : World} {g : Nat} (h : g = W.heap.size) : Dg (W.alloc Z26) g zeros := by
  subst h
  exact zeros32 W
theorem box_alloc {W : World} {g : Nat} {l : List UInt8} {o : Obj} (h : Dg W g l) : Dg (W.alloc o) g l := h.below (one_new W o)
theorem box_drew {W : World} {g : Nat} {l : List UInt8} (h : Dg W g l) : Dg W.drew g l := h
theorem box_row {W : World} {g g' : Nat} {l : List UInt8} {c : Array Value} (h : Dg W g l) (hg : g ≠ g') : Dg (W.setRow g' c) g l := (setRow_other W g' g c hg).trans h
theorem box_set {W : World} {g : Nat} {l l' : List UInt8} (h : Dg W g l') : Dg (W.setRow g (l.map byt).toArray) g l := setRow_heap _ _ _ _ _ _ h
theorem bel_alloc {m : Nat} {w W : World} {o : Obj} (h : Below m w W) (hm : m ≤ w.heap.size) : Below m w (W.alloc o) := h.trans ((one_new W o).mono (Nat.le_trans hm h.size))
theorem bel_row {m : Nat} {w W : World} {g : Nat} {c : Array Value} (h : Below m w W) (hm : m ≤ w.heap.size) (hg : m ≤ g) : Below m w (W.setRow g c) := Chg.below h (Nat.le_trans hm h.size) hg (chg_row W g c)
/-- two boxes are filled -/
theorem fin_step {K : World → Prop} {m : Nat} {w X : World} {g5 g6 : Nat} {a b : List UInt8} (h5 : Dg X g5 zeros) (h6 : Dg X g6 zeros) (hne : g5 ≠ g6) (hb : Below m w X) (hm : m ≤ w.heap.size) (i5 : m ≤ g5) (i6 : m ≤ g6)
    (h : ∀ U, Dg U g5 a → Dg U g6 b → Below m w U → K U) : K ((X.setRow g5 (a.map byt).toArray).setRow g6 (b.map byt).toArray) :=
  h _ (box_row (box_set h5) hne) (box_set (box_row h6 (fun e => hne e.symm))) (bel_row (bel_row hb hm i5) hm i6)
theorem keep_grown {w1 w2 : World} {o : Option Nat} {g : Nat} {l : List UInt8} (hd : Dg w1 g l) (hg : w1.grownBy w2 o) (hne : ∀ k, o = some k → g ≠ k) : Dg w2 g l :=
  (hg.block g (Array.getElem?_eq_some_iff.1 hd).1 (fun e => hne g e.symm rfl)).trans hd
theorem half_loop {k n : Nat} (hk : k = 1 ∨ k = 2 ∨ k = 4 ∨ k = 8 ∨ k = 16) (h1 : k < n) (h2 : ¬ (2 * k < n)) (hn : n ≤ 32) : k = half n := by
  unfold half
  repeat' split
  all_goals omega
end Go.Proofs.YtekboemijafplaaDoor
