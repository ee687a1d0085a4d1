/-
  Small words on worlds, for any program.
-/
import Derived.Test.YteeabenmfmeooaaDoorLater
namespace Go.Proofs
open Go Go.RowKit
theorem below_set {m k o : Nat} {w w' : World} (h : Below m w w') (hk : m ≤ k) (v : Value) : Below m w (w'.setCell ⟨k, o, none⟩ v) :=
  ⟨h.os, h.tape, h.output, by simpa [World.setCell] using h.size, fun j hj => by
    rw [Below.heap_setCell _ _ _ _ (by simp only; omega)]
    exact h.block j hj⟩
theorem one_new (w : World) (o : Obj) : Below w.heap.size w (w.alloc o) := (Below.refl _ _).alloc (Nat.le_refl _) _
/-- block g alone has changed, and there are new ones -/
structure Chg (g : Nat) (w w' : World) : Prop where
  os : w'.os = w.os
  tape : w'.tape = w.tape
  output : w'.output = w.output
  size : w.heap.size ≤ w'.heap.size
  block : ∀ k, k < w.heap.size → k ≠ g → w'.heap[k]? = w.heap[k]?
theorem Chg.refl (g : Nat) (w : World) : Chg g w w := ⟨rfl, rfl, rfl, Nat.le_refl _, fun _ _ _ => rfl⟩
theorem Chg.trans {g : Nat} {w w1 w2 : World} (h : Chg g w w1) (k : Chg g w1 w2) : Chg g w w2 :=
  ⟨k.os.trans h.os, k.tape.trans h.tape, k.output.trans h.output, Nat.le_trans h.size k.size, fun j hj hg => (k.block j (Nat.lt_of_lt_of_le hj h.size) hg).trans (h.block j hj hg)⟩
theorem Chg.of_below {g : Nat} {w w' : World} (h : Below w.heap.size w w') : Chg g w w' := ⟨h.os, h.tape, h.output, h.size, fun k hk _ => h.block k hk⟩
/-- a block that the call made itself has changed: nothing that was there -/
theorem Chg.below {g m : Nat} {w w1 w2 : World} (h : Below m w w1) (hm : m ≤ w1.heap.size) (hg : m ≤ g) (k : Chg g w1 w2) : Below m w w2 :=
  ⟨k.os.trans h.os, k.tape.trans h.tape, k.output.trans h.output, Nat.le_trans h.size k.size, fun j hj => (k.block j (by omega) (by omega)).trans (h.block j hj)⟩
theorem Chg.cell {g b o : Nat} {w w' : World} (h : Chg g w w') (hb : b < w.heap.size) (hg : b ≠ g) : w'.cell? ⟨b, o, none⟩ = w.cell? ⟨b, o, none⟩ := World.cell?_of_block (w := w) (a := ⟨b, o, none⟩) (h.block b hb hg)
theorem Chg.set {g k o : Nat} {w w' : World} (h : Chg g w w') (hk : k = g ∨ w.heap.size ≤ k) (v : Value) : Chg g w (w'.setCell ⟨k, o, none⟩ v) :=
  ⟨h.os, h.tape, h.output, by simpa [World.setCell] using h.size, fun j hj hg => by
    rw [Below.heap_setCell _ _ _ _ (by simp only; omega)]
    exact h.block j hj hg⟩
end Go.Proofs
