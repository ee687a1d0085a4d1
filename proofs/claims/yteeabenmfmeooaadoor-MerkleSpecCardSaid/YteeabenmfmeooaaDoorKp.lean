/-
  What a piece of code leaves alone: all blocks that were there but those of a set.
-/
import Derived.Test.YteeabenmfmeooaaDoorStx
namespace Go.Proofs.YteeabenmfmeooaaDoor
open Go Go.RowKit
structure Kp (G : Nat → Prop) (w w' : World) : Prop where
  os : w'.os = w.os
  tape : w'.tape = w.tape
  output : w'.output = w.output
  size : w.heap.size ≤ w'.heap.size
  block : ∀ k, k < w.heap.size → ¬ G k → w'.heap[k]? = w.heap[k]?
variable {G : Nat → Prop}
theorem Kp.refl (w : World) : Kp G w w := ⟨rfl, rfl, rfl, Nat.le_refl _, fun _ _ _ => rfl⟩
theorem Kp.of_below {w w' : World} (h : Below w.heap.size w w') : Kp G w w' := ⟨h.os, h.tape, h.output, h.size, fun k hk _ => h.block k hk⟩
theorem Kp.trans {w w1 w2 : World} (h : Kp G w w1) (k : Kp G w1 w2) : Kp G w w2 :=
  ⟨k.os.trans h.os, k.tape.trans h.tape, k.output.trans h.output, Nat.le_trans h.size k.size, fun j hj hG => (k.block j (Nat.lt_of_lt_of_le hj h.size) hG).trans (h.block j hj hG)⟩
theorem Kp.next {w w1 w2 : World} (h : Kp G w w1) (hb : Below w1.heap.size w1 w2) : Kp G w w2 := h.trans (.of_below hb)
theorem Kp.drew {w w1 : World} (h : Kp G w w1) : Kp G w w1.drew := ⟨h.os, h.tape, h.output, h.size, h.block⟩
/-- a block of the set, or a new one, is written -/
theorem Kp.chg {w w1 w2 : World} {g : Nat} (h : Kp G w w1) (hc : Chg g w1 w2) (hg : G g ∨ w.heap.size ≤ g) : Kp G w w2 :=
  ⟨hc.os.trans h.os, hc.tape.trans h.tape, hc.output.trans h.output, Nat.le_trans h.size hc.size, fun k hk hG => (hc.block k (Nat.lt_of_lt_of_le hk h.size) (fun e => by
    subst e
    rcases hg with hg | hg
    · exact hG hg
    · omega)).trans (h.block k hk hG)⟩
theorem Kp.cell {w w' : World} (h : Kp G w w') {b o : Nat} (hb : b < w.heap.size) (hG : ¬ G b) : w'.cell? ⟨b, o, none⟩ = w.cell? ⟨b, o, none⟩ := World.cell?_of_block (w := w) (a := ⟨b, o, none⟩) (h.block b hb hG)
theorem Kp.frozen {w w' : World} (h : Kp G w w') {b o : Nat} (hb : b < w.heap.size) (hG : ¬ G b) : w'.frozen? ⟨b, o, none⟩ = w.frozen? ⟨b, o, none⟩ := World.frozen?_of_block (w := w) (a := ⟨b, o, none⟩) (h.block b hb hG)
theorem Kp.below {m : Nat} {w w1 w2 : World} (hb : Below m w w1) (hm : m ≤ w1.heap.size) (h : Kp G w1 w2) (hG : ∀ k, k < m → ¬ G k) : Below m w w2 :=
  ⟨h.os.trans hb.os, h.tape.trans hb.tape, h.output.trans hb.output, Nat.le_trans hb.size h.size, fun k hk => (h.block k (by omega) (hG k hk)).trans (hb.block k hk)⟩
theorem Dg.lt {w : World} {g : Nat} {l : List UInt8} (h : Dg w g l) : g < w.heap.size := (Array.getElem?_eq_some_iff.1 h).1
theorem Dg.kp {w w' : World} {g : Nat} {l : List UInt8} (h : Dg w g l) (hk : Kp G w w') (hG : ¬ G g) : Dg w' g l := (hk.block g h.lt hG).trans h
theorem Dg.chg {w w' : World} {g k : Nat} {l : List UInt8} (h : Dg w g l) (hc : Chg k w w') (hne : g ≠ k) : Dg w' g l := (hc.block g h.lt hne).trans h
theorem range_kp {w w' : World} {b o : Nat} {xs : List Value} (h : w.rangeAt b o xs) (hk : Kp G w w') (hG : ¬ G b) : w'.rangeAt b o xs := fun j u hj => by
  have := h j u hj
  rw [World.cell?_of_block (w := w) (a := ⟨b, o + j, none⟩) (hk.block b (World.block_lt_of_cell? w _ this) hG)]
  exact this
theorem el_size {l : List UInt8} (h : l.length = 32) : (Tryd.prog.info? 30).map (·.size) = some (l.map byt).length := by rw [size26, List.length_map, h]
/-- a digest is stored, at a step of a region that draws its order -/
theorem dg_step {ops : Array Oper} {o : Oper} {a : Act} {w : World} {K : Act → World → Prop} {Q : Exit → Act → World → Prop} {E : Prop} (hgd : o.guard = none) (x y : Operand) (ho : o.op = .store 30 x y) (g : Nat) (l' l : List UInt8) (hl : Dg w g l') (hy : l'.length = 32) (hx : l.length = 32)
    (hp : a.eval x = .pointer (some ⟨g, 0, none⟩)) (hv : a.eval y = dgv l) (h : ∀ w2 : World, Hid (Dg w2 g l) → Chg g w w2 → K (a.put o.dst undef) w2) : if Region.wanted o (yielded ops a.tmps) = true then Oper.wp Tryd.prog o a w K Q else E := by
  have hw : Region.wanted o (yielded ops a.tmps) = true := by simp [Region.wanted, hgd]
  rw [if_pos hw]
  exact wp_store_row 30 x y ho g _ hp hv 30 _ hl (dg_size hx) (by simp [hx, hy]) (byt_one l) (h _ (Lib.hid (setRow_heap _ _ _ _ _ _ hl)) (chg_row _ _ _))
/-- a digest is loaded, at such a step -/
theorem dl_step {ops : Array Oper} {o : Oper} {a : Act} {w : World} {K : Act → World → Prop} {Q : Exit → Act → World → Prop} {E : Prop} (hgd : o.guard = none) (x : Operand) (ho : o.op = .load 30 x) (g : Nat) (l : List UInt8) (hl : Dg w g l) (hx : l.length = 32)
    (hp : a.eval x = .pointer (some ⟨g, 0, none⟩)) (h : K (a.put o.dst (dgv l)) w) : if Region.wanted o (yielded ops a.tmps) = true then Oper.wp Tryd.prog o a w K Q else E := by
  have hw : Region.wanted o (yielded ops a.tmps) = true := by simp [Region.wanted, hgd]
  rw [if_pos hw]
  exact wp_load_row 30 x ho g hp 30 _ (0, 0) _ hl Tryd.underlying30 rfl (dg_size hx) h
theorem dg_op {o : Oper} {a : Act} {w : World} {K : Act → World → Prop} {Q : Exit → Act → World → Prop} (x y : Operand) (ho : o.op = .store 30 x y) (g : Nat) (l' l : List UInt8) (hl : Dg w g l') (hy : l'.length = 32) (hx : l.length = 32)
    (hp : a.eval x = .pointer (some ⟨g, 0, none⟩)) (hv : a.eval y = dgv l) (h : ∀ w2 : World, Hid (Dg w2 g l) → Chg g w w2 → K (a.put o.dst undef) w2) : Oper.wp Tryd.prog o a w K Q :=
  wp_store_row 30 x y ho g _ hp hv 30 _ hl (dg_size hx) (by simp [hx, hy]) (byt_one l) (h _ (Lib.hid (setRow_heap _ _ _ _ _ _ hl)) (chg_row _ _ _))
theorem dl_op {o : Oper} {a : Act} {w : World} {K : Act → World → Prop} {Q : Exit → Act → World → Prop} (x : Operand) (ho : o.op = .load 30 x) (g : Nat) (l : List UInt8) (hl : Dg w g l) (hx : l.length = 32)
    (hp : a.eval x = .pointer (some ⟨g, 0, none⟩)) (h : K (a.put o.dst (dgv l)) w) : Oper.wp Tryd.prog o a w K Q := wp_load_row 30 x ho g hp 30 _ (0, 0) _ hl Tryd.underlying30 rfl (dg_size hx) h
abbrev zeros : List UInt8 := List.replicate 32 0
theorem al_op {o : Oper} {a : Act} {w : World} {K : Act → World → Prop} {Q : Exit → Act → World → Prop} {k : Nat} (hd' : o.dst = some k) (ho : o.op = .alloc 30) (h : ∀ (U : World) (ga : Nat), Below w.heap.size w U → w.heap.size ≤ ga → Hid (Dg U ga zeros) → K (a.put (some k) (.pointer (some ⟨ga, 0, none⟩))) U) :
    Oper.wp Tryd.prog o a w K Q := by
  have h1 := h _ w.heap.size (one_new w _) (Nat.le_refl _) (Lib.hid (zeros32 w))
  unfold Oper.wp execOp
  simp only [ho]
  go_simp
  exact h1
end Go.Proofs.YteeabenmfmeooaaDoor
