/-
  Merkle: rows of digests, in memory of their own, that grow by one.
-/
import Derived.Test.YteeabenmfmeooaaDoorKp
import Derived.Test.YteeabenmfmeooaaDoorMid
import Derived.Test.YteeabenmfmeooaaDoorBs
namespace Go.Proofs.YteeabenmfmeooaaDoor
open Go Go.RowKit
theorem inf30 : ∃ i, Tryd.prog.info? 30 = some i ∧ i.zero = some (.agg (zeros.map byt).toArray) ∧ i.size = 32 ∧ i.bytes = 32 := by
  have h : (Tryd.prog.info? 30).map (fun i => (i.zero, i.size, i.bytes)) = some (some (.agg (zeros.map byt).toArray), 32, 32) := by kernel_rfl
  cases hi : Tryd.prog.info? 30 with
  | none => rw [hi] at h; cases h
  | some i =>
    rw [hi] at h
    simp only [Option.map_some, Option.some.injEq, Prod.mk.injEq] at h
    exact ⟨i, rfl, h.1, h.2.1, h.2.2⟩
theorem own_ld {w : World} {v : Value} {l : List (List UInt8)} (h : OwnN 32 w v l.length (fl l)) : LD w v l := by
  rcases h with ⟨rfl, hn, hx⟩ | ⟨g, cap, rfl, h⟩
  · obtain rfl : l = [] := List.eq_nil_of_length_eq_zero hn
    exact ⟨0, 0, _, rfl, Nat.le_refl _, Nat.zero_le _, fun _ => rfl, .inl rfl⟩
  · exact ⟨g, cap, _, rfl, h.le, h.mx, (fun e => by cases e), .inr ⟨0, rfl, h.lt, fun j u hj => by rw [Nat.zero_add]; exact h.cells j u hj⟩⟩
theorem dg_vl (w : World) {d : List UInt8} (hd : d.length = 32) : VL 32 (w.alloc (.cells (d.map byt).toArray 30)) (.slice (some ⟨w.heap.size, 0, none⟩) 1 1) 1 (d.map byt) :=
  ⟨_, 1, rfl, Nat.le_refl _, by unfold maxLen; omega, (fun e => by cases e), by simp [hd], (fun u hu => by
    obtain ⟨x, _, rfl⟩ := List.mem_map.1 hu
    rfl), .inr ⟨_, 0, rfl, by simp, fun j u hj => by
    rw [Nat.zero_add, World.cell?_alloc_new]
    simpa using hj⟩⟩
/-- a slice of one digest is built -/
theorem bs1_op {o : Oper} {a : Act} {w : World} {K : Act → World → Prop} {Q : Exit → Act → World → Prop} (t0 : Nat) (ho : o.op = .buildSlice 25 1 #[(0, .tmp t0)]) (d : List UInt8) (h0 : a.eval (.tmp t0) = dgv d) (hd : d.length = 32)
    (h : ∀ w2 : World, Hid (VL 32 w2 (.slice (some ⟨w.heap.size, 0, none⟩) 1 1) 1 (d.map byt)) → Below w.heap.size w w2 → K (a.put o.dst (.slice (some ⟨w.heap.size, 0, none⟩) 1 1)) w2) : Oper.wp Tryd.prog o a w K Q := by
  have h2 := h _ (Lib.hid (dg_vl w hd)) (one_new _ _)
  have h0' : a.tmps[t0]?.getD undef = dgv d := by simpa [Act.eval] using h0
  unfold Oper.wp execOp
  simp only [ho]
  go_simp
  rw [fold_row (d.map byt) 0 _ (by simp [hd])]
  simp [hd]
  exact h2
theorem wpList_bs1 {ops : Array Oper} {rest : List Oper} {o : Oper} {a : Act} {w : World} {Q : Exit → Act → World → Prop} (hgd : o.guard = none) (t0 : Nat) (ho : o.op = .buildSlice 25 1 #[(0, .tmp t0)]) (d : List UInt8) (h0 : a.eval (.tmp t0) = dgv d) (hd : d.length = 32)
    (h : ∀ w2 : World, Hid (VL 32 w2 (.slice (some ⟨w.heap.size, 0, none⟩) 1 1) 1 (d.map byt)) → Below w.heap.size w w2 → wpList Tryd.prog ops Q rest (a.put o.dst (.slice (some ⟨w.heap.size, 0, none⟩) 1 1)) w2) : wpList Tryd.prog ops Q (o :: rest) a w :=
  wpList_plain hgd fun _ hK => bs1_op t0 ho d h0 hd fun w2 h1 h2 => hK _ _ (h w2 h1 h2)
/-- one digest is appended to a row of its own -/
theorem add_op {o : Oper} {a : Act} {w : World} {K : Act → World → Prop} {Q : Exit → Act → World → Prop} (s x : Nat) (ho : o.op = .call { callee := .builtin .append, args := #[.tmp s, .tmp x], argTypes := #[25, 25] }) (v xv : Value) (hs : a.eval (.tmp s) = v) (hx : a.eval (.tmp x) = xv)
    (l : List (List UInt8)) (d : List UInt8) (hown : OwnN 32 w v l.length (fl l)) (hsrc : VL 32 w xv 1 (d.map byt)) (hn : l.length ≤ 1000000)
    (h : ∀ v' w', Hid (OwnN 32 w' v' (l ++ [d]).length (fl (l ++ [d]))) → w.grownBy w' v.ownBlock → (v'.ownBlock = v.ownBlock ∨ ∃ k, v'.ownBlock = some k ∧ w.heap.size ≤ k) → K (a.put o.dst v') w') : Oper.wp Tryd.prog o a w K Q := by
  obtain ⟨i0, hi0, hz0, hsz0, hby0⟩ := inf30
  refine wp_ownN (.tmp s) (.tmp x) 25 25 ho 30 i0 _ 32 Tryd.underlying25 hi0 hz0 hsz0 (by decide) hby0 (by simp [Value.cells]) v xv (fl l) hs hown 1 (d.map byt) hx (hsrc.src Tryd.underlying25) (by unfold maxLen; omega) (by omega) fun v' w' h1 h2 h3 => h v' w' (Lib.hid ?_) h2 h3
  rw [List.length_append, fl_append, fl_one]
  exact h1
theorem wpList_add {ops : Array Oper} {rest : List Oper} {o : Oper} {a : Act} {w : World} {Q : Exit → Act → World → Prop} (hgd : o.guard = none) (s x : Nat) (ho : o.op = .call { callee := .builtin .append, args := #[.tmp s, .tmp x], argTypes := #[25, 25] }) (v xv : Value) (hs : a.eval (.tmp s) = v) (hx : a.eval (.tmp x) = xv)
    (l : List (List UInt8)) (d : List UInt8) (hown : OwnN 32 w v l.length (fl l)) (hsrc : VL 32 w xv 1 (d.map byt)) (hn : l.length ≤ 1000000)
    (h : ∀ v' w', Hid (OwnN 32 w' v' (l ++ [d]).length (fl (l ++ [d]))) → w.grownBy w' v.ownBlock → (v'.ownBlock = v.ownBlock ∨ ∃ k, v'.ownBlock = some k ∧ w.heap.size ≤ k) → wpList Tryd.prog ops Q rest (a.put o.dst v') w') : wpList Tryd.prog ops Q (o :: rest) a w :=
  wpList_plain hgd fun _ hK => add_op s x ho v xv hs hx l d hown hsrc hn fun v' w' h1 h2 h3 => hK _ _ (h v' w' h1 h2 h3)
/-- a row in memory that w does not have -/
structure RowI (w wr : World) (v : Value) (l : List (List UInt8)) : Prop where
  own : OwnN 32 wr v l.length (fl l)
  new : ∀ k, v.ownBlock = some k → w.heap.size ≤ k
  below : Below w.heap.size w wr
theorem RowI.later {w wr w2 : World} {v : Value} {l : List (List UInt8)} (h : RowI w wr v l) (hb : Below wr.heap.size wr w2) : RowI w w2 v l :=
  ⟨h.own.keep hb.size fun k hk => hb.block k (h.own.lt hk), h.new, h.below.trans (hb.mono h.below.size)⟩
theorem RowI.next {w w1 w2 : World} {v v2 : Value} {l l2 : List (List UInt8)} (h : RowI w w1 v l) (ho : Hid (OwnN 32 w2 v2 l2.length (fl l2))) (hg : w1.grownBy w2 v.ownBlock) (hn : v2.ownBlock = v.ownBlock ∨ ∃ k, v2.ownBlock = some k ∧ w1.heap.size ≤ k) : RowI w w2 v2 l2 :=
  ⟨ho.out, fun j e => by
    rcases hn with h1 | ⟨k, h1, h2⟩
    · exact h.new j (by rw [← h1]; exact e)
    · rw [h1] at e
      cases e
      have := h.below.size
      omega, ⟨hg.os.trans h.below.os, hg.tape.trans h.below.tape, hg.output.trans h.below.output, Nat.le_trans h.below.size hg.size, fun k hk => (hg.block k (by have := h.below.size; omega) (fun e => by have := h.new k e.symm; omega)).trans (h.below.block k hk)⟩⟩
/-- it returns a new row -/
def RowR (l : List (List UInt8)) (w : World) (e : Ending) (w' : World) : Prop := ∃ v, e = .returned v ∧ Hid (RowI w w' v l)
end Go.Proofs.YteeabenmfmeooaaDoor
