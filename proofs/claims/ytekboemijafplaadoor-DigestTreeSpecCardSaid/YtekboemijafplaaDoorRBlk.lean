/-
  Digest, the reference: a block is absorbed.
-/
import Derived.Test.YtekboemijafplaaDoorRWord
import Derived.Test.YtekboemijafplaaDoorDig
namespace Go.Proofs.YtekboemijafplaaDoor
open Go Go.RowKit
/-- the words of a state lie in block g, as an array -/
def S6 (w : World) (g : Nat) (s : R8) : Prop := w.heap[g]? = some (.cells (cells8 s) 56 (0, 0))
theorem S6.cell {w : World} {g : Nat} {s : R8} (hs : S6 w g s) {k : Nat} (h : k < 8) : w.cell? ⟨g, k, none⟩ = some (.int .u32 (nth8 s k)) := by
  unfold S6 at hs
  have := cells8_get s h
  simp [World.cell?, hs, this]
theorem S6.below {w w' : World} {g : Nat} {s : R8} (h : S6 w g s) (hb : Below w.heap.size w w') : S6 w' g s := (hb.block g (Array.getElem?_eq_some_iff.1 h).1).trans h
theorem S6.chg {w w' : World} {g k : Nat} {s : R8} (h : S6 w g s) (hb : Chg k w w') (hk : g ≠ k) : S6 w' g s := (hb.block g (Array.getElem?_eq_some_iff.1 h).1 hk).trans h
theorem Lay.below {w w' : World} {g : Nat} {xs : List Int} (h : Lay w g xs) (hb : Below w.heap.size w w') : Lay w' g xs := (hb.block g h.lt).trans h
def zero8 : R8 := ⟨0, 0, 0, 0, 0, 0, 0, 0⟩
/-- the boxes of a block's call -/
structure RB (w wr : World) (y : R8) : Prop where
  a : S6 wr w.heap.size y
  z : S6 wr (w.heap.size + 1) zero8
  below : Below w.heap.size w wr
  size : w.heap.size + 3 ≤ wr.heap.size
theorem RB.later {w wr w' : World} {y : R8} (h : RB w wr y) (hb : Below wr.heap.size wr w') : RB w w' y := ⟨h.a.below hb, h.z.below hb, h.below.trans (hb.mono h.below.size), Nat.le_trans h.size hb.size⟩
theorem RB.chg {w wr w' : World} {y : R8} {k : Nat} (h : RB w wr y) (hb : Chg k wr w') (hk : w.heap.size + 2 ≤ k) : RB w w' y :=
  ⟨h.a.chg hb (by omega), h.z.chg hb (by omega), Chg.below h.below h.below.size (by omega) hb, Nat.le_trans h.size hb.size⟩
theorem chg_set (g o : Nat) (w : World) (v : Value) : Chg g w (w.setCell ⟨g, o, none⟩ v) := (Chg.refl g w).set (.inl rfl) v
theorem rb_start (w : World) (y : R8) : RB w (((w.alloc (.cells (cells8 y) 56)).alloc (.cells (cells8 zero8) 56)).alloc (.cells (arr []) 66)) y ∧ Lay (((w.alloc (.cells (cells8 y) 56)).alloc (.cells (cells8 zero8) 56)).alloc (.cells (arr []) 66)) (w.heap.size + 2) [] := by
  have h0 : S6 (w.alloc (.cells (cells8 y) 56)) w.heap.size y := heap_alloc_new _ _
  have h1 : S6 ((w.alloc (.cells (cells8 y) 56)).alloc (.cells (cells8 zero8) 56)) (w.heap.size + 1) zero8 := by
    have := heap_alloc_new (w.alloc (.cells (cells8 y) 56)) (.cells (cells8 zero8) 56)
    rw [World.size_alloc] at this
    exact this
  have h2 : Lay (((w.alloc (.cells (cells8 y) 56)).alloc (.cells (cells8 zero8) 56)).alloc (.cells (arr []) 66)) (w.heap.size + 2) [] := by
    have := heap_alloc_new ((w.alloc (.cells (cells8 y) 56)).alloc (.cells (cells8 zero8) 56)) (.cells (arr []) 66)
    rw [World.size_alloc, World.size_alloc] at this
    exact this
  exact ⟨⟨(h0.below (one_new _ _)).below (one_new _ _), h1.below (one_new _ _), (((Below.refl _ _).alloc (Nat.le_refl _) _).alloc (by simp) _).alloc (by simp; omega) _, by simp⟩, h2⟩
def kcsA : Value := .agg (arr kcs)
theorem kcs_len : kcs.length = 64 := by decide
set_option maxRecDepth 100000 in
set_option maxHeartbeats 1000000 in
theorem rnum_any (w : World) : Calls Tryd.prog 49 #[] w fun e w' => e = .returned (.agg (arr kcs)) ∧ Below w.heap.size w w' := by
  have HL : Hid (Lay (w.alloc (.cells (arr []) 66)) w.heap.size []) := Lib.hid (heap_alloc_new _ _)
  go_enter Tryd.func49, Tryd.ntmps49
  go_wp2_with (refine lay_store2 rfl (.tmp 0) (.tmp 1) rfl w.heap.size [] kcs HL.out (Nat.zero_le _) kcs_len rfl rfl ?_; rintro w2 hl2 hc2)
  exact bodyPost_ret (results_cell_row rfl _ _ w.heap.size 66 _ (0, 0) _ rfl hl2 Tryd.underlying66 rfl (by rw [arr_size _ (Nat.le_of_eq kcs_len)]; exact info66)) rfl ⟨rfl, Chg.below (one_new w _) (one_new w _).size (Nat.le_refl _) hc2⟩
end Go.Proofs.YtekboemijafplaaDoor
