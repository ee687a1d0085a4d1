/-
  Values that lie outside given blocks: told in the world with those blocks struck out.
-/
import Derived.Test.YtaahmfmelmjahaaStr
namespace Go.Proofs.Ytaahmfmelmjahaa
open Go Go.RowKit
/-- the world with the blocks of Z struck out -/
def Cut (Z : Nat → Bool) (w : World) : World := { w with heap := w.heap.mapIdx fun i o => if Z i = true then .cells #[] 0 (0, 0) else o }
theorem cut_size (Z : Nat → Bool) (w : World) : (Cut Z w).heap.size = w.heap.size := by simp [Cut]
theorem cut_in {Z : Nat → Bool} {k : Nat} (w : World) (h : Z k = false) : (Cut Z w).heap[k]? = w.heap[k]? := by
  simp only [Cut, Array.getElem?_mapIdx, h]
  cases w.heap[k]? <;> simp
theorem cut_out {Z : Nat → Bool} {b o : Nat} (w : World) (h : Z b = true) : (Cut Z w).cell? ⟨b, o, none⟩ = none := by
  have hb : (Cut Z w).heap[b]? = none ∨ (Cut Z w).heap[b]? = some (.cells #[] 0 (0, 0)) := by
    simp only [Cut, Array.getElem?_mapIdx, h]
    cases w.heap[b]? <;> simp
  rcases hb with hb | hb <;> simp [World.cell?, hb]
theorem cut_cell {Z : Nat → Bool} {w : World} {b o : Nat} {v : Value} (h : (Cut Z w).cell? ⟨b, o, none⟩ = some v) : Z b = false ∧ b < w.heap.size ∧ w.cell? ⟨b, o, none⟩ = some v := by
  cases hz : Z b with
  | true => rw [cut_out w hz] at h; cases h
  | false =>
    have hlt := World.block_lt_of_cell? _ _ h
    rw [cut_size] at hlt
    refine ⟨rfl, hlt, ?_⟩
    rw [← h]
    exact World.cell?_of_block (a := ⟨b, o, none⟩) (cut_in w hz).symm
theorem cut_sl {Z : Nat → Bool} {w : World} {L : Value} {q : F} (h : Sl (Cut Z w) L q) : Sl w L q :=
  h.mono (by rw [cut_size]; exact Nat.le_refl _) fun _ _ _ hc => (cut_cell hc).2.2
/-- other blocks struck out, in a later world: what lay outside the first lies outside the others, if those blocks are neither struck out nor changed -/
theorem cut_mono {Z Z' : Nat → Bool} {w w' : World} (hs : w.heap.size ≤ w'.heap.size) (h : ∀ k, k < w.heap.size → Z k = false → Z' k = false ∧ w'.heap[k]? = w.heap[k]?) {L : Value} {q : F} (hq : Sl (Cut Z w) L q) : Sl (Cut Z' w') L q :=
  hq.mono (by rw [cut_size, cut_size]; exact hs) fun b o v hc => by
    obtain ⟨h1, h2, h3⟩ := cut_cell hc
    obtain ⟨h4, h5⟩ := h b h2 h1
    rw [← h3]
    exact World.cell?_of_block (w := w) (a := ⟨b, o, none⟩) ((cut_in w' h4).trans h5)
theorem Elts.cut {Z Z' : Nat → Bool} {w w' : World} (hs : w.heap.size ≤ w'.heap.size) (h : ∀ k, k < w.heap.size → Z k = false → Z' k = false ∧ w'.heap[k]? = w.heap[k]?) : ∀ {f : F} {xs : List Value}, Elts (Cut Z w) f xs → Elts (Cut Z' w') f xs
  | .nil, _, e => e
  | .cons k n s q r, xs, e => by
    obtain ⟨L, ys, e1, e2, e3, e4⟩ := e
    exact ⟨L, ys, e1, e2, cut_mono hs h e3, Elts.cut hs h e4⟩
/-- all blocks below B are struck out: what lies there is new -/
def old (B : Nat) (k : Nat) : Bool := decide (k < B)
theorem cut_chg {B g : Nat} {w w' : World} (hg : g < B) (hc : Chg g w w') {L : Value} {q : F} (h : Sl (Cut (old B) w) L q) : Sl (Cut (old B) w') L q :=
  cut_mono hc.size (fun k hk hz => ⟨hz, hc.block k hk (fun e => by simp only [old, decide_eq_false_iff_not] at hz; omega)⟩) h
theorem cut_less {B B' : Nat} {w : World} (hB : B ≤ B') {L : Value} {q : F} (h : Sl (Cut (old B') w) L q) : Sl (Cut (old B) w) L q :=
  cut_mono (Nat.le_refl _) (fun k _ hz => ⟨by simp only [old, decide_eq_false_iff_not] at hz ⊢; omega, rfl⟩) h
end Go.Proofs.Ytaahmfmelmjahaa
