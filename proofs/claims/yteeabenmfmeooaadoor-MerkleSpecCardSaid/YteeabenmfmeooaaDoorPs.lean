/-
  Merkle: paths, as data; and the memory of the loop that makes one.
-/
import Derived.Test.YteeabenmfmeooaaDoorRt
namespace Go.Proofs.YteeabenmfmeooaaDoor
open Go Go.RowKit Go.Shelf
abbrev PS := List (List UInt8) × List (List UInt8)
/-- a step: the row, and the path so far -/
def pst (z : Nat × Nat) (x : PS) : PS := (nextL x.1, if aloneB z.1 z.2 = true then x.2 else x.2 ++ [x.1.getD (oth z.1) []])
def psL (L : List (Nat × Nat)) (k : Nat) (x : PS) : PS := (L.take k).foldl (fun x z => pst z x) x
theorem ps_next {L : List (Nat × Nat)} {k : Nat} {z : Nat × Nat} (h : L[k]? = some z) (x : PS) : psL L (k + 1) x = pst z (psL L k x) := by
  unfold psL
  rw [List.take_add_one, h, List.foldl_append]
  rfl
theorem ps_zero (L : List (Nat × Nat)) (x : PS) : psL L 0 x = x := rfl
theorem ps_cons (z : Nat × Nat) (L : List (Nat × Nat)) (k : Nat) (x : PS) : psL (z :: L) (k + 1) x = psL L k (pst z x) := rfl
theorem ps_row : ∀ (n i k : Nat) (x : PS) (a s : Nat), (stepsL i n)[k]? = some (a, s) → D32 x.1 → x.1.length = n → D32 (psL (stepsL i n) k x).1 ∧ (psL (stepsL i n) k x).1.length = s := by
  intro n
  induction n using Nat.strongRecOn with
  | ind n ih =>
    intro i k x a s h h32 hl
    by_cases h1 : 1 < n
    · rw [stepsL_cons h1] at h ⊢
      match k, h with
      | 0, h =>
        simp at h
        obtain ⟨rfl, rfl⟩ := h
        exact ⟨h32, hl⟩
      | k + 1, h =>
        rw [ps_cons]
        exact ih ((n + 1) / 2) (by omega) (i / 2) k _ a s (by simpa using h) (nextL32 h32) (by show (nextL x.1).length = _; rw [nextL_len, hl])
    · rw [stepsL_nil (by omega)] at h
      simp at h
theorem ps_len (L : List (Nat × Nat)) (x : PS) : ∀ k, (psL L k x).2.length ≤ x.2.length + k := by
  intro k
  induction k with
  | zero => simp [ps_zero]
  | succ k ih =>
    cases hz : L[k]? with
    | none =>
      have : psL L (k + 1) x = psL L k x := by
        unfold psL
        rw [List.take_add_one, hz]
        simp
      rw [this]
      omega
    | some z =>
      rw [ps_next hz]
      unfold pst
      split
      · exact Nat.le_succ_of_le ih
      · rw [List.length_append, List.length_singleton]
        omega
/-- the path of the leaf i -/
def pathL (i : Nat) (l : List (List UInt8)) : List (List UInt8) := (psL (stepsL i l.length) (stepsL i l.length).length (l.map leafD, [])).2
/-- the boxes of the loop: the path in memory of its own, the row in memory that is not the path's -/
structure PW (w W1 : World) (gr Bi Bn i n : Nat) (P R : List (List UInt8)) (V : World) (rv sv : Value) : Prop where
  h : V.cell? ⟨w.heap.size, 0, none⟩ = some hv
  r : RBox w W1 P V rv
  s1 : V.cell? ⟨gr, 0, none⟩ = some sv
  s2 : V.frozen? ⟨gr, 0, none⟩ = false
  s3 : OwnN 32 V sv R.length (fl R)
  s4 : ∀ j, sv.ownBlock = some j → j ≠ w.heap.size + 1 ∧ j ≠ gr ∧ rv.ownBlock ≠ some j ∧ ∃ cs t fr, V.heap[j]? = some (.cells cs t fr)
  b : Bxs Bi Bn i n V
  below : Below w.heap.size w V
  size : W1.heap.size ≤ V.heap.size
  e : P = [] → rv.ownBlock = none
section
variable {w W1 : World} {gr Bi Bn i n : Nat} {P R : List (List UInt8)} {V U : World} {rv sv : Value}
theorem PW.own (hs : PW w W1 gr Bi Bn i n P R V rv sv) (hw : w.heap.size ≤ W1.heap.size) {row : Option Nat} (hg : V.grownBy U row) (hr : ∀ r, row = some r → W1.heap.size ≤ r ∧ ∃ o : Obj, V.heap[r]? = some o ∧ o.isCells = false) : PW w W1 gr Bi Bn i n P R U rv sv := by
  have hne : ∀ j, sv.ownBlock = some j → U.heap[j]? = V.heap[j]? := fun j hj => hg.block j (hs.s3.lt hj) (fun e => by
    obtain ⟨_, o, ho, hc⟩ := hr j e.symm
    obtain ⟨_, _, _, cs, t, fr, hcs⟩ := hs.s4 j hj
    rw [hcs] at ho
    cases ho
    cases hc)
  exact ⟨own_cell hs.h hg hr, hs.r.own hg hr, own_cell hs.s1 hg hr, own_free hs.s1 hs.s2 hg hr, hs.s3.keep hg.size hne, fun j hj => by rw [hne j hj]; exact hs.s4 j hj, ⟨own_cell hs.b.1 hg hr, own_cell hs.b.2 hg hr⟩, ownFrom_below (Nat.le_refl _) hw () V U row hs.below hg hr, Nat.le_trans hs.size hg.size, hs.e⟩
theorem PW.later (h : PW w W1 gr Bi Bn i n P R V rv sv) (hw : w.heap.size + 2 ≤ W1.heap.size) (hgr : gr < W1.heap.size) (hi : Bi < W1.heap.size) (hn : Bn < W1.heap.size) (hb : Below V.heap.size V U) : PW w W1 gr Bi Bn i n P R U rv sv := by
  have hs := h.size
  have oc : ∀ b v, b < W1.heap.size → V.cell? ⟨b, 0, none⟩ = some v → U.cell? ⟨b, 0, none⟩ = some v := fun b v hb' hc => (hb.cell (p := ⟨b, 0, none⟩) (by simp only; omega)).trans hc
  exact ⟨oc _ _ (by omega) h.h, h.r.later hb (by omega), oc _ _ hgr h.s1, (hb.frozen (p := ⟨gr, 0, none⟩) (by simp only; omega)).trans h.s2, own_keep h.s3 hb, fun j hj => by rw [hb.block j (h.s3.lt hj)]; exact h.s4 j hj, ⟨oc _ _ hi h.b.1, oc _ _ hn h.b.2⟩, h.below.trans (hb.mono h.below.size), Nat.le_trans hs hb.size, h.e⟩
/-- a variable of integers is not the path's block -/
theorem PW.ne (h : PW w W1 gr Bi Bn i n P R V rv sv) {B : Nat} {x : Int} (hc : V.cell? ⟨B, 0, none⟩ = some (.int .i64 x)) : rv.ownBlock ≠ some B := fun e => by
  cases P with
  | nil => rw [h.e rfl] at e; cases e
  | cons d r =>
    rcases h.r.2.2.1 with ⟨_, h2, _⟩ | ⟨g, cap, rfl, h2⟩
    · simp at h2
    · obtain rfl : g = B := by simpa [Value.ownBlock] using e
      have hl := h2.len
      obtain ⟨u, hu⟩ : ∃ u, (fl (d :: r))[0]? = some u := ⟨_, List.getElem?_eq_getElem (by rw [hl, List.length_cons]; omega)⟩
      have h3 := h2.cells 0 u hu
      rw [h3] at hc
      unfold fl at hu
      rw [List.getElem?_map] at hu
      cases hx : (d :: r).flatten[0]? with
      | none => rw [hx] at hu; cases hu
      | some y =>
        rw [hx] at hu
        simp at hu
        rw [← hu] at hc
        cases hc
/-- the path has grown -/
theorem PW.path {P2 : List (List UInt8)} {rv2 : Value} (h : PW w W1 gr Bi Bn i n P R V rv sv) (hw : w.heap.size + 2 ≤ gr) (hgr : gr < W1.heap.size) (hi : Bi < W1.heap.size) (hn : Bn < W1.heap.size) (hig : gr < Bi) (hng : gr < Bn) (hk : Kp (OB rv) V U) (ho : OwnN 32 U rv2 P2.length (fl P2)) (hnw : rv2.ownBlock = rv.ownBlock ∨ ∃ k, rv2.ownBlock = some k ∧ V.heap.size ≤ k) (hp : 0 < P2.length) :
    KeepsFrom W1.heap.size V (U.setCell ⟨w.heap.size + 1, 0, none⟩ rv2) ∧ PW w W1 gr Bi Bn i n P2 R (U.setCell ⟨w.heap.size + 1, 0, none⟩ rv2) rv2 sv := by
  have hs := h.size
  obtain ⟨h1, h2, h3, h4⟩ := h.r.step (by omega) hs hk ho hnw hp
  have oc : ∀ b' v, b' < W1.heap.size → b' ≠ w.heap.size + 1 → V.cell? ⟨b', 0, none⟩ = some v → (U.setCell ⟨w.heap.size + 1, 0, none⟩ rv2).cell? ⟨b', 0, none⟩ = some v := fun b' v hb hne hc => (World.cell?_of_block (w := V) (a := ⟨b', 0, none⟩) (h2 b' hb hne)).trans hc
  have hsv : ∀ j, sv.ownBlock = some j → (U.setCell ⟨w.heap.size + 1, 0, none⟩ rv2).heap[j]? = V.heap[j]? := fun j hj => by
    obtain ⟨e1, e2, e3, _⟩ := h.s4 j hj
    exact (Below.heap_setCell _ _ _ _ (by simpa using e1)).trans (hk.block j (h.s3.lt hj) e3)
  exact ⟨h4, oc _ _ (by omega) (by omega) h.h, h1, oc _ _ hgr (by omega) h.s1, (World.frozen?_of_block (w := V) (a := ⟨gr, 0, none⟩) (h2 gr hgr (by omega))).trans h.s2, h.s3.keep h3 hsv, fun j hj => by
    rw [hsv j hj]
    obtain ⟨e1, e2, e3, e4⟩ := h.s4 j hj
    refine ⟨e1, e2, fun e => ?_, e4⟩
    rcases hnw with e5 | ⟨k, e5, e6⟩
    · exact e3 (e5 ▸ e)
    · rw [e5] at e
      cases e
      have := h.s3.lt hj
      omega, ⟨oc _ _ hi (by omega) h.b.1, oc _ _ hn (by omega) h.b.2⟩, below_set (Kp.below h.below h.below.size hk (fun k hk e => by have := h.r.2.2.2.1 k e; omega)) (Nat.le_succ _) _, Nat.le_trans hs h3, fun e => by rw [e] at hp; simp at hp⟩
/-- the row is the next one -/
theorem PW.row {R2 : List (List UInt8)} {sv2 : Value} (h : PW w W1 gr Bi Bn i n P R V rv sv) (hw : w.heap.size + 2 ≤ gr) (hgr : gr < W1.heap.size) (hi : Bi < W1.heap.size) (hn : Bn < W1.heap.size) (hig : gr < Bi) (hng : gr < Bn) (hR : RowI V U sv2 R2) (hp : 0 < R2.length) :
    KeepsFrom W1.heap.size V (U.setCell ⟨gr, 0, none⟩ sv2) ∧ PW w W1 gr Bi Bn i n P R2 (U.setCell ⟨gr, 0, none⟩ sv2) rv sv2 := by
  have h2 := h.later (by omega) hgr hi hn hR.below
  have hs := h.size
  have hs2 := hR.below.size
  have oth' : ∀ b, b ≠ gr → (U.setCell ⟨gr, 0, none⟩ sv2).heap[b]? = U.heap[b]? := fun b hb => Below.heap_setCell _ _ _ _ (by simpa using hb)
  have oc : ∀ b v, b ≠ gr → U.cell? ⟨b, 0, none⟩ = some v → (U.setCell ⟨gr, 0, none⟩ sv2).cell? ⟨b, 0, none⟩ = some v := fun b v hb hc => (World.cell?_of_block (w := U) (a := ⟨b, 0, none⟩) (oth' b hb)).trans hc
  obtain ⟨p1, p2, p3, p4, p5⟩ := h2.r
  have hz : (U.setCell ⟨gr, 0, none⟩ sv2).heap.size = U.heap.size := World.size_setCell _ _ _
  refine ⟨(keeps_below hR.below).trans ((KeepsOthers.setCell _ _ _).from _), oc _ _ (by omega) h2.h, ⟨oc _ _ (by omega) p1, by rw [World.frozen?_setCell]; exact p2, p3.keep (by rw [hz]; exact Nat.le_refl _) (fun j hj => oth' j (by have := p4 j hj; omega)), p4, fun j hj => by rw [oth' j (by have := p4 j hj; omega)]; exact p5 j hj⟩,
    World.cell?_setCell_same' _ _ _ (by rw [h2.s1]; rfl), by rw [World.frozen?_setCell]; exact h2.s2, hR.own.keep (by rw [hz]; exact Nat.le_refl _) (fun j hj => oth' j (by have := hR.new j hj; omega)), fun j hj => ?_, ⟨oc _ _ (by omega) h2.b.1, oc _ _ (by omega) h2.b.2⟩, below_set h2.below (by omega) _, by rw [hz]; exact h2.size, h2.e⟩
  have hj2 := hR.new j hj
  refine ⟨by omega, by omega, fun e => ?_, ?_⟩
  · have := h.r.2.2.1.lt e
    omega
  · rw [oth' j (by omega)]
    exact own_cells hR.own hp j hj
end
end Go.Proofs.YteeabenmfmeooaaDoor
