/-
  Links: what NetworkOnlySent's walk wants, in memory.
-/
import Derived.Test.YtpempgajejbdoaaOnl
namespace Go.Proofs.Ytpempgajejbdoaa
open Go Go.RowKit
theorem lt_of_row {w : World} {g : Nat} {o : Obj} (h : w.heap[g]? = some o) : g < w.heap.size := by
  apply Classical.byContradiction
  intro hn
  rw [Array.getElem?_eq_none (by omega)] at h
  cases h
theorem grow_keep2 {V w5 : World} {o : Obj} {g : Option Nat} {B : Nat} {a b : Value} (hg : (V.alloc o).grownBy w5 g) (hB : B < V.heap.size) (hne : g ≠ some B) (h : V.cell? ⟨B, 0, none⟩ = some a ∧ V.cell? ⟨B, 1, none⟩ = some b) : w5.cell? ⟨B, 0, none⟩ = some a ∧ w5.cell? ⟨B, 1, none⟩ = some b := by
  have hb : w5.heap[B]? = V.heap[B]? := (hg.block B (by simp; omega) (fun e => hne e.symm)).trans (heap_alloc_old V o hB)
  exact ⟨(World.cell?_of_block (w := V) (a := ⟨B, 0, none⟩) hb).trans h.1, (World.cell?_of_block (w := V) (a := ⟨B, 1, none⟩) hb).trans h.2⟩
/-- the two variables behind a move -/
structure HJ (F : Nat → Prop) (wr V : World) (za zb : Nat) (c0 c1 d0 d1 d2 : Value) (n : Nt) (x : Pk) : Prop where
  hza : wr.heap.size ≤ za
  hzb : wr.heap.size ≤ zb
  ra : Hid (V.heap[za]? = some (.cells #[c0, c1] 25 (0, 0)))
  rb : Hid (V.heap[zb]? = some (.cells #[d0, d1, d2] 28 (0, 0)))
  nv : Hid (NV (Nw F wr) V (.agg #[c0, c1]) n)
  pv : Hid (PKV (Nw F wr) V (.agg #[d0, d1, d2]) x)
  b : Hid (Below wr.heap.size wr V)
variable {F : Nat → Prop} {wr W' w9 : World} {c0 c1 d0 d1 d2 : Value} {n : Nt} {x : Pk}
theorem size_set2 (w : World) (B : Nat) (a b : Value) : ((w.setCell ⟨B, 0, none⟩ a).setCell ⟨B, 1, none⟩ b).heap.size = w.heap.size := by simp [World.setCell]
theorem size_set3 (w : World) (B : Nat) (a b c : Value) : (((w.setCell ⟨B, 0, none⟩ a).setCell ⟨B, 1, none⟩ b).setCell ⟨B, 2, none⟩ c).heap.size = w.heap.size := by simp [World.setCell]
theorem leaf_n {G : Nat → Prop} {V : World} (hv : NV G w9 (.agg #[c0, c1]) n) (hu : PKV G w9 (.agg #[d0, d1, d2]) x) (hk : KeepF G w9 V) (hG : ∀ b, b < V.heap.size → G b → Nw F wr b) : Hid (NV (Nw F wr) V (.agg #[c0, c1]) n) ∧ Hid (PKV (Nw F wr) V (.agg #[d0, d1, d2]) x) :=
  ⟨Lib.hid ((hv.keep hk).wid hG), Lib.hid ((hu.keep hk).wid hG)⟩
theorem leaf1 (hv : NV (Nw (Lo F wr) W') w9 (.agg #[c0, c1]) n) (hu : PKV (Nw (Lo F wr) W') w9 (.agg #[d0, d1, d2]) x) (hb : Below wr.heap.size wr w9) (hw : wr.heap.size ≤ W'.heap.size) :
    HJ F wr ((w9.alloc (.cells #[c0, c1] 25)).alloc (.cells #[d0, d1, d2] 28)) w9.heap.size (w9.heap.size + 1) c0 c1 d0 d1 d2 n x := by
  obtain ⟨h1, h2⟩ := leaf_n hv hu (KeepF.of_below (two_below w9 (.cells #[c0, c1] 25) (.cells #[d0, d1, d2] 28))) (nw_wid hw)
  exact ⟨hb.size, by have := hb.size; omega, Lib.hid (rowA _ _ _), Lib.hid (rowB' _ _ _), h1, h2, Lib.hid (below_alloc (below_alloc hb _) _)⟩
theorem leaf2 (hv : NV (Nw (Lo F wr) W') w9 (.agg #[c0, c1]) n) (hu : PKV (Nw (Lo F wr) W') w9 (.agg #[d0, d1, d2]) x) (hb : Below wr.heap.size wr w9) (hw : wr.heap.size ≤ W'.heap.size) :
    HJ F wr ((w9.alloc (.cells #[d0, d1, d2] 28)).alloc (.cells #[c0, c1] 25)) (w9.heap.size + 1) w9.heap.size c0 c1 d0 d1 d2 n x := by
  obtain ⟨h1, h2⟩ := leaf_n hv hu (KeepF.of_below (two_below w9 (.cells #[d0, d1, d2] 28) (.cells #[c0, c1] 25))) (nw_wid hw)
  exact ⟨by have := hb.size; omega, hb.size, Lib.hid (rowB' _ _ _), Lib.hid (rowA _ _ _), h1, h2, Lib.hid (below_alloc (below_alloc hb _) _)⟩
theorem leaf3 {u v : Value} {za : Nat} (hv : NV (Nw (Lo F wr) W') w9 (.agg #[c0, c1]) n) (hu : PKV (Nw (Lo F wr) W') w9 (.agg #[d0, d1, d2]) x) (hb : Below wr.heap.size wr w9) (hza : wr.heap.size ≤ za) (hzw : za < W'.heap.size) (hW : W'.heap.size ≤ w9.heap.size) (r : w9.heap[za]? = some (.cells #[u, v] 25 (0, 0))) :
    HJ F wr (((w9.setCell ⟨za, 0, none⟩ c0).setCell ⟨za, 1, none⟩ c1).alloc (.cells #[d0, d1, d2] 28)) za w9.heap.size c0 c1 d0 d1 d2 n x := by
  have hs := size_set2 w9 za c0 c1
  have hc := set2_chg w9 za c0 c1
  have r2 := set2_row (a := c0) (b := c1) r
  obtain ⟨h1, h2⟩ := leaf_n (F := F) (wr := wr) hv hu ((KeepF.of_chg hc (nw_not hza hzw)).trans (KeepF.of_below (one_new _ (.cells #[d0, d1, d2] 28)))) (nw_wid (by omega))
  have hb2 := below_alloc (Chg.below hb hb.size hza hc) (.cells #[d0, d1, d2] 28)
  generalize ((w9.setCell ⟨za, 0, none⟩ c0).setCell ⟨za, 1, none⟩ c1) = V at *
  have r3 := heap_alloc_new V (.cells #[d0, d1, d2] 28)
  rw [hs] at r3
  exact ⟨hza, hb.size, Lib.hid ((heap_alloc_old V _ (by omega)).trans r2), Lib.hid r3, h1, h2, Lib.hid hb2⟩
theorem leaf5 {u v y : Value} {zb : Nat} (hv : NV (Nw (Lo F wr) W') w9 (.agg #[c0, c1]) n) (hu : PKV (Nw (Lo F wr) W') w9 (.agg #[d0, d1, d2]) x) (hb : Below wr.heap.size wr w9) (hzb : wr.heap.size ≤ zb) (hzw : zb < W'.heap.size) (hW : W'.heap.size ≤ w9.heap.size) (r : w9.heap[zb]? = some (.cells #[u, v, y] 28 (0, 0))) :
    HJ F wr ((((w9.setCell ⟨zb, 0, none⟩ d0).setCell ⟨zb, 1, none⟩ d1).setCell ⟨zb, 2, none⟩ d2).alloc (.cells #[c0, c1] 25)) w9.heap.size zb c0 c1 d0 d1 d2 n x := by
  have hs := size_set3 w9 zb d0 d1 d2
  have hc := set3_chg w9 zb d0 d1 d2
  have r2 := set3_row (a := d0) (b := d1) (c := d2) r
  obtain ⟨h1, h2⟩ := leaf_n (F := F) (wr := wr) hv hu ((KeepF.of_chg hc (nw_not hzb hzw)).trans (KeepF.of_below (one_new _ (.cells #[c0, c1] 25)))) (nw_wid (by omega))
  have hb2 := below_alloc (Chg.below hb hb.size hzb hc) (.cells #[c0, c1] 25)
  generalize (((w9.setCell ⟨zb, 0, none⟩ d0).setCell ⟨zb, 1, none⟩ d1).setCell ⟨zb, 2, none⟩ d2) = V at *
  have r3 := heap_alloc_new V (.cells #[c0, c1] 25)
  rw [hs] at r3
  exact ⟨hb.size, hzb, Lib.hid r3, Lib.hid ((heap_alloc_old V _ (by omega)).trans r2), h1, h2, Lib.hid hb2⟩
theorem leaf4 {u v u' v' y' : Value} {za zb : Nat} (hv : NV (Nw (Lo F wr) W') w9 (.agg #[c0, c1]) n) (hu : PKV (Nw (Lo F wr) W') w9 (.agg #[d0, d1, d2]) x) (hb : Below wr.heap.size wr w9) (hza : wr.heap.size ≤ za) (hzw : za < W'.heap.size) (hzb : wr.heap.size ≤ zb) (hzv : zb < W'.heap.size) (hne : za ≠ zb) (hW : W'.heap.size ≤ w9.heap.size)
    (r : w9.heap[za]? = some (.cells #[u, v] 25 (0, 0))) (r' : w9.heap[zb]? = some (.cells #[u', v', y'] 28 (0, 0))) :
    HJ F wr (((((w9.setCell ⟨za, 0, none⟩ c0).setCell ⟨za, 1, none⟩ c1).setCell ⟨zb, 0, none⟩ d0).setCell ⟨zb, 1, none⟩ d1).setCell ⟨zb, 2, none⟩ d2) za zb c0 c1 d0 d1 d2 n x := by
  have hs := size_set2 w9 za c0 c1
  have hc := set2_chg w9 za c0 c1
  have r2 := set2_row (a := c0) (b := c1) r
  have r3 := (hc.block zb (by omega) (fun e => hne e.symm)).trans r'
  have hb2 := Chg.below hb hb.size hza hc
  have hk := KeepF.of_chg hc (nw_not (F := F) (w := wr) hza hzw)
  generalize ((w9.setCell ⟨za, 0, none⟩ c0).setCell ⟨za, 1, none⟩ c1) = V at *
  have hs2 := size_set3 V zb d0 d1 d2
  have hc2 := set3_chg V zb d0 d1 d2
  have r4 := set3_row (a := d0) (b := d1) (c := d2) r3
  obtain ⟨h1, h2⟩ := leaf_n (F := F) (wr := wr) hv hu (hk.trans (KeepF.of_chg hc2 (nw_not hzb hzv))) (nw_wid (by omega))
  exact ⟨hza, hzb, Lib.hid ((hc2.block za (by omega) hne).trans r2), Lib.hid r4, h1, h2, Lib.hid (Chg.below hb2 hb2.size hzb hc2)⟩
/-- the links' variable is given another value -/
theorem B1.put {w V V2 : World} {nb : Nat} {m : Nt} {sent : List Pk} {rv a0 a1 e0 e1 : Value} {xs : List Value} (h : B1 w wr nb m sent rv a0 a1 xs) (hw : w.heap.size ≤ nb) (hb : Below wr.heap.size wr V) (hc : Chg nb V V2) (r2 : V2.heap[nb]? = some (.cells #[e0, e1] 25 (0, 0)))
    (hN : NV (Nw (Ot nb rv) wr) V (.agg #[e0, e1]) n) : B1 w V2 nb n sent rv e0 e1 xs := by
  have hnb := h.nb
  have hs1 := hb.size
  have hs2 := hc.size
  refine ⟨r2, ((hN.keep (KeepF.of_chg hc ?_)).wid fun b hb1 hb2 => ?_), h.own.keep (by omega) fun k hk => (hc.block k (Nat.lt_of_lt_of_le (h.own.lt hk) hb.size) (by have := h.new k hk; omega)).trans (hb.block k (h.own.lt hk)), (h.cells.keep (.of_below hb)).keep (KeepF.of_chg hc fun e => e.1 rfl), h.new, ?_⟩
  · rintro (⟨h1, _⟩ | h1)
    · exact h1 rfl
    · omega
  · rcases hb2 with ⟨h1, h2⟩ | h1
    · exact ⟨h1, h2⟩
    · exact ⟨by omega, fun e => by have := h.own.lt e; omega⟩
  · exact Chg.below (h.below.trans (hb.mono h.below.size)) (by have := h.below.size; omega) hw hc
/-- a packet is appended to the list of those that have been sent -/
theorem B1.app {w V w5 : World} {nb : Nat} {m : Nt} {sent : List Pk} {rv a0 a1 e0 e1 v5 u : Value} {xs : List Value} {o : Obj} (h : B1 w wr nb m sent rv a0 a1 xs) (hw : w.heap.size ≤ nb) (hb : Below wr.heap.size wr V)
    (hN : NV (Nw (Ot nb rv) wr) V (.agg #[e0, e1]) n) (h1 : W64 x.1) (h2 : W64 x.2.1) (h3 : BV (Nw (Ot nb rv) wr) V u x.2.2) (ho : OwnN 3 w5 v5 (sent.length + 1) (xs ++ [.int .i64 x.1, .int .i64 x.2.1, u])) (hg : (V.alloc o).grownBy w5 rv.ownBlock)
    (hn : v5.ownBlock = rv.ownBlock ∨ ∃ k, v5.ownBlock = some k ∧ (V.alloc o).heap.size ≤ k) : B1 w w5 nb m (sent ++ [x]) v5 a0 a1 (xs ++ [.int .i64 x.1, .int .i64 x.2.1, u]) ∧ NV (Ot nb v5) w5 (.agg #[e0, e1]) n := by
  have hnb := h.nb
  have hs1 := hb.size
  have hsA : (V.alloc o).heap.size = V.heap.size + 1 := by simp
  have hsg := hg.size
  have hgb : ∀ k, rv.ownBlock = some k → k < wr.heap.size := fun k hk => h.own.lt hk
  have hwid : ∀ b, b < (V.alloc o).heap.size → Nw (Ot nb rv) wr b → (Ot nb v5 b ∧ rv.ownBlock ≠ some b) := fun b hb1 hb2 => by
    have h1 : b ≠ nb ∧ rv.ownBlock ≠ some b := by
      rcases hb2 with ⟨h1, h2⟩ | h1
      · exact ⟨h1, h2⟩
      · exact ⟨by omega, fun e => by have := hgb b e; omega⟩
    refine ⟨⟨h1.1, fun e => ?_⟩, h1.2⟩
    rcases hn with hn | ⟨k, hn, hk⟩
    · exact h1.2 (hn ▸ e)
    · rw [hn] at e; cases e; omega
  have hkp : KeepF (fun b => Ot nb v5 b ∧ rv.ownBlock ≠ some b) (V.alloc o) w5 := ⟨hsg, fun b hb hF => hg.block b hb (fun e => hF.2 e.symm)⟩
  have hba : Below wr.heap.size wr (V.alloc o) := below_alloc hb o
  have hN5 : NV (Ot nb v5) w5 (.agg #[e0, e1]) n := (((hN.below (one_new V o)).wid hwid).keep hkp).wid fun _ _ hb => hb.1
  have hA5 : NV (Ot nb v5) w5 (.agg #[a0, a1]) m := ((((h.nv.below hba)).wid fun b hb1 hb2 => hwid b hb1 (.inl hb2)).keep hkp).wid fun _ _ hb => hb.1
  have hq : QCells (Ot nb v5) w5 xs sent := (((h.cells.keep (.of_below hba)).wid fun b hb1 hb2 => hwid b hb1 (.inl hb2)).keep hkp).wid fun _ _ hb => hb.1
  have hu : BV (Ot nb v5) w5 u x.2.2 := (((h3.below (one_new V o)).wid hwid).keep hkp).wid fun _ _ hb => hb.1
  have hl : xs.length = sent.length * 3 := by
    rcases h.own with ⟨_, h1, rfl⟩ | ⟨g, cap, _, ho⟩
    · rw [h1]; rfl
    · exact ho.len
  have hbw : Below w.heap.size w (V.alloc o) := h.below.trans (hba.mono h.below.size)
  refine ⟨⟨(hg.block nb (by omega) (fun e => by have := h.new nb e.symm; omega)).trans ((hba.block nb hnb).trans h.row), hA5, by rw [List.length_append]; exact ho, hq.append (QCells.one h1 h2 hu) hl, fun k hk => ?_, ⟨hg.os.trans hbw.os, hg.tape.trans hbw.tape, hg.output.trans hbw.output, Nat.le_trans hbw.size hsg, fun k hk => (hg.block k (by have := hbw.size; omega) (fun e => by have := h.new k e.symm; omega)).trans (hbw.block k hk)⟩⟩, hN5⟩
  rcases hn with hn | ⟨j, hn, hj⟩
  · exact h.new k (hn ▸ hk)
  · rw [hn] at hk; cases hk; omega
/-- one of those that have been sent -/
theorem B1.at_ {w wr : World} {nb : Nat} {m : Nt} {sent : List Pk} {p : Option Addr} {N c : Nat} {a0 a1 : Value} {xs : List Value} (h : B1 w wr nb m sent (.slice p N c) a0 a1 xs) (j : Nat) (hj : j < sent.length) :
    ∃ (y : Pk) (g : Nat) (u : Value), p = some ⟨g, 0, none⟩ ∧ g < wr.heap.size ∧ sent[j]? = some y ∧ PKV (fun _ => True) wr (.agg #[.int .i64 y.1, .int .i64 y.2.1, u]) y ∧ wr.cell? ⟨g, j * 3, none⟩ = some (.int .i64 y.1) ∧ wr.cell? ⟨g, j * 3 + 1, none⟩ = some (.int .i64 y.2.1) ∧ wr.cell? ⟨g, j * 3 + 2, none⟩ = some u := by
  rcases h.own with ⟨_, h1, _⟩ | ⟨g, cap, h1, ho⟩
  · omega
  · cases h1
    have hy := List.getElem?_eq_getElem hj
    obtain ⟨u, k1, k2, k3, k4, k5, k6⟩ := h.cells j _ hy
    exact ⟨_, g, u, rfl, ho.lt, hy, ⟨u, rfl, k4, k5, k6.wid fun _ _ _ => trivial⟩, ho.cells _ _ k1, ho.cells _ _ k2, ho.cells _ _ k3⟩
/-- has one of the first j been this packet? -/
def mt (b : Bool) (sent : List Pk) (p : Pk) (j : Nat) : Bool := b || (sent.take j).any fun y => sameP y p
theorem mt_zero (b : Bool) (sent : List Pk) (p : Pk) : mt b sent p 0 = b := by simp [mt]
theorem mt_succ {b : Bool} {sent : List Pk} {p y : Pk} {j : Nat} (h : sent[j]? = some y) : mt b sent p (j + 1) = (mt b sent p j || sameP y p) := by
  unfold mt
  rw [List.take_add_one, h]
  simp [Bool.or_assoc]
theorem mt_all {b : Bool} {sent : List Pk} {p : Pk} {j : Nat} (hj : sent.length ≤ j) (h : p ∈ sent ∨ b = true) : mt b sent p j = true := by
  unfold mt
  rw [List.take_of_length_le hj]
  rcases h with h | h
  · rw [Bool.or_eq_true, List.any_eq_true]
    exact .inr ⟨p, h, by simp [sameP]⟩
  · rw [h]; rfl
end Go.Proofs.Ytpempgajejbdoaa
