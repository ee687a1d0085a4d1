/-
  Links: what NetworkAll's walk wants.
-/
import Derived.Test.YtpempgajejbdoaaSnd
import Derived.Test.YtpempgajejbdoaaDel
import Derived.Test.YtpempgajejbdoaaRwo
import Derived.Test.YtpempgajejbdoaaSame
import Derived.Deep.Cut
namespace Go.Proofs.Ytpempgajejbdoaa
open Go Go.RowKit
/-- all blocks but the links' own variable and the list's own block -/
def Ot (nb : Nat) (rv : Value) : Nat → Prop := fun b => b ≠ nb ∧ rv.ownBlock ≠ some b
abbrev Evr : Nat → Prop := fun _ => True
theorem okQ_of {q : List Pk} (h1 : q.length ≤ 4096) (h2 : ∀ x ∈ q, pkB x = true) : okN ⟨q, []⟩ = true := by
  have h : okQ q = true := by
    unfold okQ
    rw [Bool.and_eq_true, decide_eq_true_eq, List.all_eq_true]
    exact ⟨h1, h2⟩
  have h3 : okA [] = true := by rfl
  unfold okN
  rw [h, h3]
  rfl
/-- what a packet sent makes of links without cuts -/
theorem snd_yes {q : List Pk} {x : Pk} (h1 : q.length ≤ 12) (h2 : ∀ x ∈ q, pkB x = true) (hx : pkB x = true) : sendN ⟨q, []⟩ x = ⟨q ++ [x], []⟩ ∧ sendE ⟨q, []⟩ x = 0 := by
  have hok : okN ⟨q, []⟩ = true := okQ_of (by omega) h2
  have hl : ¬ q.length = 4096 := by omega
  constructor
  · unfold sendN addN
    simp only [hok, hx, hl]
    rfl
  · unfold sendE addE
    simp only [hok, hx, hl]
    rfl
theorem snd_no {n : Nt} {x : Pk} (hx : pkB x = false) : sendE n x = 60 := by
  unfold sendE
  rw [hx]
  simp
/-- what a delivery makes of links without cuts -/
theorem del_yes {q : List Pk} {k : Nat} {x : Pk} (h1 : q.length ≤ 12) (h2 : ∀ x ∈ q, pkB x = true) (hx : q[k]? = some x) : askE ⟨q, []⟩ (k : Int) = 0 ∧ delP ⟨q, []⟩ (k : Int) = x ∧ loseN ⟨q, []⟩ (k : Int) = ⟨q.take k ++ q.drop (k + 1), []⟩ := by
  have hk := (List.getElem?_eq_some_iff.1 hx).1
  have h : askE ⟨q, []⟩ (k : Int) = 0 := askE_in (okQ_of (by omega) h2) hk
  have hp : pkAt ⟨q, []⟩ (k : Int) = x := by unfold pkAt; rw [Int.toNat_natCast]; simp only [hx]; rfl
  refine ⟨h, ?_, ?_⟩
  · unfold delP
    rw [if_pos h, hp]
    have : cutB ⟨q, []⟩ x.1 x.2.1 = false := by simp [cutB]
    rw [this]
    rfl
  · unfold loseN
    rw [if_pos h]
    rfl
theorem all_wo {q : List Pk} {k : Nat} (h : ∀ x ∈ q, pkB x = true) : ∀ x ∈ q.take k ++ q.drop (k + 1), pkB x = true := fun x hx => by
  rcases List.mem_append.1 hx with h1 | h1
  · exact h x (List.mem_of_mem_take h1)
  · exact h x (List.mem_of_mem_drop h1)
/-- Send's call, the result's variable made behind it or ahead of it -/
theorem sdA {F : Nat → Prop} {W : World} {v u : Value} {n m : Nt} {x : Pk} {E : Int} (hN : NV F W v n) (hP : PKV F W u x) (hm : sendN n x = m) (hE : sendE n x = E) : Calls Try.prog 11 #[v, u] W.drew fun en w9 => ∃ pq N cq pa M ca, en = .returned (.tuple #[nval pq N cq pa M ca, .int .i64 E]) ∧
    Hid (NV (Nw F W) (w9.alloc (.cells #[.slice pq N cq, .slice pa M ca] 25)) (nval pq N cq pa M ca) m) ∧ Hid (Below W.heap.size W (w9.alloc (.cells #[.slice pq N cq, .slice pa M ca] 25))) ∧
    Hid ((w9.alloc (.cells #[.slice pq N cq, .slice pa M ca] 25)).cell? ⟨w9.heap.size, 0, none⟩ = some (.slice pq N cq) ∧ (w9.alloc (.cells #[.slice pq N cq, .slice pa M ca] 25)).cell? ⟨w9.heap.size, 1, none⟩ = some (.slice pa M ca)) := by
  have h0 : Below W.heap.size W W.drew := drew_bel (Below.refl _ _)
  have hs := send_any _ u n x W.drew (hN.below h0) (hP.below h0)
  rw [hm, hE] at hs
  refine hs.mono ?_
  rintro e w9 ⟨v2, rfl, hv2, hb⟩
  obtain ⟨pq, N, cq, pa, M, ca, rfl, _, _⟩ := hv2.op
  have hb2 : Below W.heap.size W w9 := h0.trans hb
  exact ⟨pq, N, cq, pa, M, ca, rfl, Lib.hid (hv2.below (one_new _ _)), Lib.hid (hb2.trans ((one_new _ _).mono hb2.size)), Lib.hid ⟨by simp, by simp⟩⟩
theorem sdB {F : Nat → Prop} {W : World} {v u : Value} {n m : Nt} {x : Pk} {E : Int} (c d : Value) (hN : NV F W v n) (hP : PKV F W u x) (hm : sendN n x = m) (hE : sendE n x = E) : Calls Try.prog 11 #[v, u] (W.alloc (.cells #[c, d] 25)).drew fun en w9 => ∃ pq N cq pa M ca, en = .returned (.tuple #[nval pq N cq pa M ca, .int .i64 E]) ∧
    Hid ((w9.cell? ⟨W.heap.size, 0, none⟩ = some c ∧ w9.cell? ⟨W.heap.size, 1, none⟩ = some d) ∧ (w9.frozen? ⟨W.heap.size, 0, none⟩ = false ∧ w9.frozen? ⟨W.heap.size, 1, none⟩ = false)) ∧
    Hid (NV (Nw F W) ((w9.setCell ⟨W.heap.size, 0, none⟩ (.slice pq N cq)).setCell ⟨W.heap.size, 1, none⟩ (.slice pa M ca)) (nval pq N cq pa M ca) m) ∧ Hid (Below W.heap.size W ((w9.setCell ⟨W.heap.size, 0, none⟩ (.slice pq N cq)).setCell ⟨W.heap.size, 1, none⟩ (.slice pa M ca))) ∧
    Hid (((w9.setCell ⟨W.heap.size, 0, none⟩ (.slice pq N cq)).setCell ⟨W.heap.size, 1, none⟩ (.slice pa M ca)).cell? ⟨W.heap.size, 0, none⟩ = some (.slice pq N cq) ∧ ((w9.setCell ⟨W.heap.size, 0, none⟩ (.slice pq N cq)).setCell ⟨W.heap.size, 1, none⟩ (.slice pa M ca)).cell? ⟨W.heap.size, 1, none⟩ = some (.slice pa M ca)) := by
  have h0 : Below W.heap.size W (W.alloc (.cells #[c, d] 25)).drew := drew_bel (one_new W _)
  have hs := send_any _ u n x (W.alloc (.cells #[c, d] 25)).drew (hN.lo.below h0) (hP.lo.below h0)
  rw [hm, hE] at hs
  refine hs.mono ?_
  rintro e w9 ⟨v2, rfl, hv2, hb⟩
  have hsz : (W.alloc (.cells #[c, d] 25)).drew.heap.size = W.heap.size + 1 := by show (W.alloc (.cells #[c, d] 25)).heap.size = _; simp
  have hb2 : Below W.heap.size W w9 := h0.trans (hb.mono (by rw [hsz]; omega))
  have r : w9.heap[W.heap.size]? = some (.cells #[c, d] 25 (0, 0)) := (hb.block _ (by rw [hsz]; omega)).trans (heap_alloc_new W _)
  have hlt : W.heap.size < w9.heap.size := by have := hb.size; rw [hsz] at this; omega
  obtain ⟨pq, N, cq, pa, M, ca, rfl, _, _⟩ := hv2.op
  have hk := (hv2.keep (KeepF.of_chg (set2_chg w9 W.heap.size (.slice pq N cq) (.slice pa M ca)) (nw_not (by omega) (by rw [hsz]; omega)))).wid (nw_wid (by rw [hsz]; omega))
  exact ⟨pq, N, cq, pa, M, ca, rfl, Lib.hid (row2_cells r), Lib.hid hk, Lib.hid (Chg.below hb2 hb2.size (Nat.le_refl _) (set2_chg _ _ _ _)), Lib.hid (row2_cells (set2_row r)).1⟩
theorem keep2' {w w1 : World} {B : Nat} {a b : Value} (hb : Below w.heap.size w w1) (hB : B < w.heap.size) (h : w.cell? ⟨B, 0, none⟩ = some a ∧ w.cell? ⟨B, 1, none⟩ = some b) : w1.cell? ⟨B, 0, none⟩ = some a ∧ w1.cell? ⟨B, 1, none⟩ = some b :=
  ⟨(bcells hb hB _).trans h.1, (bcells hb hB _).trans h.2⟩
theorem keep3' {w w1 : World} {B : Nat} {a b c : Value} (hb : Below w.heap.size w w1) (hB : B < w.heap.size) (h : w.cell? ⟨B, 0, none⟩ = some a ∧ w.cell? ⟨B, 1, none⟩ = some b ∧ w.cell? ⟨B, 2, none⟩ = some c) : w1.cell? ⟨B, 0, none⟩ = some a ∧ w1.cell? ⟨B, 1, none⟩ = some b ∧ w1.cell? ⟨B, 2, none⟩ = some c :=
  ⟨(bcells hb hB _).trans h.1, (bcells hb hB _).trans h.2.1, (bcells hb hB _).trans h.2.2⟩
theorem nw2 (w : World) (a b : Value) (T : TypeId) : (w.alloc (.cells #[a, b] T)).cell? ⟨w.heap.size, 0, none⟩ = some a ∧ (w.alloc (.cells #[a, b] T)).cell? ⟨w.heap.size, 1, none⟩ = some b := by
  constructor <;> simp
theorem nw3 (w : World) (a b c : Value) (T : TypeId) : (w.alloc (.cells #[a, b, c] T)).cell? ⟨w.heap.size, 0, none⟩ = some a ∧ (w.alloc (.cells #[a, b, c] T)).cell? ⟨w.heap.size, 1, none⟩ = some b ∧ (w.alloc (.cells #[a, b, c] T)).cell? ⟨w.heap.size, 2, none⟩ = some c := by
  refine ⟨?_, ?_, ?_⟩ <;> simp
/-- the first loop's links and list -/
structure A1 (w wr : World) (nb : Nat) (q : List Pk) (rv c0 c1 : Value) (xs : List Value) : Prop where
  row : wr.heap[nb]? = some (.cells #[c0, c1] 25 (0, 0))
  nv : NV (Ot nb rv) wr (.agg #[c0, c1]) ⟨q, []⟩
  own : OwnN 3 wr rv q.length xs
  cells : QCells (Lo Evr w) wr xs q
  new : ∀ k, rv.ownBlock = some k → nb < k
  below : Below w.heap.size w wr
  ok : ∀ x ∈ q, pkB x = true
theorem A1.nb {w wr : World} {nb : Nat} {q : List Pk} {rv c0 c1 : Value} {xs : List Value} (h : A1 w wr nb q rv c0 c1 xs) : nb < wr.heap.size := by
  apply Classical.byContradiction
  intro hn
  have := h.row
  rw [Array.getElem?_eq_none (by omega)] at this
  cases this
theorem A1.later {w wr w1 : World} {nb : Nat} {q : List Pk} {rv c0 c1 : Value} {xs : List Value} (h : A1 w wr nb q rv c0 c1 xs) (hb : Below wr.heap.size wr w1) : A1 w w1 nb q rv c0 c1 xs :=
  ⟨(hb.block nb h.nb).trans h.row, h.nv.below hb, h.own.keep hb.size fun k hk => hb.block k (h.own.lt hk), h.cells.keep (.of_below hb), h.new, h.below.trans (hb.mono h.below.size), h.ok⟩
theorem A1.own2 {w wr V V2 : World} {nb : Nat} {q : List Pk} {rv c0 c1 : Value} {xs : List Value} (h : A1 w wr nb q rv c0 c1 xs) (hb : Below wr.heap.size wr V) (hc : Chg nb V V2) : OwnN 3 V2 rv q.length xs :=
  h.own.keep (Nat.le_trans hb.size hc.size) fun k hk => (hc.block k (Nat.lt_of_lt_of_le (h.own.lt hk) hb.size) (by have := h.new k hk; omega)).trans (hb.block k (h.own.lt hk))
theorem A1.next {w wr V V2 w5 : World} {nb : Nat} {q : List Pk} {rv c0 c1 d0 d1 v5 u : Value} {xs : List Value} {x : Pk} {o : Obj} (h : A1 w wr nb q rv c0 c1 xs) (hw : w.heap.size ≤ nb) (hb : Below wr.heap.size wr V) (hc : Chg nb V V2) (r2 : V2.heap[nb]? = some (.cells #[d0, d1] 25 (0, 0)))
    (hN : NV (Nw (Ot nb rv) wr) V (.agg #[d0, d1]) ⟨q ++ [x], []⟩) (hx : pkB x = true) (hP : PKV (Lo Evr w) w (.agg #[.int .i64 x.1, .int .i64 x.2.1, u]) x) (ho : OwnN 3 w5 v5 (q.length + 1) (xs ++ [.int .i64 x.1, .int .i64 x.2.1, u])) (hg : (V2.alloc o).grownBy w5 rv.ownBlock)
    (hn : v5.ownBlock = rv.ownBlock ∨ ∃ k, v5.ownBlock = some k ∧ (V2.alloc o).heap.size ≤ k) : A1 w w5 nb (q ++ [x]) v5 d0 d1 (xs ++ [.int .i64 x.1, .int .i64 x.2.1, u]) := by
  have hnb := h.nb
  have hs1 := hb.size
  have hs2 := hc.size
  have hsA : (V2.alloc o).heap.size = V2.heap.size + 1 := by simp
  have hsg := hg.size
  have h2 : NV (Nw (Ot nb rv) wr) (V2.alloc o) (.agg #[d0, d1]) ⟨q ++ [x], []⟩ := (hN.keep (KeepF.of_chg hc (by
    rintro (⟨h1, _⟩ | h1)
    · exact h1 rfl
    · omega))).below (one_new _ _)
  have hgb : ∀ k, rv.ownBlock = some k → k < wr.heap.size := fun k hk => h.own.lt hk
  have h3 : NV (fun b => Ot nb v5 b ∧ rv.ownBlock ≠ some b) (V2.alloc o) (.agg #[d0, d1]) ⟨q ++ [x], []⟩ := h2.wid fun b hb1 hb2 => by
    have h1 : b ≠ nb ∧ rv.ownBlock ≠ some b := by
      rcases hb2 with ⟨h1, h2⟩ | h1
      · exact ⟨h1, h2⟩
      · exact ⟨by omega, fun e => by have := hgb b e; omega⟩
    refine ⟨⟨h1.1, fun e => ?_⟩, h1.2⟩
    rcases hn with hn | ⟨k, hn, hk⟩
    · exact h1.2 (hn ▸ e)
    · rw [hn] at e; cases e; omega
  have hkp : ∀ G : Nat → Prop, (∀ b, G b → rv.ownBlock ≠ some b) → KeepF G (V2.alloc o) w5 := fun G hG => ⟨hsg, fun b hb hF => hg.block b hb (fun e => hG b hF e.symm)⟩
  have hlo : ∀ b, Lo Evr w b → rv.ownBlock ≠ some b := fun b hb e => by have := h.new b e; have := hb.2; omega
  have hbw : Below w.heap.size w (V2.alloc o) := (Chg.below (h.below.trans (hb.mono h.below.size)) (by have := h.below.size; omega) hw hc).alloc (by have := h.below.size; omega) _
  have hb5 : Below w.heap.size w w5 := ⟨hg.os.trans hbw.os, hg.tape.trans hbw.tape, hg.output.trans hbw.output, Nat.le_trans hbw.size hsg, fun k hk => (hg.block k (by have := hbw.size; omega) (fun e => by have := h.new k e.symm; omega)).trans (hbw.block k hk)⟩
  have hq : QCells (Lo Evr w) w5 xs q := ((h.cells.keep (.of_below hb)).keep ((KeepF.of_chg hc (lo_not hw)).trans ((KeepF.of_below (one_new V2 o)).trans (hkp _ hlo))))
  obtain ⟨u', hu, w1, w2, hbv⟩ := hP
  obtain rfl : u = u' := by simpa using hu
  have hl : xs.length = q.length * 3 := by
    rcases h.own with ⟨_, h1, rfl⟩ | ⟨g, cap, _, ho⟩
    · rw [h1]; rfl
    · exact ho.len
  refine ⟨(hg.block nb (by omega) (fun e => by have := h.new nb e.symm; omega)).trans ((heap_alloc_old V2 o (by omega)).trans r2), (h3.keep (hkp _ fun b hb => hb.2)).wid fun _ _ hb => hb.1, by rw [List.length_append]; exact ho, hq.append (QCells.one w1 w2 (hbv.below hb5)) hl, fun k hk => ?_, hb5, fun y hy => ?_⟩
  · rcases hn with hn | ⟨j, hn, hj⟩
    · exact h.new k (hn ▸ hk)
    · rw [hn] at hk; cases hk; omega
  · rcases List.mem_append.1 hy with h1 | h1
    · exact h.ok y h1
    · simp at h1; subst h1; exact hx
/-- the second loop's links and list -/
structure A2 (w wr : World) (nb : Nat) (q : List Pk) (rv c0 c1 : Value) : Prop where
  row : wr.heap[nb]? = some (.cells #[c0, c1] 25 (0, 0))
  nv : NV (fun b => b ≠ nb) wr (.agg #[c0, c1]) ⟨q, []⟩
  lst : QV (fun b => b ≠ nb) wr rv q
  below : Below w.heap.size w wr
  ok : ∀ x ∈ q, pkB x = true
theorem A1.a2 {w wr : World} {nb : Nat} {q : List Pk} {rv c0 c1 : Value} {xs : List Value} (h : A1 w wr nb q rv c0 c1 xs) (hw : w.heap.size ≤ nb) : A2 w wr nb q rv c0 c1 :=
  ⟨h.row, h.nv.wid fun _ _ hb => hb.1, (own_qv (m := nb + 1) h.own (fun k hk => h.new k hk) rfl h.cells (Below.refl _ _)).wid fun b _ hb => by
    rcases hb with hb | hb
    · have := hb.2; omega
    · omega, h.below, h.ok⟩
theorem A2.nb {w wr : World} {nb : Nat} {q : List Pk} {rv c0 c1 : Value} (h : A2 w wr nb q rv c0 c1) : nb < wr.heap.size := by
  apply Classical.byContradiction
  intro hn
  have := h.row
  rw [Array.getElem?_eq_none (by omega)] at this
  cases this
theorem A2.next {w wr V V2 w3 : World} {nb : Nat} {q q' : List Pk} {rv c0 c1 d0 d1 v5 : Value} {xs : List Value} (h : A2 w wr nb q rv c0 c1) (hw : w.heap.size ≤ nb) (hb : Below wr.heap.size wr V) (hc : Chg nb V V2) (r2 : V2.heap[nb]? = some (.cells #[d0, d1] 25 (0, 0)))
    (hN : NV (Nw (fun b => b ≠ nb) wr) V (.agg #[d0, d1]) ⟨q', []⟩) (hok : ∀ x ∈ q', pkB x = true) (hm : Mid 3 V2 w3 v5 q'.length xs) (hq : QCells (fun b => b ≠ nb) V2 xs q') : A2 w w3 nb q' v5 d0 d1 := by
  have hnb := h.nb
  have hs1 := hb.size
  have hs2 := hc.size
  have hs0 := h.below.size
  have hbw : Below w.heap.size w V2 := Chg.below (h.below.trans (hb.mono h.below.size)) (by omega) hw hc
  refine ⟨(hm.below.block nb (by omega)).trans r2, ((hN.keep (KeepF.of_chg hc ?_)).below hm.below).wid fun b _ hb => ?_, (own_qv hm.own hm.new rfl hq hm.below).wid fun b _ hb => ?_, hbw.trans (hm.below.mono hbw.size), hok⟩
  · rintro (h1 | h1)
    · exact h1 rfl
    · omega
  · rcases hb with h1 | h1
    · exact h1
    · omega
  · rcases hb with h1 | h1
    · exact h1
    · omega
end Go.Proofs.Ytpempgajejbdoaa
