/-
  Merkle: two ways side by side, as data; and the memory of the loop that follows them.
-/
import Derived.Test.YteeabenmfmeooaaDoorCn
import Derived.Test.YteeabenmfmeooaaDoorCm
import Derived.Test.YteeabenmfmeooaaDoorAp
namespace Go.Proofs.YteeabenmfmeooaaDoor
open Go Go.RowKit Go.Shelf
abbrev TS := List UInt8 × List (List UInt8)
/-- a step: the text so far, and what is left of the path -/
def tst (z : Nat × Nat) (x : TS) : TS := if aloneB z.1 z.2 = true then x else (stepT z.1 (sha x.1) (x.2.headD []), x.2.tail)
def tsL (L : List (Nat × Nat)) (k : Nat) (x : TS) : TS := (L.take k).foldl (fun x z => tst z x) x
theorem ts_next {L : List (Nat × Nat)} {k : Nat} {z : Nat × Nat} (h : L[k]? = some z) (x : TS) : tsL L (k + 1) x = tst z (tsL L k x) := by
  unfold tsL
  rw [List.take_add_one, h, List.foldl_append]
  rfl
theorem ts_zero (L : List (Nat × Nat)) (x : TS) : tsL L 0 x = x := rfl
theorem ts_cs (L : List (Nat × Nat)) (t : List UInt8) (p : List (List UInt8)) : ∀ k, csL L k (sha t, p) = (sha (tsL L k (t, p)).1, (tsL L k (t, p)).2) := by
  intro k
  induction k with
  | zero => rfl
  | succ k ih =>
    cases hz : L[k]? with
    | none =>
      have h1 : csL L (k + 1) (sha t, p) = csL L k (sha t, p) := by
        unfold csL
        rw [List.take_add_one, hz]
        simp
      have h2 : tsL L (k + 1) (t, p) = tsL L k (t, p) := by
        unfold tsL
        rw [List.take_add_one, hz]
        simp
      rw [h1, h2, ih]
    | some z =>
      rw [cs_next hz, ts_next hz, ih]
      unfold cst tst
      split <;> rfl
/-- bytes that lie in memory which w has, or in memory which W1 does not have -/
def BX (w W1 V : World) (u : Value) (t : List UInt8) : Prop := ∃ (b cap : Nat) (p : Option Addr), u = .slice p t.length cap ∧ t.length ≤ cap ∧ cap ≤ 9223372036854775807 ∧ (p = none → cap = 0) ∧ (t = [] ∨ ∃ o, p = some ⟨b, o, none⟩ ∧ (b < w.heap.size ∨ W1.heap.size ≤ b) ∧ b < V.heap.size ∧ ∀ (j : Nat) (c : UInt8), t[j]? = some c → V.cell? ⟨b, o + j, none⟩ = some (byt c))
abbrev GB (w W1 : World) : Nat → Prop := fun k => w.heap.size ≤ k ∧ k < W1.heap.size
section
variable {w W1 V V' : World} {u : Value} {t : List UInt8}
theorem BX.bv (h : BX w W1 V u t) : BV V u t := by
  obtain ⟨b, cap, p, e, h1, h2, h3, h4⟩ := h
  refine ⟨b, cap, p, e, h1, h2, h3, ?_⟩
  rcases h4 with h4 | ⟨o, e2, _, hlt, hc⟩
  · exact .inl h4
  · exact .inr ⟨o, e2, hlt, hc⟩
theorem BX.old (h : BV w u t) (hb : Below w.heap.size w V) : BX w W1 V u t := by
  obtain ⟨b, cap, p, e, h1, h2, h3, h4⟩ := h
  refine ⟨b, cap, p, e, h1, h2, h3, ?_⟩
  rcases h4 with h4 | ⟨o, e2, hlt, hc⟩
  · exact .inl h4
  · exact .inr ⟨o, e2, .inl hlt, Nat.lt_of_lt_of_le hlt hb.size, fun j c hj => (hb.cell (p := ⟨b, o + j, none⟩) hlt).trans (hc j c hj)⟩
theorem BX.new (h : Own V u (t.map byt)) (hn : ∀ k, u.ownBlock = some k → W1.heap.size ≤ k) : BX w W1 V u t := by
  rcases h with ⟨rfl, hx⟩ | ⟨g, cap, rfl, h⟩
  · obtain rfl := List.map_eq_nil_iff.1 hx
    exact ⟨0, 0, none, rfl, Nat.le_refl _, by omega, fun _ => rfl, .inl rfl⟩
  · have h1 := h.le
    have h2 := h.mx
    unfold maxLen at h2
    rw [List.length_map] at h1 hn ⊢
    refine ⟨g, cap, _, rfl, h1, by omega, (fun e => by cases e), .inr ⟨0, rfl, .inr (hn g rfl), h.lt, fun j c hj => ?_⟩⟩
    rw [Nat.zero_add]
    exact h.cells j _ (by rw [List.getElem?_map, hj]; rfl)
theorem BX.kp (h : BX w W1 V u t) (hk : Kp (GB w W1) V V') : BX w W1 V' u t := by
  obtain ⟨b, cap, p, e, h1, h2, h3, h4⟩ := h
  refine ⟨b, cap, p, e, h1, h2, h3, ?_⟩
  rcases h4 with h4 | ⟨o, e2, hd, hlt, hc⟩
  · exact .inl h4
  · exact .inr ⟨o, e2, hd, Nat.lt_of_lt_of_le hlt hk.size, fun j c hj => (hk.cell hlt (fun hg => by have h5 := hg.1; have h6 := hg.2; omega)).trans (hc j c hj)⟩
theorem BX.own {row : Option Nat} {B : Nat} (h : BX w W1 V u t) (hg : V.grownBy V' row) (hr : ∀ r, row = some r → B ≤ r ∧ ∃ o : Obj, V.heap[r]? = some o ∧ o.isCells = false) : BX w W1 V' u t := by
  obtain ⟨b, cap, p, e, h1, h2, h3, h4⟩ := h
  refine ⟨b, cap, p, e, h1, h2, h3, ?_⟩
  rcases h4 with h4 | ⟨o, e2, hd, hlt, hc⟩
  · exact .inl h4
  · exact .inr ⟨o, e2, hd, Nat.lt_of_lt_of_le hlt hg.size, fun j c hj => own_cell (hc j c hj) hg hr⟩
end
theorem keeps_gb {w W1 V V2 : World} (hb : Kp (GB w W1) V V2) : KeepsFrom W1.heap.size V V2 := ⟨hb.size, fun k _ hB hk _ => (hb.block k (Array.getElem?_eq_some_iff.1 hk).1 (fun hg => by have h5 := hg.2; omega)).trans hk⟩
theorem Kp.set {G : Nat → Prop} {w w1 : World} (h : Kp G w w1) {k o : Nat} (hk : G k) (v : Value) : Kp G w (w1.setCell ⟨k, o, none⟩ v) :=
  ⟨h.os, h.tape, h.output, by rw [World.size_setCell]; exact h.size, fun j hj hG => (Below.heap_setCell _ _ _ _ (by
    intro e
    exact hG (e ▸ hk))).trans (h.block j hj hG)⟩
theorem own_slice {w : World} {v : Value} {xs : List Value} (h : Own w v xs) : ∃ p m c, v = .slice p m c := by
  rcases h with ⟨rfl, _⟩ | ⟨g, cap, rfl, _⟩
  · exact ⟨_, _, _, rfl⟩
  · exact ⟨_, _, _, rfl⟩
theorem BX.slice {w W1 V : World} {u : Value} {t : List UInt8} (h : BX w W1 V u t) : ∃ p m c, u = .slice p m c := by
  obtain ⟨_, c, p, e, _⟩ := h
  exact ⟨p, _, c, e⟩
theorem ld_cons {w : World} {u : Value} {d : List UInt8} {r : List (List UInt8)} (h : LD w u (d :: r)) (hd : d.length = 32) : ∃ b o m c, u = .slice (some ⟨b, o, none⟩) m c ∧ r.length + 1 = m ∧ m ≤ c ∧ c ≤ 9223372036854775807 ∧ b < w.heap.size ∧ w.rangeAt b o (d.map byt) ∧ (c = 1 → LD w (.slice (some ⟨b, o, none⟩) (m - 1) 0) r) ∧ (¬ c = 1 → LD w (.slice (some ⟨b, o + 32, none⟩) (m - 1) (c - 1)) r) := by
  obtain ⟨b, c, p, rfl, h1, h2, _, h4⟩ := h
  rcases h4 with h4 | ⟨o, rfl, hlt, hra⟩
  · cases h4
  rw [show fl (d :: r) = d.map byt ++ fl r by simp [fl]] at hra
  have hr1 := (range_append hra).1
  have hr2 := (range_append hra).2
  rw [List.length_map, hd] at hr2
  have hml : (d :: r).length = r.length + 1 := rfl
  unfold maxLen at h2
  refine ⟨b, o, _, c, rfl, rfl, h1, by omega, hlt, hr1, fun hc => ?_, fun hc => ?_⟩
  · have hr0 : r = [] := List.eq_nil_of_length_eq_zero (by omega)
    subst hr0
    exact ⟨b, 0, _, rfl, Nat.le_refl _, Nat.zero_le _, fun _ => rfl, .inl rfl⟩
  · exact ⟨b, c - 1, _, rfl, by omega, by unfold maxLen; omega, (fun e => by cases e), .inr ⟨o + 32, rfl, hlt, hr2⟩⟩
/-- a box: a variable in a block of its own -/
structure Bo (V : World) (b : Nat) (u : Value) : Prop where
  lt : b < V.heap.size
  c : V.cell? ⟨b, 0, none⟩ = some u
  f : V.frozen? ⟨b, 0, none⟩ = false
theorem Bo.below {V V2 : World} {b : Nat} {u : Value} (h : Bo V b u) (hb : Below V.heap.size V V2) : Bo V2 b u := ⟨Nat.lt_of_lt_of_le h.lt hb.size, (hb.cell (p := ⟨b, 0, none⟩) h.lt).trans h.c, (hb.frozen (p := ⟨b, 0, none⟩) h.lt).trans h.f⟩
theorem Bo.own {V V2 : World} {b B : Nat} {u : Value} {row : Option Nat} (h : Bo V b u) (hg : V.grownBy V2 row) (hr : ∀ r, row = some r → B ≤ r ∧ ∃ o : Obj, V.heap[r]? = some o ∧ o.isCells = false) : Bo V2 b u := ⟨Nat.lt_of_lt_of_le h.lt hg.size, own_cell h.c hg hr, own_free h.c h.f hg hr⟩
theorem Bo.set {V : World} {b : Nat} {u : Value} (h : Bo V b u) (v : Value) : Bo (V.setCell ⟨b, 0, none⟩ v) b v := ⟨by rw [World.size_setCell]; exact h.lt, World.cell?_setCell_same' _ _ _ (by rw [h.c]; rfl), by rw [World.frozen?_setCell]; exact h.f⟩
theorem Bo.other {V : World} {b k : Nat} {u : Value} (h : Bo V b u) (hne : b ≠ k) (v : Value) : Bo (V.setCell ⟨k, 0, none⟩ v) b u := ⟨by rw [World.size_setCell]; exact h.lt, (World.cell?_of_block (w := V) (a := ⟨b, 0, none⟩) (Below.heap_setCell _ _ _ _ (by simpa using hne))).trans h.c, by rw [World.frozen?_setCell]; exact h.f⟩
theorem Bo.chg {V V2 : World} {b k : Nat} {u : Value} (h : Bo V b u) (hc : Chg k V V2) (hne : b ≠ k) : Bo V2 b u := ⟨Nat.lt_of_lt_of_le h.lt hc.size, (World.cell?_of_block (w := V) (a := ⟨b, 0, none⟩) (hc.block b h.lt hne)).trans h.c, (World.frozen?_of_block (w := V) (a := ⟨b, 0, none⟩) (hc.block b h.lt hne)).trans h.f⟩
theorem Dg.setB {V : World} {g k : Nat} {l : List UInt8} (h : Dg V g l) (hne : g ≠ k) (v : Value) : Dg (V.setCell ⟨k, 0, none⟩ v) g l := (Below.heap_setCell _ _ _ _ (by simpa using hne)).trans h
/-- between two rounds -/
structure FI (w W1 : World) (b1 b2 b3 b4 gd gf Bi Bn i n : Nat) (A B : TS) (D F : List UInt8) (V : World) : Prop where
  h : V.cell? ⟨w.heap.size, 0, none⟩ = some hv
  x : ∃ u, Bo V b1 u ∧ Hid (BX w W1 V u A.1)
  y : ∃ u, Bo V b2 u ∧ Hid (BX w W1 V u B.1)
  p : ∃ u, Bo V b3 u ∧ Hid (LD w u A.2)
  q : ∃ u, Bo V b4 u ∧ Hid (LD w u B.2)
  d : Dg V gd D
  f : Dg V gf F
  b : Bxs Bi Bn i n V
  below : Below w.heap.size w V
  size : W1.heap.size ≤ V.heap.size
/-- how the boxes lie -/
structure LayF (w W1 : World) (b1 b2 b3 b4 gd gf Bi Bn : Nat) : Prop where
  e1 : b1 = w.heap.size + 1
  e2 : b2 = w.heap.size + 2
  e3 : b3 = w.heap.size + 3
  e4 : b4 = w.heap.size + 4
  d : w.heap.size + 5 ≤ gd ∧ gd < W1.heap.size
  f : w.heap.size + 5 ≤ gf ∧ gf < W1.heap.size
  ne : gd ≠ gf
  i : gd < Bi ∧ gf < Bi ∧ Bi < W1.heap.size
  n : gd < Bn ∧ gf < Bn ∧ Bn < W1.heap.size
section
variable {w W1 V U : World} {b1 b2 b3 b4 gd gf Bi Bn i n : Nat} {A B : TS} {D F : List UInt8}
theorem FI.own (hw : w.heap.size ≤ W1.heap.size) {row : Option Nat} (hs : FI w W1 b1 b2 b3 b4 gd gf Bi Bn i n A B D F V) (hg : V.grownBy U row) (hr : ∀ r, row = some r → W1.heap.size ≤ r ∧ ∃ o : Obj, V.heap[r]? = some o ∧ o.isCells = false) : FI w W1 b1 b2 b3 b4 gd gf Bi Bn i n A B D F U := by
  obtain ⟨u1, x1, x2⟩ := hs.x
  obtain ⟨u2, y1, y2⟩ := hs.y
  obtain ⟨u3, p1, p2⟩ := hs.p
  obtain ⟨u4, q1, q2⟩ := hs.q
  exact ⟨own_cell hs.h hg hr, ⟨u1, x1.own hg hr, Lib.hid (x2.out.own hg hr)⟩, ⟨u2, y1.own hg hr, Lib.hid (y2.out.own hg hr)⟩, ⟨u3, p1.own hg hr, p2⟩, ⟨u4, q1.own hg hr, q2⟩, own_row hs.d hg hr, own_row hs.f hg hr, ⟨own_cell hs.b.1 hg hr, own_cell hs.b.2 hg hr⟩, ownFrom_below (Nat.le_refl _) hw () V U row hs.below hg hr, Nat.le_trans hs.size hg.size⟩
theorem FI.later (hL : LayF w W1 b1 b2 b3 b4 gd gf Bi Bn) (hs : FI w W1 b1 b2 b3 b4 gd gf Bi Bn i n A B D F V) (hb : Below V.heap.size V U) : FI w W1 b1 b2 b3 b4 gd gf Bi Bn i n A B D F U := by
  obtain ⟨u1, x1, x2⟩ := hs.x
  obtain ⟨u2, y1, y2⟩ := hs.y
  obtain ⟨u3, p1, p2⟩ := hs.p
  obtain ⟨u4, q1, q2⟩ := hs.q
  have hz := hs.size
  have h1 := hL.e1
  have h2 := hL.d
  have h3 := hL.i
  have h4 := hL.n
  exact ⟨(hb.cell (p := ⟨w.heap.size, 0, none⟩) (by simp only; omega)).trans hs.h, ⟨u1, x1.below hb, Lib.hid (x2.out.kp (.of_below hb))⟩, ⟨u2, y1.below hb, Lib.hid (y2.out.kp (.of_below hb))⟩, ⟨u3, p1.below hb, p2⟩, ⟨u4, q1.below hb, q2⟩, hs.d.below hb, hs.f.below hb,
    ⟨(hb.cell (p := ⟨Bi, 0, none⟩) (by simp only; omega)).trans hs.b.1, (hb.cell (p := ⟨Bn, 0, none⟩) (by simp only; omega)).trans hs.b.2⟩, hs.below.trans (hb.mono hs.below.size), Nat.le_trans hs.size hb.size⟩
/-- both texts are new ones -/
theorem FI.texts {ta tb : List UInt8} {va vb : Value} (hL : LayF w W1 b1 b2 b3 b4 gd gf Bi Bn) (hs : FI w W1 b1 b2 b3 b4 gd gf Bi Bn i n A B D F V) (ha : Own V va (ta.map byt)) (hna : ∀ k, va.ownBlock = some k → W1.heap.size ≤ k) (hb : Own V vb (tb.map byt)) (hnb : ∀ k, vb.ownBlock = some k → W1.heap.size ≤ k) :
    Kp (GB w W1) V ((V.setCell ⟨b1, 0, none⟩ va).setCell ⟨b2, 0, none⟩ vb) ∧ FI w W1 b1 b2 b3 b4 gd gf Bi Bn i n (ta, A.2) (tb, B.2) D F ((V.setCell ⟨b1, 0, none⟩ va).setCell ⟨b2, 0, none⟩ vb) := by
  obtain ⟨u1, x1, x2⟩ := hs.x
  obtain ⟨u2, y1, y2⟩ := hs.y
  obtain ⟨u3, p1, p2⟩ := hs.p
  obtain ⟨u4, q1, q2⟩ := hs.q
  have hz := hs.size
  obtain ⟨h1, h2, h3, h4, h5, h6, h7, h8, h9⟩ := hL
  have hk : Kp (GB w W1) V ((V.setCell ⟨b1, 0, none⟩ va).setCell ⟨b2, 0, none⟩ vb) := ((Kp.refl V).set (by constructor <;> omega) va).set (by constructor <;> omega) vb
  have oc : ∀ b v, b ≠ b1 → b ≠ b2 → V.cell? ⟨b, 0, none⟩ = some v → ((V.setCell ⟨b1, 0, none⟩ va).setCell ⟨b2, 0, none⟩ vb).cell? ⟨b, 0, none⟩ = some v := fun b v e1 e2 hc => (World.cell?_of_block (w := V) (a := ⟨b, 0, none⟩) ((Below.heap_setCell _ _ _ _ (by simpa using e2)).trans (Below.heap_setCell _ _ _ _ (by simpa using e1)))).trans hc
  refine ⟨hk, oc _ _ (by omega) (by omega) hs.h, ⟨va, (x1.set va).other (by omega) vb, Lib.hid ((BX.new ha hna).kp hk)⟩, ⟨vb, (y1.other (by omega) va).set vb, Lib.hid ((BX.new hb hnb).kp hk)⟩, ⟨u3, (p1.other (by omega) va).other (by omega) vb, p2⟩, ⟨u4, (q1.other (by omega) va).other (by omega) vb, q2⟩,
    (hs.d.setB (by omega) va).setB (by omega) vb, (hs.f.setB (by omega) va).setB (by omega) vb, ⟨oc _ _ (by omega) (by omega) hs.b.1, oc _ _ (by omega) (by omega) hs.b.2⟩, below_set (below_set hs.below (by omega) va) (by omega) vb, by rw [World.size_setCell, World.size_setCell]; exact hz⟩
/-- both paths are shorter ones -/
theorem FI.paths {r s : List (List UInt8)} {va vb : Value} (hL : LayF w W1 b1 b2 b3 b4 gd gf Bi Bn) (hs : FI w W1 b1 b2 b3 b4 gd gf Bi Bn i n A B D F V) (ha : LD w va r) (hb : LD w vb s) :
    Kp (GB w W1) V ((V.setCell ⟨b3, 0, none⟩ va).setCell ⟨b4, 0, none⟩ vb) ∧ FI w W1 b1 b2 b3 b4 gd gf Bi Bn i n (A.1, r) (B.1, s) D F ((V.setCell ⟨b3, 0, none⟩ va).setCell ⟨b4, 0, none⟩ vb) := by
  obtain ⟨u1, x1, x2⟩ := hs.x
  obtain ⟨u2, y1, y2⟩ := hs.y
  obtain ⟨u3, p1, p2⟩ := hs.p
  obtain ⟨u4, q1, q2⟩ := hs.q
  have hz := hs.size
  obtain ⟨h1, h2, h3, h4, h5, h6, h7, h8, h9⟩ := hL
  have hk : Kp (GB w W1) V ((V.setCell ⟨b3, 0, none⟩ va).setCell ⟨b4, 0, none⟩ vb) := ((Kp.refl V).set (by constructor <;> omega) va).set (by constructor <;> omega) vb
  have oc : ∀ b v, b ≠ b3 → b ≠ b4 → V.cell? ⟨b, 0, none⟩ = some v → ((V.setCell ⟨b3, 0, none⟩ va).setCell ⟨b4, 0, none⟩ vb).cell? ⟨b, 0, none⟩ = some v := fun b v e1 e2 hc => (World.cell?_of_block (w := V) (a := ⟨b, 0, none⟩) ((Below.heap_setCell _ _ _ _ (by simpa using e2)).trans (Below.heap_setCell _ _ _ _ (by simpa using e1)))).trans hc
  refine ⟨hk, oc _ _ (by omega) (by omega) hs.h, ⟨u1, (x1.other (by omega) va).other (by omega) vb, Lib.hid (x2.out.kp hk)⟩, ⟨u2, (y1.other (by omega) va).other (by omega) vb, Lib.hid (y2.out.kp hk)⟩, ⟨va, (p1.set va).other (by omega) vb, Lib.hid ha⟩, ⟨vb, (q1.other (by omega) va).set vb, Lib.hid hb⟩,
    (hs.d.setB (by omega) va).setB (by omega) vb, (hs.f.setB (by omega) va).setB (by omega) vb, ⟨oc _ _ (by omega) (by omega) hs.b.1, oc _ _ (by omega) (by omega) hs.b.2⟩, below_set (below_set hs.below (by omega) va) (by omega) vb, by rw [World.size_setCell, World.size_setCell]; exact hz⟩
/-- both digests are new ones -/
theorem FI.digs {U2 : World} {D' F' : List UInt8} (hL : LayF w W1 b1 b2 b3 b4 gd gf Bi Bn) (hs : FI w W1 b1 b2 b3 b4 gd gf Bi Bn i n A B D F V) (hc : Chg gd V U) (hd : Dg U gd D') (hc2 : Chg gf U U2) (hf : Dg U2 gf F') :
    Kp (GB w W1) V U2 ∧ FI w W1 b1 b2 b3 b4 gd gf Bi Bn i n A B D' F' U2 := by
  obtain ⟨u1, x1, x2⟩ := hs.x
  obtain ⟨u2, y1, y2⟩ := hs.y
  obtain ⟨u3, p1, p2⟩ := hs.p
  obtain ⟨u4, q1, q2⟩ := hs.q
  have hz := hs.size
  obtain ⟨h1, h2, h3, h4, h5, h6, h7, h8, h9⟩ := hL
  have hk : Kp (GB w W1) V U2 := ((Kp.refl V).chg hc (.inl (by constructor <;> omega))).chg hc2 (.inl (by constructor <;> omega))
  have hzz := hk.size
  have oc : ∀ b v, b < V.heap.size → b ≠ gd → b ≠ gf → V.cell? ⟨b, 0, none⟩ = some v → U2.cell? ⟨b, 0, none⟩ = some v := fun b v hb e1 e2 h => (World.cell?_of_block (w := V) (a := ⟨b, 0, none⟩) ((hc2.block b (Nat.lt_of_lt_of_le hb hc.size) e2).trans (hc.block b hb e1))).trans h
  have hB : Below w.heap.size w U2 := Kp.below hs.below hs.below.size hk (fun k hk hg => by have := hg.1; omega)
  exact ⟨hk, oc _ _ (by omega) (by omega) (by omega) hs.h, ⟨u1, (x1.chg hc (by omega)).chg hc2 (by omega), Lib.hid (x2.out.kp hk)⟩, ⟨u2, (y1.chg hc (by omega)).chg hc2 (by omega), Lib.hid (y2.out.kp hk)⟩, ⟨u3, (p1.chg hc (by omega)).chg hc2 (by omega), p2⟩, ⟨u4, (q1.chg hc (by omega)).chg hc2 (by omega), q2⟩,
    hd.other hc2 h7, hf, ⟨oc _ _ (by omega) (by omega) (by omega) hs.b.1, oc _ _ (by omega) (by omega) (by omega) hs.b.2⟩, hB, by omega⟩
end
/-- before round k -/
def FJ (w W1 : World) (b1 b2 b3 b4 gd gf Bi Bn i n : Nat) (A B : TS) (k : Nat) (V : World) : Prop := FI w W1 b1 b2 b3 b4 gd gf Bi Bn i n (tsL (stepsL i n) k A) (tsL (stepsL i n) k B) (sha (tsL (stepsL i n) k A).1) (sha (tsL (stepsL i n) k B).1) V ∧ ∀ j, j < k → sha (tsL (stepsL i n) j A).1 ≠ sha (tsL (stepsL i n) j B).1
/-- where the loop stops early -/
def FX (w W1 : World) (b1 b2 b3 b4 gd gf Bi Bn i n : Nat) (A B : TS) (c : Code) (V : World) : Prop := c = .exit 0 ∧ ∃ k, k < (stepsL i n).length ∧ FJ w W1 b1 b2 b3 b4 gd gf Bi Bn i n A B k V ∧ sha (tsL (stepsL i n) k A).1 = sha (tsL (stepsL i n) k B).1
theorem FJ.own {w W1 : World} (b1 b2 b3 b4 gd gf Bi Bn i n : Nat) (A B : TS) (hw : w.heap.size ≤ W1.heap.size) : OwnFrom W1.heap.size (FJ w W1 b1 b2 b3 b4 gd gf Bi Bn i n A B) := fun _ _ _ _ hs hg hr => ⟨hs.1.own hw hg hr, hs.2⟩
theorem FX.own {w W1 : World} (b1 b2 b3 b4 gd gf Bi Bn i n : Nat) (A B : TS) (hw : w.heap.size ≤ W1.heap.size) : OwnFrom W1.heap.size (FX w W1 b1 b2 b3 b4 gd gf Bi Bn i n A B) := fun _ _ _ _ hs hg hr => by
  obtain ⟨h1, k, h2, h3, h4⟩ := hs
  exact ⟨h1, k, h2, ⟨h3.1.own hw hg hr, h3.2⟩, h4⟩
theorem BV.put {w : World} {v : Value} {l : List UInt8} {D : Nat} {x : Option (List Deferred)} (h : BV w v l) (hK : w.heap[D]? = some (.deferred x)) (o : Obj) : BV (w.putObj D o) v l := by
  obtain ⟨b, cap, p, e, h1, h2, h3, h4⟩ := h
  refine ⟨b, cap, p, e, h1, h2, h3, ?_⟩
  rcases h4 with h4 | ⟨o', e2, hlt, hc⟩
  · exact .inl h4
  · refine .inr ⟨o', e2, by rw [World.putObj_size]; exact hlt, fun j c hj => ?_⟩
    have hcc := hc j c hj
    have hne : b ≠ D := fun hbd => by
      subst hbd
      simp [World.cell?, hK] at hcc
    exact (World.cell?_of_block (w := w) (a := ⟨b, o' + j, none⟩) (World.putObj_heap_other hne)).trans hcc
/-- the row at which the loop stops -/
def fcN (L : List (Nat × Nat)) (A B : TS) : Nat := ((List.range L.length).find? fun k => sha (tsL L k A).1 == sha (tsL L k B).1).getD L.length
theorem fcN_eq {L : List (Nat × Nat)} {A B : TS} {k : Nat} (hne : ∀ j, j < k → sha (tsL L j A).1 ≠ sha (tsL L j B).1) (hk : k = L.length ∨ (k < L.length ∧ sha (tsL L k A).1 = sha (tsL L k B).1)) : fcN L A B = k := by
  unfold fcN
  rcases hk with rfl | ⟨hlt, he⟩
  · rw [List.find?_eq_none.2 (fun j hj => by
      have := hne j (List.mem_range.1 hj)
      simpa using this)]
    rfl
  · have : (List.range L.length).find? (fun k => sha (tsL L k A).1 == sha (tsL L k B).1) = some k := by
      rw [List.find?_eq_some_iff_append]
      refine ⟨by simpa using he, List.range k, (List.range (L.length - k - 1)).map (· + k + 1), ?_, fun j hj => ?_⟩
      · have e : L.length = k + (1 + (L.length - k - 1)) := by omega
        rw [e, List.range_add, List.range_add]
        simp
        intro a _
        omega
      · have := hne j (List.mem_range.1 hj)
        simpa using this
    rw [this]
    rfl
end Go.Proofs.YteeabenmfmeooaaDoor
