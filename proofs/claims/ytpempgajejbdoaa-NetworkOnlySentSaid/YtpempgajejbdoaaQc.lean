/-
  Links: lists of packets as cells; a list and another behind it, in new memory.
-/
import Derived.Test.YtpempgajejbdoaaVl
import Derived.Test.YtpempgajejbdoaaNt
import Derived.Deep.Slices
namespace Go.Proofs.Ytpempgajejbdoaa
open Go Go.RowKit
variable {F : Nat → Prop}
/-- these cells are these packets -/
def QCells (F : Nat → Prop) (w : World) (xs : List Value) (s : List Pk) : Prop := ∀ (j : Nat) (x : Pk), s[j]? = some x → ∃ u, xs[j * 3]? = some (.int .i64 x.1) ∧ xs[j * 3 + 1]? = some (.int .i64 x.2.1) ∧ xs[j * 3 + 2]? = some u ∧ W64 x.1 ∧ W64 x.2.1 ∧ BV F w u x.2.2
theorem QCells.keep {w w' : World} {xs : List Value} {s : List Pk} (h : QCells F w xs s) (hk : KeepF F w w') : QCells F w' xs s := fun j x hj => by
  obtain ⟨u, h1, h2, h3, h4, h5, h6⟩ := h j x hj
  exact ⟨u, h1, h2, h3, h4, h5, h6.keep hk⟩
theorem QCells.wid {G : Nat → Prop} {w : World} {xs : List Value} {s : List Pk} (h : QCells F w xs s) (hk : ∀ b, b < w.heap.size → F b → G b) : QCells G w xs s := fun j x hj => by
  obtain ⟨u, h1, h2, h3, h4, h5, h6⟩ := h j x hj
  exact ⟨u, h1, h2, h3, h4, h5, h6.wid hk⟩
theorem QCells.append {w : World} {xs ys : List Value} {s t : List Pk} (h : QCells F w xs s) (k : QCells F w ys t) (hl : xs.length = s.length * 3) : QCells F w (xs ++ ys) (s ++ t) := fun j x hj => by
  by_cases hlt : j < s.length
  · rw [List.getElem?_append_left hlt] at hj
    obtain ⟨u, h1, h2, h3, h4⟩ := h j x hj
    exact ⟨u, by rw [List.getElem?_append_left (by omega)]; exact h1, by rw [List.getElem?_append_left (by omega)]; exact h2, by rw [List.getElem?_append_left (by omega)]; exact h3, h4⟩
  · rw [List.getElem?_append_right (by omega)] at hj
    obtain ⟨u, h1, h2, h3, h4⟩ := k _ x hj
    exact ⟨u, by rw [List.getElem?_append_right (by omega), show j * 3 - xs.length = (j - s.length) * 3 by omega]; exact h1, by rw [List.getElem?_append_right (by omega), show j * 3 + 1 - xs.length = (j - s.length) * 3 + 1 by omega]; exact h2, by rw [List.getElem?_append_right (by omega), show j * 3 + 2 - xs.length = (j - s.length) * 3 + 2 by omega]; exact h3, h4⟩
theorem QCells.one {w : World} {x : Pk} {u : Value} (h1 : W64 x.1) (h2 : W64 x.2.1) (h3 : BV F w u x.2.2) : QCells F w [.int .i64 x.1, .int .i64 x.2.1, u] [x] := fun j y hj => by
  match j, hj with
  | 0, hj => cases hj; exact ⟨u, rfl, rfl, rfl, h1, h2, h3⟩
/-- the cells of the packets of a list -/
theorem QV.vl {w : World} {v : Value} {s : List Pk} (h : QV F w v s) : ∃ xs, VL 3 w v s.length xs ∧ QCells F w xs s := by
  obtain ⟨b, cap, p, rfl, h1, h2, h3, h4⟩ := h
  rcases h4 with rfl | ⟨o, rfl, ⟨hlt, hF⟩, hc⟩
  · exact ⟨[], ⟨p, cap, rfl, h1, h2, h3, rfl, (fun u hu => by simp at hu), .inl rfl⟩, fun j x hj => by simp at hj⟩
  · have key : ∀ (s : List Pk) (o : Nat), (∀ (j : Nat) (x : Pk), s[j]? = some x → ∃ u, w.cell? ⟨b, o + j * 3, none⟩ = some (.int .i64 x.1) ∧ w.cell? ⟨b, o + j * 3 + 1, none⟩ = some (.int .i64 x.2.1) ∧ w.cell? ⟨b, o + j * 3 + 2, none⟩ = some u ∧ W64 x.1 ∧ W64 x.2.1 ∧ BV F w u x.2.2) →
        ∃ xs : List Value, xs.length = s.length * 3 ∧ (∀ u ∈ xs, u.oneCell' = true) ∧ (∀ (j : Nat) (u : Value), xs[j]? = some u → w.cell? ⟨b, o + j, none⟩ = some u) ∧ QCells F w xs s := by
      intro s
      induction s with
      | nil => exact fun o _ => ⟨[], rfl, (fun u hu => by simp at hu), (fun j u hj => by simp at hj), fun j x hj => by simp at hj⟩
      | cons y r ih =>
        intro o hc
        obtain ⟨u, g1, g2, g3, g4, g5, g6⟩ := hc 0 y rfl
        obtain ⟨xs, i1, i2, i3, i4⟩ := ih (o + 3) (fun j x hj => by
          have := hc (j + 1) x hj
          rw [show o + 3 + j * 3 = o + (j + 1) * 3 by omega]
          exact this)
        refine ⟨.int .i64 y.1 :: .int .i64 y.2.1 :: u :: xs, by simp [i1]; omega, fun z hz => ?_, fun j z hz => ?_, fun j x hj => ?_⟩
        · rcases List.mem_cons.1 hz with rfl | hz
          · rfl
          · rcases List.mem_cons.1 hz with rfl | hz
            · rfl
            · rcases List.mem_cons.1 hz with rfl | hz
              · obtain ⟨_, _, rfl, _⟩ := g6.shape
                rfl
              · exact i2 z hz
        · match j, hz with
          | 0, hz => cases hz; exact g1
          | 1, hz => cases hz; exact g2
          | 2, hz => cases hz; exact g3
          | j + 3, hz => rw [show o + (j + 3) = o + 3 + j by omega]; exact i3 j z hz
        · match j, hj with
          | 0, hj => cases hj; exact ⟨u, rfl, rfl, rfl, g4, g5, g6⟩
          | j + 1, hj =>
            obtain ⟨u', k1, k2, k3, k4⟩ := i4 j x hj
            exact ⟨u', by rw [show (j + 1) * 3 = j * 3 + 3 by omega]; exact k1, by rw [show (j + 1) * 3 + 1 = j * 3 + 1 + 3 by omega]; exact k2, by rw [show (j + 1) * 3 + 2 = j * 3 + 2 + 3 by omega]; exact k3, k4⟩
    obtain ⟨xs, i1, i2, i3, i4⟩ := key s o hc
    exact ⟨xs, ⟨_, cap, rfl, h1, h2, h3, i1, i2, .inr ⟨b, o, rfl, hlt, i3⟩⟩, i4⟩
/-- a part of a list of packets -/
theorem QV.take {w : World} {p : Option Addr} {N c : Nat} {s : List Pk} (h : QV F w (.slice p N c) s) (k : Nat) (hk : k ≤ s.length) : QV F w (.slice p k k) (s.take k) := by
  obtain ⟨b, cap, p, e, h1, h2, h3, h4⟩ := h
  cases e
  have hl : (s.take k).length = k := by rw [List.length_take]; omega
  refine ⟨b, k, p, by rw [hl], by omega, by omega, fun e => by have := h3 e; omega, ?_⟩
  rcases h4 with rfl | ⟨o, e, hlt, hc⟩
  · exact .inl (by simp)
  · refine .inr ⟨o, e, hlt, fun j x hj => hc j x ?_⟩
    rw [List.getElem?_take] at hj
    split at hj
    · exact hj
    · cases hj
/-- the slice from k on -/
theorem QV.drop {w : World} {b o N c : Nat} {s : List Pk} (h : QV F w (.slice (some ⟨b, o, none⟩) N c) s) (k : Nat) (hk : k ≤ s.length) (q : Option Addr) (hq : q = some ⟨b, o + k * 3, none⟩ ∨ (c = k ∧ q = some ⟨b, o, none⟩)) : QV F w (.slice q (N - k) (c - k)) (s.drop k) := by
  obtain ⟨b', cap, p, e, h1, h2, h3, h4⟩ := h
  cases e
  have hl : (s.drop k).length = s.length - k := List.length_drop ..
  refine ⟨b, c - k, q, by rw [hl], by omega, by omega, (fun e => by rcases hq with rfl | ⟨_, rfl⟩ <;> cases e), ?_⟩
  rcases hq with rfl | ⟨rfl, rfl⟩
  · rcases h4 with rfl | ⟨o', e, hlt, hc⟩
    · exact .inl (by simp)
    · cases e
      refine .inr ⟨o + k * 3, rfl, hlt, fun j x hj => ?_⟩
      rw [List.getElem?_drop] at hj
      have := hc (k + j) x hj
      rw [show o + (k + j) * 3 = o + k * 3 + j * 3 by omega] at this
      exact this
  · refine .inl ?_
    rw [List.drop_eq_nil_iff]
    exact h1
/-- a list and another behind it, appended -/
theorem fresh_qv {w w' : World} {p : Option Addr} {n m : Nat} {v' : Value} {xs ys : List Value} {s t : List Pk} (h : Fresh 3 w w' (.slice p n n) v' n m (xs ++ ys)) (hq : QV F w (.slice p n n) s) (hs : s.length = n) (ht : t.length = m) (hx : QCells F w xs s) (hxl : xs.length = n * 3) (hy : QCells F w ys t) (hb : Below w.heap.size w w') :
    QV (Nw F w) w' v' (s ++ t) := by
  rcases h with ⟨hm, rfl⟩ | ⟨g, cap, rfl, hg, ho⟩
  · obtain rfl : t = [] := List.eq_nil_of_length_eq_zero (by omega)
    rw [List.append_nil]
    exact (hq.below hb).wid fun b _ h => .inl h
  · have hl : (s ++ t).length = n + m := by rw [List.length_append, hs, ht]
    refine ⟨g, cap, _, by rw [hl], by rw [hl]; exact ho.le, ho.mx, (fun e => by cases e), .inr ⟨0, rfl, ⟨ho.lt, .inr hg⟩, fun j x hj => ?_⟩⟩
    obtain ⟨u, h1, h2, h3, h4, h5, h6⟩ := ((hx.append hy (by rw [hs]; exact hxl)).keep (.of_below hb)) j x hj
    exact ⟨u, by rw [Nat.zero_add]; exact ho.cells _ _ h1, by rw [Nat.zero_add]; exact ho.cells _ _ h2, by rw [Nat.zero_add]; exact ho.cells _ _ h3, h4, h5, h6.wid fun b _ h => .inl h⟩
theorem own_qv {m : Nat} {w w' : World} {n : Nat} {v' : Value} {xs : List Value} {s : List Pk} (h : OwnN 3 w' v' n xs) (hv : ∀ k, v'.ownBlock = some k → m ≤ k) (hs : s.length = n) (hx : QCells F w xs s) (hb : Below w.heap.size w w') : QV (fun b => F b ∨ m ≤ b) w' v' s := by
  rcases h with ⟨rfl, hn, rfl⟩ | ⟨g, cap, rfl, ho⟩
  · obtain rfl : s = [] := List.eq_nil_of_length_eq_zero (by omega)
    exact nil_QV w'
  · refine ⟨g, cap, _, by rw [hs], by rw [hs]; exact ho.le, ho.mx, (fun e => by cases e), .inr ⟨0, rfl, ⟨ho.lt, .inr (hv g rfl)⟩, fun j x hj => ?_⟩⟩
    obtain ⟨u, h1, h2, h3, h4, h5, h6⟩ := (hx.keep (.of_below hb)) j x hj
    exact ⟨u, by rw [Nat.zero_add]; exact ho.cells _ _ h1, by rw [Nat.zero_add]; exact ho.cells _ _ h2, by rw [Nat.zero_add]; exact ho.cells _ _ h3, h4, h5, h6.wid fun b _ h => .inl h⟩
theorem inf28 : ∃ i, Try.prog.info? 28 = some i ∧ i.zero = some (.agg #[.int .i64 0, .int .i64 0, .slice none 0 0]) ∧ i.size = 3 ∧ i.bytes = 40 := by
  have h : (Try.prog.info? 28).map (fun i => (i.zero, i.size, i.bytes)) = some (some (.agg #[.int .i64 0, .int .i64 0, .slice none 0 0]), 3, 40) := by kernel_rfl
  cases hi : Try.prog.info? 28 with
  | none => rw [hi] at h; cases h
  | some i =>
    rw [hi] at h
    simp only [Option.map_some, Option.some.injEq, Prod.mk.injEq] at h
    exact ⟨i, rfl, h.1, h.2.1, h.2.2⟩
theorem grown_below {m : Nat} {w w1 w2 : World} (h : Below m w w1) (hm : m ≤ w1.heap.size) (hg : w1.grownBy w2 none) : Below m w w2 :=
  ⟨hg.os.trans h.os, hg.tape.trans h.tape, hg.output.trans h.output, Nat.le_trans h.size hg.size, fun k hk => (hg.block k (by omega) (fun e => by cases e)).trans (h.block k hk)⟩
/-- links are stored whole -/
theorem nt_store {ops : Array Oper} {rest : List Oper} {o : Oper} {a : Act} {w : World} {Q : Exit → Act → World → Prop} (hgd : o.guard = none) (x y : Operand) (ho : o.op = .store 25 x y) (g : Nat) (old : Array Value) (c0 c1 : Value) (hl : w.heap[g]? = some (.cells old 25 (0, 0))) (hold : old.size = 2)
    (hp : a.eval x = .pointer (some ⟨g, 0, none⟩)) (hv : a.eval y = .agg #[c0, c1]) (h1 : c0.oneCell' = true ∧ c1.oneCell' = true)
    (h : ∀ w2 : World, Hid (w2.heap[g]? = some (.cells #[c0, c1] 25 (0, 0))) → Chg g w w2 → wpList Try.prog ops Q rest (a.put o.dst undef) w2) : wpList Try.prog ops Q (o :: rest) a w :=
  wpList_store_row hgd 25 x y ho g _ hp hv 25 _ hl (by rw [info25]; rfl) (by rw [hold]; rfl) (by simp [h1]) (h _ (Lib.hid (setRow_heap _ _ _ _ _ _ hl)) ⟨rfl, rfl, rfl, by simp, fun k _ hk => setRow_other w g k _ hk⟩)
/-- a function's two results: links and an error -/
theorem results_nt {fn : Func} {p q : Tmp} (h : fn.results = #[.cell p 25, .tmp q]) (tmps : Array Value) (w : World) (g : Nat) (c0 c1 e : Value) (hp : tmps.getD p undef = .pointer (some ⟨g, 0, none⟩)) (he : tmps.getD q undef = e) (hg : w.heap[g]? = some (.cells #[c0, c1] 25 (0, 0))) :
    (results fn tmps).run Try.prog w = .ok (.tuple #[.agg #[c0, c1], e]) w := by
  have hp' : tmps[p]?.getD undef = .pointer (some ⟨g, 0, none⟩) := by simpa using hp
  have he' : tmps[q]?.getD undef = e := by simpa using he
  simp [results, h, hp', he', asAddr, run_loadVar_row w g 25 25 #[c0, c1] (0, 0) _ hg Try.underlying25 rfl (by rw [info25]; rfl)]
end Go.Proofs.Ytpempgajejbdoaa
