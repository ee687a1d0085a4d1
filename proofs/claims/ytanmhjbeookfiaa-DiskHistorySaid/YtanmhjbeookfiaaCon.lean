/-
  Disks: slices.Concat of two lists of writes.
-/
import Derived.Test.YtanmhjbeookfiaaGrw
import Derived.Test.YtanmhjbeookfiaaAft
namespace Go.Proofs.Ytanmhjbeookfiaa
open Go Go.RowKit
/-- the slice of m writes has these cells -/
def WL (w : World) (v : Value) (m : Nat) (xs : List Value) : Prop := ∃ (p : Option Addr) (c : Nat), v = .slice p m c ∧ m ≤ c ∧ c ≤ maxLen ∧ (p = none → c = 0) ∧ xs.length = m * 2 ∧ (∀ u ∈ xs, u.oneCell' = true) ∧
  (m = 0 ∨ ∃ b o, p = some ⟨b, o, none⟩ ∧ b < w.heap.size ∧ ∀ (j : Nat) (u : Value), xs[j]? = some u → w.cell? ⟨b, o + j, none⟩ = some u)
theorem WL.below {w w' : World} {v : Value} {m : Nat} {xs : List Value} (h : WL w v m xs) (hb : Below w.heap.size w w') : WL w' v m xs := by
  obtain ⟨p, c, e, h1, h2, h3, h4, h5, h6⟩ := h
  refine ⟨p, c, e, h1, h2, h3, h4, h5, ?_⟩
  rcases h6 with h6 | ⟨b, o, e, hlt, hc⟩
  · exact .inl h6
  · exact .inr ⟨b, o, e, Nat.lt_of_lt_of_le hlt hb.size, fun j u hj => (bcells hb hlt _).trans (hc j u hj)⟩
theorem WL.src {w : World} {v : Value} {m : Nat} {xs : List Value} (h : WL w v m xs) : Src Try.prog 2 23 v m xs w := by
  obtain ⟨p, c, rfl, h1, h2, h3, h4, h5, h6⟩ := h
  rcases p with _ | a
  · obtain rfl := h3 rfl
    obtain rfl : m = 0 := by omega
    obtain rfl : xs = [] := List.eq_nil_of_length_eq_zero (by simpa using h4)
    exact Src.ofNil w Try.underlying23 0
  · refine Src.ofSlice w Try.underlying23 a m c xs h4 (fun j u hj => ?_) h5
    rcases h6 with rfl | ⟨b, o, e, hlt, hc⟩
    · obtain rfl : xs = [] := List.eq_nil_of_length_eq_zero (by simpa using h4)
      simp at hj
    · cases e
      simpa [Addr.add_lit] using hc j u hj
/-- these cells are these writes -/
def Cells (w : World) (xs : List Value) (s : List (Int × List UInt8)) : Prop := ∀ (j : Nat) (x : Int × List UInt8), s[j]? = some x → ∃ u, xs[j * 2]? = some (.int .i64 x.1) ∧ xs[j * 2 + 1]? = some u ∧ W64 x.1 ∧ BV w u x.2
theorem Cells.below {w w' : World} {xs : List Value} {s : List (Int × List UInt8)} (h : Cells w xs s) (hb : Below w.heap.size w w') : Cells w' xs s := fun j x hj => by
  obtain ⟨u, h1, h2, h3, h4⟩ := h j x hj
  exact ⟨u, h1, h2, h3, h4.below hb⟩
theorem Cells.append {w : World} {xs ys : List Value} {s t : List (Int × List UInt8)} (h : Cells w xs s) (k : Cells w ys t) (hl : xs.length = s.length * 2) : Cells w (xs ++ ys) (s ++ t) := fun j x hj => by
  by_cases hlt : j < s.length
  · rw [List.getElem?_append_left hlt] at hj
    obtain ⟨u, h1, h2, h3, h4⟩ := h j x hj
    exact ⟨u, by rw [List.getElem?_append_left (by omega)]; exact h1, by rw [List.getElem?_append_left (by omega)]; exact h2, h3, h4⟩
  · rw [List.getElem?_append_right (by omega)] at hj
    obtain ⟨u, h1, h2, h3, h4⟩ := k _ x hj
    exact ⟨u, by rw [List.getElem?_append_right (by omega), show j * 2 - xs.length = (j - s.length) * 2 by omega]; exact h1, by rw [List.getElem?_append_right (by omega), show j * 2 + 1 - xs.length = (j - s.length) * 2 + 1 by omega]; exact h2, h3, h4⟩
theorem Cells.pv {w : World} {v : Value} {xs : List Value} {s : List (Int × List UInt8)} (h : OwnN 2 w v s.length xs) (hc : Cells w xs s) : PV w v s := by
  rcases h with ⟨rfl, h1, h2⟩ | ⟨g, cap, rfl, h⟩
  · obtain rfl : s = [] := List.eq_nil_of_length_eq_zero h1
    exact nil_PV w
  · refine ⟨g, cap, _, rfl, h.le, h.mx, (fun e => by cases e), .inr ⟨0, rfl, h.lt, fun j x hj => ?_⟩⟩
    obtain ⟨u, h1, h2, h3, h4⟩ := hc j x hj
    exact ⟨u, by rw [Nat.zero_add]; exact h.cells _ _ h1, by rw [Nat.zero_add]; exact h.cells _ _ h2, h3, h4⟩
/-- the cells of the writes of a list -/
theorem PV.wl {w : World} {v : Value} {s : List (Int × List UInt8)} (h : PV w v s) : ∃ xs, WL w v s.length xs ∧ Cells w xs s := by
  obtain ⟨b, cap, p, rfl, h1, h2, h3, h4⟩ := h
  rcases h4 with rfl | ⟨o, rfl, hlt, hc⟩
  · exact ⟨[], ⟨p, cap, rfl, h1, h2, h3, rfl, (fun u hu => by simp at hu), .inl rfl⟩, fun j x hj => by simp at hj⟩
  · have key : ∀ (s : List (Int × List UInt8)) (o : Nat), (∀ (j : Nat) (x : Int × List UInt8), s[j]? = some x → ∃ u, w.cell? ⟨b, o + j * 2, none⟩ = some (.int .i64 x.1) ∧ w.cell? ⟨b, o + j * 2 + 1, none⟩ = some u ∧ W64 x.1 ∧ BV w u x.2) →
        ∃ xs : List Value, xs.length = s.length * 2 ∧ (∀ u ∈ xs, u.oneCell' = true) ∧ (∀ (j : Nat) (u : Value), xs[j]? = some u → w.cell? ⟨b, o + j, none⟩ = some u) ∧ Cells w xs s := by
      intro s
      induction s with
      | nil => exact fun o _ => ⟨[], rfl, (fun u hu => by simp at hu), (fun j u hj => by simp at hj), fun j x hj => by simp at hj⟩
      | cons y r ih =>
        intro o hc
        obtain ⟨u, g1, g2, g3, g4⟩ := hc 0 y rfl
        obtain ⟨xs, i1, i2, i3, i4⟩ := ih (o + 2) (fun j x hj => by
          have := hc (j + 1) x hj
          rw [show o + 2 + j * 2 = o + (j + 1) * 2 by omega]
          exact this)
        refine ⟨.int .i64 y.1 :: u :: xs, by simp [i1]; omega, fun z hz => ?_, fun j z hz => ?_, fun j x hj => ?_⟩
        · rcases List.mem_cons.1 hz with rfl | hz
          · rfl
          · rcases List.mem_cons.1 hz with rfl | hz
            · obtain ⟨_, _, rfl, _⟩ := g4.shape
              rfl
            · exact i2 z hz
        · match j, hz with
          | 0, hz => cases hz; exact g1
          | 1, hz => cases hz; exact g2
          | j + 2, hz => rw [show o + (j + 2) = o + 2 + j by omega]; exact i3 j z hz
        · match j, hj with
          | 0, hj => cases hj; exact ⟨u, rfl, rfl, g3, g4⟩
          | j + 1, hj =>
            obtain ⟨u', k1, k2, k3, k4⟩ := i4 j x hj
            exact ⟨u', by rw [show (j + 1) * 2 = j * 2 + 2 by omega]; exact k1, by rw [show (j + 1) * 2 + 1 = j * 2 + 1 + 2 by omega]; exact k2, k3, k4⟩
    obtain ⟨xs, i1, i2, i3, i4⟩ := key s o hc
    exact ⟨xs, ⟨_, cap, rfl, h1, h2, h3, i1, i2, .inr ⟨b, o, rfl, hlt, i3⟩⟩, i4⟩
end Go.Proofs.Ytanmhjbeookfiaa
