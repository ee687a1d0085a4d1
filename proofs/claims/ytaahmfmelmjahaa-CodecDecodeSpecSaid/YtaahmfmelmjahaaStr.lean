/-
  Values that are read lie outside the reader: told in the world with the reader's block struck out.
-/
import Derived.Test.YtaahmfmelmjahaaRdt
import Derived.Test.YtaahmfmelmjahaaOwnN
namespace Go.Proofs.Ytaahmfmelmjahaa
open Go Go.RowKit
/-- the world with block g struck out -/
def Str (g : Nat) (w : World) : World := { w with heap := w.heap.setIfInBounds g (.cells #[] 0 (0, 0)) }
theorem str_size (g : Nat) (w : World) : (Str g w).heap.size = w.heap.size := by simp [Str]
theorem str_block {g k : Nat} (w : World) (h : k ≠ g) : (Str g w).heap[k]? = w.heap[k]? := by
  simp only [Str]
  rw [Array.getElem?_setIfInBounds]
  rw [if_neg (fun e => h e.symm)]
theorem str_self {g : Nat} {w : World} (h : g < w.heap.size) : (Str g w).heap[g]? = some (.cells #[] 0 (0, 0)) := by
  simp only [Str]
  rw [Array.getElem?_setIfInBounds]
  rw [if_pos rfl, if_pos h]
theorem str_chg {g : Nat} {w w' : World} (h : Chg g w w') : Below (Str g w).heap.size (Str g w) (Str g w') :=
  ⟨h.os, h.tape, h.output, by rw [str_size, str_size]; exact h.size, fun k hk => by
    rw [str_size] at hk
    by_cases e : k = g
    · subst e
      rw [str_self hk, str_self (Nat.lt_of_lt_of_le hk h.size)]
    · rw [str_block _ e, str_block _ e]
      exact h.block k hk e⟩
theorem str_cell {g : Nat} {w : World} {b o : Nat} {v : Value} (h : (Str g w).cell? ⟨b, o, none⟩ = some v) : w.cell? ⟨b, o, none⟩ = some v := by
  by_cases e : b = g
  · subst e
    have hb := World.block_lt_of_cell? _ _ h
    rw [str_size] at hb
    simp [World.cell?, str_self hb] at h
  · rw [← h]
    exact World.cell?_of_block (a := ⟨b, o, none⟩) (str_block w e).symm
theorem Lies.mono {w w' : World} (hs : w.heap.size ≤ w'.heap.size) (hc : ∀ b o v, w.cell? ⟨b, o, none⟩ = some v → w'.cell? ⟨b, o, none⟩ = some v) : ∀ {f : F} {b o : Nat}, Lies w f b o → Lies w' f b o
  | .nil, _, _, _ => by unfold Lies; trivial
  | .cons k n s kids r, b, o, h => by
    unfold Lies at h ⊢
    obtain ⟨⟨L, h1, h2, h3, h4, h5, h6⟩, h7⟩ := h
    refine ⟨⟨L, hc _ _ _ h1, hc _ _ _ h2, hc _ _ _ h3, hc _ _ _ h4, h5, ?_⟩, Lies.mono hs hc h7⟩
    rcases h6 with h6 | ⟨b', o', cap, e, e1, e2, e3, e4⟩
    · exact .inl h6
    · exact .inr ⟨b', o', cap, e, e1, e2, Nat.lt_of_lt_of_le e3 hs, Lies.mono hs hc e4⟩
theorem Sl.mono {w w' : World} (hs : w.heap.size ≤ w'.heap.size) (hc : ∀ b o v, w.cell? ⟨b, o, none⟩ = some v → w'.cell? ⟨b, o, none⟩ = some v) {L : Value} {q : F} (h : Sl w L q) : Sl w' L q := by
  rcases h with h6 | ⟨b', o', cap, e, e1, e2, e3, e4⟩
  · exact .inl h6
  · exact .inr ⟨b', o', cap, e, e1, e2, Nat.lt_of_lt_of_le e3 hs, e4.mono hs hc⟩
theorem str_sl {g : Nat} {w : World} {L : Value} {q : F} (h : Sl (Str g w) L q) : Sl w L q :=
  h.mono (by rw [str_size]; exact Nat.le_refl _) fun _ _ _ hc => str_cell hc
theorem str_later {g : Nat} {w w' : World} {L : Value} {q : F} (h : Sl (Str g w) L q) (hc : Chg g w w') : Sl (Str g w') L q := h.below (str_chg hc)
/-- the cells of elements, one behind the other -/
def Elts (w : World) : F → List Value → Prop
  | .nil, xs => xs = []
  | .cons k n s q r, xs => ∃ L ys, xs = [.int .i64 k, .int .i64 n, .string s, L] ++ ys ∧ Okv k n s ∧ Sl w L q ∧ Elts w r ys
def F.app : F → F → F
  | .nil, f => f
  | .cons k n s q r, f => .cons k n s q (F.app r f)
theorem F.app_len : ∀ f f' : F, (F.app f f').len = f.len + f'.len
  | .nil, f' => by simp [F.app, F.len]
  | .cons k n s q r, f' => by simp [F.app, F.len, F.app_len r f']; omega
theorem F.app_assoc : ∀ a b c : F, F.app (F.app a b) c = F.app a (F.app b c)
  | .nil, _, _ => rfl
  | .cons k n s q r, b, c => by simp [F.app, F.app_assoc r b c]
theorem F.app_nil : ∀ a : F, F.app a .nil = a
  | .nil => rfl
  | .cons k n s q r => by simp [F.app, F.app_nil r]
theorem Elts.later {w w' : World} (hb : Below w.heap.size w w') : ∀ {f : F} {xs : List Value}, Elts w f xs → Elts w' f xs
  | .nil, _, h => h
  | .cons k n s q r, xs, h => by
    obtain ⟨L, ys, e, h1, h2, h3⟩ := h
    exact ⟨L, ys, e, h1, h2.below hb, Elts.later hb h3⟩
theorem Elts.snoc {w : World} {k n : Int} {s : ByteArray} {q : F} {L : Value} (ho : Okv k n s) (hL : Sl w L q) : ∀ {f : F} {xs : List Value}, Elts w f xs → Elts w (F.app f (.cons k n s q .nil)) (xs ++ [.int .i64 k, .int .i64 n, .string s, L])
  | .nil, xs, h => by
    obtain rfl : xs = [] := h
    exact ⟨L, [], rfl, ho, hL, rfl⟩
  | .cons k' n' s' q' r, xs, h => by
    obtain ⟨L', ys, rfl, h1, h2, h3⟩ := h
    exact ⟨L', ys ++ [.int .i64 k, .int .i64 n, .string s, L], by simp, h1, h2, Elts.snoc ho hL h3⟩
theorem Elts.lies {w : World} {g : Nat} : ∀ {f : F} {xs : List Value} (o : Nat), Elts w f xs → (∀ (i : Nat) (u : Value), xs[i]? = some u → w.cell? ⟨g, o + i, none⟩ = some u) → Lies w f g o
  | .nil, _, _, _, _ => by unfold Lies; trivial
  | .cons k n s q r, xs, o, h, hc => by
    obtain ⟨L, ys, rfl, h1, h2, h3⟩ := h
    unfold Lies
    refine ⟨⟨L, hc 0 _ rfl, hc 1 _ rfl, hc 2 _ rfl, hc 3 _ rfl, h1, h2⟩, ?_⟩
    refine Elts.lies (o + 4) h3 fun i u hu => ?_
    rw [show o + 4 + i = o + (i + 4) from by omega]
    exact hc (i + 4) u (by
      rw [List.getElem?_append_right (by simp)]
      simpa using hu)
/-- an owned slice of such elements is a list of values -/
theorem Elts.sl {w : World} {v : Value} {n : Nat} {f : F} {xs : List Value} (h : OwnN 4 w v n xs) (he : Elts w f xs) (hn : f.len = n) : Sl w v f := by
  rcases h with ⟨rfl, rfl, rfl⟩ | ⟨g, cap, rfl, h⟩
  · exact .inl ⟨none, 0, rfl, F.nil_of_len hn⟩
  · exact .inr ⟨g, 0, cap, by rw [hn], by rw [hn]; exact h.le, h.mx, h.lt, he.lies 0 fun i u hu => by rw [Nat.zero_add]; exact h.cells i u hu⟩
/-- reading one more -/
theorem decl_next {rd : List UInt8 → Option Got} {u j : Nat} {l0 l : List UInt8} {pre : F} (hj : j < u) (h : decl rd u l0 = match decl rd (u - j) l with | some (f, r) => some (F.app pre f, r) | none => none) {x : Got} (hx : rd l = some x) :
    decl rd u l0 = match decl rd (u - (j + 1)) x.r with | some (f, r) => some (F.app (F.app pre (.cons x.k x.n x.s x.q .nil)) f, r) | none => none := by
  rw [h, show u - j = (u - (j + 1)) + 1 from by omega]
  simp only [decl, hx]
  cases decl rd (u - (j + 1)) x.r with
  | none => rfl
  | some a =>
    obtain ⟨f, r⟩ := a
    simp only [F.app_assoc]
    rfl
theorem decl_stop {rd : List UInt8 → Option Got} {u j : Nat} {l0 l : List UInt8} {pre : F} (hj : j < u) (h : decl rd u l0 = match decl rd (u - j) l with | some (f, r) => some (F.app pre f, r) | none => none) (hx : rd l = none) :
    decl rd u l0 = none := by
  rw [h, show u - j = (u - (j + 1)) + 1 from by omega]
  simp only [decl, hx]
end Go.Proofs.Ytaahmfmelmjahaa
