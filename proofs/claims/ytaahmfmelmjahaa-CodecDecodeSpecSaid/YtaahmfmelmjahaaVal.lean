/-
  Values of the codec as forests, and where they lie in memory.
-/
import Derived.Test.YtaahmfmelmjahaaProg
import Derived.WalkKit
namespace Go.Proofs.Ytaahmfmelmjahaa
open Go Go.RowKit

/-- a list of values: the first value (kind, number, text, elements), and the others -/
inductive F where
  | nil
  | cons (k n : Int) (s : ByteArray) (kids rest : F)
namespace F
def len : F → Nat
  | .nil => 0
  | .cons _ _ _ _ r => r.len + 1
def drop : Nat → F → F
  | 0, f => f
  | _ + 1, .nil => .nil
  | i + 1, .cons _ _ _ _ r => drop i r
def All (p : Int → Int → ByteArray → F → Prop) : F → Prop
  | .nil => True
  | .cons k n s kids r => p k n s kids ∧ r.All p
theorem all_of {p : Int → Int → ByteArray → F → Prop} (h : ∀ k n s kids, F.All p kids → p k n s kids) : ∀ f : F, f.All p
  | .nil => trivial
  | .cons k n s kids r => ⟨h k n s kids (all_of h kids), all_of h r⟩
/-- are two lists of values equal? -/
def same : F → F → Bool
  | .nil, .nil => true
  | .cons k n s q r, .cons k' n' s' q' r' => (k == k' && n == n' && s.toList == s'.toList && same q q') && same r r'
  | _, _ => false
theorem same_len : ∀ {f g : F}, same f g = true → f.len = g.len
  | .nil, .nil, _ => rfl
  | .cons .., .cons .., h => by
    simp only [same, Bool.and_eq_true] at h
    simp [len, same_len h.2]
  | .nil, .cons .., h => by simp [same] at h
  | .cons .., .nil, h => by simp [same] at h
theorem same_refl : ∀ f : F, same f f = true
  | .nil => rfl
  | .cons k n s q r => by simp [same, same_refl q, same_refl r]
theorem all_true (f : F) : f.All fun _ _ _ _ => True := all_of (fun _ _ _ _ _ => trivial) f
theorem all_drop {p : Int → Int → ByteArray → F → Prop} : ∀ {f : F} (i : Nat), f.All p → (drop i f).All p
  | f, 0, h => by simpa [drop] using h
  | .nil, i + 1, _ => by simp [drop, All]
  | .cons k n s kids r, i + 1, h => by simpa [drop] using all_drop i h.2
theorem drop_len : ∀ f : F, drop f.len f = .nil
  | .nil => rfl
  | .cons k n s q r => by simpa [drop, len] using drop_len r
theorem drop_lt : ∀ {f : F} (i : Nat), i < f.len → ∃ k n s kids, drop i f = .cons k n s kids (drop (i + 1) f)
  | .nil, _, h => by simp [len] at h
  | .cons k n s kids r, 0, _ => ⟨k, n, s, kids, by simp [drop]⟩
  | .cons k n s kids r, i + 1, h => by
    obtain ⟨k', n', s', kids', e⟩ := drop_lt (f := r) i (by simp [len] at h; omega)
    exact ⟨k', n', s', kids', by simpa [drop] using e⟩
end F
/-- a value, its elements under the header L -/
abbrev val (k n : Int) (s : ByteArray) (L : Value) : Value := .agg #[.int .i64 k, .int .i64 n, .string s, L]
/-- a number of 64 bits -/
def W64 (k : Int) : Prop := -9223372036854775808 ≤ k ∧ k ≤ 9223372036854775807
/-- the parts of a value are such as memory holds -/
def Okv (k n : Int) (s : ByteArray) : Prop := W64 k ∧ W64 n ∧ s.size ≤ maxLen
/-- the cells of a list of values, from a place on -/
def Lies (w : World) : F → Nat → Nat → Prop
  | .nil, _, _ => True
  | .cons k n s kids r, b, o => (∃ L, w.cell? ⟨b, o, none⟩ = some (.int .i64 k) ∧ w.cell? ⟨b, o + 1, none⟩ = some (.int .i64 n) ∧ w.cell? ⟨b, o + 2, none⟩ = some (.string s) ∧ w.cell? ⟨b, o + 3, none⟩ = some L ∧ Okv k n s ∧
      ((∃ p c, L = .slice p 0 c ∧ kids = .nil) ∨ ∃ b' o' cap, L = .slice (some ⟨b', o', none⟩) kids.len cap ∧ kids.len ≤ cap ∧ cap ≤ maxLen ∧ b' < w.heap.size ∧ Lies w kids b' o')) ∧ Lies w r b (o + 4)
/-- the header of a list of values -/
def Sl (w : World) (L : Value) (kids : F) : Prop :=
  (∃ p c, L = .slice p 0 c ∧ kids = .nil) ∨ ∃ b' o' cap, L = .slice (some ⟨b', o', none⟩) kids.len cap ∧ kids.len ≤ cap ∧ cap ≤ maxLen ∧ b' < w.heap.size ∧ Lies w kids b' o'
theorem Lies.cons {w : World} {k n : Int} {s : ByteArray} {kids r : F} {b o : Nat} (h : Lies w (.cons k n s kids r) b o) :
    ∃ L, w.cell? ⟨b, o, none⟩ = some (.int .i64 k) ∧ w.cell? ⟨b, o + 1, none⟩ = some (.int .i64 n) ∧ w.cell? ⟨b, o + 2, none⟩ = some (.string s) ∧ w.cell? ⟨b, o + 3, none⟩ = some L ∧ Okv k n s ∧ Sl w L kids ∧ Lies w r b (o + 4) := by
  unfold Lies at h
  obtain ⟨⟨L, h1, h2, h3, h4, h5, h6⟩, h7⟩ := h
  exact ⟨L, h1, h2, h3, h4, h5, h6, h7⟩
theorem Lies.below {w w' : World} (hb : Below w.heap.size w w') : ∀ {f : F} {b o : Nat}, b < w.heap.size → Lies w f b o → Lies w' f b o
  | .nil, _, _, _, _ => by unfold Lies; trivial
  | .cons k n s kids r, b, o, hlt, h => by
    unfold Lies at h ⊢
    obtain ⟨⟨L, h1, h2, h3, h4, h5, h6⟩, h7⟩ := h
    have hc : ∀ j, w'.cell? ⟨b, j, none⟩ = w.cell? ⟨b, j, none⟩ := fun j => hb.cell (p := ⟨b, j, none⟩) hlt
    refine ⟨⟨L, (hc _).trans h1, (hc _).trans h2, (hc _).trans h3, (hc _).trans h4, h5, ?_⟩, Lies.below hb hlt h7⟩
    rcases h6 with h6 | ⟨b', o', cap, e, e1, e2, e3, e4⟩
    · exact .inl h6
    · exact .inr ⟨b', o', cap, e, e1, e2, Nat.lt_of_lt_of_le e3 hb.size, Lies.below hb e3 e4⟩
theorem Sl.below {w w' : World} (hb : Below w.heap.size w w') {L : Value} {kids : F} (h : Sl w L kids) : Sl w' L kids := by
  rcases h with h6 | ⟨b', o', cap, e, e1, e2, e3, e4⟩
  · exact .inl h6
  · exact .inr ⟨b', o', cap, e, e1, e2, Nat.lt_of_lt_of_le e3 hb.size, Lies.below hb e3 e4⟩
theorem Lies.drop {w : World} : ∀ {f : F} {b o : Nat} (i : Nat), Lies w f b o → Lies w (F.drop i f) b (o + 4 * i)
  | f, b, o, 0, h => by simpa [F.drop] using h
  | .nil, b, o, i + 1, _ => by simp [F.drop]; unfold Lies; trivial
  | .cons k n s kids r, b, o, i + 1, h => by
    obtain ⟨_, _, _, _, _, _, _, h7⟩ := h.cons
    have := Lies.drop i h7
    rw [show o + 4 * (i + 1) = o + 4 + 4 * i from by omega]
    simpa [F.drop] using this
theorem Lies.elt {w : World} {p : Int → Int → ByteArray → F → Prop} {f : F} {b o : Nat} (h : Lies w f b o) (ha : f.All p) (j : Nat) (hj : j < f.len) :
    ∃ k n s q L, w.cell? ⟨b, o + j * 4, none⟩ = some (.int .i64 k) ∧ w.cell? ⟨b, o + j * 4 + 1, none⟩ = some (.int .i64 n) ∧ w.cell? ⟨b, o + j * 4 + 2, none⟩ = some (.string s) ∧ w.cell? ⟨b, o + j * 4 + 3, none⟩ = some L ∧ Okv k n s ∧ Sl w L q ∧ p k n s q ∧
      F.drop j f = .cons k n s q (F.drop (j + 1) f) := by
  obtain ⟨k, n, s, q, e⟩ := F.drop_lt j hj
  have h1 := h.drop j
  have h2 := F.all_drop j ha
  rw [e] at h1 h2
  obtain ⟨L, c0, c1, c2, c3, c4, c5, _⟩ := h1.cons
  rw [Nat.mul_comm 4 j] at c0 c1 c2 c3
  exact ⟨k, n, s, q, L, c0, c1, c2, c3, c4, c5, h2.1, e⟩
/-- the header of a list shows what it is -/
theorem Sl.shape {w : World} {L : Value} {q : F} (h : Sl w L q) : ∃ p c, L = .slice p q.len c ∧ q.len ≤ 9223372036854775807 := by
  rcases h with ⟨p, c, rfl, rfl⟩ | ⟨b', o', cap, rfl, e1, e2, _⟩
  · exact ⟨p, c, rfl, by simp [F.len]⟩
  · exact ⟨_, _, rfl, by unfold maxLen at e2; omega⟩
end Go.Proofs.Ytaahmfmelmjahaa
