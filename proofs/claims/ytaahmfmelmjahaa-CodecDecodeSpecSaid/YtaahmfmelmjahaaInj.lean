/-
  No encoding is the beginning of another value's.
-/
import Derived.Test.YtaahmfmelmjahaaPure
namespace Go.Proofs.Ytaahmfmelmjahaa
open Go Go.RowKit
theorem ofNat_inj {a b : Nat} (ha : a < 256) (hb : b < 256) (h : UInt8.ofNat a = UInt8.ofNat b) : a = b := by
  have := congrArg UInt8.toNat h
  simp only [UInt8.toNat_ofNat'] at this
  omega
theorem numF_inj : ∀ (f u u' : Nat) (r r' : List UInt8), u < 128 ^ f → u' < 128 ^ f → numF f u ++ r = numF f u' ++ r' → u = u' ∧ r = r'
  | 0, u, u', r, r', h, h', e => by
    simp only [numF, List.nil_append] at e
    exact ⟨by omega, e⟩
  | f + 1, u, u', r, r', h, h', e => by
    have hp : 128 ^ (f + 1) = 128 ^ f * 128 := Nat.pow_succ 128 f
    unfold numF at e
    split at e <;> split at e
    · obtain ⟨e1, e2⟩ := List.cons.inj e
      exact ⟨ofNat_inj (by omega) (by omega) e1, e2⟩
    · obtain ⟨e1, e2⟩ := List.cons.inj e
      have := ofNat_inj (by omega) (by omega) e1
      omega
    · obtain ⟨e1, e2⟩ := List.cons.inj e
      have := ofNat_inj (by omega) (by omega) e1
      omega
    · obtain ⟨e1, e2⟩ := List.cons.inj e
      have h1 := ofNat_inj (by omega) (by omega) e1
      obtain ⟨h2, h3⟩ := numF_inj f (u / 128) (u' / 128) r r' (by omega) (by omega) e2
      exact ⟨by omega, h3⟩
theorem num_inj {u u' : Nat} {r r' : List UInt8} (h : u < 18446744073709551616) (h' : u' < 18446744073709551616) (e : num u ++ r = num u' ++ r') : u = u' ∧ r = r' := by
  have hp : (128 : Nat) ^ 10 = 1180591620717411303424 := by decide
  exact numF_inj 10 u u' r r' (by omega) (by omega) e
theorem uns_inj {n n' : Int} (e : uns n = uns n') : n = n' := by
  unfold uns at e
  split at e <;> split at e <;> omega
theorem uns_lt64 {n : Int} (h : W64 n) : uns n < 18446744073709551616 := by
  unfold W64 at h
  unfold uns
  split <;> omega
/-- all numbers and sizes are such as memory holds -/
def F.ok : F → Prop
  | .nil => True
  | .cons k n s q r => (W64 k ∧ W64 n ∧ s.size ≤ 9223372036854775807 ∧ q.len ≤ 9223372036854775807) ∧ F.ok q ∧ F.ok r
theorem hdv_lt64 {k n : Int} {a b : Nat} (hn : W64 n) (ha : a ≤ 9223372036854775807) (hb : b ≤ 9223372036854775807) : hdv k n a b < 18446744073709551616 := by
  unfold hdv
  have := uns_lt64 hn
  split
  · omega
  · split <;> omega
theorem F.nil_of_len {q : F} (h : q.len = 0) : q = .nil := by
  cases q with
  | nil => rfl
  | cons k n s a r => simp [F.len] at h
theorem bytes_empty {s : ByteArray} (h : s.size = 0) : s.data.toList = [] := by
  have h3 : s.data.toList.length = s.size := by rw [Array.length_toList]; rfl
  exact List.eq_nil_of_length_eq_zero (by omega)
theorem bytes_inj {s s' : ByteArray} (h : s.data.toList = s'.data.toList) : s = s' := ByteArray.ext (Array.toList_inj.1 h)
theorem wfv_kind {k n : Int} {a b : Nat} {c : Bool} (h : wfv k n a b c = true) : (k = 1 ∧ a = 0 ∧ b = 0) ∨ (k = 2 ∧ n = 0 ∧ b = 0) ∨ (k = 3 ∧ n = 0 ∧ a = 0 ∧ c = true) := by
  unfold wfv at h
  split at h
  · simp only [Bool.and_eq_true, beq_iff_eq] at h
    exact .inl ⟨by assumption, h.1, h.2⟩
  · split at h
    · simp only [Bool.and_eq_true, beq_iff_eq] at h
      exact .inr (.inl ⟨by assumption, h.1, h.2⟩)
    · split at h
      · simp only [Bool.and_eq_true, beq_iff_eq] at h
        exact .inr (.inr ⟨by assumption, h.1, h.2.1, h.2.2⟩)
      · cases h
theorem F.enc_inj : ∀ (f f' : F) (r r' : List UInt8), f.ok → f'.ok → f.wf = true → f'.wf = true → f.len = f'.len → f.enc ++ r = f'.enc ++ r' → f = f' ∧ r = r'
  | .nil, .nil, r, r', _, _, _, _, _, e => ⟨rfl, by simpa [F.enc] using e⟩
  | .nil, .cons .., _, _, _, _, _, _, hl, _ => by simp [F.len] at hl
  | .cons .., .nil, _, _, _, _, _, _, hl, _ => by simp [F.len] at hl
  | .cons k n s q t, .cons k' n' s' q' t', r, r', ho, ho', hw, hw', hl, e => by
    obtain ⟨⟨o1, o2, o3, o4⟩, o5, o6⟩ := ho
    obtain ⟨⟨p1, p2, p3, p4⟩, p5, p6⟩ := ho'
    simp only [F.wf, Bool.and_eq_true] at hw hw'
    simp only [F.len, Nat.add_right_cancel_iff] at hl
    simp only [F.enc, List.cons_append, List.append_assoc, List.cons.injEq] at e
    obtain ⟨e1, e2⟩ := e
    obtain ⟨e3, e4⟩ := num_inj (hdv_lt64 o2 o3 o4) (hdv_lt64 p2 p3 p4) e2
    have hk := wfv_kind hw.1
    have hk' := wfv_kind hw'.1
    have hkk : k = k' := by
      have h1 : k.toNat = k'.toNat := ofNat_inj (by omega) (by omega) e1
      omega
    subst hkk
    rcases hk with ⟨rfl, a1, a2⟩ | ⟨rfl, a1, a2⟩ | ⟨rfl, a1, a2, a3⟩
    · rcases hk' with ⟨_, b1, b2⟩ | ⟨h, _⟩ | ⟨h, _⟩
      · have hq := F.nil_of_len a2
        have hq' := F.nil_of_len b2
        subst hq hq'
        have hs : s = s' := bytes_inj ((bytes_empty a1).trans (bytes_empty b1).symm)
        subst hs
        have hn : n = n' := uns_inj (by simpa [hdv] using e3)
        subst hn
        obtain ⟨h1, h2⟩ := F.enc_inj t t' r r' o6 p6 hw.2 hw'.2 hl (by simpa [F.enc] using e4)
        exact ⟨by rw [h1], h2⟩
      · omega
      · omega
    · rcases hk' with ⟨h, _⟩ | ⟨_, b1, b2⟩ | ⟨h, _⟩
      · omega
      · have hq := F.nil_of_len a2
        have hq' := F.nil_of_len b2
        subst hq hq' a1 b1
        have hz : s.size = s'.size := by simpa [hdv] using e3
        obtain ⟨e5, e6⟩ := List.append_inj e4 (by rw [Array.length_toList, Array.length_toList]; exact hz)
        have hs := bytes_inj e5
        subst hs
        obtain ⟨h1, h2⟩ := F.enc_inj t t' r r' o6 p6 hw.2 hw'.2 hl (by simpa [F.enc] using e6)
        exact ⟨by rw [h1], h2⟩
      · omega
    · rcases hk' with ⟨h, _⟩ | ⟨h, _⟩ | ⟨_, b1, b2, b3⟩
      · omega
      · omega
      · subst a1 b1
        have hs : s = s' := bytes_inj ((bytes_empty a2).trans (bytes_empty b2).symm)
        subst hs
        have hz : q.len = q'.len := by simpa [hdv] using e3
        obtain ⟨h1, h2⟩ := F.enc_inj q q' _ _ o5 p5 a3 b3 hz (List.append_cancel_left e4)
        obtain ⟨h3, h4⟩ := F.enc_inj t t' r r' o6 p6 hw.2 hw'.2 hl h2
        exact ⟨by rw [h1, h3], h4⟩
theorem F.same_eq : ∀ {f g : F}, F.same f g = true → f = g
  | .nil, .nil, _ => rfl
  | .nil, .cons .., h => by simp [F.same] at h
  | .cons .., .nil, h => by simp [F.same] at h
  | .cons k n s q r, .cons k' n' s' q' r', h => by
    simp only [F.same, Bool.and_eq_true, beq_iff_eq] at h
    obtain ⟨⟨⟨⟨h1, h2⟩, h3⟩, h4⟩, h5⟩ := h
    rw [ByteArray.toList_eq, ByteArray.toList_eq] at h3
    rw [h1, h2, bytes_inj h3, F.same_eq h4, F.same_eq h5]
/-- what lies in memory has numbers and sizes such as memory holds -/
theorem Lies.ok {w : World} : ∀ {f : F} {b o : Nat}, Lies w f b o → F.ok f
  | .nil, _, _, _ => trivial
  | .cons k n s q r, b, o, h => by
    unfold Lies at h
    obtain ⟨⟨L, _, _, _, _, h5, h6⟩, h7⟩ := h
    have hs := h5.2.2
    unfold maxLen at hs
    refine ⟨⟨h5.1, h5.2.1, hs, ?_⟩, ?_, Lies.ok h7⟩
    · rcases h6 with ⟨_, _, _, rfl⟩ | ⟨_, _, cap, _, e1, e2, _⟩
      · simp [F.len]
      · unfold maxLen at e2
        omega
    · rcases h6 with ⟨_, _, _, rfl⟩ | ⟨_, _, cap, _, _, _, _, e4⟩
      · trivial
      · exact Lies.ok e4
theorem Sl.ok {w : World} {L : Value} {q : F} (h : Sl w L q) : F.ok q := by
  rcases h with ⟨_, _, _, rfl⟩ | ⟨_, _, cap, _, _, _, _, e4⟩
  · trivial
  · exact e4.ok
end Go.Proofs.Ytaahmfmelmjahaa
