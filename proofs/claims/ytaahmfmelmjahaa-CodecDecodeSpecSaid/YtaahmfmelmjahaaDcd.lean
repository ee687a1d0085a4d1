/-
  What is decoded, as functions on bytes: they take back exactly the encodings.
-/
import Derived.Test.YtaahmfmelmjahaaInj
namespace Go.Proofs.Ytaahmfmelmjahaa
open Go Go.RowKit
/-- a number, of at most f + 1 digits; is this its first digit? -/
def dnumF : Nat → Bool → List UInt8 → Option (Nat × List UInt8)
  | _, _, [] => none
  | 0, first, c :: l => if c.toNat ≤ 1 then (if 0 < c.toNat ∨ first = true then some (c.toNat, l) else none) else none
  | f + 1, first, c :: l => if c.toNat < 128 then (if 0 < c.toNat ∨ first = true then some (c.toNat, l) else none) else
      match dnumF f false l with
      | some (y, r) => some (c.toNat % 128 + 128 * y, r)
      | none => none
def dnum (l : List UInt8) : Option (Nat × List UInt8) := dnumF 9 true l
theorem toNat_of {x : Nat} (h : x < 256) : (UInt8.ofNat x).toNat = x := UInt8.toNat_ofNat_of_lt' h
theorem dnumF_back : ∀ (f u : Nat) (first : Bool) (l : List UInt8), u < 2 * 128 ^ f → (0 < u ∨ first = true) → dnumF f first (numF (f + 1) u ++ l) = some (u, l)
  | 0, u, first, l, h, h1 => by
    have hu : u < 2 := by simpa using h
    rw [show numF (0 + 1) u = [UInt8.ofNat u] from by unfold numF; rw [if_pos (by omega)], List.cons_append, List.nil_append]
    unfold dnumF
    rw [toNat_of (by omega), if_pos (by omega), if_pos h1]
  | f + 1, u, first, l, h, h1 => by
    have hp : 128 ^ (f + 1) = 128 ^ f * 128 := Nat.pow_succ 128 f
    by_cases hu : u < 128
    · rw [show numF (f + 1 + 1) u = [UInt8.ofNat u] from by unfold numF; rw [if_pos hu], List.cons_append, List.nil_append]
      unfold dnumF
      rw [toNat_of (by omega), if_pos hu, if_pos h1]
    · rw [show numF (f + 1 + 1) u = UInt8.ofNat (u % 128 + 128) :: numF (f + 1) (u / 128) from by conv => lhs; unfold numF; rw [if_neg hu], List.cons_append]
      have ih := dnumF_back f (u / 128) false l (by omega) (.inl (by omega))
      unfold dnumF
      rw [toNat_of (by omega), if_neg (by omega), ih]
      simp only [Option.some.injEq, Prod.mk.injEq, and_true]
      omega
theorem dnumF_only : ∀ (f : Nat) (first : Bool) (l : List UInt8) (u : Nat) (r : List UInt8), dnumF f first l = some (u, r) → l = numF (f + 1) u ++ r ∧ u < 2 * 128 ^ f ∧ (0 < u ∨ first = true)
  | _, _, [], _, _, h => by unfold dnumF at h; cases h
  | 0, first, c :: l, u, r, h => by
    unfold dnumF at h
    split at h
    · split at h
      · obtain ⟨rfl, rfl⟩ : c.toNat = u ∧ l = r := by simpa using h
        refine ⟨?_, by simp; omega, by assumption⟩
        rw [show numF (0 + 1) c.toNat = [UInt8.ofNat c.toNat] from by unfold numF; rw [if_pos (by omega)]]
        simp
      · cases h
    · cases h
  | f + 1, first, c :: l, u, r, h => by
    have hc : c.toNat < 256 := c.toNat_lt
    have hp : 128 ^ (f + 1) = 128 ^ f * 128 := Nat.pow_succ 128 f
    have hpos : 0 < 128 ^ f := Nat.pow_pos (by omega)
    unfold dnumF at h
    split at h
    · split at h
      · obtain ⟨rfl, rfl⟩ : c.toNat = u ∧ l = r := by simpa using h
        refine ⟨?_, by omega, by assumption⟩
        rw [show numF (f + 1 + 1) c.toNat = [UInt8.ofNat c.toNat] from by unfold numF; rw [if_pos (by omega)]]
        simp
      · cases h
    · split at h
      · rename_i y r' hy
        obtain ⟨rfl, rfl⟩ : c.toNat % 128 + 128 * y = u ∧ r' = r := by simpa using h
        obtain ⟨h1, h2, h3⟩ := dnumF_only f false l y r' hy
        have hy0 : 0 < y := by simpa using h3
        refine ⟨?_, by omega, .inl (by omega)⟩
        rw [show numF (f + 1 + 1) (c.toNat % 128 + 128 * y) = UInt8.ofNat ((c.toNat % 128 + 128 * y) % 128 + 128) :: numF (f + 1) ((c.toNat % 128 + 128 * y) / 128) from by conv => lhs; unfold numF; rw [if_neg (by omega)]]
        rw [show (c.toNat % 128 + 128 * y) % 128 + 128 = c.toNat from by omega, show (c.toNat % 128 + 128 * y) / 128 = y from by omega, h1]
        simp
      · cases h
theorem dnum_back {u : Nat} (h : u < 18446744073709551616) (l : List UInt8) : dnum (num u ++ l) = some (u, l) :=
  dnumF_back 9 u true l (by have hp : (128 : Nat) ^ 9 = 9223372036854775808 := by decide
                            omega) (.inr rfl)
theorem dnum_only {l : List UInt8} {u : Nat} {r : List UInt8} (h : dnum l = some (u, r)) : l = num u ++ r ∧ u < 18446744073709551616 := by
  obtain ⟨h1, h2, _⟩ := dnumF_only 9 true l u r h
  have hp : (128 : Nat) ^ 9 = 9223372036854775808 := by decide
  exact ⟨h1, by omega⟩
/-- the number of an unsigned form -/
def sgn (u : Nat) : Int := if u % 2 = 0 then (u / 2 : Nat) else -((u / 2 : Nat) : Int) - 1
theorem sgn_uns (n : Int) : sgn (uns n) = n := by
  unfold sgn uns
  split <;> split <;> omega
theorem uns_sgn (u : Nat) : uns (sgn u) = u := by
  unfold sgn uns
  split <;> split <;> omega
theorem sgn_w64 {u : Nat} (h : u < 18446744073709551616) : W64 (sgn u) := by
  unfold sgn W64
  split <;> omega
/-- a value read: kind, number, text, elements, and the bytes behind it -/
structure Got where
  k : Int
  n : Int
  s : ByteArray
  q : F
  r : List UInt8
/-- so many values, read by rd -/
def decl (rd : List UInt8 → Option Got) : Nat → List UInt8 → Option (F × List UInt8)
  | 0, l => some (.nil, l)
  | u + 1, l =>
    match rd l with
    | none => none
    | some x =>
      match decl rd u x.r with
      | none => none
      | some (f, r) => some (.cons x.k x.n x.s x.q f, r)
/-- a value whose lists are nested at most so deep -/
def decv : Nat → List UInt8 → Option Got
  | _, [] => none
  | d, c :: l =>
    if c.toNat = 1 then (match dnum l with | none => none | some (u, r) => some ⟨1, sgn u, ByteArray.empty, .nil, r⟩)
    else if c.toNat = 2 then (match dnum l with | none => none | some (u, r) => if u ≤ r.length then some ⟨2, 0, ⟨(r.take u).toArray⟩, .nil, r.drop u⟩ else none)
    else if c.toNat = 3 then (match d with
      | 0 => none
      | d + 1 => match dnum l with
        | none => none
        | some (u, r) => match decl (decv d) u r with
          | none => none
          | some (f, r') => some ⟨3, 0, ByteArray.empty, f, r'⟩)
    else none
/-- the encoding of one value -/
abbrev enc1 (k n : Int) (s : ByteArray) (q : F) : List UInt8 := UInt8.ofNat k.toNat :: (num (hdv k n s.size q.len) ++ (s.data.toList ++ F.enc q))
theorem decl_back {rd : List UInt8 → Option Got} : ∀ (q : F) (r : List UInt8), (q.All fun k n s a => ∀ r, rd (enc1 k n s a ++ r) = some ⟨k, n, s, a, r⟩) → decl rd q.len (q.enc ++ r) = some (q, r)
  | .nil, r, _ => by simp [F.len, F.enc, decl]
  | .cons k n s a t, r, h => by
    have e : F.enc (.cons k n s a t) ++ r = enc1 k n s a ++ (F.enc t ++ r) := by
      show (enc1 k n s a ++ F.enc t) ++ r = _
      rw [List.append_assoc]
    have ih := decl_back t r h.2
    rw [e]
    simp only [F.len, decl, h.1 (F.enc t ++ r), ih]
def BackOK (k n : Int) (s : ByteArray) (q : F) : Prop := ∀ (d : Nat) (r : List UInt8), wfv k n s.size q.len (F.wf q) = true → depv k (F.dep q) ≤ d → W64 n → s.size ≤ 9223372036854775807 → q.len ≤ 9223372036854775807 → F.ok q → decv d (enc1 k n s q ++ r) = some ⟨k, n, s, q, r⟩
theorem back_elems {d : Nat} : ∀ {q : F}, q.All BackOK → F.wf q = true → F.dep q ≤ d → F.ok q → q.All fun k n s a => ∀ r, decv d (enc1 k n s a ++ r) = some ⟨k, n, s, a, r⟩
  | .nil, _, _, _, _ => trivial
  | .cons k n s a t, h, hw, hd, ho => by
    simp only [F.wf, Bool.and_eq_true] at hw
    simp only [F.dep] at hd
    exact ⟨fun r => h.1 d r hw.1 (by omega) ho.1.2.1 ho.1.2.2.1 ho.1.2.2.2 ho.2.1, back_elems h.2 hw.2 (by omega) ho.2.2⟩
theorem back_step (k n : Int) (s : ByteArray) (q : F) (h : q.All BackOK) : BackOK k n s q := by
  intro d r hw hd hn hs hq ho
  have hb := dnum_back (hdv_lt64 (k := k) hn hs hq) (s.data.toList ++ (F.enc q ++ r))
  have e : enc1 k n s q ++ r = UInt8.ofNat k.toNat :: (num (hdv k n s.size q.len) ++ (s.data.toList ++ (F.enc q ++ r))) := by simp [enc1]
  rw [e]
  have hsl : s.data.toList.length = s.size := by rw [Array.length_toList]; rfl
  rcases wfv_kind hw with ⟨rfl, a1, a2⟩ | ⟨rfl, a1, a2⟩ | ⟨rfl, a1, a2, a3⟩
  · obtain rfl := F.nil_of_len a2
    have hse : s = ByteArray.empty := bytes_inj (by rw [bytes_empty a1]; rfl)
    subst hse
    unfold decv
    rw [if_pos (by rfl), hb]
    simp only [hdv]
    rw [if_neg (by omega), if_neg (by omega), sgn_uns]
    rfl
  · obtain rfl := F.nil_of_len a2
    subst a1
    unfold decv
    rw [if_neg (by decide), if_pos (by rfl), hb]
    have e1 : hdv 2 0 s.size F.nil.len = s.data.toList.length := by rw [hsl]; rfl
    simp only [e1]
    rw [if_pos (by rw [List.length_append]; omega), List.take_left, List.drop_left]
    rfl
  · subst a1
    have hse : s = ByteArray.empty := bytes_inj (by rw [bytes_empty a2]; rfl)
    subst hse
    simp only [depv] at hd
    obtain ⟨d, rfl⟩ : ∃ d', d = d' + 1 := ⟨d - 1, by simp at hd; omega⟩
    have hel := decl_back q r (back_elems (d := d) h a3 (by simp at hd; omega) ho)
    unfold decv
    rw [if_neg (by decide), if_neg (by decide), if_pos (by rfl), hb]
    have e1 : hdv 3 0 ByteArray.empty.size q.len = q.len := rfl
    simp only [e1]
    have e2 : ByteArray.empty.data.toList ++ (F.enc q ++ r) = F.enc q ++ r := rfl
    rw [e2, hel]
theorem decv_back (k n : Int) (s : ByteArray) (q : F) : BackOK k n s q := (F.all_of back_step (.cons k n s q .nil)).1
/-- what was read is a value's encoding, and the value is as the encoding demands -/
structure Only (d : Nat) (l : List UInt8) (x : Got) : Prop where
  enc : l = enc1 x.k x.n x.s x.q ++ x.r
  wf : wfv x.k x.n x.s.size x.q.len (F.wf x.q) = true
  dep : depv x.k (F.dep x.q) ≤ d
  k : W64 x.k
  n : W64 x.n
  s : x.s.size ≤ 9223372036854775807
  q : x.q.len ≤ 9223372036854775807
  ok : F.ok x.q
theorem decl_only {d : Nat} {rd : List UInt8 → Option Got} (h : ∀ l x, l.length ≤ 9223372036854775807 → rd l = some x → Only d l x) : ∀ (u : Nat) (l : List UInt8) (f : F) (r : List UInt8), l.length ≤ 9223372036854775807 → decl rd u l = some (f, r) →
    l = F.enc f ++ r ∧ f.len = u ∧ F.wf f = true ∧ F.dep f ≤ d ∧ F.ok f ∧ f.len + r.length ≤ l.length
  | 0, l, f, r, _, e => by
    simp only [decl, Option.some.injEq, Prod.mk.injEq] at e
    obtain ⟨rfl, rfl⟩ := e
    exact ⟨rfl, rfl, rfl, Nat.zero_le _, trivial, by simp [F.len]⟩
  | u + 1, l, f, r, hl, e => by
    simp only [decl] at e
    split at e
    · cases e
    · rename_i x hx
      split at e
      · cases e
      · rename_i f' r' hf
        simp only [Option.some.injEq, Prod.mk.injEq] at e
        obtain ⟨rfl, rfl⟩ := e
        have h1 := h l x hl hx
        have hle : x.r.length + 1 ≤ l.length := by
          have := congrArg List.length h1.enc
          simp only [enc1, List.length_append, List.length_cons] at this
          omega
        obtain ⟨e1, e2, e3, e4, e5, e6⟩ := decl_only h u x.r f' r' (by omega) hf
        refine ⟨?_, by simp only [F.len, e2], by simp only [F.wf, h1.wf, e3, Bool.and_self], by have := h1.dep; simp only [F.dep]; omega, ⟨⟨h1.k, h1.n, h1.s, h1.q⟩, h1.ok, e5⟩, by simp only [F.len]; omega⟩
        rw [h1.enc, e1]
        show _ = (enc1 x.k x.n x.s x.q ++ F.enc f') ++ r'
        rw [List.append_assoc]
theorem decv_only : ∀ (d : Nat) (l : List UInt8) (x : Got), l.length ≤ 9223372036854775807 → decv d l = some x → Only d l x := by
  intro d
  induction d with
  | zero => ?_
  | succ d ih => ?_
  all_goals
    intro l x hl h
    cases l with
    | nil => unfold decv at h; cases h
    | cons c l => ?_
    simp only [List.length_cons] at hl
    unfold decv at h
    split at h
    · rename_i hc
      split at h
      · cases h
      · rename_i u r hu
        obtain ⟨e1, e2⟩ := dnum_only hu
        cases h
        have hcc : c = UInt8.ofNat 1 := by rw [← hc]; simp
        refine ⟨?_, by simp [wfv, F.len], by simp [depv], by show W64 1; unfold W64; omega, sgn_w64 e2, by simp, by simp [F.len], trivial⟩
        rw [e1, hcc]
        have e3 : hdv 1 (sgn u) ByteArray.empty.size F.nil.len = u := by simp only [hdv]; rw [if_neg (by omega), if_neg (by omega), uns_sgn]
        simp only [enc1, e3, F.enc]
        simp
    · split at h
      · rename_i hc
        split at h
        · cases h
        · rename_i u r hu
          obtain ⟨e1, e2⟩ := dnum_only hu
          split at h
          · rename_i hur
            cases h
            have hcc : c = UInt8.ofNat 2 := by rw [← hc]; simp
            have hsz : (⟨(r.take u).toArray⟩ : ByteArray).size = u := by
              show (r.take u).toArray.size = u
              simp; omega
            have hrl : r.length ≤ l.length := by rw [e1, List.length_append]; omega
            refine ⟨?_, by simp [wfv, F.len], by simp [depv], by show W64 2; unfold W64; omega, by show W64 0; unfold W64; omega, by rw [hsz]; omega, by simp [F.len], trivial⟩
            rw [e1, hcc]
            have e3 : hdv 2 0 (⟨(r.take u).toArray⟩ : ByteArray).size F.nil.len = u := by rw [hsz]; rfl
            simp only [enc1, e3, F.enc]
            simp
          · cases h
      · split at h
        · rename_i hc
          first
            | (cases h; done)
            | (change (match dnum l with | none => none | some (u, r) => match decl (decv d) u r with | none => none | some (f, r') => some (⟨3, 0, ByteArray.empty, f, r'⟩ : Got)) = some x at h
               split at h
               · cases h
               · rename_i u r hu
                 obtain ⟨e1, e2⟩ := dnum_only hu
                 have hrl : r.length ≤ l.length := by rw [e1, List.length_append]; omega
                 split at h
                 · cases h
                 · rename_i f r' hf
                   cases h
                   obtain ⟨f1, f2, f3, f4, f5, f6⟩ := decl_only ih u r f r' (by omega) hf
                   have hcc : c = UInt8.ofNat 3 := by rw [← hc]; simp
                   refine ⟨?_, by simp [wfv, f3], by simp only [depv, if_true]; omega, by show W64 3; unfold W64; omega, by show W64 0; unfold W64; omega, by simp, by show f.len ≤ _; omega, f5⟩
                   rw [e1, hcc, f1]
                   have e3 : hdv 3 0 ByteArray.empty.size f.len = u := f2
                   simp only [enc1, e3]
                   simp)
        · cases h
end Go.Proofs.Ytaahmfmelmjahaa
