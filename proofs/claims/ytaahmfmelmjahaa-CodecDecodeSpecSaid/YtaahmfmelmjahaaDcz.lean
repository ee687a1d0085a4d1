/-
  Decode of the codec, whatever the bytes.
-/
import Derived.Test.YtaahmfmelmjahaaDcy
import Derived.Test.YtaahmfmelmjahaaRdq
namespace Go.Proofs.Ytaahmfmelmjahaa
open Go Go.RowKit
/-- what bytes decode to -/
def dec (l : List UInt8) : Option Got :=
  match decv 16 l with
  | some x => if x.r.length = 0 then some x else none
  | none => none
def DecA (l : List UInt8) (w : World) (e : Ending) (w' : World) : Prop :=
  match dec l with
  | some x => ∃ L, e = .returned (.tuple #[val x.k x.n x.s L, .int .i64 0]) ∧ Okv x.k x.n x.s ∧ Sl w' L x.q ∧ Below w.heap.size w w'
  | none => DecNo w e w'
theorem rd_in {w : World} {g b : Nat} {l : List UInt8} (h : Rd w g b l) : ∃ b', Rd w g b' l ∧ b' < w.heap.size := by
  have hg := h.lt
  obtain ⟨p, hp, h1⟩ := h
  rcases h1 with h1 | ⟨o, e, c1, c2, c3⟩
  · exact ⟨g, ⟨p, hp, .inl h1⟩, hg⟩
  · exact ⟨b, ⟨p, hp, .inr ⟨o, e, c1, c2, c3⟩⟩, c2⟩
theorem dec_all (b N cap : Nat) (p : Option Addr) (l : List UInt8) (w : World) (hN : l.length = N) (hc : N ≤ cap) (hm : cap ≤ 9223372036854775807) (hb : BArg w b p l) (hl : l.length ≤ 1099511627776) :
    Calls Try.prog 18 #[.slice p N cap] w (DecA l w) := by
  have hv : ∀ (g : Nat) (w1 : World), Rd w1 g b l → ∃ b', (l = [] ∨ b' = b) ∧ Calls Try.prog 35 #[.pointer (some ⟨g, 0, none⟩), .int .i64 16] w1 (ValA g b' 16 l w1) := fun g w1 hr => by
    have hg := hr.lt
    have hr' := hr
    obtain ⟨p, hp, h1⟩ := hr
    rcases h1 with h1 | ⟨o, e, c1, c2, c3⟩
    · have hr2 : Rd w1 g g l := ⟨p, hp, .inl h1⟩
      exact ⟨g, .inl h1, value_all 16 (Nat.le_refl _) g g l w1 hr2 hg hl⟩
    · exact ⟨b, .inr rfl, value_all 16 (Nat.le_refl _) g b l w1 hr' c2 hl⟩
  unfold DecA dec
  cases hd : decv 16 l with
  | none =>
    refine dec_refused b N cap p l w hN hc hm hb fun g w1 hr => ?_
    obtain ⟨b', _, h⟩ := hv g w1 hr
    unfold ValA at h
    rw [hd] at h
    exact h
  | some x =>
    have hne : l ≠ [] := by
      rintro rfl
      unfold decv at hd
      cases hd
    have hv2 : ∀ (g : Nat) (w1 : World), Rd w1 g b l → Calls Try.prog 35 #[.pointer (some ⟨g, 0, none⟩), .int .i64 16] w1 (GotR g b x.k x.n x.s x.q x.r (fun g w' L q => Okv x.k x.n x.s ∧ Sl (Cut (old (g + 1)) w') L q) w1) := fun g w1 hr => by
      obtain ⟨b', hbb, h⟩ := hv g w1 hr
      rcases hbb with h0 | rfl
      · exact (hne h0).elim
      unfold ValA at h
      rw [hd] at h
      refine h.mono ?_
      rintro e w' ⟨L, rfl, ho, hs, hr', hc'⟩
      obtain ⟨pL, cL, rfl, _⟩ := hs.shape
      exact ⟨pL, cL, rfl, ⟨ho, cut_less hr.lt hs⟩, hr', hc'⟩
    by_cases hr : x.r.length = 0
    · simp only [hr, if_true]
      refine (dec_done b N cap p l x.k x.n x.s x.q x.r _ w hN hc hm hb hr hv2).mono ?_
      rintro e w' ⟨pL, cL, rfl, hbl, w1, ⟨ho, hs⟩, hsz, hsame⟩
      exact ⟨_, rfl, ho, cut_sl (cut_mono (Z' := old (w.heap.size + 1 + 1 + 1)) hsz (fun k _ hz => ⟨hz, hsame k (by simp only [old, decide_eq_false_iff_not] at hz; omega) (by simp only [old, decide_eq_false_iff_not] at hz; omega)⟩) hs), hbl⟩
    · simp only [hr, if_false]
      have hx := decv_only 16 l x (by omega) hd
      have hle : x.r.length ≤ l.length := by
        have := congrArg List.length hx.enc
        rw [List.length_append] at this
        omega
      exact dec_left b N cap p l x.k x.n x.s x.q x.r _ w hN hc hm hb hr (by omega) hv2
end Go.Proofs.Ytaahmfmelmjahaa
