/-
  The reader of the codec: numerals.
-/
import Derived.Test.YtaahmfmelmjahaaRd
import Derived.Laws.BitsAllLaws
namespace Go.Proofs.Ytaahmfmelmjahaa
open Go Go.RowKit
theorem require_of {b : Bool} (h : b = true) (w : World) : Calls Try.prog 36 #[.bool b] w fun e w' => e = .returned (.tuple #[]) ∧ w' = w := by
  subst h
  exact require_ok w
set_option maxRecDepth 100000 in
theorem or_digit {x d i : Nat} {z : Int} (hz : z = (d : Int)) (hx : x < 128 ^ i) (h : x + d * 128 ^ i < 18446744073709551616) : bits .or .u64 (x : Int) (IntKind.u64.wrap (z * 2 ^ (7 * i))) = ((x + d * 128 ^ i : Nat) : Int) := by
  have hp : (2 : Nat) ^ (7 * i) = 128 ^ i := by rw [Nat.pow_mul]
  have e1 : z * 2 ^ (7 * i) = ((d * 2 ^ (7 * i) : Nat) : Int) := by rw [hz]; simp
  rw [e1, IntKind.wrap_u64, hp]
  have e2 : ((d * 128 ^ i : Nat) : Int) % 18446744073709551616 = ((d * 128 ^ i : Nat) : Int) := by omega
  rw [e2, u64_or_nat x (d * 128 ^ i) (by omega) (by omega)]
  congr 1
  rw [Nat.mul_comm d, ← hp, Nat.or_comm, ← Nat.two_pow_add_eq_or_of_lt (by rw [hp]; exact hx), Nat.add_comm]
theorem or_zero {y i x0 u : Nat} (h0 : y = 0) (h : bits .or .u64 (x0 : Int) (IntKind.u64.wrap ((y : Int) % 128 * 2 ^ (7 * i))) = (u : Int)) : bits .or .u64 (x0 : Int) (IntKind.u64.wrap 0) = (u : Int) := by
  rw [h0] at h
  simpa using h
def NumR (g b u : Nat) (l : List UInt8) (w : World) (e : Ending) (w' : World) : Prop := e = .returned (.int .u64 u) ∧ Rd w' g b l ∧ Chg g w w'
structure NumI (g b u : Nat) (l : List UInt8) (i y x : Nat) (wr : World) : Prop where
  sum : u = x + y * 128 ^ i
  lt : x < 128 ^ i
  pos : i = 0 ∨ 0 < y
  rd : Rd wr g b (numF (10 - i) y ++ l)
theorem NumI.nine {g b u : Nat} {l : List UInt8} {i y x : Nat} {wr : World} (h : NumI g b u l i y x wr) (hi : i ≤ 9) (hu : u < 18446744073709551616) : i < 9 ∨ y ≤ 1 := by
  rcases Nat.lt_or_ge i 9 with h1 | h1
  · exact .inl h1
  · obtain rfl : i = 9 := by omega
    have hs := h.sum
    have hp : (128 : Nat) ^ 9 = 9223372036854775808 := by decide
    rw [hp] at hs
    exact .inr (by omega)
theorem NumI.parts {g b u : Nat} {l : List UInt8} {i y x : Nat} {wr : World} (h : NumI g b u l i y x wr) : u = (x + y % 128 * 128 ^ i) + y / 128 * 128 ^ (i + 1) ∧ x + y % 128 * 128 ^ i < 128 ^ (i + 1) := by
  have h1 : y * 128 ^ i = y % 128 * 128 ^ i + y / 128 * 128 ^ (i + 1) := by
    rw [Nat.pow_succ, Nat.mul_comm (128 ^ i) 128, ← Nat.mul_assoc, ← Nat.add_mul]
    congr 1
    omega
  have h2 : y % 128 * 128 ^ i ≤ 127 * 128 ^ i := Nat.mul_le_mul_right _ (by omega)
  have h3 := h.sum
  have h4 := h.lt
  have h5 : 128 ^ (i + 1) = 128 ^ i * 128 := Nat.pow_succ _ _
  exact ⟨by omega, by omega⟩
set_option maxRecDepth 100000 in
set_option maxHeartbeats 1000000 in
theorem num_ok (g b u : Nat) (l : List UInt8) (w : World) (hu : u < 18446744073709551616) (h : Rd w g b (num u ++ l)) (hl : l.length ≤ 1099511627776) :
    Calls Try.prog 50 #[.pointer (some ⟨g, 0, none⟩)] w (NumR g b u l w) := by
  have HR := Lib.hid (fun (c : Bool) (h : c = true) (w : World) => require_of h w)
  have hst : NumI g b u l 0 u 0 w := ⟨by simp, by simp, .inl rfl, h⟩
  clear h
  go_enter Try.func50, Try.ntmps50
  go_wp2_with fail
  go_loopw [3, 4] (fun x s wr => ∃ (i y x0 : Nat), i ≤ 9 ∧ x0 < 18446744073709551616 ∧ x = .int .u64 x0 ∧ s = .int .i64 (7 * i : Nat) ∧ Hid (NumI g b u l i y x0 wr) ∧ Chg g w wr) (fun _ s _ => 63 - (intOf s).toNat)
  case atStart => exact ⟨0, u, 0, by omega, by omega, rfl, rfl, hst, Chg.refl _ _⟩
  case round =>
    obtain ⟨i, y, x0, hi, hx, rfl, rfl, hI, hc⟩ := hrel
    clear hst
    obtain ⟨f, hf⟩ : ∃ f, f + i = 9 := ⟨9 - i, by omega⟩
    have hrd := hI.out.rd
    have h9 := hI.out.nine hi hu
    obtain ⟨hp1, hp2⟩ := hI.out.parts
    have ho := or_digit (z := (y : Int) % 128) (d := y % 128) (by omega) hI.out.lt (by omega)
    rw [show 10 - i = f + 1 from by omega] at hrd
    by_cases hy : y < 128
    · rw [numF_small hy, List.cons_append, List.nil_append] at hrd
      have hn := next_ok g b _ _ wr hrd (by omega)
      unfold Nxt at hn
      rw [byt_ofNat (by omega)] at hn
      have HN := Lib.hid hn
      have hp : 0 < y ∨ i = 0 := by have := hI.out.pos; omega
      have hfin : x0 + y % 128 * 128 ^ i = u := by
        rw [hp1, show y / 128 = 0 from by omega]
        simp
      rw [hfin] at ho
      have HO := Lib.hid ho
      have HP := Lib.hid (And.intro hI.out.sum hI.out.lt)
      clear hn hrd hp1 hp2 hfin ho
      go_wp2_with (first | (go_at_call 48; refine HN.out.mono ?_; rintro e w' ⟨rfl, hr, hc2⟩) | (go_at_call 36; refine (HR.out _ (by first | rfl | (simp; done) | (simp; omega)) _).mono ?_; rintro e w' ⟨rfl, rfl⟩))
      all_goals
        go_ret
        first
          | exact ⟨congrArg (fun z => Ending.returned (Value.int .u64 z)) HO.out, hr, hc.trans hc2⟩
          | exact ⟨congrArg (fun z => Ending.returned (Value.int .u64 z)) (or_zero (by omega) HO.out), hr, hc.trans hc2⟩
    · rw [numF_big (by omega), List.cons_append] at hrd
      have hfl := numF_length f (y / 128)
      have hn := next_ok g b _ _ wr hrd (by rw [List.length_append]; omega)
      unfold Nxt at hn
      rw [byt_ofNat (by omega)] at hn
      have HN := Lib.hid hn
      clear hn hrd hfl
      go_wp2_with (first | (go_at_call 48; refine HN.out.mono ?_; rintro e w' ⟨rfl, hr, hc2⟩) | (go_at_call 36; refine (HR.out _ (by first | rfl | (simp; done) | (simp; omega)) _).mono ?_; rintro e w' ⟨rfl, rfl⟩))
      refine ⟨⟨i + 1, y / 128, x0 + y % 128 * 128 ^ i, by omega, by omega, by simp, by congr 1 <;> omega, ⟨hp1, hp2, .inr (by omega), ?_⟩, hc.trans hc2⟩, by simp [intOf]; omega⟩
      rw [show 10 - (i + 1) = f from by omega]
      exact hr
end Go.Proofs.Ytaahmfmelmjahaa
