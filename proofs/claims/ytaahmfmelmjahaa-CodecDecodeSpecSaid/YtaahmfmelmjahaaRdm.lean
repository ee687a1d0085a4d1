/-
  The reader of the codec: numerals, whatever the bytes.
-/
import Derived.Test.YtaahmfmelmjahaaRdx
import Derived.Test.YtaahmfmelmjahaaDcd
namespace Go.Proofs.Ytaahmfmelmjahaa
open Go Go.RowKit
def NumA (g b : Nat) (l : List UInt8) (w : World) (e : Ending) (w' : World) : Prop :=
  match dnum l with
  | some (u, r) => e = .returned (.int .u64 u) ∧ Rd w' g b r ∧ Chg g w w'
  | none => Refused g w e w'
theorem numA_no {g b : Nat} {l : List UInt8} {w w' : World} (h : dnum l = none) (hc : Chg g w w') : NumA g b l w (.panicked bad) w' := by
  unfold NumA
  rw [h]
  exact ⟨rfl, hc⟩
theorem numA_ok {g b u : Nat} {l r : List UInt8} {w w' : World} {z : Int} (h : dnum l = some (u, r)) (hz : z = (u : Int)) (hr : Rd w' g b r) (hc : Chg g w w') : NumA g b l w (.returned (.int .u64 z)) w' := by
  unfold NumA
  rw [h, hz]
  exact ⟨rfl, hr, hc⟩
structure NumJ (g b : Nat) (l : List UInt8) (i x : Nat) (l' : List UInt8) (wr : World) : Prop where
  lt : x < 128 ^ i
  eq : dnum l = match dnumF (9 - i) (decide (i = 0)) l' with | some (y, r) => some (x + y * 128 ^ i, r) | none => none
  rd : Rd wr g b l'
  len : l'.length ≤ l.length
theorem digit_bound {x c i : Nat} (hi : i ≤ 9) (hx : x < 128 ^ i) (hc : c < 128) (h9 : i < 9 ∨ c ≤ 1) : x + c * 128 ^ i < 18446744073709551616 := by
  rcases Nat.lt_or_ge i 9 with h | h
  · have h1 : 128 ^ i ≤ 128 ^ 8 := Nat.pow_le_pow_right (by omega) (by omega)
    have h2 : (128 : Nat) ^ 8 = 72057594037927936 := by decide
    have h3 : c * 128 ^ i ≤ 127 * 128 ^ i := Nat.mul_le_mul_right _ (by omega)
    omega
  · obtain rfl : i = 9 := by omega
    have h2 : (128 : Nat) ^ 9 = 9223372036854775808 := by decide
    rw [h2] at hx ⊢
    omega
theorem NumJ.last {g b : Nat} {l : List UInt8} {i x : Nat} {c : UInt8} {t : List UInt8} {wr : World} (h : NumJ g b l i x (c :: t) wr) (hi : i ≤ 9) (h9 : i < 9 ∨ c.toNat ≤ 1) (hc : c.toNat < 128) (h0 : 0 < c.toNat ∨ i = 0) : dnum l = some (x + c.toNat * 128 ^ i, t) := by
  rw [h.eq]
  cases hf : 9 - i with
  | zero => unfold dnumF; rw [if_pos (by omega), if_pos (by simpa using h0)]
  | succ f => unfold dnumF; rw [if_pos hc, if_pos (by simpa using h0)]
theorem NumJ.none {g b : Nat} {l : List UInt8} {i x : Nat} {l' : List UInt8} {wr : World} (h : NumJ g b l i x l' wr) (hi : i ≤ 9) (h0 : l' = [] ∨ ∃ c t, l' = c :: t ∧ ((¬ (i < 9 ∨ c.toNat ≤ 1)) ∨ ((i < 9 ∨ c.toNat ≤ 1) ∧ c.toNat < 128 ∧ ¬ (0 < c.toNat ∨ i = 0)))) : dnum l = none := by
  rw [h.eq]
  rcases h0 with rfl | ⟨c, t, rfl, h0⟩
  · unfold dnumF; rfl
  · cases hf : 9 - i with
    | zero =>
      unfold dnumF
      rcases h0 with h0 | ⟨h1, h2, h3⟩
      · rw [if_neg (by omega)]
      · rw [if_pos (by omega), if_neg (by simpa using h3)]
    | succ f =>
      unfold dnumF
      rcases h0 with h0 | ⟨h1, h2, h3⟩
      · omega
      · rw [if_pos h2, if_neg (by simpa using h3)]
theorem NumJ.next {g b : Nat} {l : List UInt8} {i x : Nat} {c : UInt8} {t : List UInt8} {wr w' : World} (h : NumJ g b l i x (c :: t) wr) (hi : i < 9) (hc : ¬ c.toNat < 128) (hr : Rd w' g b t) : NumJ g b l (i + 1) (x + c.toNat % 128 * 128 ^ i) t w' := by
  have hp : 128 ^ (i + 1) = 128 ^ i * 128 := Nat.pow_succ _ _
  have h2 : c.toNat % 128 * 128 ^ i ≤ 127 * 128 ^ i := Nat.mul_le_mul_right _ (by omega)
  have h4 := h.lt
  refine ⟨by omega, ?_, hr, by have := h.len; simp only [List.length_cons] at this; omega⟩
  rw [h.eq, show 9 - i = (9 - (i + 1)) + 1 from by omega]
  conv => lhs; unfold dnumF
  rw [if_neg hc]
  have hd : decide (i + 1 = 0) = false := by simp
  rw [hd]
  cases dnumF (9 - (i + 1)) false t with
  | none => rfl
  | some a =>
    obtain ⟨y, r⟩ := a
    simp only [Option.some.injEq, Prod.mk.injEq, and_true]
    rw [hp, Nat.add_mul, Nat.mul_comm 128 y, Nat.mul_assoc, Nat.mul_comm 128 (128 ^ i), Nat.add_assoc]
set_option maxRecDepth 100000 in
set_option maxHeartbeats 1000000 in
theorem num_all (g b : Nat) (l : List UInt8) (w : World) (h : Rd w g b l) (hl : l.length ≤ 1099511627776) :
    Calls Try.prog 50 #[.pointer (some ⟨g, 0, none⟩)] w (NumA g b l w) := by
  have HR := Lib.hid (fun (c : Bool) (h : c = true) (w : World) => require_of h w)
  have HX := Lib.hid (fun (c : Bool) (h : c = false) (w : World) => require_refuse h w)
  have hst : NumJ g b l 0 0 l w := ⟨by simp, by
    unfold dnum
    simp only [Nat.sub_zero, decide_true]
    cases dnumF 9 true l with
    | none => rfl
    | some a => simp, h, Nat.le_refl _⟩
  clear h
  go_enter Try.func50, Try.ntmps50
  go_wp2_with fail
  go_loopw [3, 4] (fun x s wr => ∃ (i x0 : Nat) (l' : List UInt8), i ≤ 9 ∧ x0 < 18446744073709551616 ∧ x = .int .u64 x0 ∧ s = .int .i64 (7 * i : Nat) ∧ Hid (NumJ g b l i x0 l' wr) ∧ Chg g w wr) (fun _ s _ => 63 - (intOf s).toNat)
  case atStart => exact ⟨0, 0, l, by omega, by omega, rfl, rfl, hst, Chg.refl _ _⟩
  case round =>
    obtain ⟨i, x0, l', hi, hx, rfl, rfl, hI, hc⟩ := hrel
    clear hst
    rcases l' with _ | ⟨c, t⟩
    · have hn := next_no g b wr hI.out.rd
      have hno := hI.out.none hi (.inl rfl)
      have HN := Lib.hid hn
      have HNO := Lib.hid hno
      clear hn hno hI
      go_wp2_with (go_at_call 48; refine HN.out.mono ?_; rintro e w' ⟨rfl, hc2⟩)
      exact ⟨rfl, numA_no HNO.out (hc.trans hc2)⟩
    · have hn := next_ok g b c t wr hI.out.rd (by have := hI.out.len; simp only [List.length_cons] at this; omega)
      have hm : c.toNat < 256 := c.toNat_lt
      have n1 := fun h => hI.out.none hi (.inr ⟨c, t, rfl, .inl h⟩)
      have n2 := fun h => hI.out.none hi (.inr ⟨c, t, rfl, .inr h⟩)
      have o1 := fun h9 hc h0 => hI.out.last hi h9 hc h0
      have x1 := fun (w' : World) (hi9 : i < 9) (hc : ¬ c.toNat < 128) (hr : Rd w' g b t) => hI.out.next hi9 hc hr
      have hx1 := hI.out.lt
      have hor := fun h9 => or_digit (z := (c.toNat : Int) % 128) (d := c.toNat % 128) (by omega) hx1 (digit_bound hi hx1 (by omega) h9)
      have hbd := fun h9 => digit_bound (c := c.toNat % 128) hi hx1 (by omega) h9
      unfold Nxt byt at hn
      generalize c.toNat = m at *
      have HN := Lib.hid hn
      have N1 := Lib.hid n1
      have N2 := Lib.hid n2
      have O1 := Lib.hid o1
      have X1 := Lib.hid x1
      have HOR := Lib.hid hor
      have HBD := Lib.hid hbd
      clear hn n1 n2 o1 x1 hor hbd hx1 hI
      by_cases h9 : i < 9 ∨ m ≤ 1
      · by_cases hm1 : m < 128
        · by_cases h0 : 0 < m ∨ i = 0
          · have ho := HOR.out (by omega)
            have hok := O1.out h9 hm1 h0
            rw [show m % 128 = m from by omega] at ho
            have HO := Lib.hid ho
            have HOK := Lib.hid hok
            clear ho hok HOR HBD N1 N2 X1 O1
            go_wp2_with (first | (go_at_call 48; refine HN.out.mono ?_; rintro e w' ⟨rfl, hr, hc2⟩) | (go_at_call 36; refine (HR.out _ (by first | rfl | (simp; done) | (simp; omega)) _).mono ?_; rintro e w' ⟨rfl, rfl⟩))
            all_goals
              go_ret
              first
                | exact numA_ok HOK.out HO.out hr (hc.trans hc2)
                | exact numA_ok HOK.out (or_zero (by omega) HO.out) hr (hc.trans hc2)
          · have hno := N2.out ⟨h9, hm1, h0⟩
            have HNO := Lib.hid hno
            clear hno HOR HBD N1 N2 X1 O1
            go_wp2_with (first | (go_at_call 48; refine HN.out.mono ?_; rintro e w' ⟨rfl, hr, hc2⟩) | (go_at_call 36; first | (refine (HR.out _ (by first | rfl | (simp; done) | (simp; omega)) _).mono ?_; rintro e w' ⟨rfl, rfl⟩) | (refine (HX.out _ (by first | rfl | (simp; done) | (simp; omega)) _).mono ?_; rintro e w' ⟨rfl, rfl⟩)))
            all_goals exact ⟨rfl, numA_no HNO.out (hc.trans hc2)⟩
        · have hi9 : i < 9 := by omega
          have ho := HOR.out (.inl hi9)
          have hb := HBD.out (.inl hi9)
          have hx2 := fun w' hr => X1.out w' hi9 hm1 hr
          have HO := Lib.hid ho
          have HX2 := Lib.hid hx2
          clear hx2 HOR HBD N1 N2 X1 O1
          go_wp2_with (first | (go_at_call 48; refine HN.out.mono ?_; rintro e w' ⟨rfl, hr, hc2⟩) | (go_at_call 36; refine (HR.out _ (by first | rfl | (simp; done) | (simp; omega)) _).mono ?_; rintro e w' ⟨rfl, rfl⟩))
          refine ⟨⟨i + 1, x0 + m % 128 * 128 ^ i, t, by omega, hb, by simp, by congr 1 <;> omega, HX2.out _ hr, hc.trans hc2⟩, by simp [intOf]; omega⟩
      · have hno := N1.out h9
        have HNO := Lib.hid hno
        clear hno HOR HBD N1 N2 X1 O1
        go_wp2_with (first | (go_at_call 48; refine HN.out.mono ?_; rintro e w' ⟨rfl, hr, hc2⟩) | (go_at_call 36; refine (HX.out _ (by first | rfl | (simp; done) | (simp; omega)) _).mono ?_; rintro e w' ⟨rfl, rfl⟩))
        all_goals exact ⟨rfl, numA_no HNO.out (hc.trans hc2)⟩
end Go.Proofs.Ytaahmfmelmjahaa
