/-
  Links: which are valid, and the program's and the reference's words for parties and packets.
-/
import Derived.Test.YtpempgajejbdoaaNt
import Derived.Test.YtpempgajejbdoaaLater
namespace Go.Proofs.Ytpempgajejbdoaa
open Go Go.RowKit
variable {F : Nat → Prop}
def siteB (a : Int) : Bool := decide (0 ≤ a) && decide (a < 24)
def endsB (a b : Int) : Bool := (decide (a ≠ b) && siteB a) && siteB b
def pkB (x : Pk) : Bool := endsB x.1 x.2.1 && decide (x.2.2.length ≤ 1048576)
theorem isParty_any (a : Int) (w : World) : Calls Try.prog 45 #[.int .i64 a] w (fun e w' => e = .returned (.bool (siteB a)) ∧ w' = w) := by
  by_cases h0 : 0 ≤ a
  by_cases h1 : a < 24
  all_goals
    go_enter Try.func45, Try.ntmps45
    go_wp2_with fail
    go_ret
    exact ⟨ret_bool (by unfold siteB; first | (simp [*]; done) | (simp; omega)), rfl⟩
theorem site_any (a : Int) (w : World) : Calls Try.prog 33 #[.int .i64 a] w (fun e w' => e = .returned (.bool (siteB a)) ∧ w' = w) := by
  by_cases h0 : 0 ≤ a
  by_cases h1 : a < 24
  all_goals
    go_enter Try.func33, Try.ntmps33
    go_wp2_with fail
    go_ret
    exact ⟨ret_bool (by unfold siteB; first | (simp [*]; done) | (simp; omega)), rfl⟩
theorem ends_any (a b : Int) (w : World) : Calls Try.prog 34 #[.int .i64 a, .int .i64 b] w (fun e w' => e = .returned (.bool (endsB a b)) ∧ w' = w) := by
  have HA := fun W => isParty_any a W
  have HB := fun W => isParty_any b W
  have HE : Hid (endsB a b = ((decide (a ≠ b) && siteB a) && siteB b)) := Lib.hid rfl
  generalize siteB a = sa at HA HE
  generalize siteB b = sb at HB HE
  have HA := Lib.hid HA
  have HB := Lib.hid HB
  by_cases h0 : a = b
  · subst h0
    go_enter Try.func34, Try.ntmps34
    go_wp2_with fail
    go_ret
    exact ⟨ret_bool (by rw [HE.out]; simp), rfl⟩
  have h1 : (a != b) = true := by simp [h0]
  have HN := Lib.hid h0
  clear h0
  cases sa
  · go_enter Try.func34, Try.ntmps34
    go_wp2_with (go_at_call 45; refine (HA.out _).mono ?_; rintro e w' ⟨rfl, rfl⟩)
    go_ret
    exact ⟨ret_bool (by rw [HE.out]; simp), rfl⟩
  · go_enter Try.func34, Try.ntmps34
    go_wp2_with fail
    refine (HA.out _).mono ?_
    rintro e w' ⟨rfl, rfl⟩
    go_wp2_with fail
    refine (HB.out _).mono ?_
    rintro e w' ⟨rfl, rfl⟩
    go_wp2_with fail
    go_ret
    exact ⟨ret_bool (by rw [HE.out]; have := HN.out; simp [this]), rfl⟩
/-- a packet, opened -/
theorem PKV.open {w : World} {v : Value} {x : Pk} (h : PKV F w v x) : ∃ p L c, v = .agg #[.int .i64 x.1, .int .i64 x.2.1, .slice p L c] ∧ Hid (x.2.2.length = L ∧ PKV F w v x) ∧ L ≤ c ∧ c ≤ 9223372036854775807 := by
  obtain ⟨u, rfl, h1, h2, h3⟩ := h
  obtain ⟨p, c, rfl, h4, h5⟩ := h3.shape
  unfold maxLen at h5
  exact ⟨p, _, c, rfl, Lib.hid ⟨rfl, _, rfl, h1, h2, h3⟩, h4, by omega⟩
theorem vpacket_any (v : Value) (x : Pk) (w : World) (h : PKV F w v x) : Calls Try.prog 28 #[v] w (Ret (.bool (pkB x)) w) := by
  obtain ⟨p, L, c, rfl, HX, h1, h2⟩ := h.open
  obtain ⟨f, t, l⟩ := x
  have HE := fun W => ends_any f t W
  have HP : Hid (pkB (f, t, l) = (endsB f t && decide (L ≤ 1048576))) := Lib.hid (by unfold pkB; rw [← HX.out.1])
  generalize endsB f t = s at HE HP
  have HE := Lib.hid HE
  clear h
  cases s
  · go_enter Try.func28, Try.ntmps28
    go_wp2_with (go_at_call 34; refine (HE.out _).mono ?_; rintro e w' ⟨rfl, rfl⟩)
    go_ret
    exact ⟨ret_bool (by rw [HP.out]; simp), one_new _ _⟩
  by_cases hL : (L : Int) ≤ 1048576
  all_goals
    go_enter Try.func28, Try.ntmps28
    go_wp2_with (go_at_call 34; refine (HE.out _).mono ?_; rintro e w' ⟨rfl, rfl⟩)
    go_ret
    exact ⟨ret_bool (by rw [HP.out]; simp; omega), one_new _ _⟩
theorem rpacket_any (v : Value) (x : Pk) (w : World) (h : PKV F w v x) : Calls Try.prog 30 #[v] w (Ret (.bool (pkB x)) w) := by
  obtain ⟨p, L, c, rfl, HX, h1, h2⟩ := h.open
  obtain ⟨f, t, l⟩ := x
  have HF := fun W => site_any f W
  have HT := fun W => site_any t W
  have HP : Hid (pkB (f, t, l) = (((decide (f ≠ t) && siteB f) && siteB t) && decide (L ≤ 1048576))) := Lib.hid (by unfold pkB endsB; rw [← HX.out.1])
  generalize siteB f = sf at HF HP
  generalize siteB t = st at HT HP
  have HF := Lib.hid HF
  have HT := Lib.hid HT
  clear h
  cases sf
  · go_enter Try.func30, Try.ntmps30
    go_wp2_with (go_at_call 33; refine (HF.out _).mono ?_; rintro e w' ⟨rfl, rfl⟩)
    go_ret
    exact ⟨ret_bool (by rw [HP.out]; simp), one_new _ _⟩
  cases st
  · go_enter Try.func30, Try.ntmps30
    go_wp2_with fail
    refine (HF.out _).mono ?_
    rintro e w' ⟨rfl, rfl⟩
    go_wp2_with fail
    refine (HT.out _).mono ?_
    rintro e w' ⟨rfl, rfl⟩
    go_wp2_with fail
    go_ret
    exact ⟨ret_bool (by rw [HP.out]; simp), one_new _ _⟩
  by_cases h0 : f = t
  · have h1 : (f != t) = false := by simp [h0]
    have HN := Lib.hid h0
    clear h0
    go_enter Try.func30, Try.ntmps30
    go_wp2_with fail
    refine (HF.out _).mono ?_
    rintro e w' ⟨rfl, rfl⟩
    go_wp2_with fail
    refine (HT.out _).mono ?_
    rintro e w' ⟨rfl, rfl⟩
    go_wp2_with fail
    go_ret
    exact ⟨ret_bool (by rw [HP.out]; have := HN.out; simp [this]), one_new _ _⟩
  have h1 : (f != t) = true := by simp [h0]
  have HN := Lib.hid h0
  clear h0
  by_cases hL : (L : Int) ≤ 1048576
  all_goals
    go_enter Try.func30, Try.ntmps30
    go_wp2_with fail
    refine (HF.out _).mono ?_
    rintro e w' ⟨rfl, rfl⟩
    go_wp2_with fail
    refine (HT.out _).mono ?_
    rintro e w' ⟨rfl, rfl⟩
    go_wp2_with fail
    go_ret
    exact ⟨ret_bool (by rw [HP.out]; have := HN.out; simp [this]; omega), one_new _ _⟩
end Go.Proofs.Ytpempgajejbdoaa
