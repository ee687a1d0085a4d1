/-
  Digest: Path of a place outside the list, the program's and the reference's; how long a path is, for every count.
-/
import Derived.Test.YtekboemijafplaaDoorRPi
namespace Go.Proofs.YtekboemijafplaaDoor
open Go Go.RowKit
set_option maxHeartbeats 1000000 in
theorem path_no (v : Value) (l : List (List UInt8)) (i : Int) (w : World) (hi : i < 0 ∨ (l.length : Int) ≤ i) (hv : LD w v l) : Calls Tryd.prog 19 #[v, .int .i64 i] w (Ret (.tuple #[.slice none 0 0, .int .i64 1]) w) := by
  obtain ⟨b, cap, p, rfl, _⟩ := hv
  by_cases h0 : i < 0
  · have c1 : decide (i < 0) = true := by simp [h0]
    go_enter Tryd.func19, Tryd.ntmps19
    go_wp2_with fail
    go_ret2
    exact ⟨rfl, Below.refl _ _⟩
  · have c1 : decide (i < 0) = false := decide_eq_false h0
    have c3 : (l.length : Int) ≤ i := by omega
    go_enter Tryd.func19, Tryd.ntmps19
    go_wp2_with fail
    go_ret2
    exact ⟨rfl, Below.refl _ _⟩
set_option maxHeartbeats 1000000 in
theorem rpath_no (v : Value) (l : List (List UInt8)) (i : Int) (w : World) (hi : i < 0 ∨ (l.length : Int) ≤ i) (hv : LD w v l) : Calls Tryd.prog 20 #[v, .int .i64 i] w (Ret (.tuple #[.slice none 0 0, .int .i64 1]) w) := by
  obtain ⟨b, cap, p, rfl, _⟩ := hv
  by_cases h0 : i < 0
  · have c1 : decide (i < 0) = true := by simp [h0]
    go_enter Tryd.func20, Tryd.ntmps20
    go_wp2_with fail
    go_ret2
    exact ⟨rfl, Below.refl _ _⟩
  · have c1 : decide (i < 0) = false := decide_eq_false h0
    have c3 : (l.length : Int) ≤ i := by omega
    go_enter Tryd.func20, Tryd.ntmps20
    go_wp2_with fail
    go_ret2
    exact ⟨rfl, Below.refl _ _⟩
/-- how many digests a path has, for every count -/
def qlen : Nat → Nat → Nat → Nat
  | 0, _, _ => 0
  | f + 1, at', n => if n ≤ 1 then 0 else if at' < hfx n then 1 + qlen f at' (hfx n) else 1 + qlen f (at' - hfx n) (n - hfx n)
theorem qlen_fuel : ∀ (f f' at' n : Nat), n ≤ f → n ≤ f' → qlen f at' n = qlen f' at' n
  | 0, f', at', n, h, _ => by
    obtain rfl : n = 0 := by omega
    cases f' <;> simp [qlen]
  | f + 1, 0, at', n, _, h => by
    obtain rfl : n = 0 := by omega
    simp [qlen]
  | f + 1, f' + 1, at', n, h, h' => by
    unfold qlen
    by_cases h1 : n ≤ 1
    · simp [h1]
    have hp0 := hp_pos n
    have hl := hp_lt (n := n) (by omega)
    rw [if_neg h1, if_neg h1, qlen_fuel f f' at' (hfx n) (by omega) (by omega), qlen_fuel f f' (at' - hfx n) (n - hfx n) (by omega) (by omega)]
def QL (at' n : Nat) : Nat := qlen n at' n
theorem QL_one (at' : Nat) : QL at' 1 = 0 := by simp [QL, qlen]
theorem QL_two (at' n : Nat) (h : 2 ≤ n) : QL at' n = if at' < hfx n then 1 + QL at' (hfx n) else 1 + QL (at' - hfx n) (n - hfx n) := by
  have hp0 := hp_pos n
  have hl := hp_lt h
  unfold QL
  obtain ⟨f, hf⟩ : ∃ f, n = f + 1 := ⟨n - 1, by omega⟩
  conv => lhs; rw [hf]; unfold qlen; rw [← hf]
  rw [if_neg (by omega), qlen_fuel f _ at' (hfx n) (by omega) (Nat.le_refl _), qlen_fuel f _ (at' - hfx n) (n - hfx n) (by omega) (Nat.le_refl _)]
theorem QL_lt : ∀ (n at' : Nat), 1 ≤ n → QL at' n < n := fun n => Nat.strongRecOn n fun n ih => by
  intro at' h
  by_cases h1 : n = 1
  · subst h1; rw [QL_one]; omega
  have hp0 := hp_pos n
  have hl := hp_lt (n := n) (by omega)
  rw [QL_two _ _ (by omega)]
  have a := ih (hfx n) hl at' hp0
  have b := ih (n - hfx n) (by omega) (at' - hfx n) (by omega)
  split <;> omega
set_option maxHeartbeats 1000000 in
theorem rlen_all : ∀ n, 1 ≤ n → n ≤ 1099511627776 → ∀ (at' : Nat) (w : World), at' < n → Calls Tryd.prog 43 #[.int .i64 (at' : Int), .int .i64 (n : Int)] w (Ret (.int .i64 (QL at' n : Int)) w) := fun n => Nat.strongRecOn n fun n ih => by
  intro h1 h64 at' w hat
  by_cases hn : n = 1
  · subst hn
    go_enter Tryd.func43, Tryd.ntmps43
    go_wp2_with fail
    go_ret
    exact ⟨by rw [QL_one]; rfl, Below.refl _ _⟩
  have hp0 := hp_pos n
  have hl := hp_lt (n := n) (by omega)
  have hn1 : ((n : Int) == 1) = false := by simp; omega
  by_cases hlt : at' < hfx n
  · have hr := ih (hfx n) hl hp0 (by omega) at'
    have hpl := QL_two at' n (by omega)
    rw [if_pos hlt] at hpl
    have hb := QL_lt (hfx n) at' hp0
    have HR := Lib.hid hr
    have HP := Lib.hid hpl
    clear ih hr hpl
    go_enter Tryd.func43, Tryd.ntmps43
    go_wp2_with (first
      | (go_at_call 37; refine (rhalf_any n (by omega) h64 _).mono ?_; rintro e w1 ⟨rfl, hb1⟩)
      | (go_at_call 43; refine (HR.out _ hlt).mono ?_; rintro e w2 ⟨rfl, hb2⟩))
    go_ret
    refine ⟨?_, hb1.trans (hb2.mono hb1.size)⟩
    rw [HP.out]
    go_num
  · have hr := ih (n - hfx n) (by omega) (by omega) (by omega) (at' - hfx n)
    have hpl := QL_two at' n (by omega)
    rw [if_neg hlt] at hpl
    have hb := QL_lt (n - hfx n) (at' - hfx n) (by omega)
    have HR := Lib.hid hr
    have HP := Lib.hid hpl
    clear ih hr hpl
    have e1 : IntKind.i64.wrap ((at' : Int) - (hfx n : Int)) = ((at' - hfx n : Nat) : Int) := by rw [IntWalk.i64_in _ (by omega)]; omega
    have e2 : IntKind.i64.wrap ((n : Int) - (hfx n : Int)) = ((n - hfx n : Nat) : Int) := by rw [IntWalk.i64_in _ (by omega)]; omega
    go_enter Tryd.func43, Tryd.ntmps43
    go_wp2_with (first
      | (go_at_call 37; refine (rhalf_any n (by omega) h64 _).mono ?_; rintro e w1 ⟨rfl, hb1⟩)
      | (go_at_call 43; refine (HR.out _ (by omega)).mono ?_; rintro e w2 ⟨rfl, hb2⟩))
    go_ret
    refine ⟨?_, hb1.trans (hb2.mono hb1.size)⟩
    rw [HP.out]
    go_num
end Go.Proofs.YtekboemijafplaaDoor
