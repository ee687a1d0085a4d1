/-
  Digest: bits.Len, firstPart for every count up to 2^40.
-/
import Derived.Test.YtekboemijafplaaDoorPathNo
namespace Go.Proofs.YtekboemijafplaaDoor
open Go Go.RowKit
theorem log2_shift {x s y : Nat} (hy : x / 2 ^ s = y) (h1 : 1 ≤ y) : Nat.log2 x = s + Nat.log2 y := by
  have hx : x ≠ 0 := by intro e; subst e; simp at hy; omega
  have h2 := Nat.log2_self_le (n := y) (by omega)
  have h3 := Nat.lt_log2_self (n := y)
  refine (Nat.log2_eq_iff hx).2 ⟨?_, ?_⟩
  · rw [Nat.pow_add]
    have := Nat.div_mul_le_self x (2 ^ s)
    rw [hy] at this
    calc 2 ^ s * 2 ^ Nat.log2 y ≤ 2 ^ s * y := Nat.mul_le_mul_left _ h2
      _ ≤ x := by rw [Nat.mul_comm]; exact this
  · have h4 : x / 2 ^ s < 2 ^ (Nat.log2 y + 1) := by rw [hy]; exact h3
    have h5 := (Nat.div_lt_iff_lt_mul (Nat.pow_pos (by omega))).1 h4
    rw [show s + Nat.log2 y + 1 = (Nat.log2 y + 1) + s by omega, Nat.pow_add]
    exact h5
def tab : ByteArray := ⟨#[0, 1, 2, 2, 3, 3, 3, 3, 4, 4, 4, 4, 4, 4, 4, 4, 5, 5, 5, 5, 5, 5, 5, 5, 5, 5, 5, 5, 5, 5, 5, 5, 6, 6, 6, 6, 6, 6, 6, 6, 6, 6, 6, 6, 6, 6, 6, 6, 6, 6, 6, 6, 6, 6, 6, 6, 6, 6, 6, 6, 6, 6, 6, 6, 7, 7, 7, 7, 7, 7, 7, 7, 7, 7, 7, 7, 7, 7, 7, 7, 7, 7, 7, 7, 7, 7, 7, 7, 7, 7, 7, 7, 7, 7, 7, 7, 7, 7, 7, 7, 7, 7, 7, 7, 7, 7, 7, 7, 7, 7, 7, 7, 7, 7, 7, 7, 7, 7, 7, 7, 7, 7, 7, 7, 7, 7, 7, 7, 8, 8, 8, 8, 8, 8, 8, 8, 8, 8, 8, 8, 8, 8, 8, 8, 8, 8, 8, 8, 8, 8, 8, 8, 8, 8, 8, 8, 8, 8, 8, 8, 8, 8, 8, 8, 8, 8, 8, 8, 8, 8, 8, 8, 8, 8, 8, 8, 8, 8, 8, 8, 8, 8, 8, 8, 8, 8, 8, 8, 8, 8, 8, 8, 8, 8, 8, 8, 8, 8, 8, 8, 8, 8, 8, 8, 8, 8, 8, 8, 8, 8, 8, 8, 8, 8, 8, 8, 8, 8, 8, 8, 8, 8, 8, 8, 8, 8, 8, 8, 8, 8, 8, 8, 8, 8, 8, 8, 8, 8, 8, 8, 8, 8, 8, 8, 8, 8, 8, 8, 8, 8, 8, 8, 8, 8, 8, 8]⟩
theorem tab_size : tab.size = 256 := by decide +kernel
theorem tab_log0 : ∀ y, y < 256 → 1 ≤ y → (tab.data.getD y 0).toNat = Nat.log2 y + 1 := by decide +kernel
theorem tab_log (y : Nat) (h : y < tab.size) (h1 : 1 ≤ y) : tab[y].toNat = Nat.log2 y + 1 := by
  have h2 := tab_log0 y (by rw [tab_size] at h; exact h) h1
  rw [← h2]
  have : y < tab.data.size := h
  simp [ByteArray.getElem_eq_getElem_data, Array.getD, this, h]
theorem log_8 (y : Nat) (h : y < 256) : Nat.log2 y < 8 := by
  by_cases h0 : y = 0
  · subst h0; decide
  · exact (Nat.log2_lt h0).2 (by omega)
set_option maxRecDepth 100000 in
set_option maxHeartbeats 1000000 in
theorem len64_low (x : Nat) (h1 : 1 ≤ x) (h : x < 256) (w : World) : Calls Tryd.prog 54 #[.int .u64 (x : Int)] w (Ret (.int .i64 ((Nat.log2 x + 1 : Nat) : Int)) w) := by
  have c1 : decide ((4294967296 : Int) ≤ (x : Int)) = false := decide_eq_false (by omega)
  have c2 : decide ((65536 : Int) ≤ (x : Int)) = false := decide_eq_false (by omega)
  have c3 : decide ((256 : Int) ≤ (x : Int)) = false := decide_eq_false (by omega)
  go_enter Tryd.func54, Tryd.ntmps54
  go_wp2_with fail
  go_ret
  refine ⟨?_, Below.refl _ _⟩
  refine congrArg Ending.returned ?_
  refine congrArg (Value.int IntKind.i64) ?_
  show wrap64 (wrap64 ((tab[x]'(by rw [tab_size]; omega)).toNat : Int)) = _
  rw [tab_log _ _ (by omega)]
  have h9 := log_8 (x) (by omega)
  simp [wrap64]
  omega
set_option maxRecDepth 100000 in
set_option maxHeartbeats 1000000 in
theorem len64_8 (x : Nat) (h1 : 256 ≤ x) (h : x < 65536) (w : World) : Calls Tryd.prog 54 #[.int .u64 (x : Int)] w (Ret (.int .i64 ((Nat.log2 x + 1 : Nat) : Int)) w) := by
  have c1 : decide ((4294967296 : Int) ≤ (x : Int)) = false := decide_eq_false (by omega)
  have c2 : decide ((65536 : Int) ≤ (x : Int)) = false := decide_eq_false (by omega)
  have c3 : decide ((256 : Int) ≤ (x : Int)) = true := decide_eq_true (by omega)
  go_enter Tryd.func54, Tryd.ntmps54
  go_wp2_with fail
  go_ret
  refine ⟨?_, Below.refl _ _⟩
  refine congrArg Ending.returned ?_
  refine congrArg (Value.int IntKind.i64) ?_
  show wrap64 (8 + wrap64 ((tab[x / 256]'(by rw [tab_size]; omega)).toNat : Int)) = _
  rw [tab_log _ _ (by omega), log2_shift (x := x) (s := 8) (y := x / 256) (by omega) (by omega)]
  have h9 := log_8 (x / 256) (by omega)
  simp [wrap64]
  omega
set_option maxRecDepth 100000 in
set_option maxHeartbeats 1000000 in
theorem len64_16 (x : Nat) (h1 : 65536 ≤ x) (h : x < 16777216) (w : World) : Calls Tryd.prog 54 #[.int .u64 (x : Int)] w (Ret (.int .i64 ((Nat.log2 x + 1 : Nat) : Int)) w) := by
  have c1 : decide ((4294967296 : Int) ≤ (x : Int)) = false := decide_eq_false (by omega)
  have c2 : decide ((65536 : Int) ≤ (x : Int)) = true := decide_eq_true (by omega)
  have c3 : decide ((256 : Int) ≤ (x : Int) / 65536) = false := decide_eq_false (by omega)
  go_enter Tryd.func54, Tryd.ntmps54
  go_wp2_with fail
  go_ret
  refine ⟨?_, Below.refl _ _⟩
  refine congrArg Ending.returned ?_
  refine congrArg (Value.int IntKind.i64) ?_
  show wrap64 (16 + wrap64 ((tab[x / 65536]'(by rw [tab_size]; omega)).toNat : Int)) = _
  rw [tab_log _ _ (by omega), log2_shift (x := x) (s := 16) (y := x / 65536) (by omega) (by omega)]
  have h9 := log_8 (x / 65536) (by omega)
  simp [wrap64]
  omega
set_option maxRecDepth 100000 in
set_option maxHeartbeats 1000000 in
theorem len64_24 (x : Nat) (h1 : 16777216 ≤ x) (h : x < 4294967296) (w : World) : Calls Tryd.prog 54 #[.int .u64 (x : Int)] w (Ret (.int .i64 ((Nat.log2 x + 1 : Nat) : Int)) w) := by
  have c1 : decide ((4294967296 : Int) ≤ (x : Int)) = false := decide_eq_false (by omega)
  have c2 : decide ((65536 : Int) ≤ (x : Int)) = true := decide_eq_true (by omega)
  have c3 : decide ((256 : Int) ≤ (x : Int) / 65536) = true := decide_eq_true (by omega)
  go_enter Tryd.func54, Tryd.ntmps54
  go_wp2_with fail
  go_ret
  refine ⟨?_, Below.refl _ _⟩
  refine congrArg Ending.returned ?_
  refine congrArg (Value.int IntKind.i64) ?_
  show wrap64 (24 + wrap64 ((tab[x / 65536 / 256]'(by rw [tab_size]; omega)).toNat : Int)) = _
  rw [tab_log _ _ (by omega), log2_shift (x := x) (s := 24) (y := x / 65536 / 256) (by omega) (by omega)]
  have h9 := log_8 (x / 65536 / 256) (by omega)
  simp [wrap64]
  omega
set_option maxRecDepth 100000 in
set_option maxHeartbeats 1000000 in
theorem len64_32 (x : Nat) (h1 : 4294967296 ≤ x) (h : x < 1099511627776) (w : World) : Calls Tryd.prog 54 #[.int .u64 (x : Int)] w (Ret (.int .i64 ((Nat.log2 x + 1 : Nat) : Int)) w) := by
  have c1 : decide ((4294967296 : Int) ≤ (x : Int)) = true := decide_eq_true (by omega)
  have c2 : decide ((65536 : Int) ≤ (x : Int) / 4294967296) = false := decide_eq_false (by omega)
  have c3 : decide ((256 : Int) ≤ (x : Int) / 4294967296) = false := decide_eq_false (by omega)
  go_enter Tryd.func54, Tryd.ntmps54
  go_wp2_with fail
  go_ret
  refine ⟨?_, Below.refl _ _⟩
  refine congrArg Ending.returned ?_
  refine congrArg (Value.int IntKind.i64) ?_
  show wrap64 (32 + wrap64 ((tab[x / 4294967296]'(by rw [tab_size]; omega)).toNat : Int)) = _
  rw [tab_log _ _ (by omega), log2_shift (x := x) (s := 32) (y := x / 4294967296) (by omega) (by omega)]
  have h9 := log_8 (x / 4294967296) (by omega)
  simp [wrap64]
  omega
theorem len64_any (x : Nat) (h1 : 1 ≤ x) (h : x < 1099511627776) (w : World) : Calls Tryd.prog 54 #[.int .u64 (x : Int)] w (Ret (.int .i64 ((Nat.log2 x + 1 : Nat) : Int)) w) := by
  by_cases a : x < 256
  · exact len64_low x h1 a w
  by_cases b : x < 65536
  · exact len64_8 x (by omega) b w
  by_cases c : x < 16777216
  · exact len64_16 x (by omega) c w
  by_cases d : x < 4294967296
  · exact len64_24 x (by omega) d w
  exact len64_32 x (by omega) h w
end Go.Proofs.YtekboemijafplaaDoor
