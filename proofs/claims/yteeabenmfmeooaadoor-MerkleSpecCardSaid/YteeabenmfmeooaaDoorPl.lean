/-
  Merkle: places, and what is hashed together.
-/
import Derived.Test.YteeabenmfmeooaaDoorFrm
import Derived.Test.YteeabenmfmeooaaDoorChecked
import Derived.BigQuiet
import Derived.Deep.Cut
import Derived.Laws.Bits64
namespace Go.Proofs.YteeabenmfmeooaaDoor
open Go Go.RowKit
/-- the place of the other digest -/
def oth (a : Nat) : Nat := if a % 2 = 0 then a + 1 else a - 1
def aloneB (a s : Nat) : Bool := decide (s ≤ oth a)
abbrev stv (a s : Nat) : Value := .agg #[.int .i64 (a : Int), .int .i64 (s : Int)]
theorem oth_le (a : Nat) : oth a ≤ a + 1 := by unfold oth; split <;> omega
theorem xor_one (a : Nat) (ha : a < 65536) : bits .xor .i64 (a : Int) 1 = (oth a : Int) := by
  have h1 : a ^^^ 1 = oth a := by
    have e1 : (a ^^^ 1) / 2 = a / 2 ^^^ 1 / 2 := Nat.xor_div_two
    have e2 := Nat.xor_mod_two_eq_one (a := a) (b := 1)
    rw [show 1 / 2 = 0 from rfl, Nat.xor_zero] at e1
    unfold oth
    split <;> omega
  have h2 : (BitVec.ofInt 64 (a : Int)).toNat = a := by
    rw [BitVec.ofInt_natCast, BitVec.toNat_ofNat]; exact Nat.mod_eq_of_lt (by omega)
  have h3 : (BitVec.ofInt 64 (1 : Int)).toNat = 1 := by decide
  have hl := oth_le a
  show IntKind.i64.wrap ((BitVec.ofInt 64 (a : Int) ^^^ BitVec.ofInt 64 (1 : Int)).toNat : Int) = _
  rw [BitVec.toNat_xor, h2, h3, h1, IntKind.wrap_i64]
  omega
theorem other_any (a s : Nat) (w : World) (ha : a < 65536) : Calls Tryd.prog 42 #[stv a s] w (Ret (.int .i64 (oth a : Int)) w) := by
  have hx := xor_one a ha
  go_enter Tryd.func42, Tryd.ntmps42
  go_wp2_with fail
  go_ret
  exact ⟨rfl, one_new _ _⟩
theorem alone_any (a s : Nat) (w : World) (ha : a < 65536) : Calls Tryd.prog 41 #[stv a s] w (Ret (.bool (aloneB a s)) w) := by
  have OC := Lib.hid fun x : Later (w.alloc (.cells #[.int .i64 (a : Int), .int .i64 (s : Int)] 64)) => other_any a s x.v ha
  have t1 := Later.cell (w := w.alloc (.cells #[.int .i64 (a : Int), .int .i64 (s : Int)] 64)) (b := w.heap.size) (o := 0) (v := .int .i64 (a : Int)) (by simp) (by simp)
  have t2 := Later.cell (w := w.alloc (.cells #[.int .i64 (a : Int), .int .i64 (s : Int)] 64)) (b := w.heap.size) (o := 1) (v := .int .i64 (s : Int)) (by simp) (by simp)
  go_enter Tryd.func41, Tryd.ntmps41
  go_wp2_with fail
  refine wp_region_later (by kernel_rfl) (by kernel_rfl) ?_
  repeat (go_big_quiet_step ((go_at_call 42; exact Later.calls (OC.out _))))
  refine wpQuiet_nil ?_
  intro _ hw'
  obtain ⟨x, hx⟩ := hw'
  subst hx
  go_wp2_with fail
  go_ret
  exact ⟨ret_bool (by unfold aloneB; simp), (one_new _ _).trans (x.b.mono (by simp))⟩
def placeB (n i : Int) : Bool := decide (n ≤ 65536) && (decide (0 ≤ i) && decide (i < n))
theorem isPlace_any (n i : Int) (w : World) : Calls Tryd.prog 23 #[.int .i64 n, .int .i64 i] w (fun e w' => e = .returned (.bool (placeB n i)) ∧ w' = w) := by
  unfold placeB
  go_enter Tryd.func23, Tryd.ntmps23
  by_cases h1 : n ≤ 65536
  · by_cases h2 : 0 ≤ i
    · by_cases h3 : i < n
      · go_wp2_with fail
        go_ret
        exact ⟨ret_bool (by rw [Bool.eq_iff_iff]; simp <;> omega), rfl⟩
      · go_wp2_with fail
        go_ret
        exact ⟨ret_bool (by rw [Bool.eq_iff_iff]; simp <;> omega), rfl⟩
    · go_wp2_with fail
      go_ret
      exact ⟨ret_bool (by rw [Bool.eq_iff_iff]; simp <;> omega), rfl⟩
  · go_wp2_with fail
    go_ret
    exact ⟨ret_bool (by rw [Bool.eq_iff_iff]; simp <;> omega), rfl⟩
end Go.Proofs.YteeabenmfmeooaaDoor
