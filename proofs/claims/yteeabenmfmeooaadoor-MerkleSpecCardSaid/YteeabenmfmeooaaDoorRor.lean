/-
  Digest: words and their rotations.
-/
import Derived.Test.YteeabenmfmeooaaDoorProg
import Derived.Test.YteeabenmfmeooaaDoorLater
import Derived.StillTailTactics
namespace Go.Proofs.YteeabenmfmeooaaDoor
open Go Go.RowKit
/-- a word turned to the left -/
def rotl (v : Int) (s : Nat) : Int := bits .or .u32 (v * 2 ^ s % 4294967296) (v / 2 ^ (32 - s))
theorem rot_any (v c : Int) (s : Nat) (h0 : 0 < s) (h1 : s < 32) (hs : bits .and .u64 (IntKind.u64.wrap c) 31 = (s : Int)) (w : World) : Calls Tryd.prog 61 #[.int .u32 v, .int .i64 c] w fun e w' => e = .returned (.int .u32 (rotl v s)) ∧ w = w' := by
  go_enter Tryd.func61, Tryd.ntmps61
  go_wp2_with fail
  go_ret
  exact ⟨rfl, rfl⟩
theorem and31 : ∀ n : Fin 32, 0 < n.val → bits .and .u64 (IntKind.u64.wrap (-(n.val : Int))) 31 = ((32 - n.val : Nat) : Int) := by decide +kernel
/-- a word turned to the right -/
def rotr (v : Int) (n : Nat) : Int := rotl v (32 - n)
theorem ror_any (v : Int) (n : Nat) (h0 : 0 < n) (h1 : n < 32) (w : World) : Calls Tryd.prog 53 #[.int .u32 v, .int .i64 (n : Int)] w fun e w' => e = .returned (.int .u32 (rotr v n)) ∧ w = w' := by
  have H := Lib.hid (rot_any v (-(n : Int)) (32 - n) (by omega) (by omega) (and31 ⟨n, h1⟩ h0))
  go_enter Tryd.func53, Tryd.ntmps53
  go_wp2_with fail
  refine (H.out _).mono ?_
  rintro e w' ⟨rfl, rfl⟩
  go_wp2_with fail
  go_ret
  exact ⟨rfl, rfl⟩
theorem ror_lit (v : Int) (w : World) {c : Int} {n : Nat} (hc : c = n) (h0 : 0 < n) (h1 : n < 32) : Calls Tryd.prog 53 #[.int .u32 v, .int .i64 c] w fun e w' => e = .returned (.int .u32 (rotr v n)) ∧ w' = w := by
  subst hc
  exact (ror_any v n h0 h1 w).mono fun _ _ h => ⟨h.1, h.2.symm⟩
theorem ror6 (v : Int) (w : World) : Calls Tryd.prog 53 #[.int .u32 v, .int .i64 6] w fun e w' => e = .returned (.int .u32 (rotr v 6)) ∧ w' = w := ror_lit v w (by rfl) (by decide) (by decide)
theorem ror11 (v : Int) (w : World) : Calls Tryd.prog 53 #[.int .u32 v, .int .i64 11] w fun e w' => e = .returned (.int .u32 (rotr v 11)) ∧ w' = w := ror_lit v w (by rfl) (by decide) (by decide)
theorem ror25 (v : Int) (w : World) : Calls Tryd.prog 53 #[.int .u32 v, .int .i64 25] w fun e w' => e = .returned (.int .u32 (rotr v 25)) ∧ w' = w := ror_lit v w (by rfl) (by decide) (by decide)
theorem ror2 (v : Int) (w : World) : Calls Tryd.prog 53 #[.int .u32 v, .int .i64 2] w fun e w' => e = .returned (.int .u32 (rotr v 2)) ∧ w' = w := ror_lit v w (by rfl) (by decide) (by decide)
theorem ror13 (v : Int) (w : World) : Calls Tryd.prog 53 #[.int .u32 v, .int .i64 13] w fun e w' => e = .returned (.int .u32 (rotr v 13)) ∧ w' = w := ror_lit v w (by rfl) (by decide) (by decide)
theorem ror22 (v : Int) (w : World) : Calls Tryd.prog 53 #[.int .u32 v, .int .i64 22] w fun e w' => e = .returned (.int .u32 (rotr v 22)) ∧ w' = w := ror_lit v w (by rfl) (by decide) (by decide)
theorem ror7 (v : Int) (w : World) : Calls Tryd.prog 53 #[.int .u32 v, .int .i64 7] w fun e w' => e = .returned (.int .u32 (rotr v 7)) ∧ w' = w := ror_lit v w (by rfl) (by decide) (by decide)
theorem ror18 (v : Int) (w : World) : Calls Tryd.prog 53 #[.int .u32 v, .int .i64 18] w fun e w' => e = .returned (.int .u32 (rotr v 18)) ∧ w' = w := ror_lit v w (by rfl) (by decide) (by decide)
theorem ror17 (v : Int) (w : World) : Calls Tryd.prog 53 #[.int .u32 v, .int .i64 17] w fun e w' => e = .returned (.int .u32 (rotr v 17)) ∧ w' = w := ror_lit v w (by rfl) (by decide) (by decide)
theorem ror19 (v : Int) (w : World) : Calls Tryd.prog 53 #[.int .u32 v, .int .i64 19] w fun e w' => e = .returned (.int .u32 (rotr v 19)) ∧ w' = w := ror_lit v w (by rfl) (by decide) (by decide)
/-- bytes as a word, the first ones first -/
def wacc (f : Nat → Int) : Nat → Int
  | 0 => 0
  | k + 1 => bits .or .u32 (wacc f k * 2 ^ 8 % 4294967296) (f k)
theorem word_any (b o : Nat) (f : Nat → Int) (n cap : Nat) (w : World) (hn : 4 ≤ n) (hn2 : n ≤ 9223372036854775807) (hf : ∀ k, 0 ≤ f k ∧ f k < 256) (hc : ∀ k, k < 4 → w.cell? ⟨b, o + k, none⟩ = some (.int .u8 (f k))) :
    Calls Tryd.prog 60 #[.slice (some ⟨b, o, none⟩) n cap] w fun e w' => e = .returned (.int .u32 (wacc f 4)) ∧ w = w' := by
  go_enter Tryd.func60, Tryd.ntmps60
  go_wp2_with fail
  go_loop [2, 4] (fun x i => ∃ k : Nat, k ≤ 4 ∧ i = .int .i64 k ∧ x = .int .u32 (wacc f k)) (fun _ i => 4 - (intOf i).toNat)
  case atStart => exact ⟨0, Nat.zero_le _, rfl, rfl⟩
  case round =>
    obtain ⟨k, hk, rfl, rfl⟩ := hrel
    obtain ⟨f1, f2⟩ := hf k
    by_cases hlt : k < 4
    · have hcell := hc k hlt
      go_wp2_with fail
      go_round
      case rel => exact ⟨k + 1, by omega, by go_num, rfl⟩
      case measure => simp [intOf]; omega
    · have hk4 : k = 4 := by omega
      subst hk4
      go_wp2_with fail
      go_ret
      exact ⟨rfl, rfl⟩
end Go.Proofs.YteeabenmfmeooaaDoor
