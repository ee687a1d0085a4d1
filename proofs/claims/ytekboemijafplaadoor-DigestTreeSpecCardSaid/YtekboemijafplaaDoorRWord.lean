/-
  Digest, the reference: bytes as a word.
-/
import Derived.Test.YtekboemijafplaaDoorRRor
import Derived.Laws.BitsAllLaws
namespace Go.Proofs.YtekboemijafplaaDoor
open Go Go.RowKit
theorem or_add32 (a y k K : Nat) (hK : K = 2 ^ k) (hy : y < K) (h : a * K + y < 4294967296) : bits .or .u32 ((a * K : Nat) : Int) (y : Int) = ((a * K + y : Nat) : Int) := by
  subst hK
  rw [u32_or_nat _ _ (by omega) (by omega)]
  congr 1
  rw [Nat.mul_comm a, ← Nat.two_pow_add_eq_or_of_lt hy]
set_option maxRecDepth 100000 in
theorem rword_pure (a b c d : Nat) (ha : a < 256) (hb : b < 256) (hc : c < 256) (hd : d < 256) :
    bits .or .u32 (bits .or .u32 (bits .or .u32 ((a : Int) * 16777216) ((b : Int) * 65536)) ((c : Int) * 256)) (d : Int) =
    bits .or .u32 (bits .or .u32 (bits .or .u32 (bits .or .u32 (0 * 2 ^ 8 % 4294967296) (a : Int) * 2 ^ 8 % 4294967296) (b : Int) * 2 ^ 8 % 4294967296) (c : Int) * 2 ^ 8 % 4294967296) (d : Int) := by
  have e1 : bits .or .u32 ((a : Int) * 16777216) ((b : Int) * 65536) = ((a * 16777216 + b * 65536 : Nat) : Int) := by
    have := or_add32 a (b * 65536) 24 16777216 (by decide) (by omega) (by omega)
    simpa using this
  have e2 : bits .or .u32 ((a * 16777216 + b * 65536 : Nat) : Int) ((c : Int) * 256) = ((a * 16777216 + b * 65536 + c * 256 : Nat) : Int) := by
    have := or_add32 (a * 256 + b) (c * 256) 16 65536 (by decide) (by omega) (by omega)
    rw [show (a * 256 + b) * 65536 = a * 16777216 + b * 65536 by omega] at this
    simpa using this
  have e3 : bits .or .u32 ((a * 16777216 + b * 65536 + c * 256 : Nat) : Int) (d : Int) = ((a * 16777216 + b * 65536 + c * 256 + d : Nat) : Int) := by
    have := or_add32 (a * 65536 + b * 256 + c) d 8 256 (by decide) hd (by omega)
    rw [show (a * 65536 + b * 256 + c) * 256 = a * 16777216 + b * 65536 + c * 256 by omega] at this
    exact this
  rw [e1, e2, e3]
  have g0 : bits .or .u32 (0 * 2 ^ 8 % 4294967296) (a : Int) = (a : Int) := by
    have := or_add32 0 a 8 256 (by decide) ha (by omega)
    simpa using this
  have step : ∀ x y : Nat, y < 256 → x < 16777216 → bits .or .u32 ((x : Int) * 2 ^ 8 % 4294967296) (y : Int) = ((x * 256 + y : Nat) : Int) := fun x y hy hx => by
    have := or_add32 x y 8 256 (by decide) hy (by omega)
    rw [show (x : Int) * 2 ^ 8 % 4294967296 = ((x * 256 : Nat) : Int) by omega]
    exact this
  rw [g0, step a b hb (by omega), step _ c hc (by omega), step _ d hd (by omega)]
  congr 1
  omega
theorem rword_any (b o : Nat) (f : Nat → Int) (cap : Nat) (w : World) (hn2 : cap ≤ 9223372036854775807) (hf : ∀ k, 0 ≤ f k ∧ f k < 256) (hc : ∀ k, k < 4 → w.cell? ⟨b, o + k, none⟩ = some (.int .u8 (f k))) :
    Calls Tryd.prog 47 #[.slice (some ⟨b, o, none⟩) 4 cap] w fun e w' => e = .returned (.int .u32 (wacc f 4)) ∧ Below w.heap.size w w' := by
  have h0 := hc 0 (by omega)
  have h1 := hc 1 (by omega)
  have h2 := hc 2 (by omega)
  have h3 := hc 3 (by omega)
  rw [Nat.add_zero] at h0
  have f0 := hf 0
  have f1 := hf 1
  have f2 := hf 2
  have f3 := hf 3
  have HF : Hid (∀ k, 0 ≤ f k ∧ f k < 256) := Lib.hid hf
  clear hc hf
  go_enter Tryd.func47, Tryd.ntmps47
  go_wp2_with fail
  go_quiet (fail)
  go_wp2_with fail
  go_ret
  refine ⟨?_, ⟨rfl, rfl, rfl, Nat.le_refl _, fun _ _ => rfl⟩⟩
  obtain ⟨n0, e0⟩ : ∃ n : Nat, f 0 = (n : Int) := ⟨(f 0).toNat, by omega⟩
  obtain ⟨n1, e1⟩ : ∃ n : Nat, f 1 = (n : Int) := ⟨(f 1).toNat, by omega⟩
  obtain ⟨n2, e2⟩ : ∃ n : Nat, f 2 = (n : Int) := ⟨(f 2).toNat, by omega⟩
  obtain ⟨n3, e3⟩ : ∃ n : Nat, f 3 = (n : Int) := ⟨(f 3).toNat, by omega⟩
  have hp := rword_pure n0 n1 n2 n3 (by omega) (by omega) (by omega) (by omega)
  show Ending.returned (Value.int .u32 (bits .or .u32 (bits .or .u32 (bits .or .u32 (f 0 * 16777216) (f 1 * 65536)) (f 2 * 256)) (f 3))) = _
  simp only [wacc]
  rw [e0, e1, e2, e3, hp]
end Go.Proofs.YtekboemijafplaaDoor
