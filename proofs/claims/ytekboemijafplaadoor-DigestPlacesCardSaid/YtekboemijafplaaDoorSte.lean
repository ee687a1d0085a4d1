/-
  Digest: the law's own steps: how many steps an index has from the root of a list with so many elements.
-/
import Derived.Test.YtekboemijafplaaDoorPathNo
import Derived.Test.YtekboemijafplaaDoorFpx
namespace Go.Proofs.YtekboemijafplaaDoor
open Go Go.RowKit
set_option maxRecDepth 100000 in
set_option maxHeartbeats 1000000 in
theorem steps_any (at' n : Nat) (w : World) (h1 : 1 ≤ n) (h64 : n ≤ 1099511627776) (hat : at' < n) : Calls Tryd.prog 24 #[.int .i64 (at' : Int), .int .i64 (n : Int)] w (Ret (.int .i64 (QL at' n : Int)) w) := by
  have HQ := Lib.hid (QL_lt n at' h1)
  generalize hq : QL at' n = q at *
  have HQE := Lib.hid hq
  clear hq
  go_enter Tryd.func24, Tryd.ntmps24
  go_wp2_with fail
  go_loopw [0, 1, 5] (fun x y z wr => ∃ a m c : Nat, x = .int .i64 (a : Int) ∧ y = .int .i64 (m : Int) ∧ z = .int .i64 (c : Int) ∧ a < m ∧ m ≤ n ∧ Hid (c + QL a m = q) ∧ wr = w) (fun _ y _ _ => (intOf y).toNat)
  case atStart => exact ⟨at', n, 0, rfl, rfl, rfl, hat, Nat.le_refl _, Lib.hid (by rw [Nat.zero_add]; exact HQE.out), rfl⟩
  case round =>
    obtain ⟨a, m, c, rfl, rfl, rfl, ham, hmn, HE, rfl⟩ := hrel
    by_cases hm : 2 ≤ m
    · have hm1 : (1 : Int) < (m : Int) := by omega
      have HT := Lib.hid (QL_two a m hm)
      have hpl := hp_lt hm
      have hpp := hp_pos m
      have hcq : c ≤ q := by have := HE.out; omega
      have hq9 := HQ.out
      go_wp2_with fail
      go_loopw [6] (fun x wq => ∃ j : Nat, 2 ^ j < m ∧ x = .int .i64 ((2 ^ j : Nat) : Int) ∧ wq = wr) (fun x _ => m - (intOf x).toNat)
      case atStart => exact ⟨0, by omega, rfl, rfl⟩
      case round =>
        obtain ⟨j, hj, rfl, rfl⟩ := hrel
        have hp0 : 0 < 2 ^ j := Nat.pow_pos (by omega)
        have hps : 2 ^ (j + 1) = 2 * 2 ^ j := by rw [Nat.pow_succ]; omega
        have hpo := @hp_of j m hj
        generalize hx : 2 ^ j = x at *
        by_cases hlt : 2 * x < m
        · have c1 : 2 * (x : Int) < (m : Int) := by omega
          go_wp2_with fail
          go_roundw
          case rel => exact ⟨j + 1, by omega, by rw [hps]; go_num, by first | trivial | rfl⟩
          case measure => simp [intOf]; omega
        · have c1 : ¬ 2 * (x : Int) < (m : Int) := by omega
          obtain rfl := hpo (by omega)
          by_cases hax : a < hfx m
          · have hax1 : (a : Int) < (hfx m : Int) := by omega
            have HF : Hid (c + 1 + QL a (hfx m) = q) := Lib.hid (by have h := HT.out; rw [if_pos hax] at h; have := HE.out; omega)
            clear HT hpo hx
            go_wp2_with fail
            go_roundw
            case rel => exact ⟨a, hfx m, c + 1, rfl, rfl, by go_num, hax, by omega, HF, by first | trivial | rfl⟩
            case measure => simp [intOf]; omega
          · have hax1 : ¬ (a : Int) < (hfx m : Int) := by omega
            have HF : Hid (c + 1 + QL (a - hfx m) (m - hfx m) = q) := Lib.hid (by have h := HT.out; rw [if_neg hax] at h; have := HE.out; omega)
            clear HT hpo hx
            go_wp2_with fail
            go_roundw
            case rel => exact ⟨a - hfx m, m - hfx m, c + 1, by go_num, by go_num, by go_num, by omega, by omega, HF, by first | trivial | rfl⟩
            case measure => simp [intOf]; omega
    · obtain rfl : m = 1 := by omega
      obtain rfl : a = 0 := by omega
      have hcq : c = q := by have := HE.out; rw [QL_one] at this; omega
      subst hcq
      go_wp2_with fail
      go_ret
      exact ⟨rfl, Below.refl _ _⟩
end Go.Proofs.YtekboemijafplaaDoor
