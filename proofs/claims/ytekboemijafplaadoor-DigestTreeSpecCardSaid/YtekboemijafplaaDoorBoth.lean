/-
  Digest: the program's Path and Climb and the reference's return the same, for all numbers and every path.
-/
import Derived.Test.YtekboemijafplaaDoorRClx
import Derived.Test.YtekboemijafplaaDoorClNo
import Derived.Test.YtekboemijafplaaDoorRPi
import Derived.Test.YtekboemijafplaaDoorDof
import Derived.Test.YtekboemijafplaaDoorPathNo
import Derived.Test.YtekboemijafplaaDoorPl
namespace Go.Proofs.YtekboemijafplaaDoor
open Go Go.RowKit
theorem PQ_len : ∀ (n : Nat), ∀ a, 1 ≤ n → n ≤ 64 → PL a n = QL a n := fun n => Nat.strongRecOn n fun n ih => by
  intro a h1 h64
  by_cases h2 : 2 ≤ n
  · rw [PL_two a n h2, QL_two a n h2, hp_half h2 h64]
    have hl := hp_lt h2
    have hp := hp_pos n
    rw [hp_half h2 h64] at hl hp
    split
    · rw [ih _ hl _ hp (by omega)]
    · rw [ih _ (by omega) _ (by omega) (by omega)]
  · obtain rfl : n = 1 := by omega
    rw [PL_one, QL_one]
theorem climb_both (d : List UInt8) (X Y : Int) (p : List (List UInt8)) (hd : d.length = 32) (h32 : D32 p) :
    ∃ r e, r.length = 32 ∧ (∀ v U, LD U v p → KOK U → Calls Tryd.prog 22 #[dgv d, .int .i64 X, .int .i64 Y, v] U (ClimbR r e U)) ∧ (∀ v U, LD U v p → Calls Tryd.prog 23 #[dgv d, .int .i64 X, .int .i64 Y, v] U (ClimbR r e U)) := by
  by_cases hb : Y < 1 ∨ 1099511627776 < Y ∨ X < 0 ∨ Y ≤ X
  · refine ⟨zeros, 1, by simp [zeros], fun v U hv _ => ?_, fun v U hv => ?_⟩
    · obtain ⟨b, cap, q, rfl, _⟩ := hv
      exact climb_bad d X Y q _ cap U hb
    · obtain ⟨b, cap, q, rfl, _⟩ := hv
      exact rclimb_bad d X Y q _ cap U hb
  · obtain ⟨a, rfl⟩ : ∃ a : Nat, X = (a : Int) := ⟨X.toNat, by omega⟩
    obtain ⟨n, rfl⟩ : ∃ n : Nat, Y = (n : Int) := ⟨Y.toNat, by omega⟩
    by_cases hl : p.length = QL a n
    · exact ⟨CX d a n p, 0, CX_len _ _ _ _ (by omega), fun v U hv hk => climbx_ok d a n p v U (by omega) (by omega) (by omega) hd h32 hl hv hk, fun v U hv => rclimb_ok d a n p v U (by omega) (by omega) (by omega) hd h32 hl hv⟩
    · refine ⟨zeros, 1, by simp [zeros], fun v U hv _ => ?_, fun v U hv => ?_⟩
      · obtain ⟨b, cap, q, rfl, _⟩ := hv
        exact climbx_len d a n q _ cap U (by omega) (by omega) (by omega) hl
      · obtain ⟨b, cap, q, rfl, _⟩ := hv
        exact rclimb_len d a n q _ cap U (by omega) (by omega) (by omega) hl
/-- it returns a path and an error -/
def PthR (p : List (List UInt8)) (e' : Int) (w : World) (e : Ending) (w' : World) : Prop := ∃ v, e = .returned (.tuple #[v, .int .i64 e']) ∧ LD w' v p ∧ Below w.heap.size w w'
theorem nil_LD (w : World) : LD w (.slice none 0 0) [] := ⟨0, 0, none, rfl, Nat.le_refl _, by unfold maxLen; omega, fun _ => rfl, .inl rfl⟩
theorem path_both (l : List (List UInt8)) (X : Int) (hl : l.length ≤ 24) (h32 : D32 l) :
    ∃ p e, D32 p ∧ p.length ≤ 24 ∧ (∀ v U, LD U v l → KOK U → Calls Tryd.prog 19 #[v, .int .i64 X] U (PthR p e U)) ∧ (∀ v U, LD U v l → Calls Tryd.prog 20 #[v, .int .i64 X] U (PthR p e U)) := by
  by_cases hb : X < 0 ∨ (l.length : Int) ≤ X
  · refine ⟨[], 1, (fun d hd => by cases hd), by simp, fun v U hv _ => ?_, fun v U hv => ?_⟩
    · refine (path_no v l X U hb hv).mono ?_
      rintro e w' ⟨rfl, h⟩
      exact ⟨_, rfl, nil_LD _, h⟩
    · refine (rpath_no v l X U hb hv).mono ?_
      rintro e w' ⟨rfl, h⟩
      exact ⟨_, rfl, nil_LD _, h⟩
  · obtain ⟨a, rfl⟩ : ∃ a : Nat, X = (a : Int) := ⟨X.toNat, by omega⟩
    have hp := PA_len l.length l a rfl (by omega)
    have hq := QL_lt l.length a (by omega)
    rw [PQ_len _ a (by omega) (by omega)] at hp
    refine ⟨PA l a, 0, PA_32 _ l a rfl, by omega, fun v U hv hk => ?_, fun v U hv => ?_⟩
    · refine (path_ok l a v U (by omega) (by omega) h32 hv hk).mono ?_
      rintro e w' ⟨v', rfl, ho, h, _⟩
      exact ⟨_, rfl, ownN_ld ho (PA_32 _ l a rfl), h⟩
    · refine (rpath_ok l a v U (by omega) (by omega) h32 hv).mono ?_
      rintro e w' ⟨v', rfl, ho, h, _⟩
      exact ⟨_, rfl, ownN_ld ho (PA_32 _ l a rfl), h⟩
end Go.Proofs.YtekboemijafplaaDoor
