/-
  Merkle: is a path as long as it must be?
-/
import Derived.Test.YteeabenmfmeooaaDoorPn
import Derived.Test.YteeabenmfmeooaaDoorLst
namespace Go.Proofs.YteeabenmfmeooaaDoor
open Go Go.RowKit
/-- what checkPath returns -/
def chkP (n i : Int) (m : Nat) : Int := if placeB n i = true then (if m = plen i.toNat n.toNat then 0 else 70) else 1
theorem place_nat {n i : Int} (h : placeB n i = true) : ∃ a s : Nat, i = (a : Int) ∧ n = (s : Int) ∧ a < s ∧ s ≤ 65536 := by
  unfold placeB at h
  simp at h
  exact ⟨i.toNat, n.toNat, by omega, by omega, by omega, by omega⟩
theorem plen_le (i n : Nat) : plen i n ≤ n := by
  have h := cnt_le (stepsL i n) (stepsL i n).length
  rw [List.take_length] at h
  have := steps_len n i
  unfold plen
  omega
theorem checkPath_any (n i : Int) (p : Option Addr) (m c : Nat) (w : World) (_hm : m ≤ c) (_hc : c ≤ 9223372036854775807) : Calls Tryd.prog 29 #[.int .i64 n, .int .i64 i, .slice p m c] w (Ret (.int .i64 (chkP n i m)) w) := by
  have HP := Lib.hid (isPlace_any n i w)
  cases hp : placeB n i
  · rw [hp] at HP
    have e : chkP n i m = 1 := by unfold chkP; rw [hp]; rfl
    rw [e]
    clear hp
    go_enter Tryd.func29, Tryd.ntmps29
    go_wp2_with (go_at_call 23; refine HP.out.mono ?_; rintro e w1 ⟨rfl, rfl⟩)
    go_ret
    exact ⟨rfl, Below.refl _ _⟩
  · obtain ⟨a, s, rfl, rfl, has, hs⟩ := place_nat hp
    have HL := Lib.hid (plen_any s a w hs (by omega))
    have hle := plen_le a s
    have e : chkP (s : Int) (a : Int) m = if m = plen a s then 0 else 70 := by unfold chkP; rw [hp, if_pos rfl, Int.toNat_natCast, Int.toNat_natCast]
    rw [e]
    rw [hp] at HP
    clear hp e
    generalize plen a s = q at *
    by_cases hq : m = q
    · subst hq
      go_enter Tryd.func29, Tryd.ntmps29
      go_wp2_with (first | (go_at_call 23; refine HP.out.mono ?_; rintro e w1 ⟨rfl, rfl⟩) | (go_at_call 47; refine HL.out.mono ?_; rintro e w2 ⟨rfl, hb2⟩))
      go_ret
      exact ⟨by simp, hb2⟩
    · have hqI : ¬ (m : Int) = (q : Int) := by omega
      go_enter Tryd.func29, Tryd.ntmps29
      go_wp2_with (first | (go_at_call 23; refine HP.out.mono ?_; rintro e w1 ⟨rfl, rfl⟩) | (go_at_call 47; refine HL.out.mono ?_; rintro e w2 ⟨rfl, hb2⟩))
      go_ret
      exact ⟨rfl, hb2⟩
end Go.Proofs.YteeabenmfmeooaaDoor
