/-
  Disks: the reference's Few, on every disk.
-/
import Derived.Test.YtanmhjbeookfiaaDk
import Derived.Test.YtanmhjbeookfiaaLater
namespace Go.Proofs.Ytanmhjbeookfiaa
open Go Go.RowKit
/-- it returns one bool or the other -/
def SomeB (w : World) (e : Ending) (w' : World) : Prop := ∃ b : Bool, e = .returned (.bool b) ∧ Below w.heap.size w w'
set_option maxHeartbeats 1000000 in
theorem few_any (v : Value) (d : D) (w : World) (h : DV w v d) : Calls Try.prog 11 #[v] w (SomeB w) := by
  obtain ⟨ps, N, cs, pp, M, cp, rfl, HO, hs1, hs2, hp1, hp2⟩ := h.op
  clear h
  go_enter Try.func11, Try.ntmps11
  go_wp2_with fail
  go_loopw [3, 4] (fun n i wr => ∃ (k : Nat) (t : Int), k ≤ N ∧ i = .int .i64 k ∧ n = .int .i64 t ∧ Below (w.heap.size + 1) (dbox w d ps N cs pp M cp) wr) (fun _ i _ => N - (intOf i).toNat)
  case atStart => exact ⟨0, 0, Nat.zero_le _, rfl, rfl, Below.refl _ _⟩
  case round =>
    obtain ⟨k, t, hk, rfl, rfl, hb⟩ := hrel
    obtain ⟨c0, c1, c2, c3⟩ := boxed (Nat.lt_succ_self _) hb
    have hb2 : Below w.heap.size w wr := (one_new _ _).trans (hb.mono (by omega))
    by_cases hlt : k < N
    by_cases ht : t ≤ 9000
    · obtain ⟨b, o, pu, L, cu, l, rfl, hbl, g0, HL, hu1, hu2⟩ := (HO.out.below hb2).secAt k hlt
      unfold maxLen at hu2
      go_wp2_with fail
      go_roundw
      case rel => exact ⟨k + 1, _, by omega, by go_num, rfl, hb⟩
      case measure => simp [intOf]; omega
    all_goals
      go_wp2_with fail
      go_loopw [3, 5] (fun n i wr => ∃ (k : Nat) (t : Int), k ≤ M ∧ i = .int .i64 k ∧ n = .int .i64 t ∧ Below (w.heap.size + 1) (dbox w d ps N cs pp M cp) wr) (fun _ i _ => M - (intOf i).toNat)
      case atStart => exact ⟨0, t, Nat.zero_le _, rfl, rfl, hb⟩
      case round =>
        clear hb hb2 c0 c1 c2 c3 hlt hk
        obtain ⟨k, t, hk, rfl, rfl, hb⟩ := hrel
        obtain ⟨c0, c1, c2, c3⟩ := boxed (Nat.lt_succ_self _) hb
        have hb2 : Below w.heap.size w wr := (one_new _ _).trans (hb.mono (by omega))
        by_cases hlt : k < M
        by_cases ht : t ≤ 9000
        · obtain ⟨b, o, n, pu, L, cu, l, rfl, hbl, g0, g1, HL, hu1, hu2, hw⟩ := (HO.out.below hb2).penAt k hlt
          unfold maxLen at hu2
          go_wp2_with fail
          go_roundw
          case rel => exact ⟨k + 1, _, by omega, by go_num, rfl, hb⟩
          case measure => simp [intOf]; omega
        all_goals
          go_wp2_with fail
          go_ret
          exact ⟨_, rfl, hb2⟩
end Go.Proofs.Ytanmhjbeookfiaa
