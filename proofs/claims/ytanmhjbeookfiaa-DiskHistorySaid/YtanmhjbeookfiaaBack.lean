/-
  Disks: slices.Backward of a list of writes.
-/
import Derived.RangeFuncNested
import Derived.RangeFuncBound
import Derived.RangeFuncCalls
import Derived.RangeFuncLeaves
import Derived.Shelf.Abstract
import Derived.Shelf.RegionOpen
import Derived.WalkKit
import Derived.OwnWalkIn
import Derived.TacticsInMore
import Derived.LoopNIn
import Derived.LoopIn
import Derived.Test.YtanmhjbeookfiaaDk
namespace Go.Proofs.Ytanmhjbeookfiaa
open Go Go.RowKit Go.Shelf
attribute [local go_sem] Oper.semAt_some
/-- what has come when k rounds are over -/
def uptoB (M k : Nat) : List Nat := (List.range k).map (fun i => M - 1 - i)
theorem uptoB_succ (M k : Nat) : uptoB M (k + 1) = uptoB M k ++ [M - 1 - k] := by simp [uptoB, List.range_succ]
theorem uptoB_length (M k : Nat) : (uptoB M k).length = k := by simp [uptoB]
/-- a write as it lies in memory -/
structure WH where
  n : Int
  p : Option Addr
  L : Nat
  c : Nat
abbrev WH.val (t : WH) : Value := .agg #[.int .i64 t.n, .slice t.p t.L t.c]
/-- the cells of a list of writes -/
def WHs (w : World) (pp : Option Addr) (M : Nat) (T : Nat → WH) : Prop := ∀ j, j < M → ∃ b o, pp = some ⟨b, o, none⟩ ∧ b < w.heap.size ∧ w.cell? ⟨b, o + j * 2, none⟩ = some (.int .i64 (T j).n) ∧ w.cell? ⟨b, o + j * 2 + 1, none⟩ = some (.slice (T j).p (T j).L (T j).c)
set_option maxRecDepth 100000 in
set_option maxHeartbeats 2000000 in
theorem back1_in (F : Fence) (n : Nat) (h41 : F.fn 41) (hro : F.round = none) (hn : 1 ≤ n) (l Bs n₀ M cp : Nat) (pp : Option Addr) (T : Nat → WH) (hp1 : M ≤ cp) (hp2 : cp ≤ 9223372036854775807) (J Jx : List Nat → World → Prop)
    (hY : ∀ (pre : List Nat) (x : Nat) (W : World), J pre W → pre.length < M → YieldAt F (n - 1) Try.prog l #[.int .i64 (x : Int), (T x).val] W fun e W' =>
      (e = .returned (.bool true) ∧ J (pre ++ [x]) W' ∧ Below n₀ W W') ∨ (e = .returned (.bool false) ∧ Jx (pre ++ [x]) W'))
    (W : World) (hBs : W.cell? ⟨Bs, 0, none⟩ = some (.slice pp M cp)) (hBs0 : Bs < n₀) (hc : ∀ j, j < M → ∃ b o, pp = some ⟨b, o, none⟩ ∧ b < n₀ ∧ W.cell? ⟨b, o + j * 2, none⟩ = some (.int .i64 (T j).n) ∧ W.cell? ⟨b, o + j * 2 + 1, none⟩ = some (.slice (T j).p (T j).L (T j).c)) (h0 : J [] W) :
    CallsIn F n Try.prog 41 #[.func (.yield l) #[] #[], .pointer (some ⟨Bs, 0, none⟩)] W fun e W' => (∃ v, e = .returned v) ∧
      ((∃ ys, ys = uptoB M M ∧ J ys W') ∨ (∃ pre, (∃ k, k ≤ M ∧ pre = uptoB M k) ∧ Jx pre W')) := by
  refine callsIn_of_wp Try.func41 rfl h41 ?_ hro
  simp only [Try.ntmps41, List.size_toArray, List.length_cons, List.length_nil, Nat.reduceAdd, Nat.reduceSub, Array.replicate_succ, Array.replicate_zero, List.push_toArray, List.append_toArray, List.nil_append, List.cons_append]
  gi_wp2
  gi_loopw [3] (fun i wr => ∃ k j : Nat, k + j = M ∧ i = .int .i64 ((j : Int) - 1) ∧ J (uptoB M k) wr ∧ Below n₀ W wr)
    (fun i _ => (intOf i + 1).toNat)
  case atStart => exact ⟨0, M, by omega, by simp, h0, Below.refl _ _⟩
  case round =>
    obtain ⟨k, j, hk, rfl, hJs, hnx⟩ := hrel
    have hB := (hnx.cell (p := ⟨Bs, 0, none⟩) hBs0).trans hBs
    cases j with
    | zero =>
      obtain rfl : k = M := by omega
      gi_wp2
      go_end0
      exact ⟨⟨_, rfl⟩, .inl ⟨_, rfl, hJs⟩⟩
    | succ j =>
      have e1 : ((j + 1 : Nat) : Int) - 1 = (j : Int) := by omega
      rw [e1]
      obtain ⟨b, o, rfl, hb, hc1, hc2⟩ := hc j (by omega)
      have hd1 := (hnx.cell (p := ⟨b, o + j * 2, none⟩) hb).trans hc1
      have hd2 := (hnx.cell (p := ⟨b, o + j * 2 + 1, none⟩) hb).trans hc2
      obtain ⟨fn, tmps, assign, body, hy, hR⟩ := hY _ j wr hJs (by rw [uptoB_length]; omega)
      have e2 : M - 1 - k = j := by omega
      have hjM : (j : Int) < M := by omega
      gi_wp2
      refine hR.mono ?_
      rintro e W3 (⟨rfl, hJ3, hk3⟩ | ⟨rfl, hJx3⟩)
      · gi_wp2
        go_roundw
        case rel => exact ⟨k + 1, j, by omega, by simp, by rw [uptoB_succ, e2]; exact hJ3, hnx.trans hk3⟩
        case measure => simp [intOf]
      · gi_wp2
        refine bodyPost_ret (results_none rfl _ _ _) rfl ?_
        exact ⟨⟨_, rfl⟩, .inr ⟨_, ⟨k + 1, by omega, by rw [uptoB_succ, e2]⟩, hJx3⟩⟩
end Go.Proofs.Ytanmhjbeookfiaa
