/-
  Merkle: the steps of a way, and the iterator that yields them.
-/
import Derived.Test.YteeabenmfmeooaaDoorRg
import Derived.Test.YteeabenmfmeooaaDoorPl
import Derived.Sort.QuietIn
namespace Go.Proofs.YteeabenmfmeooaaDoor
open Go Go.RowKit Go.Shelf
attribute [local go_sem] Oper.semAt_some
/-- the steps of the way of the leaf i of n leaves -/
def stepsL (i n : Nat) : List (Nat × Nat) := if h : n ≤ 1 then [] else (i, n) :: stepsL (i / 2) ((n + 1) / 2)
termination_by n
decreasing_by omega
theorem stepsL_nil {i n : Nat} (h : n ≤ 1) : stepsL i n = [] := by rw [stepsL, dif_pos h]
theorem stepsL_cons {i n : Nat} (h : 1 < n) : stepsL i n = (i, n) :: stepsL (i / 2) ((n + 1) / 2) := by rw [stepsL, dif_neg (by omega)]
/-- the boxes of the iterator -/
def Bxs (Bi Bn : Nat) (i n : Nat) (V : World) : Prop := V.cell? ⟨Bi, 0, none⟩ = some (.int .i64 (i : Int)) ∧ V.cell? ⟨Bn, 0, none⟩ = some (.int .i64 (n : Int))
set_option maxRecDepth 100000 in
set_option maxHeartbeats 2000000 in
theorem steps_in (m : Nat) (hm : 1 ≤ m) (Bi Bn i n : Nat) (hn : n ≤ 65536) (hi : i < 65536) :
    SeqL Fence.wide m Tryd.prog 54 #[.pointer (some ⟨Bi, 0, none⟩), .pointer (some ⟨Bn, 0, none⟩)] (fun z : Nat × Nat => #[stv z.1 z.2]) (stepsL i n) (Bxs Bi Bn i n) := by
  intro l J Jx W hJ hJB hY h0
  obtain ⟨hBi, hBn⟩ := (hJB 0 W h0).1
  refine callsIn_of_wp Tryd.func54 rfl trivial ?_ rfl
  simp only [Tryd.ntmps54, List.size_toArray, List.length_cons, List.length_nil, Nat.reduceAdd, Nat.reduceSub, Array.replicate_succ, Array.replicate_zero, List.push_toArray, List.append_toArray, List.nil_append, List.cons_append]
  gi_wp2
  gi_quiet (fail)
  have hJ0 : J 0 (W.drewN nq) := hJ 0 W (W.drewN nq) none h0 ⟨rfl, rfl, rfl, Nat.le_refl _, fun _ _ _ => rfl⟩ (fun r e => by cases e)
  clear h0 hBi hBn
  generalize W.drewN nq = W0 at *
  gi_wp2
  gi_loopw [4, 5] (fun x y wr => ∃ k a s : Nat, x = .int .i64 (a : Int) ∧ y = .int .i64 (s : Int) ∧ a < 65536 ∧ s ≤ 65536 ∧ (stepsL i n).drop k = stepsL a s ∧ k ≤ (stepsL i n).length ∧ J k wr) (fun _ y _ => (intOf y).toNat)
  case atStart => exact ⟨0, i, n, rfl, rfl, hi, hn, rfl, Nat.zero_le _, hJ0⟩
  case round =>
    obtain ⟨k, a, s, rfl, rfl, ha, hs, hd, hk, hJk⟩ := hrel
    have f1 : ((a : Nat) : Int).tdiv 2 = ((a / 2 : Nat) : Int) := rfl
    have f2 : IntKind.i64.wrap ((s : Int) + 1) = ((s + 1 : Nat) : Int) := by rw [IntKind.wrap_i64]; omega
    have f3 : ((s + 1 : Nat) : Int).tdiv 2 = (((s + 1) / 2 : Nat) : Int) := rfl
    have f4 : IntKind.i64.wrap ((a / 2 : Nat) : Int) = ((a / 2 : Nat) : Int) := by rw [IntKind.wrap_i64]; omega
    have f5 : IntKind.i64.wrap (((s + 1) / 2 : Nat) : Int) = (((s + 1) / 2 : Nat) : Int) := by rw [IntKind.wrap_i64]; omega
    by_cases h1 : 1 < s
    · have h1I : (1 : Int) < (s : Int) := by omega
      have H1 := Lib.hid h1
      have hk2 : (stepsL i n)[k]? = some (a, s) := by
        have := List.getElem?_drop (xs := stepsL i n) (i := k) (j := 0)
        rw [hd, stepsL_cons h1] at this
        simpa using this.symm
      have hlt := (List.getElem?_eq_some_iff.1 hk2).1
      have hd2 : (stepsL i n).drop (k + 1) = stepsL (a / 2) ((s + 1) / 2) := by
        have := congrArg (List.drop 1) hd
        rw [List.drop_drop, stepsL_cons h1] at this
        simpa [Nat.add_comm] using this
      obtain ⟨fn, tmps, assign, body, hy, hR⟩ := hY k (a, s) wr hk2 hJk
      gi_wp2
      refine hR.mono ?_
      rintro e V' (⟨rfl, hJ'⟩ | ⟨rfl, hJx'⟩)
      · gi_wp2
        go_roundw
        case rel => exact ⟨k + 1, a / 2, (s + 1) / 2, by go_num, by go_num, by omega, by omega, hd2, by omega, hJ'⟩
        case measure => have := H1.out; simp [intOf]; omega
      · gi_wp2
        refine bodyPost_ret (results_none rfl _ _ _) rfl ?_
        exact ⟨⟨_, rfl⟩, .inr hJx'⟩
    · have h1I : ¬ (1 : Int) < (s : Int) := by omega
      have H1 := Lib.hid h1
      gi_wp2
      go_end0
      refine ⟨⟨_, rfl⟩, .inl ?_⟩
      rw [stepsL_nil (i := a) (n := s) (by have := H1.out; omega)] at hd
      have : (stepsL i n).length = k := by
        have := congrArg List.length hd
        rw [List.length_drop] at this
        simp at this
        omega
      rw [this]
      exact hJk
end Go.Proofs.YteeabenmfmeooaaDoor
