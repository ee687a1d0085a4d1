/-
  slices.Chunk of a row: pieces of two digests.
-/
import Derived.Test.YteeabenmfmeooaaDoorFr
import Derived.Sort.QuietIn
namespace Go.Proofs.YteeabenmfmeooaaDoor
open Go Go.RowKit Go.Shelf
attribute [local go_sem] Oper.semAt_some
/-- the piece k -/
def chV (b o n k : Nat) : Value := .slice (some ⟨b, o + 2 * k * 32, none⟩) (min 2 (n - 2 * k)) (min 2 (n - 2 * k))
def chL (b o n : Nat) : List Value := (List.range ((n + 1) / 2)).map (chV b o n)
/-- the iterator's boxes -/
def CBx (Bs Bn b o n c : Nat) (V : World) : Prop := V.cell? ⟨Bs, 0, none⟩ = some (.slice (some ⟨b, o, none⟩) n c) ∧ V.cell? ⟨Bn, 0, none⟩ = some (.int .i64 2)
theorem chL_at {b o n k : Nat} (h : 2 * k < n) : (chL b o n)[k]? = some (chV b o n k) := by
  unfold chL
  rw [List.getElem?_map, List.getElem?_range (by omega)]
  rfl
theorem chL_len (b o n : Nat) : (chL b o n).length = (n + 1) / 2 := by simp [chL]
theorem min_if {a b m : Int} {inst : Decidable (a < b)} (h : (a < b ∧ a = m) ∨ (¬ a < b ∧ b = m)) : @ite _ (a < b) inst a b = m := by
  rcases h with ⟨h1, h2⟩ | ⟨h1, h2⟩
  · rw [if_pos h1, h2]
  · rw [if_neg h1, h2]
set_option maxRecDepth 100000 in
set_option maxHeartbeats 2000000 in
theorem chunk_in (m : Nat) (hm : 1 ≤ m) (Bs Bn b o n c : Nat) (hn : n ≤ 1000000) (hc : n ≤ c) (hc2 : c ≤ 9223372036854775807) :
    SeqL Fence.wide m Tryd.prog 62 #[.pointer (some ⟨Bs, 0, none⟩), .pointer (some ⟨Bn, 0, none⟩)] (fun v : Value => #[v]) (chL b o n) (CBx Bs Bn b o n c) := by
  intro l J Jx W hJ hJB hY h0
  refine callsIn_of_wp Tryd.func62 rfl trivial ?_ rfl
  simp only [Tryd.ntmps62, List.size_toArray, List.length_cons, List.length_nil, Nat.reduceAdd, Nat.reduceSub, Array.replicate_succ, Array.replicate_zero, List.push_toArray, List.append_toArray, List.nil_append, List.cons_append]
  gi_wp2
  gi_loopw [4] (fun x wr => ∃ k : Nat, x = .int .i64 ((2 * k : Nat) : Int) ∧ k ≤ (n + 1) / 2 ∧ J k wr) (fun x _ => n + 2 - (intOf x).toNat)
  case atStart => exact ⟨0, rfl, Nat.zero_le _, h0⟩
  case round =>
    obtain ⟨k, rfl, hk, hJk⟩ := hrel
    obtain ⟨hBs, hBn⟩ := (hJB k wr hJk).1
    have f1 : IntKind.i64.wrap (((2 * k : Nat) : Int) + 2) = ((2 * (k + 1) : Nat) : Int) := by rw [IntKind.wrap_i64]; omega
    by_cases h1 : 2 * k < n
    · have h1I : ((2 * k : Nat) : Int) < (n : Int) := by omega
      have H1 := Lib.hid h1
      have hat := chL_at (b := b) (o := o) h1
      obtain ⟨i, hi⟩ : ∃ i, 2 * k = i := ⟨_, rfl⟩
      obtain ⟨mm, hmm⟩ : ∃ mm, min 2 (n - i) = mm := ⟨_, rfl⟩
      have hmI : (((n - i : Nat) : Int) < 2 ∧ ((n - i : Nat) : Int) = (mm : Int)) ∨ (¬ ((n - i : Nat) : Int) < 2 ∧ (2 : Int) = (mm : Int)) := by omega
      have hm1 : 1 ≤ mm := by omega
      have hm2 : i + mm ≤ n := by omega
      have f2 : IntKind.i64.wrap ((i : Int) + (mm : Int)) = ((i + mm : Nat) : Int) := by rw [IntKind.wrap_i64]; omega
      have hcv : chV b o n k = .slice (some ⟨b, o + i * 32, none⟩) mm mm := by unfold chV; rw [hi, hmm]
      have HM := Lib.hid hmm
      have HI := Lib.hid hi
      rw [hi] at f1 h1I h1
      rw [hcv] at hat
      clear hcv hmm
      simp only [hi]
      clear hi
      gi_wp2
      have hic : i < c := by omega
      gi_quiet (fail)
      rw [min_if (m := (mm : Int)) (by omega)]
      have hJ2 : J k (wr.drewN nq) := hJ k wr (wr.drewN nq) none hJk ⟨rfl, rfl, rfl, Nat.le_refl _, fun _ _ _ => rfl⟩ (fun r e => by cases e)
      clear hBs hBn hJk hmI
      generalize wr.drewN nq = w1 at *
      obtain ⟨hBs, hBn⟩ := (hJB k w1 hJ2).1
      obtain ⟨fn, tmps, assign, body, hy, hR⟩ := hY k _ w1 hat hJ2
      gi_wp2
      refine hR.mono ?_
      rintro e V' (⟨rfl, hJ'⟩ | ⟨rfl, hJx'⟩)
      · have hBn' := (hJB (k + 1) V' hJ').1.2
        gi_wp2
        go_roundw
        case rel => exact ⟨k + 1, by go_num, by have := H1.out; omega, hJ'⟩
        case measure => have := H1.out; have := HI.out; simp [intOf]; omega
      · gi_wp2
        refine bodyPost_ret (results_none rfl _ _ _) rfl ?_
        exact ⟨⟨_, rfl⟩, .inr hJx'⟩
    · have h1I : ¬ ((2 * k : Nat) : Int) < (n : Int) := by omega
      have H1 := Lib.hid h1
      gi_wp2
      go_end0
      refine ⟨⟨_, rfl⟩, .inl ?_⟩
      rw [chL_len]
      have : k = (n + 1) / 2 := by have := H1.out; omega
      rw [← this]
      exact hJk
end Go.Proofs.YteeabenmfmeooaaDoor
