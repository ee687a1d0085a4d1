/-
  Merkle: are there at most 40 short leaves?
-/
import Derived.Test.YteeabenmfmeooaaDoorFr
namespace Go.Proofs.YteeabenmfmeooaaDoor
open Go Go.RowKit
theorem below_drew {m : Nat} {w w' : World} (h : Below m w w') : Below m w w'.drew := ⟨h.os, h.tape, h.output, h.size, h.block⟩
def fewB (l : List (List UInt8)) : Bool := decide (l.length ≤ 40) && l.all fun x => decide (x.length ≤ 200)
theorem few_yes {l : List (List UInt8)} (h : fewB l = true) : l.length ≤ 40 ∧ ∀ x ∈ l, x.length ≤ 200 := by
  unfold fewB at h
  simpa using h
theorem few_no {l : List (List UInt8)} {x : List UInt8} (h : x ∈ l) (hx : 200 < x.length) : fewB l = false := by
  cases hf : fewB l
  · rfl
  · have := (few_yes hf).2 x h
    omega
set_option maxHeartbeats 1000000 in
theorem few_any (v : Value) (l : List (List UInt8)) (w : World) (hv' : LB w v l) : Calls Tryd.prog 11 #[v] w (fun e w' => e = .returned (.bool (fewB l)) ∧ w' = w) := by
  obtain ⟨b, cap, p, rfl, hc1, hc2, _, hc4⟩ := hv'
  have HC4 := Lib.hid hc4
  unfold maxLen at hc2
  obtain ⟨n, hnn⟩ : ∃ n, n = l.length := ⟨_, rfl⟩
  obtain ⟨F, hF⟩ : ∃ F, fewB l = F := ⟨_, rfl⟩
  have HF := Lib.hid hF
  rw [hF]
  clear hF
  have HN := Lib.hid hnn
  rw [← hnn] at hc1 ⊢
  clear hc4 hnn
  go_enter Tryd.func11, Tryd.ntmps11
  go_wp2_with fail
  go_loopw [3] (fun i wr => ∃ k : Nat, i = .int .i64 (k : Int) ∧ k ≤ n ∧ k ≤ 40 ∧ Hid (∀ x ∈ l.take k, x.length ≤ 200) ∧ wr = w) (fun i _ => 40 - (intOf i).toNat)
  case atStart => exact ⟨0, rfl, Nat.zero_le _, Nat.zero_le _, Lib.hid (fun x hx => by simp at hx), rfl⟩
  case round =>
    obtain ⟨k, rfl, hk, hk2, HT, rfl⟩ := hrel
    by_cases h1 : k < n
    · have h1I : (k : Int) < (n : Int) := by omega
      by_cases h2 : k < 40
      · have h2I : (k : Int) < 40 := by omega
        obtain ⟨x, hx⟩ : ∃ x, l[k]? = some x := ⟨_, List.getElem?_eq_getElem (by have := HN.out; omega)⟩
        rcases HC4.out with hnil | ⟨o, rfl, hblt, hcc⟩
        · have := HN.out; rw [hnil] at this; simp at this; omega
        obtain ⟨vx, hvx, hbx⟩ := hcc k x hx
        obtain ⟨b0, c0, p0, rfl, _⟩ := hbx
        have HX := Lib.hid hx
        clear hx hcc
        by_cases h3 : 200 < x.length
        · have h3I : (200 : Int) < (x.length : Int) := by omega
          go_wp2_with fail
          go_ret
          exact ⟨ret_bool (by rw [← HF.out, few_no (List.mem_of_getElem? HX.out) h3]), rfl⟩
        · have h3I : ¬ (200 : Int) < (x.length : Int) := by omega
          go_wp2_with fail
          go_roundw
          case rel => exact ⟨k + 1, by go_num, by omega, by omega, Lib.hid (fun y hy => by
            rw [List.take_add_one, HX.out] at hy
            rcases List.mem_append.1 hy with hy | hy
            · exact HT.out y hy
            · simp at hy; subst hy; omega), trivial⟩
          case measure => simp [intOf]; omega
      · have h2I : ¬ (k : Int) < 40 := by omega
        go_wp2_with fail
        go_ret
        have hne : ¬ n ≤ 40 := by omega
        exact ⟨ret_bool (by rw [← HF.out]; unfold fewB; rw [← HN.out, decide_eq_false hne]; simp; omega), rfl⟩
    · have h1I : ¬ (k : Int) < (n : Int) := by omega
      go_wp2_with fail
      go_ret
      have hT := HT.out
      rw [List.take_of_length_le (by have := HN.out; omega)] at hT
      have hall : (l.all fun x => decide (x.length ≤ 200)) = true := by rw [List.all_eq_true]; intro x hx; rw [decide_eq_true_eq]; exact hT x hx
      exact ⟨ret_bool (by rw [← HF.out]; unfold fewB; rw [hall, ← HN.out]; simp; omega), rfl⟩
end Go.Proofs.YteeabenmfmeooaaDoor
