/-
  Digest, the reference: its padded bytes are those of the program.
-/
import Derived.Test.YtekboemijafplaaDoorRPad
namespace Go.Proofs.YtekboemijafplaaDoor
open Go Go.RowKit
theorem padl_eq (l : List UInt8) (n : Nat) (h : l.length < 64) : padl l n = l ++ [128] ++ List.replicate (padsz l.length - l.length - 9) 0 ++ lens (n * 8) 8 := by
  have hz : l.length + 9 ≤ padsz l.length := by unfold padsz; split <;> omega
  have hL : lens (n * 8) 8 = [cb (n * 8) 7, cb (n * 8) 6, cb (n * 8) 5, cb (n * 8) 4, cb (n * 8) 3, cb (n * 8) 2, cb (n * 8) 1, cb (n * 8) 0] := rfl
  rw [hL]
  unfold padl pad1
  generalize padsz l.length = z at *
  simp only [puts]
  apply List.ext_getElem?
  intro i
  have hlen : (l ++ [128] ++ List.replicate (z - l.length - 9) (0 : UInt8)).length = z - 8 := by simp; omega
  by_cases h2 : i < z - 8
  · rw [List.getElem?_append_left (by omega)]
    simp only [List.getElem?_set]
    repeat (rw [if_neg (by omega)])
    by_cases h3 : i = l.length
    · subst h3
      simp
      omega
    · rw [if_neg (by omega)]
      by_cases h1 : i < l.length
      · rw [List.getElem?_append_left h1, List.append_assoc, List.getElem?_append_left h1]
      · rw [List.getElem?_append_right (by omega), List.getElem?_append_right (by simp; omega), List.getElem?_replicate, List.getElem?_replicate, if_pos (by omega), if_pos (by simp; omega)]
  · rw [List.getElem?_append_right (by omega), hlen]
    simp only [List.getElem?_set, List.length_set, List.length_append, List.length_replicate]
    by_cases h4 : i < z
    · obtain ⟨t, rfl⟩ : ∃ t, i = z - 8 + t := ⟨i - (z - 8), by omega⟩
      have ht : t < 8 := by omega
      rw [show z - 8 + t - (z - 8) = t by omega]
      rcases (show t = 0 ∨ t = 1 ∨ t = 2 ∨ t = 3 ∨ t = 4 ∨ t = 5 ∨ t = 6 ∨ t = 7 by omega) with rfl | rfl | rfl | rfl | rfl | rfl | rfl | rfl
      all_goals
        repeat (first | rw [if_neg (by omega)] | rw [if_pos (by omega)])
        rfl
    · repeat (rw [if_neg (by omega)])
      rw [List.getElem?_eq_none (by simp; omega), List.getElem?_eq_none (by simp; omega)]
theorem nz_eq (L N : Nat) (h : N = L % 64) : nz L = padsz N - N - 9 := by
  unfold nz padsz
  split <;> omega
/-- the padded bytes: the whole blocks, and the last ones -/
theorem rp_eq (l : List UInt8) : rp l = l.take (l.length / 64 * 64) ++ padl (l.drop (l.length / 64 * 64)) l.length := by
  have hd : (l.drop (l.length / 64 * 64)).length = l.length % 64 := by rw [List.length_drop]; omega
  rw [padl_eq _ _ (by rw [hd]; omega), hd, ← nz_eq l.length _ rfl]
  unfold rp
  simp only [← List.append_assoc, List.take_append_drop]
theorem wacc_congr {f g : Nat → Int} {m : Nat} (h : ∀ k, k < m → f k = g k) : ∀ t, t ≤ m → wacc f t = wacc g t
  | 0, _ => rfl
  | t + 1, ht => by
    show bits .or .u32 (wacc f t * 2 ^ 8 % 4294967296) (f t) = bits .or .u32 (wacc g t * 2 ^ 8 % 4294967296) (g t)
    rw [wacc_congr h t (by omega), h t (by omega)]
/-- the schedule looks at 64 bytes alone -/
theorem sched_congr {f g : Nat → Int} (h : ∀ k, k < 64 → f k = g k) : ∀ t, t ≤ 64 → sched f t = sched g t
  | 0, _ => rfl
  | t + 1, ht => by
    have ih := sched_congr h t (by omega)
    have hw : wacc (fun k => f (t * 4 + k)) 4 = wacc (fun k => g (t * 4 + k)) 4 ∨ ¬ t < 16 := by
      by_cases h16 : t < 16
      · refine .inl (wacc_congr ?_ 4 (Nat.le_refl _))
        intro k hk
        exact h _ (by omega)
      · exact .inr h16
    show sched f t ++ [if t < 16 then wacc (fun k => f (t * 4 + k)) 4 else nextw (sched f t)] = sched g t ++ [if t < 16 then wacc (fun k => g (t * 4 + k)) 4 else nextw (sched g t)]
    rw [ih]
    rcases hw with hw | hw
    · rw [hw]
    · rw [if_neg hw, if_neg hw]
theorem ab_congr {f g : Nat → Int} (h : ∀ k, k < 64 → f k = g k) (s : R8) : ab f s = ab g s := by
  unfold ab
  rw [sched_congr h 64 (Nat.le_refl _)]
theorem feed_take (a l : List UInt8) (s : R8) (q : Nat) (h : ∀ j, j < 64 * q → a.getD j 0 = l.getD j 0) : ∀ i, i ≤ q → feed a s i = feed l s i
  | 0, _ => rfl
  | i + 1, hi => by
    simp only [feed]
    rw [feed_take a l s q h i (by omega)]
    exact ab_congr (fun k hk => by unfold fb; rw [h _ (by omega)]) _
theorem feed_drop (a b : List UInt8) (s : R8) (q : Nat) (h : ∀ j, a.getD (64 * q + j) 0 = b.getD j 0) : ∀ r, feed a s (q + r) = feed b (feed a s q) r
  | 0 => rfl
  | r + 1 => by
    show feed a s ((q + r) + 1) = _
    simp only [feed]
    rw [feed_drop a b s q h r]
    exact ab_congr (fun k _ => by unfold fb; rw [← h, show 64 * (q + r) + k = 64 * q + (64 * r + k) by omega]) _
/-- the hash by the reference's padded bytes -/
theorem sha_rp (l : List UInt8) : sha l = digof (feed (rp l) iv ((rp l).length / 64)) := by
  have hq : 64 * (l.length / 64) ≤ l.length := by omega
  have ht : (l.take (l.length / 64 * 64)).length = 64 * (l.length / 64) := by rw [List.length_take]; omega
  have h1 := feed_take (rp l) l iv (l.length / 64) (fun j hj => by
    rw [rp_eq, List.getD_eq_getElem?_getD, List.getD_eq_getElem?_getD, List.getElem?_append_left (by omega), List.getElem?_take, if_pos (by omega)]) (l.length / 64) (Nat.le_refl _)
  have h2 := feed_drop (rp l) (padl (l.drop (l.length / 64 * 64)) l.length) iv (l.length / 64) (fun j => by
    rw [rp_eq, List.getD_eq_getElem?_getD, List.getD_eq_getElem?_getD, List.getElem?_append_right (by omega), ht, show 64 * (l.length / 64) + j - 64 * (l.length / 64) = j by omega])
  have h3 : (rp l).length / 64 = l.length / 64 + (padl (l.drop (l.length / 64 * 64)) l.length).length / 64 := by
    rw [rp_eq, List.length_append, ht]
    omega
  rw [h3, h2, h1]
  rfl
end Go.Proofs.YtekboemijafplaaDoor
