/-
  Merkle: climbing with the path that Prove returns leads to the root; the root of two parts. (Of data alone.)
-/
import Derived.Test.YteeabenmfmeooaaDoorPr
import Derived.Test.YteeabenmfmeooaaDoorSa
namespace Go.Proofs.YteeabenmfmeooaaDoor
open Go Go.RowKit
theorem ps_acc (L : List (Nat × Nat)) (r acc : List (List UInt8)) : ∀ k, psL L k (r, acc) = ((psL L k (r, [])).1, acc ++ (psL L k (r, [])).2) := by
  intro k
  induction k with
  | zero => simp [ps_zero]
  | succ k ih =>
    cases hz : L[k]? with
    | none =>
      have h : ∀ x : PS, psL L (k + 1) x = psL L k x := fun x => by
        unfold psL
        rw [List.take_add_one, hz]
        simp
      rw [h, h, ih]
    | some z =>
      rw [ps_next hz, ps_next hz, ih]
      unfold pst
      split <;> simp
/-- the path of the place i of a row -/
def pathR (i : Nat) (r : List (List UInt8)) : List (List UInt8) := (psL (stepsL i r.length) (stepsL i r.length).length (r, [])).2
theorem pathL_eq (i : Nat) (l : List (List UInt8)) : pathL i l = pathR i (l.map leafD) := by unfold pathL pathR; rw [List.length_map]
theorem pathR_one {i : Nat} {r : List (List UInt8)} (h : r.length ≤ 1) : pathR i r = [] := by unfold pathR; rw [stepsL_nil h]; rfl
theorem pathR_cons {i : Nat} {r : List (List UInt8)} (h : 1 < r.length) : pathR i r = (if aloneB i r.length = true then [] else [r.getD (oth i) []]) ++ pathR (i / 2) (nextL r) := by
  unfold pathR
  rw [stepsL_cons h, List.length_cons, ps_cons, nextL_len]
  unfold pst
  simp only
  rw [ps_acc]
  split <;> simp
theorem cs_cons (z : Nat × Nat) (L : List (Nat × Nat)) (k : Nat) (x : CS) : csL (z :: L) (k + 1) x = csL L k (cst z x) := rfl
theorem piece_one {l : List (List UInt8)} {k : Nat} {d : List UInt8} (h : l.length = 2 * k + 1) (hd : l[2 * k]? = some d) : piece l k = [d] := by
  unfold piece
  rw [List.drop_eq_getElem_cons (by omega), List.drop_of_length_le (by omega)]
  rw [List.getElem?_eq_getElem (by omega)] at hd
  rw [Option.some.inj hd]
  rfl
theorem piece_two {l : List (List UInt8)} {k : Nat} {d f : List UInt8} (hd : l[2 * k]? = some d) (hf : l[2 * k + 1]? = some f) : piece l k = [d, f] := by
  have h1 := (List.getElem?_eq_some_iff.1 hf).1
  unfold piece
  rw [List.drop_eq_getElem_cons (by omega), List.drop_eq_getElem_cons (by omega)]
  rw [List.getElem?_eq_getElem (by omega)] at hd hf
  rw [Option.some.inj hd, Option.some.inj hf]
  rfl
theorem joinD_one (d : List UInt8) : joinD [d] = d := rfl
theorem joinD_two (d f : List UInt8) : joinD [d, f] = sha (nodeT d f) := by
  unfold joinD nodeT
  rw [if_neg (by simp)]
  simp
theorem plen_cons {i n : Nat} (h : 1 < n) : plen i n = (if aloneB i n = true then 0 else 1) + plen (i / 2) ((n + 1) / 2) := by
  unfold plen
  rw [stepsL_cons h]
  unfold cntL
  rw [List.filter_cons]
  cases aloneB i n
  · simp; omega
  · simp
theorem plen_nil {i n : Nat} (h : n ≤ 1) : plen i n = 0 := by unfold plen; rw [stepsL_nil h]; rfl
theorem climb_path : ∀ (n : Nat) (r : List (List UInt8)) (i : Nat) (d : List UInt8), r.length = n → r[i]? = some d → csL (stepsL i n) (stepsL i n).length (d, pathR i r) = (topL r, []) ∧ (pathR i r).length = plen i n := by
  intro n
  induction n using Nat.strongRecOn with
  | ind n ih =>
    intro r i d hl hd
    have hi := (List.getElem?_eq_some_iff.1 hd).1
    by_cases h1 : 1 < n
    · rw [stepsL_cons h1, List.length_cons, cs_cons, pathR_cons (by omega), plen_cons h1, hl]
      by_cases ha : aloneB i n = true
      · have ha' := ha
        unfold aloneB oth at ha'
        rw [decide_eq_true_eq] at ha'
        have hn : n = 2 * (i / 2) + 1 := by split at ha' <;> omega
        have hi2 : i = 2 * (i / 2) := by omega
        have hx : (nextL r)[i / 2]? = some d := by
          rw [nextL_at (by omega), piece_one (by omega) (by rw [← hi2]; exact hd), joinD_one]
        rw [if_pos ha, if_pos ha, List.nil_append]
        have hc : cst (i, n) (d, pathR (i / 2) (nextL r)) = (d, pathR (i / 2) (nextL r)) := by unfold cst; rw [if_pos ha]
        rw [hc, topL_next (by omega)]
        have := ih ((n + 1) / 2) (by omega) (nextL r) (i / 2) d (by rw [nextL_len, hl]) hx
        exact ⟨this.1, by omega⟩
      · have ha' := ha
        unfold aloneB at ha'
        rw [decide_eq_true_eq] at ha'
        obtain ⟨o, ho⟩ : ∃ o, r[oth i]? = some o := ⟨_, List.getElem?_eq_getElem (by omega)⟩
        have hg : r.getD (oth i) [] = o := by simp [List.getD, ho]
        have hx : (nextL r)[i / 2]? = some (sha (stepT i d o)) := by
          rw [nextL_at (by omega)]
          by_cases hp : i % 2 = 1
          · have e1 : 2 * (i / 2) + 1 = i := by omega
            have e2 : oth i = 2 * (i / 2) := by unfold oth; split <;> omega
            rw [piece_two (d := o) (f := d) (by rw [← e2]; exact ho) (by rw [e1]; exact hd), joinD_two]
            unfold stepT
            rw [if_pos hp]
          · have e1 : 2 * (i / 2) = i := by omega
            have e2 : oth i = 2 * (i / 2) + 1 := by unfold oth; split <;> omega
            rw [piece_two (d := d) (f := o) (by rw [e1]; exact hd) (by rw [← e2]; exact ho), joinD_two]
            unfold stepT
            rw [if_neg hp]
        rw [if_neg ha, if_neg ha, hg]
        have hc : cst (i, n) (d, [o] ++ pathR (i / 2) (nextL r)) = (sha (stepT i d o), pathR (i / 2) (nextL r)) := by unfold cst; rw [if_neg ha]; rfl
        rw [hc, topL_next (by omega)]
        have := ih ((n + 1) / 2) (by omega) (nextL r) (i / 2) _ (by rw [nextL_len, hl]) hx
        refine ⟨this.1, ?_⟩
        rw [List.length_append, this.2]
        rfl
    · rw [stepsL_nil (by omega), pathR_one (by omega), plen_nil (by omega), topL_one (by omega)]
      have hi0 : i = 0 := by omega
      subst hi0
      refine ⟨?_, rfl⟩
      show (d, []) = _
      rw [List.headD_eq_head?_getD, List.head?_eq_getElem?, hd]
      rfl
theorem climb_root (l : List (List UInt8)) (i : Nat) (x : List UInt8) (hx : l[i]? = some x) : climbB i l.length x (pathL i l) = rootL l ∧ (pathL i l).length = plen i l.length := by
  have h := climb_path l.length (l.map leafD) i (leafD x) (List.length_map ..) (by rw [List.getElem?_map, hx]; rfl)
  rw [← pathL_eq] at h
  refine ⟨?_, h.2⟩
  unfold climbB rootL
  rw [h.1]
theorem steps_log : ∀ (k n i : Nat), n ≤ 2 ^ k → (stepsL i n).length ≤ k
  | 0, n, i, h => by rw [stepsL_nil (by simpa using h)]; simp
  | k + 1, n, i, h => by
    by_cases h1 : 1 < n
    · rw [stepsL_cons h1, List.length_cons]
      have := steps_log k ((n + 1) / 2) (i / 2) (by rw [Nat.pow_succ] at h; omega)
      omega
    · rw [stepsL_nil (by omega)]
      simp
theorem plen_16 {i n : Nat} (h : n ≤ 65536) : plen i n ≤ 16 := by
  have h1 := cnt_le (stepsL i n) (stepsL i n).length
  rw [List.take_length] at h1
  have h2 := steps_log 16 n i h
  unfold plen
  omega
theorem nextL_cc (x y : List UInt8) (r : List (List UInt8)) : nextL (x :: y :: r) = joinD [x, y] :: nextL r := by
  unfold nextL
  rw [show ((x :: y :: r).length + 1) / 2 = (r.length + 1) / 2 + 1 by simp only [List.length_cons]; omega, List.range_succ_eq_map, List.map_cons, List.map_map]
  congr 1
theorem nextL_one' (x : List UInt8) : nextL [x] = [x] := by
  unfold nextL
  rw [show ([x].length + 1) / 2 = 1 by simp]
  simp [List.range_succ, piece, joinD_one]
theorem nextL_append : ∀ (a b : List (List UInt8)), a.length % 2 = 0 → nextL (a ++ b) = nextL a ++ nextL b
  | [], b, _ => by simp [nextL]
  | [_], _, h => by simp at h
  | x :: y :: r, b, h => by
    rw [List.cons_append, List.cons_append, nextL_cc, nextL_cc, nextL_append r b (by simp only [List.length_cons] at h; omega), List.cons_append]
theorem topL_again {r : List (List UInt8)} (h : 0 < r.length) : topL (nextL r) = topL r := by
  by_cases h1 : 1 < r.length
  · exact (topL_next h1).symm
  · obtain ⟨d, rfl⟩ := List.length_eq_one_iff.1 (by omega : r.length = 1)
    rw [nextL_one']
theorem topL_split : ∀ (j : Nat) (r : List (List UInt8)), 2 ^ j < r.length → r.length ≤ 2 * 2 ^ j → topL r = sha (nodeT (topL (r.take (2 ^ j))) (topL (r.drop (2 ^ j))))
  | 0, r, h1, h2 => by
    match r, h1, h2 with
    | [a, b], _, _ =>
      rw [topL_next (by simp), nextL_two, topL_one (by simp), joinD_two]
      show _ = sha (nodeT (topL [a]) (topL [b]))
      rw [topL_one (by simp), topL_one (by simp)]
      rfl
  | j + 1, r, h1, h2 => by
    have hp : 0 < 2 ^ j := Nat.pow_pos (by omega)
    have hk : 2 ^ (j + 1) = 2 * 2 ^ j := by rw [Nat.pow_succ]; omega
    rw [hk] at h1 h2 ⊢
    have e : nextL r = nextL (r.take (2 * 2 ^ j)) ++ nextL (r.drop (2 * 2 ^ j)) := by
      rw [← nextL_append _ _ (by rw [List.length_take]; omega), List.take_append_drop]
    have hl : (nextL (r.take (2 * 2 ^ j))).length = 2 ^ j := by rw [nextL_len, List.length_take]; omega
    have ih := topL_split j (nextL r) (by rw [nextL_len]; omega) (by rw [nextL_len]; omega)
    rw [topL_next (by omega), ih, e, List.take_left' hl, List.drop_left' hl, topL_again (by rw [List.length_take]; omega), topL_again (by rw [List.length_drop]; omega)]
theorem rootD_split (j : Nat) (l : List (List UInt8)) (h1 : 2 ^ j < l.length) (h2 : l.length ≤ 2 * 2 ^ j) : rootD l = tg (bts sNode) (rootD (l.take (2 ^ j)) ++ rootD (l.drop (2 ^ j))) := by
  have hp : 0 < 2 ^ j := Nat.pow_pos (by omega)
  unfold rootD
  rw [if_neg (by omega), if_neg (by rw [List.length_take]; omega), if_neg (by rw [List.length_drop]; omega)]
  unfold rootL
  rw [topL_split j (l.map leafD) (by rw [List.length_map]; exact h1) (by rw [List.length_map]; exact h2), ← List.map_take, ← List.map_drop]
  rfl
end Go.Proofs.YteeabenmfmeooaaDoor
