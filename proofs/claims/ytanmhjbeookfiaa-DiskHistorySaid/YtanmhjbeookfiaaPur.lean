/-
  Disks: what writes, syncs and reads do to one another.
-/
import Derived.Test.YtanmhjbeookfiaaRdy
import Derived.Test.YtanmhjbeookfiaaSynT
import Derived.Test.YtanmhjbeookfiaaWr
namespace Go.Proofs.Ytanmhjbeookfiaa
open Go Go.RowKit
theorem write_ok {d : D} {a : Int} {l : List UInt8} (h : writeE d a l = 0) : writeD d a l = ⟨d.s, d.p ++ [(a, fill l)], d.left, d.st⟩ ∧ runsB d = true ∧ inB d.s.length a = true ∧ l.length ≤ 128 ∧ d.p.length ≠ 4096 := by
  have hz : writeD d a l = ⟨d.s, d.p ++ [(a, fill l)], d.left, d.st⟩ := by unfold writeD; rw [if_pos h]
  refine ⟨hz, ?_⟩
  unfold writeE at h
  split at h
  · rename_i hc
    split at h
    · omega
    · split at h
      · omega
      · exact ⟨hc.1, hc.2, by omega, by assumption⟩
  · omega
theorem inB_of {n : Nat} {a : Int} : inB n a = true ↔ 0 ≤ a ∧ a < n := by
  unfold inB
  exact decide_eq_true_iff
theorem valid_mk {s : List (List UInt8)} {p : List (Int × List UInt8)} {left : Int} {st : Bool} (h1 : 1 ≤ s.length) (h2 : s.length ≤ 4096) (h3 : s.all secB = true) (h4 : p.length ≤ 4096) (h5 : p.all (penB s.length) = true) (h6 : -1 ≤ left) (h7 : left ≤ 65536) : valid ⟨s, p, left, st⟩ = true := by
  unfold valid okS okP okL
  simp only [Bool.and_eq_true, decide_eq_true_eq]
  exact ⟨⟨⟨h1, h2⟩, h3⟩, ⟨h4, h5⟩, h6, h7⟩
theorem runs_write {d : D} {a : Int} {l : List UInt8} (h : writeE d a l = 0) : runsB (writeD d a l) = true := by
  obtain ⟨hz, hr, hi, hl, hm⟩ := write_ok h
  obtain ⟨hv, hst⟩ := runs_of hr
  obtain ⟨v1, v2, v3, v4, v5, v6, v7⟩ := valid_of hv
  rw [inB_of] at hi
  rw [hz]
  refine runs_true (valid_mk v1 v2 v3 (by rw [List.length_append]; simp; omega) ?_ v6 v7) hst
  rw [List.all_append, v5]
  simp [penB, hi, fill_len]
theorem good_write {d : D} {a : Int} {l : List UInt8} (h : writeE d a l = 0) (k : Int) : goodA (writeD d a l) k ↔ goodA d k := by
  have h1 := runs_write h
  obtain ⟨hz, hr, _⟩ := write_ok h
  unfold goodA
  rw [h1, hr, hz]
theorem readE_good {d : D} {a : Int} (h : goodA d a) : readE d a = 0 := by unfold readE; rw [if_pos h]
theorem readE_bad {d : D} {a : Int} (h : ¬ goodA d a) : readE d a = 40 := by unfold readE; rw [if_neg h]
theorem readE_iff {d : D} {a : Int} : readE d a = 0 ↔ goodA d a := by
  refine ⟨fun h => ?_, readE_good⟩
  by_cases hg : goodA d a
  · exact hg
  · rw [readE_bad hg] at h; omega
theorem cur_app {s : List (List UInt8)} {p : List (Int × List UInt8)} {x : Int × List UInt8} {left left' : Int} {st st' : Bool} (a k : Nat) (hk : k ≤ p.length) : cur ⟨s, p ++ [x], left, st⟩ a k = cur ⟨s, p, left', st'⟩ a k := by
  unfold cur
  simp only [List.take_append_of_le_length hk]
theorem read_write {d : D} {a : Int} {l : List UInt8} (h : writeE d a l = 0) {k : Int} (hk : goodA d k) : readL (writeD d a l) k = if k = a then fill l else readL d k := by
  have hk' := (good_write h k).2 hk
  obtain ⟨hz, hr, hi, hl, hm⟩ := write_ok h
  rw [inB_of] at hi
  obtain ⟨g1, g2⟩ := goodA_nat hk
  unfold readL
  rw [if_pos hk', if_pos hk, hz]
  have e : (d.p ++ [(a, fill l)]).length = d.p.length + 1 := by simp
  show cur _ k.toNat (d.p ++ [(a, fill l)]).length = _
  rw [e, cur_succ _ k.toNat d.p.length (n := a) (l := fill l) (by simp), cur_app (left' := d.left) (st' := d.st) _ _ (Nat.le_refl _)]
  by_cases hka : k = a
  · rw [if_pos hka, if_pos (by omega)]
  · rw [if_neg hka, if_neg (by omega)]
theorem writeE_next {d : D} {a : Int} {l : List UInt8} (h : goodA d a) (hl : l.length ≤ 128) : writeE d a l = 0 ∨ writeE d a l = 2 := by
  have h' : runsB d = true ∧ inB d.s.length a = true := h
  unfold writeE
  rw [if_pos h', if_neg (by omega)]
  split
  · exact .inr rfl
  · exact .inl rfl
theorem many_nat {d : D} (h : runsB d = true) : ∃ m : Nat, many d = (m : Int) ∧ m ≤ d.p.length ∧ (d.left = -1 → m = d.p.length) ∧ (0 ≤ d.left → m = min d.left.toNat d.p.length) := by
  obtain ⟨hv, _⟩ := runs_of h
  obtain ⟨_, _, _, _, _, v6, _⟩ := valid_of hv
  unfold many
  split
  · exact ⟨_, rfl, Nat.le_refl _, fun _ => rfl, fun h => by omega⟩
  · split
    · exact ⟨d.left.toNat, by omega, by omega, fun h => by omega, fun h => by omega⟩
    · exact ⟨_, rfl, Nat.le_refl _, fun h => by omega, fun h => by omega⟩
theorem sync_cases {d : D} (h : runsB d = true) : (many d = (d.p.length : Int) ∧ syncD d = ⟨perfR d.s d.p, [], synLeft d, d.st⟩ ∧ syncE d = 0) ∨
    ∃ (m : Nat) (x : Int × List UInt8), many d = (m : Int) ∧ m < d.p.length ∧ d.p[m]? = some x ∧ syncD d = ⟨torn (perfR d.s (d.p.take m)) x, [], synLeft d, true⟩ ∧ syncE d = 40 := by
  obtain ⟨m, hm, hmM, _⟩ := many_nat h
  by_cases e : m = d.p.length
  · exact .inl ⟨by rw [hm, e], sync_full h hm e.symm⟩
  · have hlt : m < d.p.length := by omega
    exact .inr ⟨m, d.p[m], hm, hlt, List.getElem?_eq_getElem hlt, sync_torn h hm (List.getElem?_eq_getElem hlt)⟩
theorem perf_cur {d : D} (hv : valid d = true) (a : Nat) : ∀ k, k ≤ d.p.length → (perfR d.s (d.p.take k)).getD a [] = if a < d.s.length then cur d a k else [] := by
  obtain ⟨v1, v2, v3, v4, v5, _, _⟩ := valid_of hv
  intro k
  induction k with
  | zero =>
    intro _
    unfold perfR cur
    simp only [List.take_zero, List.foldl_nil]
    split
    · rfl
    · rw [List.getD_eq_getElem?_getD, List.getElem?_eq_none (by omega)]; rfl
  | succ k ih =>
    intro hk
    obtain ⟨⟨n, l⟩, hx⟩ : ∃ x, d.p[k]'(by omega) = x := ⟨_, rfl⟩
    have hx' : d.p[k]? = some (n, l) := by rw [List.getElem?_eq_getElem (by omega), hx]
    have hp := penB_of (List.all_eq_true.1 v5 (n, l) (List.mem_of_getElem? hx'))
    have hlen : (perfR d.s (d.p.take k)).length = d.s.length := by
      refine (perf_eq (d.p.take k) d.s v3 ?_).2.2
      exact List.all_eq_true.2 fun y hy => List.all_eq_true.1 v5 y (List.mem_of_mem_take hy)
    have e : perfR d.s (d.p.take (k + 1)) = (perfR d.s (d.p.take k)).set n.toNat l := by
      unfold perfR
      rw [List.take_succ_eq_append_getElem (by omega), List.foldl_append, hx]
      rfl
    rw [e, cur_succ d a k hx', List.getD_eq_getElem?_getD, List.getElem?_set]
    have ih' := ih (by omega)
    rw [List.getD_eq_getElem?_getD] at ih'
    simp only at hp
    by_cases ha : a < d.s.length
    · rw [if_pos ha] at ih' ⊢
      by_cases hna : n.toNat = a
      · rw [if_pos hna, if_pos (by omega), if_pos (by omega)]; rfl
      · rw [if_neg hna, if_neg (by omega)]; exact ih'
    · rw [if_neg ha] at ih' ⊢
      rw [if_neg (by omega)]
      exact ih'
theorem sync_runs {d : D} (h : runsB d = true) (he : syncE d = 0) : runsB (syncD d) = true ∧ (syncD d).p = [] ∧ (syncD d).s.length = d.s.length ∧ (syncD d).s = perfR d.s d.p ∧ (syncD d).left = synLeft d := by
  obtain ⟨hv, hst⟩ := runs_of h
  obtain ⟨v1, v2, v3, v4, v5, v6, v7⟩ := valid_of hv
  rcases sync_cases h with ⟨hm, hD, _⟩ | ⟨_, _, _, _, _, _, h40⟩
  · obtain ⟨e1, e2, e3⟩ := perf_eq d.p d.s v3 v5
    rw [hD]
    have hl : -1 ≤ synLeft d ∧ synLeft d ≤ 65536 := by
      obtain ⟨m, hm', hmM, h1, h2⟩ := many_nat h
      unfold synLeft
      split <;> omega
    exact ⟨runs_true (valid_mk (by omega) (by omega) e2 (by simp) (by simp) hl.1 hl.2) hst, rfl, e3, rfl, rfl⟩
  · omega
theorem read_sync {d : D} {k : Int} (he : syncE d = 0) (hk : goodA d k) : goodA (syncD d) k ∧ readL (syncD d) k = readL d k := by
  obtain ⟨h1, h2, h3, h4, _⟩ := sync_runs hk.1 he
  obtain ⟨hv, _⟩ := runs_of hk.1
  obtain ⟨g1, g2⟩ := goodA_nat hk
  have hg : goodA (syncD d) k := ⟨h1, by rw [h3]; exact hk.2⟩
  refine ⟨hg, ?_⟩
  unfold readL
  rw [if_pos hg, if_pos hk, h2]
  have e := perf_cur hv k.toNat d.p.length (Nat.le_refl _)
  rw [List.take_of_length_le (Nat.le_refl _), if_pos (by omega)] at e
  rw [← e]
  unfold cur
  rw [h4]
  simp
theorem sync_bad {d : D} (h : runsB d = true) (he : syncE d ≠ 0) : syncE d = 40 ∧ (syncD d).st = true := by
  rcases sync_cases h with ⟨_, _, h0⟩ | ⟨_, _, _, _, _, hD, h40⟩
  · exact absurd h0 he
  · exact ⟨h40, by rw [hD]⟩
theorem chk_runs {d : D} (h : runsB d = true) : chk d = 0 := chk_ok (runs_of h).1
theorem fill_take {l : List UInt8} (h : l.length ≤ 128) : (fill l).take l.length = l := by
  unfold fill over
  rw [List.take_of_length_le h, List.take_left]
theorem readL_len {d : D} {a : Int} (h : goodA d a) : (readL d a).length = 128 := by
  obtain ⟨g1, g2⟩ := goodA_nat h
  unfold readL
  rw [if_pos h]
  exact cur_len (runs_of h.1).1 (by omega) _ (Nat.le_refl _)
end Go.Proofs.Ytanmhjbeookfiaa
