/-
  Disks: syncing after each write, and once after all.
-/
import Derived.Test.YtanmhjbeookfiaaBd
namespace Go.Proofs.Ytanmhjbeookfiaa
open Go Go.RowKit
def wsOf (n : Nat) (s : List Ac) : List (Int × List UInt8) := s.map fun c => (((c.a.toNat % n : Nat) : Int), fill [c.b])
theorem ws_at {n : Nat} {s : List Ac} {i : Nat} {c : Ac} (h : s[i]? = some c) : (wsOf n s)[i]? = some (((c.a.toNat % n : Nat) : Int), fill [c.b]) := by
  unfold wsOf
  rw [List.getElem?_map, h]
  rfl
theorem ws_all {n : Nat} (hn : 0 < n) (s : List Ac) : (wsOf n s).all (penB n) = true := by
  rw [List.all_eq_true]
  intro x hx
  unfold wsOf at hx
  obtain ⟨c, _, rfl⟩ := List.mem_map.1 hx
  have := Nat.mod_lt c.a.toNat hn
  simp [penB, fill_len]
  omega
def tl (d : D) (i : Nat) : Int := if d.left = -1 then -1 else d.left - i
def Pre (d : D) (ws : List (Int × List UInt8)) (i : Nat) (X : D) (E : Int) : Prop :=
  (E = 0 ∧ i ≤ ws.length ∧ (d.left = -1 ∨ (i : Int) ≤ d.left) ∧ X = ⟨perfR d.s (ws.take i), [], tl d i, false⟩) ∨
  (E = 40 ∧ ∃ j x, i = j + 1 ∧ ws[j]? = some x ∧ d.left = (j : Int) ∧ X = ⟨torn (perfR d.s (ws.take j)) x, [], 0, true⟩)
theorem pre_start {d : D} (hr : runsB d = true) (hp : d.p = []) (ws : List (Int × List UInt8)) : Pre d ws 0 d 0 := by
  obtain ⟨hv, hst⟩ := runs_of hr
  obtain ⟨_, _, _, _, _, v6, _⟩ := valid_of hv
  refine .inl ⟨rfl, Nat.zero_le _, by omega, ?_⟩
  have : tl d 0 = d.left := by unfold tl; split <;> omega
  rw [this]
  cases d
  simp only at hp hst
  subst hp hst
  rfl
theorem take_all {n : Nat} {ws : List (Int × List UInt8)} (h : ws.all (penB n) = true) (i : Nat) : (ws.take i).all (penB n) = true :=
  List.all_eq_true.2 fun y hy => List.all_eq_true.1 h y (List.mem_of_mem_take hy)
theorem pre_valid {d : D} (hr : runsB d = true) {ws : List (Int × List UInt8)} (hw : ws.all (penB d.s.length) = true) {i : Nat} {X : D} {E : Int} (h : Pre d ws i X E) : X.s.all secB = true ∧ X.s.length = d.s.length := by
  obtain ⟨hv, hst⟩ := runs_of hr
  obtain ⟨v1, v2, v3, v4, v5, v6, v7⟩ := valid_of hv
  rcases h with ⟨_, _, _, rfl⟩ | ⟨_, j, x, _, hx, _, rfl⟩
  · obtain ⟨_, e2, e3⟩ := perf_eq (ws.take i) d.s v3 (take_all hw i)
    exact ⟨e2, e3⟩
  · obtain ⟨_, e2, e3⟩ := perf_eq (ws.take j) d.s v3 (take_all hw j)
    obtain ⟨h0, h1, h2⟩ := penB_of (List.all_eq_true.1 hw x (List.mem_of_getElem? hx))
    have hk := getD_sec e2 (k := x.1.toNat) (by omega)
    refine ⟨?_, by show (torn _ _).length = _; unfold torn; rw [List.length_set, e3]⟩
    show (torn _ _).all secB = true
    unfold torn
    refine set_all e2 ?_
    unfold secB
    simp only [List.length_append, List.length_take, List.length_drop, h2, hk, decide_eq_true_eq]
    omega
theorem pre_runs {d : D} (hr : runsB d = true) {ws : List (Int × List UInt8)} (hw : ws.all (penB d.s.length) = true) {i : Nat} {X : D} (h : Pre d ws i X 0) : runsB X = true := by
  obtain ⟨hv, hst⟩ := runs_of hr
  obtain ⟨v1, v2, v3, v4, v5, v6, v7⟩ := valid_of hv
  have hpv := pre_valid hr hw h
  rcases h with ⟨_, _, hl, rfl⟩ | ⟨h0, _⟩
  · refine runs_true (valid_mk ?_ ?_ hpv.1 (by simp) (by simp) ?_ ?_) rfl
    · have := hpv.2; simp only at this; omega
    · have := hpv.2; simp only at this; omega
    · unfold tl; split <;> omega
    · unfold tl; split <;> omega
  · omega
theorem perfR_snoc (s : List (List UInt8)) (p : List (Int × List UInt8)) (x : Int × List UInt8) : perfR s (p ++ [x]) = perfR (perfR s p) [x] := by
  unfold perfR
  rw [List.foldl_append]
theorem pre_step {d : D} (hr : runsB d = true) {n : Nat} (hn : d.s.length = n) {s : List Ac} {i : Nat} {X : D} (h : Pre d (wsOf n s) i X 0) {c : Ac} (hc : s[i]? = some c) :
    writeE X ((c.a.toNat % n : Nat) : Int) [c.b] = 0 ∧ Pre d (wsOf n s) (i + 1) (syncD (writeD X ((c.a.toNat % n : Nat) : Int) [c.b])) (syncE (writeD X ((c.a.toNat % n : Nat) : Int) [c.b])) := by
  obtain ⟨hv, hst⟩ := runs_of hr
  obtain ⟨v1, v2, v3, v4, v5, v6, v7⟩ := valid_of hv
  have hw : (wsOf n s).all (penB d.s.length) = true := by rw [hn]; exact ws_all (by omega) s
  have hpv := pre_valid hr hw h
  have hXr := pre_runs hr hw h
  have hx := ws_at (n := n) hc
  have hlt : i < (wsOf n s).length := (List.getElem?_eq_some_iff.1 hx).1
  have hmod := Nat.mod_lt c.a.toNat (show 0 < n by omega)
  generalize ((c.a.toNat % n : Nat) : Int) = a at hx ⊢
  have ha : 0 ≤ a ∧ a < n := by
    have := penB_of (List.all_eq_true.1 hw _ (List.mem_of_getElem? hx))
    simp only at this
    omega
  rcases h with ⟨_, _, hl, rfl⟩ | ⟨h0, _⟩
  rotate_left
  · omega
  have hE : writeE ⟨perfR d.s ((wsOf n s).take i), [], tl d i, false⟩ a [c.b] = 0 := by
    unfold writeE
    have hg : runsB ⟨perfR d.s ((wsOf n s).take i), [], tl d i, false⟩ = true ∧ inB (D.s ⟨perfR d.s ((wsOf n s).take i), [], tl d i, false⟩).length a = true := ⟨hXr, by rw [inB_of, hpv.2]; omega⟩
    rw [if_pos hg, if_neg (by simp), if_neg (by simp)]
  refine ⟨hE, ?_⟩
  have hZr := runs_write hE
  rw [(write_ok hE).1] at hZr ⊢
  simp only [List.nil_append] at hZr ⊢
  generalize hZ : (⟨perfR d.s ((wsOf n s).take i), [(a, fill [c.b])], tl d i, false⟩ : D) = Z at hZr ⊢
  have htake : (wsOf n s).take (i + 1) = (wsOf n s).take i ++ [(a, fill [c.b])] := by
    rw [List.take_succ_eq_append_getElem hlt]
    congr 2
    exact (List.getElem?_eq_some_iff.1 hx).2
  by_cases h1 : d.left = -1 ∨ (i : Int) < d.left
  · have hm : many Z = ((1 : Nat) : Int) := by
      rw [← hZ]
      unfold many tl
      simp only [List.length_singleton]
      split <;> split <;> (try split) <;> omega
    obtain ⟨e1, e2⟩ := sync_full hZr hm (by rw [← hZ]; rfl)
    refine .inl ⟨e2, by omega, by omega, ?_⟩
    have hL : synLeft Z = tl d (i + 1) := by
      unfold synLeft
      rw [hm, ← hZ]
      unfold tl
      simp only
      split <;> split <;> omega
    rw [e1, hL, ← hZ, htake, perfR_snoc]
  · have hm : many Z = ((0 : Nat) : Int) := by
      rw [← hZ]
      unfold many tl
      simp only [List.length_singleton]
      split <;> split <;> (try split) <;> omega
    obtain ⟨e1, e2⟩ := sync_torn hZr hm (x := (a, fill [c.b])) (by rw [← hZ]; rfl)
    refine .inr ⟨e2, i, (a, fill [c.b]), rfl, hx, by omega, ?_⟩
    have hL : synLeft Z = 0 := by
      unfold synLeft
      rw [hm, ← hZ]
      unfold tl
      simp only
      split <;> split <;> omega
    rw [e1, hL, ← hZ]
    rfl
theorem ws_runs {d : D} (hr : runsB d = true) {ws : List (Int × List UInt8)} (hw : ws.all (penB d.s.length) = true) (h20 : ws.length ≤ 20) : runsB ⟨d.s, ws, d.left, d.st⟩ = true := by
  obtain ⟨hv, hst⟩ := runs_of hr
  obtain ⟨v1, v2, v3, v4, v5, v6, v7⟩ := valid_of hv
  exact runs_true (valid_mk v1 v2 v3 (by omega) hw v6 v7) hst
theorem pre_end {d : D} (hr : runsB d = true) {ws : List (Int × List UInt8)} (hw : ws.all (penB d.s.length) = true) (h20 : ws.length ≤ 20) {i : Nat} {X : D} {E : Int} (h : Pre d ws i X E) (hi : E = 0 → i = ws.length) :
    syncD ⟨d.s, ws, d.left, d.st⟩ = X ∧ syncE ⟨d.s, ws, d.left, d.st⟩ = E := by
  obtain ⟨hv, hst⟩ := runs_of hr
  obtain ⟨v1, v2, v3, v4, v5, v6, v7⟩ := valid_of hv
  have hYr := ws_runs hr hw h20
  rcases h with ⟨rfl, _, hl, rfl⟩ | ⟨rfl, j, x, _, hx, hl, rfl⟩
  · have hi' := hi rfl
    subst hi'
    have hm : many ⟨d.s, ws, d.left, d.st⟩ = ((ws.length : Nat) : Int) := by
      unfold many
      simp only
      split
      · rfl
      · split <;> omega
    obtain ⟨e1, e2⟩ := sync_full hYr hm rfl
    refine ⟨?_, e2⟩
    have hL : synLeft ⟨d.s, ws, d.left, d.st⟩ = tl d ws.length := by
      unfold synLeft
      rw [hm]
      unfold tl
      simp only
      split <;> omega
    rw [e1, hL, List.take_of_length_le (Nat.le_refl _), hst]
  · have hlt : j < ws.length := (List.getElem?_eq_some_iff.1 hx).1
    have hm : many ⟨d.s, ws, d.left, d.st⟩ = ((j : Nat) : Int) := by
      unfold many
      simp only
      rw [if_neg (by omega), if_pos (by omega)]
      exact hl
    obtain ⟨e1, e2⟩ := sync_torn hYr hm hx
    refine ⟨?_, e2⟩
    have hL : synLeft ⟨d.s, ws, d.left, d.st⟩ = 0 := by
      unfold synLeft
      rw [hm]
      simp only
      split <;> omega
    rw [e1, hL]
/-- the second way: the writes wait -/
def yOf (d : D) (ws : List (Int × List UInt8)) (i : Nat) : D := ⟨d.s, ws.take i, d.left, d.st⟩
theorem y_step {d : D} (hr : runsB d = true) {n : Nat} (hn : d.s.length = n) {s : List Ac} (h20 : s.length ≤ 20) {i : Nat} {c : Ac} (hc : s[i]? = some c) :
    writeE (yOf d (wsOf n s) i) ((c.a.toNat % n : Nat) : Int) [c.b] = 0 ∧ writeD (yOf d (wsOf n s) i) ((c.a.toNat % n : Nat) : Int) [c.b] = yOf d (wsOf n s) (i + 1) := by
  obtain ⟨hv, hst⟩ := runs_of hr
  obtain ⟨v1, v2, v3, v4, v5, v6, v7⟩ := valid_of hv
  have hw : (wsOf n s).all (penB d.s.length) = true := by rw [hn]; exact ws_all (by omega) s
  have hx := ws_at (n := n) hc
  have hlt : i < (wsOf n s).length := (List.getElem?_eq_some_iff.1 hx).1
  have hwl : (wsOf n s).length = s.length := by unfold wsOf; simp
  have hmod := Nat.mod_lt c.a.toNat (show 0 < n by omega)
  have hyr : runsB (yOf d (wsOf n s) i) = true := ws_runs hr (take_all hw i) (by simp; omega)
  have hE : writeE (yOf d (wsOf n s) i) ((c.a.toNat % n : Nat) : Int) [c.b] = 0 := by
    unfold writeE
    have hg : runsB (yOf d (wsOf n s) i) = true ∧ inB (yOf d (wsOf n s) i).s.length ((c.a.toNat % n : Nat) : Int) = true := ⟨hyr, by rw [inB_of]; show _ ∧ _ < ((d.s.length : Nat) : Int); omega⟩
    rw [if_pos hg, if_neg (by simp), if_neg (by unfold yOf; simp; omega)]
  refine ⟨hE, ?_⟩
  rw [(write_ok hE).1]
  unfold yOf
  simp only
  rw [List.take_succ_eq_append_getElem hlt, (List.getElem?_eq_some_iff.1 hx).2]
theorem y_valid {d : D} (hr : runsB d = true) (ws : List (Int × List UInt8)) (i : Nat) : (yOf d ws i).s.all secB = true := (valid_of (runs_of hr).1).2.2.1
end Go.Proofs.Ytanmhjbeookfiaa
