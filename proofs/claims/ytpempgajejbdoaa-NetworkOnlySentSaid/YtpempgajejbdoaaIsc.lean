/-
  Links: is a link cut? By the program (slices.Contains) and by the reference.
-/
import Derived.Test.YtpempgajejbdoaaSame
namespace Go.Proofs.Ytpempgajejbdoaa
open Go Go.RowKit
variable {F : Nat → Prop}
/-- the place of the first pair that is x, or -1 -/
def IdxR (x : Lk) (s : List Lk) (w : World) (e : Ending) (w' : World) : Prop := ∃ r : Int, e = .returned (.int .i64 r) ∧ Hid (0 ≤ r ↔ x ∈ s) ∧ Below w.heap.size w w'
theorem mem_at {s : List Lk} {k : Nat} {x : Lk} (h : s[k]? = some x) : x ∈ s := List.mem_of_getElem? h
theorem take_not {s : List Lk} {k : Nat} {x y : Lk} (h : x ∉ s.take k) (hy : s[k]? = some y) (hne : ¬ x = y) : x ∉ s.take (k + 1) := by
  rw [List.take_add_one, hy]
  simp only [Option.toList_some, List.mem_append, List.mem_singleton]
  intro e
  rcases e with e | e
  · exact h e
  · exact hne e
theorem beq_lk {x y x' y' : Int} (h : (x == x' && y == y') = true) : ((x, y) : Lk) = (x', y') := by simp at h; rw [h.1, h.2]
theorem bne_lk {x y x' y' : Int} (h : (x == x' && y == y') = false) : ¬ ((x, y) : Lk) = (x', y') := fun e => by cases e; simp at h
set_option maxHeartbeats 1000000 in
theorem index_any (v : Value) (s : List Lk) (x y : Int) (w : World) (h : AV F w v s) : Calls Try.prog 50 #[v, .agg #[.int .i64 x, .int .i64 y]] w (IdxR (x, y) s w) := by
  obtain ⟨pa, ca, rfl, h1, h2, _⟩ := h.shape
  unfold maxLen at h2
  obtain ⟨M, hM⟩ : ∃ M, s.length = M := ⟨_, rfl⟩
  rw [hM] at h h1 ⊢
  have HQ := Lib.hid h
  have HM := Lib.hid hM
  clear h hM
  go_enter Try.func50, Try.ntmps50
  go_wp2_with fail
  go_loopw [8] (fun i wr => ∃ k : Nat, k ≤ M ∧ i = .int .i64 k ∧ Hid ((x, y) ∉ s.take k) ∧ Below (w.heap.size + 1) (w.alloc (.cells #[.int .i64 x, .int .i64 y] 55)) wr) (fun i _ => M - (intOf i).toNat)
  case atStart => exact ⟨0, Nat.zero_le _, rfl, Lib.hid (by simp), Below.refl _ _⟩
  case round =>
    obtain ⟨k, hk, rfl, HA, hb⟩ := hrel
    obtain ⟨c0, c1⟩ := boxed (Nat.lt_succ_self _) hb
    have hb2 : Below w.heap.size w wr := (one_new _ _).trans (hb.mono (by omega))
    have hz : w.heap.size < wr.heap.size := by have := hb.size; simp at this; omega
    by_cases hlt : k < M
    · obtain ⟨b, o, x', y', rfl, hbl, g0, g1, HL, HW⟩ := (HQ.out.below hb2).lkAt k (by rw [HM.out]; omega)
      have C0 := Later.cell hz c0
      have C1 := Later.cell hz c1
      have G0 := Later.cell hbl g0
      have G1 := Later.cell hbl g1
      have LE := fun W => lk_equal x y x' y' W
      have HB := Lib.hid hb
      have HB2 := Lib.hid hb2
      clear g0 g1 hb hb2 c0 c1
      cases hs : (x == x' && y == y')
      all_goals
        have HSS := Lib.hid hs
        simp only [hs] at LE
        clear hs
        go_wp2_with fail
        refine wp_region_later (by kernel_rfl) (by kernel_rfl) ?_
        repeat (go_big_quiet_step (fail))
        refine wpQuiet_nil ?_
        intro _ hw'
        obtain ⟨X, hx⟩ := hw'
        subst hx
        clear C0 C1 G0 G1 LE
        go_wp2_with fail
      · go_roundw
        case rel => exact ⟨k + 1, by omega, by go_num, Lib.hid (take_not HA.out HL.out (bne_lk HSS.out)), HB.out.trans (X.b.mono (by have := HB.out.size; simp at this; omega))⟩
        case measure => simp [intOf]; omega
      · go_ret
        exact ⟨_, rfl, Lib.hid ⟨fun _ => by rw [beq_lk HSS.out]; exact mem_at HL.out, fun _ => by omega⟩, HB2.out.trans (X.b.mono HB2.out.size)⟩
    · go_wp2_with fail
      go_ret
      have hn := HA.out
      rw [List.take_of_length_le (by rw [HM.out]; omega)] at hn
      exact ⟨_, rfl, Lib.hid ⟨fun h => by omega, fun h => absurd h hn⟩, hb2⟩
theorem contains_any (v : Value) (s : List Lk) (x y : Int) (w : World) (h : AV F w v s) : Calls Try.prog 41 #[v, .agg #[.int .i64 x, .int .i64 y]] w (Ret (.bool (decide ((x, y) ∈ s))) w) := by
  have HI := Lib.hid (fun W (hb : Below w.heap.size w W) => index_any v s x y W (h.below hb))
  clear h
  go_enter Try.func41, Try.ntmps41
  go_wp2_with fail
  refine (HI.out _ (one_new _ _)).mono ?_
  rintro e w1 ⟨r, rfl, HR, hb1⟩
  have HB := Lib.hid (one_later hb1)
  clear hb1
  by_cases hr : 0 ≤ r
  all_goals
    go_wp2_with fail
    go_ret
    refine ⟨ret_bool ?_, HB.out⟩
    have := HR.out
    first | (simp [← this]; done) | (simp [← this]; omega)
/-- is the link between a and b cut? -/
def cutB (n : Nt) (a b : Int) : Bool := decide (mkL a b ∈ n.a)
set_option maxHeartbeats 1000000 in
theorem isCut_lt (v : Value) (n : Nt) (a b : Int) (w : World) (h : NV F w v n) (hab : a < b) : Calls Try.prog 39 #[v, .int .i64 a, .int .i64 b] w (Ret (.bool (cutB n a b)) w) := by
  obtain ⟨pq, N, cq, pa, M, ca, rfl, HO, hq1, hq2, ha1, ha2⟩ := h.op
  clear h
  have HC : Hid (cutB n a b = decide ((a, b) ∈ n.a)) := Lib.hid (by unfold cutB; rw [show mkL a b = (a, b) by unfold mkL; congr 1 <;> omega])
  have f1 : a ≤ b := by omega
  have f2 : ¬ b ≤ a := by omega
  go_enter Try.func39, Try.ntmps39
  go_wp2_with fail
  go_loopw [7] (fun i wr => ∃ k : Nat, k ≤ M ∧ i = .int .i64 k ∧ Hid ((a, b) ∉ n.a.take k) ∧ Below (w.heap.size + 1) (nbox w pq N cq pa M ca) wr) (fun i _ => M - (intOf i).toNat)
  case atStart => exact ⟨0, Nat.zero_le _, rfl, Lib.hid (by simp), Below.refl _ _⟩
  case round =>
    obtain ⟨k, hk, rfl, HA, hb⟩ := hrel
    obtain ⟨c0, c1⟩ := boxed (Nat.lt_succ_self _) hb
    have hb2 : Below w.heap.size w wr := (one_new _ _).trans (hb.mono (by omega))
    by_cases hlt : k < M
    · obtain ⟨bb, o, x, y, rfl, hbl, g0, g1, HL, HW⟩ := (HO.out.below hb2).apa.lkAt k (by rw [HO.out.na]; omega)
      by_cases e1 : x = a
      · have d1 : (x == a) = true := by simp [e1]
        by_cases e2 : y = b
        · have d2 : (y == b) = true := by simp [e2]
          have HM : Hid ((a, b) ∈ n.a) := Lib.hid (by have := mem_at HL.out; rw [e1, e2] at this; exact this)
          clear e1 e2
          go_wp2_with fail
          go_ret
          exact ⟨ret_bool (by rw [HC.out]; simp [HM.out]), hb2⟩
        · have d2 : (y == b) = false := by simp [e2]
          have HN : Hid (¬ ((a, b) : Lk) = (x, y)) := Lib.hid (fun h => e2 (by cases h; rfl))
          clear e1 e2
          go_wp2_with fail
          go_roundw
          case rel => exact ⟨k + 1, by omega, by go_num, Lib.hid (take_not HA.out HL.out HN.out), hb⟩
          case measure => simp [intOf]; omega
      · have d1 : (x == a) = false := by simp [e1]
        have HN : Hid (¬ ((a, b) : Lk) = (x, y)) := Lib.hid (fun h => e1 (by cases h; rfl))
        clear e1
        go_wp2_with fail
        go_roundw
        case rel => exact ⟨k + 1, by omega, by go_num, Lib.hid (take_not HA.out HL.out HN.out), hb⟩
        case measure => simp [intOf]; omega
    · go_wp2_with fail
      go_ret
      have hn := HA.out
      rw [List.take_of_length_le (by rw [HO.out.na]; omega)] at hn
      exact ⟨ret_bool (by rw [HC.out]; simp [hn]), hb2⟩
set_option maxHeartbeats 1000000 in
theorem isCut_eq (v : Value) (n : Nt) (a : Int) (w : World) (h : NV F w v n) : Calls Try.prog 39 #[v, .int .i64 a, .int .i64 a] w (Ret (.bool (cutB n a a)) w) := by
  obtain ⟨pq, N, cq, pa, M, ca, rfl, HO, hq1, hq2, ha1, ha2⟩ := h.op
  clear h
  have HC : Hid (cutB n a a = decide ((a, a) ∈ n.a)) := Lib.hid (by unfold cutB; rw [show mkL a a = (a, a) by unfold mkL; congr 1 <;> omega])
  skip
  go_enter Try.func39, Try.ntmps39
  go_wp2_with fail
  go_loopw [7] (fun i wr => ∃ k : Nat, k ≤ M ∧ i = .int .i64 k ∧ Hid ((a, a) ∉ n.a.take k) ∧ Below (w.heap.size + 1) (nbox w pq N cq pa M ca) wr) (fun i _ => M - (intOf i).toNat)
  case atStart => exact ⟨0, Nat.zero_le _, rfl, Lib.hid (by simp), Below.refl _ _⟩
  case round =>
    obtain ⟨k, hk, rfl, HA, hb⟩ := hrel
    obtain ⟨c0, c1⟩ := boxed (Nat.lt_succ_self _) hb
    have hb2 : Below w.heap.size w wr := (one_new _ _).trans (hb.mono (by omega))
    by_cases hlt : k < M
    · obtain ⟨bb, o, x, y, rfl, hbl, g0, g1, HL, HW⟩ := (HO.out.below hb2).apa.lkAt k (by rw [HO.out.na]; omega)
      by_cases e1 : x = a
      · have d1 : (x == a) = true := by simp [e1]
        by_cases e2 : y = a
        · have d2 : (y == a) = true := by simp [e2]
          have HM : Hid ((a, a) ∈ n.a) := Lib.hid (by have := mem_at HL.out; rw [e1, e2] at this; exact this)
          clear e1 e2
          go_wp2_with fail
          go_ret
          exact ⟨ret_bool (by rw [HC.out]; simp [HM.out]), hb2⟩
        · have d2 : (y == a) = false := by simp [e2]
          have HN : Hid (¬ ((a, a) : Lk) = (x, y)) := Lib.hid (fun h => e2 (by cases h; rfl))
          clear e1 e2
          go_wp2_with fail
          go_roundw
          case rel => exact ⟨k + 1, by omega, by go_num, Lib.hid (take_not HA.out HL.out HN.out), hb⟩
          case measure => simp [intOf]; omega
      · have d1 : (x == a) = false := by simp [e1]
        have HN : Hid (¬ ((a, a) : Lk) = (x, y)) := Lib.hid (fun h => e1 (by cases h; rfl))
        clear e1
        go_wp2_with fail
        go_roundw
        case rel => exact ⟨k + 1, by omega, by go_num, Lib.hid (take_not HA.out HL.out HN.out), hb⟩
        case measure => simp [intOf]; omega
    · go_wp2_with fail
      go_ret
      have hn := HA.out
      rw [List.take_of_length_le (by rw [HO.out.na]; omega)] at hn
      exact ⟨ret_bool (by rw [HC.out]; simp [hn]), hb2⟩
set_option maxHeartbeats 1000000 in
theorem isCut_gt (v : Value) (n : Nt) (a b : Int) (w : World) (h : NV F w v n) (hab : b < a) : Calls Try.prog 39 #[v, .int .i64 a, .int .i64 b] w (Ret (.bool (cutB n a b)) w) := by
  obtain ⟨pq, N, cq, pa, M, ca, rfl, HO, hq1, hq2, ha1, ha2⟩ := h.op
  clear h
  have HC : Hid (cutB n a b = decide ((b, a) ∈ n.a)) := Lib.hid (by unfold cutB; rw [show mkL a b = (b, a) by unfold mkL; congr 1 <;> omega])
  have f1 : b ≤ a := by omega
  have f2 : ¬ a ≤ b := by omega
  go_enter Try.func39, Try.ntmps39
  go_wp2_with fail
  go_loopw [7] (fun i wr => ∃ k : Nat, k ≤ M ∧ i = .int .i64 k ∧ Hid ((b, a) ∉ n.a.take k) ∧ Below (w.heap.size + 1) (nbox w pq N cq pa M ca) wr) (fun i _ => M - (intOf i).toNat)
  case atStart => exact ⟨0, Nat.zero_le _, rfl, Lib.hid (by simp), Below.refl _ _⟩
  case round =>
    obtain ⟨k, hk, rfl, HA, hb⟩ := hrel
    obtain ⟨c0, c1⟩ := boxed (Nat.lt_succ_self _) hb
    have hb2 : Below w.heap.size w wr := (one_new _ _).trans (hb.mono (by omega))
    by_cases hlt : k < M
    · obtain ⟨bb, o, x, y, rfl, hbl, g0, g1, HL, HW⟩ := (HO.out.below hb2).apa.lkAt k (by rw [HO.out.na]; omega)
      by_cases e1 : x = b
      · have d1 : (x == b) = true := by simp [e1]
        by_cases e2 : y = a
        · have d2 : (y == a) = true := by simp [e2]
          have HM : Hid ((b, a) ∈ n.a) := Lib.hid (by have := mem_at HL.out; rw [e1, e2] at this; exact this)
          clear e1 e2
          go_wp2_with fail
          go_ret
          exact ⟨ret_bool (by rw [HC.out]; simp [HM.out]), hb2⟩
        · have d2 : (y == a) = false := by simp [e2]
          have HN : Hid (¬ ((b, a) : Lk) = (x, y)) := Lib.hid (fun h => e2 (by cases h; rfl))
          clear e1 e2
          go_wp2_with fail
          go_roundw
          case rel => exact ⟨k + 1, by omega, by go_num, Lib.hid (take_not HA.out HL.out HN.out), hb⟩
          case measure => simp [intOf]; omega
      · have d1 : (x == b) = false := by simp [e1]
        have HN : Hid (¬ ((b, a) : Lk) = (x, y)) := Lib.hid (fun h => e1 (by cases h; rfl))
        clear e1
        go_wp2_with fail
        go_roundw
        case rel => exact ⟨k + 1, by omega, by go_num, Lib.hid (take_not HA.out HL.out HN.out), hb⟩
        case measure => simp [intOf]; omega
    · go_wp2_with fail
      go_ret
      have hn := HA.out
      rw [List.take_of_length_le (by rw [HO.out.na]; omega)] at hn
      exact ⟨ret_bool (by rw [HC.out]; simp [hn]), hb2⟩
theorem isCut_any (v : Value) (n : Nt) (a b : Int) (w : World) (h : NV F w v n) : Calls Try.prog 39 #[v, .int .i64 a, .int .i64 b] w (Ret (.bool (cutB n a b)) w) := by
  rcases Int.lt_trichotomy a b with hab | hab | hab
  · exact isCut_lt v n a b w h hab
  · subst hab
    exact isCut_eq v n a w h
  · exact isCut_gt v n a b w h hab
end Go.Proofs.Ytpempgajejbdoaa
