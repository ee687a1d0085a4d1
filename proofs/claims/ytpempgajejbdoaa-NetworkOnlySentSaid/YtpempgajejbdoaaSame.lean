/-
  Links: the reference's Same, on every two.
-/
import Derived.Test.YtpempgajejbdoaaSam
import Derived.Test.YtpempgajejbdoaaVap
namespace Go.Proofs.Ytpempgajejbdoaa
open Go Go.RowKit
variable {F G : Nat → Prop}
/-- are two links equal? -/
def sameN (m n : Nt) : Bool := decide (m.q = n.q) && decide (m.a = n.a)
theorem sameN_self (n : Nt) : sameN n n = true := by simp [sameN]
theorem sameN_len {m n : Nt} (h : m.q.length ≠ n.q.length ∨ m.a.length ≠ n.a.length) : sameN m n = false := by
  unfold sameN
  rcases h with h | h
  · rw [decide_eq_false (fun e => h (by rw [e])), Bool.false_and]
  · rw [decide_eq_false (p := m.a = n.a) (fun e => h (by rw [e])), Bool.and_false]
theorem boxed2 {w wr : World} {a b a' b' : Value} {T T' : TypeId} {m : Nat} (hm : w.heap.size + 1 < m) (hb : Below m ((w.alloc (.cells #[a, b] T)).alloc (.cells #[a', b'] T')) wr) :
    (wr.cell? ⟨w.heap.size, 0, none⟩ = some a ∧ wr.cell? ⟨w.heap.size, 1, none⟩ = some b) ∧ (wr.cell? ⟨w.heap.size + 1, 0, none⟩ = some a' ∧ wr.cell? ⟨w.heap.size + 1, 1, none⟩ = some b') := by
  refine ⟨⟨?_, ?_⟩, ?_, ?_⟩ <;> (rw [hb.cell (by simp; omega)]; go_simp)
theorem take_same {α : Type} {s s' : List α} {k : Nat} {x y : α} (h : s.take k = s'.take k) (hx : s[k]? = some x) (hy : s'[k]? = some y) (e : x = y) : s.take (k + 1) = s'.take (k + 1) := by
  rw [List.take_add_one, List.take_add_one, h, hx, hy, e]
theorem same_at {α : Type} {s s' : List α} {k : Nat} {x y : α} (hx : s[k]? = some x) (hy : s'[k]? = some y) (e : x ≠ y) : s ≠ s' := fun h => by
  subst h
  rw [hx] at hy
  exact e (Option.some.inj hy)
theorem sameN_q {m n : Nt} (h : m.q ≠ n.q) : sameN m n = false := by unfold sameN; simp [h]
theorem sameN_a {m n : Nt} (h : m.a ≠ n.a) : sameN m n = false := by unfold sameN; simp [h]
set_option maxHeartbeats 1000000 in
theorem same_any (u v : Value) (m n : Nt) (w : World) (h : NV F w u m) (k : NV G w v n) : Calls Try.prog 15 #[u, v] w (Ret (.bool (sameN m n)) w) := by
  obtain ⟨pq, N, cq, pa, M, ca, rfl, HO, hq1, hq2, ha1, ha2⟩ := h.op
  obtain ⟨pq', N', cq', pa', M', ca', rfl, HO', hq1', hq2', ha1', ha2'⟩ := k.op
  clear h k
  by_cases hN : N = N'
  rotate_left
  · have d1 : ((N : Int) != (N' : Int)) = true := by simp; omega
    have HE := Lib.hid (sameN_len (m := m) (n := n) (.inl (by rw [HO.out.nq, HO'.out.nq]; exact hN)))
    clear hN
    go_enter Try.func15, Try.ntmps15
    go_wp2_with fail
    go_ret
    exact ⟨ret_bool HE.out.symm, two_below _ _ _⟩
  by_cases hM : M = M'
  rotate_left
  · have d1 : ((N : Int) != (N' : Int)) = false := by simp; omega
    have d2 : ((M : Int) != (M' : Int)) = true := by simp; omega
    have HE := Lib.hid (sameN_len (m := m) (n := n) (.inr (by rw [HO.out.na, HO'.out.na]; exact hM)))
    clear hN hM
    go_enter Try.func15, Try.ntmps15
    go_wp2_with fail
    go_ret
    exact ⟨ret_bool HE.out.symm, two_below _ _ _⟩
  subst hN hM
  go_enter Try.func15, Try.ntmps15
  go_wp2_with fail
  go_loopw [5] (fun i wr => ∃ k : Nat, k ≤ N ∧ i = .int .i64 k ∧ Hid (m.q.take k = n.q.take k) ∧ Below (w.heap.size + 2) (nbox (nbox w pq N cq pa M ca) pq' N cq' pa' M ca') wr) (fun i _ => N - (intOf i).toNat)
  case atStart => exact ⟨0, Nat.zero_le _, rfl, Lib.hid (by simp), Below.refl _ _⟩
  case round =>
    obtain ⟨k, hk, rfl, HA, hb⟩ := hrel
    obtain ⟨⟨c0, c1⟩, d0, d1⟩ := boxed2 (by omega) hb
    have hb2 : Below w.heap.size w wr := (two_below _ _ _).trans (hb.mono (by omega))
    have hz : w.heap.size + 1 < wr.heap.size := by have := hb.size; simp at this; omega
    by_cases hlt : k < N
    · obtain ⟨b, o, f, t, pu, L, cu, l, rfl, hbl, g0, g1, g2, HL, hu1, hu2, HW⟩ := (HO.out.below hb2).que.pkAt k (by rw [HO.out.nq]; omega)
      obtain ⟨b', o', f', t', pu', L', cu', l', rfl, hbl', g0', g1', g2', HL', hu1', hu2', HW'⟩ := (HO'.out.below hb2).que.pkAt k (by rw [HO'.out.nq]; omega)
      have C0 := Later.cell (by omega) c0
      have D0 := Later.cell hz d0
      have G0 := Later.cell hbl g0
      have G1 := Later.cell hbl g1
      have G2 := Later.cell hbl g2
      have G0' := Later.cell hbl' g0'
      have G1' := Later.cell hbl' g1'
      have G2' := Later.cell hbl' g2'
      have HS := Lib.hid (fun X : Later wr => samep_any _ _ (f, t, l) (f', t', l') X.v (PKV.below ⟨_, rfl, HW.out.1, HW.out.2, HL.out.2.2⟩ X.b) (PKV.below ⟨_, rfl, HW'.out.1, HW'.out.2, HL'.out.2.2⟩ X.b))
      have HL1 := Lib.hid HL.out.1
      have HL2 := Lib.hid HL'.out.1
      have HB := Lib.hid hb
      have HB2 := Lib.hid hb2
      clear g0 g1 g2 g0' g1' g2' HL HL' hb hb2
      cases hs : sameP (f, t, l) (f', t', l')
      all_goals
        rw [hs] at HS
        have HSS := Lib.hid hs
        clear hs
        go_wp2_with fail
        refine wp_region_later (by kernel_rfl) (by kernel_rfl) ?_
        repeat (go_big_quiet_step ((go_at_call 22; exact Later.calls (HS.out _))))
        refine wpQuiet_nil ?_
        intro _ hw'
        obtain ⟨X, hx⟩ := hw'
        subst hx
        clear C0 D0 G0 G1 G2 G0' G1' G2' HS c0 c1 d0 d1
        go_wp2_with fail
      · go_ret
        exact ⟨ret_bool (sameN_q (same_at HL1.out HL2.out (of_decide_eq_false HSS.out))).symm, HB2.out.trans (X.b.mono HB2.out.size)⟩
      · go_roundw
        case rel => exact ⟨k + 1, by omega, by go_num, Lib.hid (take_same HA.out HL1.out HL2.out (of_decide_eq_true HSS.out)), HB.out.trans (X.b.mono (by have := HB.out.size; simp at this; omega))⟩
        case measure => simp [intOf]; omega
    · have HQ : Hid (m.q = n.q) := Lib.hid (by
        have h := HA.out
        rw [List.take_of_length_le (by rw [HO.out.nq]; omega), List.take_of_length_le (by rw [HO'.out.nq]; omega)] at h
        exact h)
      clear HA
      go_wp2_with fail
      go_loopw [6] (fun i wr => ∃ k : Nat, k ≤ M ∧ i = .int .i64 k ∧ Hid (m.a.take k = n.a.take k) ∧ Below (w.heap.size + 2) (nbox (nbox w pq N cq pa M ca) pq' N cq' pa' M ca') wr) (fun i _ => M - (intOf i).toNat)
      case atStart => exact ⟨0, Nat.zero_le _, rfl, Lib.hid (by simp), hb⟩
      case round =>
        clear hb hb2 hz c0 c1 d0 d1 hlt hk
        obtain ⟨k, hk, rfl, HA, hb⟩ := hrel
        obtain ⟨⟨c0, c1⟩, d0, d1⟩ := boxed2 (by omega) hb
        have hb2 : Below w.heap.size w wr := (two_below _ _ _).trans (hb.mono (by omega))
        have hz : w.heap.size + 1 < wr.heap.size := by have := hb.size; simp at this; omega
        by_cases hlt : k < M
        · obtain ⟨b, o, x, y, rfl, hbl, g0, g1, HL, HW⟩ := (HO.out.below hb2).apa.lkAt k (by rw [HO.out.na]; omega)
          obtain ⟨b', o', x', y', rfl, hbl', g0', g1', HL', HW'⟩ := (HO'.out.below hb2).apa.lkAt k (by rw [HO'.out.na]; omega)
          have C1 := Later.cell (by omega) c1
          have D1 := Later.cell hz d1
          have G0 := Later.cell hbl g0
          have G1 := Later.cell hbl g1
          have G0' := Later.cell hbl' g0'
          have G1' := Later.cell hbl' g1'
          have LE := fun W => lk_equal x y x' y' W
          have HB := Lib.hid hb
          have HB2 := Lib.hid hb2
          clear g0 g1 g0' g1' hb hb2
          cases hs : (x == x' && y == y')
          all_goals
            have HSS := Lib.hid hs
            simp only [hs] at LE
            clear hs
            go_wp2_with fail
            refine wp_region_later (by kernel_rfl) (by kernel_rfl) ?_
            repeat (go_big_quiet_step (fail))
            refine wpQuiet_nil ?_
            intro _ hw'
            obtain ⟨X, hx⟩ := hw'
            subst hx
            clear C1 D1 G0 G1 G0' G1' LE c0 c1 d0 d1
            go_wp2_with fail
          · go_ret
            exact ⟨ret_bool (sameN_a (same_at HL.out HL'.out (fun e => by have := HSS.out; cases e; simp at this))).symm, HB2.out.trans (X.b.mono HB2.out.size)⟩
          · go_roundw
            case rel => exact ⟨k + 1, by omega, by go_num, Lib.hid (take_same HA.out HL.out HL'.out (by have := HSS.out; simp at this; rw [this.1, this.2])), HB.out.trans (X.b.mono (by have := HB.out.size; simp at this; omega))⟩
            case measure => simp [intOf]; omega
        · go_wp2_with fail
          go_ret
          have hA : m.a = n.a := by
            have h := HA.out
            rw [List.take_of_length_le (by rw [HO.out.na]; omega), List.take_of_length_le (by rw [HO'.out.na]; omega)] at h
            exact h
          exact ⟨ret_bool (by unfold sameN; rw [HQ.out, hA]; simp), hb2⟩
theorem new_any (w : World) : Calls Try.prog 16 #[] w (RetO F zero w) := by
  go_enter Try.func16, Try.ntmps16
  go_wp2_with fail
  exact bodyPost_ret (v := .agg #[.slice none 0 0, .slice none 0 0]) (by simp [results, Try.results16, go_sem]) rfl ⟨_, rfl, zero_NV _, one_new _ _⟩
theorem rnew_any (w : World) : Calls Try.prog 17 #[] w (RetO F zero w) := by
  go_enter Try.func17, Try.ntmps17
  go_wp2_with fail
  exact bodyPost_ret (v := .agg #[.slice none 0 0, .slice none 0 0]) (by simp [results, Try.results17, go_sem]) rfl ⟨_, rfl, zero_NV _, one_new _ _⟩
end Go.Proofs.Ytpempgajejbdoaa
