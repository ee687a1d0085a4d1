/-
  Disks: the reference's Check, on every disk.
-/
import Derived.Test.YtanmhjbeookfiaaChk
namespace Go.Proofs.Ytanmhjbeookfiaa
open Go Go.RowKit
theorem chk_of {d : D} (h : okS d.s = false ∨ okP d.s.length d.p = false ∨ okL d.left = false) : chk d = 40 := by
  refine chk_no ?_
  unfold valid
  rcases h with h | h | h <;> simp [h]
set_option maxHeartbeats 1000000 in
theorem rcheck_any (v : Value) (d : D) (w : World) (h : DV w v d) : Calls Try.prog 16 #[v] w (Ret (.int .i64 (chk d)) w) := by
  obtain ⟨ps, N, cs, pp, M, cp, rfl, HO, hs1, hs2, hp1, hp2⟩ := h.op
  clear h
  have HC := Lib.hid (@chk_of d)
  by_cases n1 : N < 1
  · have HF := Lib.hid (HC.out (.inl (okS_len HO.out.n (.inl n1))))
    go_enter Try.func16, Try.ntmps16
    go_wp2_with fail
    go_ret
    exact ⟨ret_int HF.out.symm, one_new _ _⟩
  by_cases n2 : 4096 < N
  · have HF := Lib.hid (HC.out (.inl (okS_len HO.out.n (.inr n2))))
    go_enter Try.func16, Try.ntmps16
    go_wp2_with fail
    go_ret
    exact ⟨ret_int HF.out.symm, one_new _ _⟩
  by_cases m2 : 4096 < M
  · have HF : Hid (chk d = 40) := Lib.hid (HC.out (.inr (.inl (by unfold okP; rw [HO.out.m]; have : decide (M ≤ 4096) = false := by simp; omega
                                                                  rw [this, Bool.false_and]))))
    go_enter Try.func16, Try.ntmps16
    go_wp2_with fail
    go_ret
    exact ⟨ret_int HF.out.symm, one_new _ _⟩
  by_cases l1 : d.left < -1
  · have HF : Hid (chk d = 40) := Lib.hid (HC.out (.inr (.inr (by unfold okL; simp; omega))))
    go_enter Try.func16, Try.ntmps16
    go_wp2_with fail
    go_ret
    exact ⟨ret_int HF.out.symm, one_new _ _⟩
  by_cases l2 : 65536 < d.left
  · have HF : Hid (chk d = 40) := Lib.hid (HC.out (.inr (.inr (by unfold okL; simp; omega))))
    go_enter Try.func16, Try.ntmps16
    go_wp2_with fail
    go_ret
    exact ⟨ret_int HF.out.symm, one_new _ _⟩
  have HL : Hid (okL d.left = true) := Lib.hid (by unfold okL; simp; omega)
  go_enter Try.func16, Try.ntmps16
  go_wp2_with fail
  go_loopw [4] (fun i wr => ∃ k : Nat, k ≤ N ∧ i = .int .i64 k ∧ Hid ((d.s.take k).all secB = true) ∧ Below (w.heap.size + 1) (dbox w d ps N cs pp M cp) wr) (fun i _ => N - (intOf i).toNat)
  case atStart => exact ⟨0, Nat.zero_le _, rfl, Lib.hid (by simp), Below.refl _ _⟩
  case round =>
    obtain ⟨k, hk, rfl, HA, hb⟩ := hrel
    obtain ⟨c0, c1, c2, c3⟩ := boxed (Nat.lt_succ_self _) hb
    have hb2 : Below w.heap.size w wr := (one_new _ _).trans (hb.mono (by omega))
    by_cases hlt : k < N
    · obtain ⟨b, o, pu, L, cu, l, rfl, hbl, g0, HL2, hu1, hu2⟩ := (HO.out.below hb2).secAt k hlt
      unfold maxLen at hu2
      by_cases hL : (L : Int) = 128
      · have HF : Hid (secB l = true) := Lib.hid (by unfold secB; rw [HL2.out.2.1]; simp; omega)
        have hL1 : ((L : Int) != 128) = false := by simp [hL]
        clear hL
        go_wp2_with fail
        go_roundw
        case rel => exact ⟨k + 1, by omega, by go_num, Lib.hid (all_step HA.out HL2.out.1 HF.out), hb⟩
        case measure => simp [intOf]; omega
      · have HF : Hid (secB l = false) := Lib.hid (by unfold secB; rw [HL2.out.2.1]; simp; omega)
        have hL1 : ((L : Int) != 128) = true := by simp [hL]
        clear hL
        go_wp2_with fail
        go_ret
        exact ⟨ret_int (HC.out (.inl (by unfold okS; rw [all_fail HL2.out.1 HF.out, Bool.and_false]))).symm, hb2⟩
    · have HS : Hid (okS d.s = true) := Lib.hid (by unfold okS; rw [all_full HA.out (by rw [HO.out.n]; omega), HO.out.n]; simp; omega)
      go_wp2_with fail
      go_loopw [5] (fun i wr => ∃ k : Nat, k ≤ M ∧ i = .int .i64 k ∧ Hid ((d.p.take k).all (penB N) = true) ∧ Below (w.heap.size + 1) (dbox w d ps N cs pp M cp) wr) (fun i _ => M - (intOf i).toNat)
      case atStart => exact ⟨0, Nat.zero_le _, rfl, Lib.hid (by simp), hb⟩
      case round =>
        clear hb hb2 c0 c1 c2 c3 hlt hk HA
        obtain ⟨k, hk, rfl, HA, hb⟩ := hrel
        obtain ⟨c0, c1, c2, c3⟩ := boxed (Nat.lt_succ_self _) hb
        have hb2 : Below w.heap.size w wr := (one_new _ _).trans (hb.mono (by omega))
        have hz : w.heap.size < wr.heap.size := by have := hb.size; simp at this; omega
        by_cases hlt : k < M
        · obtain ⟨b, o, n, pu, L, cu, l, rfl, hbl, g0, g1, HL2, hu1, hu2, hw⟩ := (HO.out.below hb2).penAt k hlt
          unfold maxLen at hu2
          have hbad : Hid (penB N (n, l) = false → chk d = 40) := Lib.hid fun hf => HC.out (.inr (.inl (by unfold okP; rw [HO.out.n, all_fail HL2.out.1 hf, Bool.and_false])))
          have hb4 : ∀ x : Obj, Below (w.heap.size + 1) (dbox w d ps N cs (some ⟨b, o, none⟩) M cp) (wr.alloc x) := fun x => hb.trans ((one_new wr x).mono (by omega))
          have HB4 := Lib.hid hb4
          clear hb4
          by_cases h0 : n < 0
          · have HF : Hid (penB N (n, l) = false) := Lib.hid (by unfold penB; have e : decide (0 ≤ n ∧ n < (N : Int)) = false := (by simp; omega); rw [e, Bool.false_and])
            go_wp2_with fail
            go_ret
            exact ⟨ret_int (hbad.out HF.out).symm, hb2.trans ((one_new _ _).mono (by omega))⟩
          by_cases h1 : (N : Int) ≤ n
          · have HF : Hid (penB N (n, l) = false) := Lib.hid (by unfold penB; have e : decide (0 ≤ n ∧ n < (N : Int)) = false := (by simp; omega); rw [e, Bool.false_and])
            go_wp2_with fail
            go_ret
            exact ⟨ret_int (hbad.out HF.out).symm, hb2.trans ((one_new _ _).mono (by omega))⟩
          by_cases hL : (L : Int) = 128
          · have HF : Hid (penB N (n, l) = true) := Lib.hid (by unfold penB; rw [HL2.out.2.1]; simp; omega)
            have hL1 : ((L : Int) != 128) = false := by simp [hL]
            clear hL
            go_wp2_with fail
            go_roundw
            case rel => exact ⟨k + 1, by omega, by go_num, Lib.hid (all_step HA.out HL2.out.1 HF.out), HB4.out _⟩
            case measure => simp [intOf]; omega
          · have HF : Hid (penB N (n, l) = false) := Lib.hid (by unfold penB; rw [HL2.out.2.1]; have e : decide (L = 128) = false := (by simp; omega); rw [e, Bool.and_false])
            have hL1 : ((L : Int) != 128) = true := by simp [hL]
            clear hL
            go_wp2_with fail
            go_ret
            exact ⟨ret_int (hbad.out HF.out).symm, hb2.trans ((one_new _ _).mono (by omega))⟩
        · have HP : Hid (okP d.s.length d.p = true) := Lib.hid (by unfold okP; rw [HO.out.n, all_full HA.out (by rw [HO.out.m]; omega), HO.out.m]; simp; omega)
          go_wp2_with fail
          go_ret
          exact ⟨ret_int (by rw [chk_ok]; unfold valid; rw [HS.out, HP.out, HL.out]; rfl), hb2⟩
end Go.Proofs.Ytanmhjbeookfiaa
