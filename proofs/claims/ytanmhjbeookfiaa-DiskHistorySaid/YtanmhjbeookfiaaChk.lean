/-
  Disks: the program's Check and what it calls, on every disk.
-/
import Derived.Test.YtanmhjbeookfiaaFew
namespace Go.Proofs.Ytanmhjbeookfiaa
open Go Go.RowKit
theorem all_step {α : Type} {f : α → Bool} {l : List α} {k : Nat} {x : α} (h : (l.take k).all f = true) (hx : l[k]? = some x) (hf : f x = true) : (l.take (k + 1)).all f = true := by
  obtain ⟨hlt, e⟩ := List.getElem?_eq_some_iff.1 hx
  rw [List.take_succ_eq_append_getElem hlt, List.all_append, h, e]
  simp [hf]
theorem all_fail {α : Type} {f : α → Bool} {l : List α} {k : Nat} {x : α} (hx : l[k]? = some x) (hf : f x = false) : l.all f = false := by
  rw [List.all_eq_false]
  exact ⟨x, List.mem_of_getElem? hx, by simp [hf]⟩
theorem all_full {α : Type} {f : α → Bool} {l : List α} {k : Nat} (h : (l.take k).all f = true) (hk : l.length = k) : l.all f = true := by
  rwa [List.take_of_length_le (by omega)] at h
def inB (n : Nat) (a : Int) : Bool := decide (0 ≤ a ∧ a < n)
theorem within_any (v : Value) (d : D) (a : Int) (w : World) (h : DV w v d) : Calls Try.prog 32 #[v, .int .i64 a] w (Ret (.bool (inB d.s.length a)) w) := by
  obtain ⟨ps, N, cs, pp, M, cp, rfl, HO, hs1, hs2, hp1, hp2⟩ := h.op
  clear h
  by_cases h0 : 0 ≤ a
  by_cases h1 : a < N
  all_goals
    go_enter Try.func32, Try.ntmps32
    go_wp2_with fail
    go_ret
    exact ⟨ret_bool (by unfold inB; rw [HO.out.n]; first | (simp [*]; done) | (simp [*]; omega)), one_new _ _⟩
theorem okS_len {s : List (List UInt8)} {N : Nat} (h : s.length = N) (hn : N < 1 ∨ 4096 < N) : okS s = false := by
  unfold okS
  rw [h]
  have : decide (1 ≤ N ∧ N ≤ 4096) = false := by simp; omega
  rw [this, Bool.false_and]
set_option maxHeartbeats 1000000 in
theorem vsec_any (v : Value) (d : D) (w : World) (h : DV w v d) : Calls Try.prog 29 #[v] w (Ret (.bool (okS d.s)) w) := by
  obtain ⟨ps, N, cs, pp, M, cp, rfl, HO, hs1, hs2, hp1, hp2⟩ := h.op
  clear h
  by_cases h1 : N < 1
  · have HF := Lib.hid (okS_len HO.out.n (.inl h1))
    go_enter Try.func29, Try.ntmps29
    go_wp2_with fail
    go_ret
    exact ⟨ret_bool HF.out.symm, one_new _ _⟩
  by_cases h2 : 4096 < N
  · have HF := Lib.hid (okS_len HO.out.n (.inr h2))
    go_enter Try.func29, Try.ntmps29
    go_wp2_with fail
    go_ret
    exact ⟨ret_bool HF.out.symm, one_new _ _⟩
  go_enter Try.func29, Try.ntmps29
  go_wp2_with fail
  go_loopw [18] (fun i wr => ∃ k : Nat, k ≤ N ∧ i = .int .i64 k ∧ Hid ((d.s.take k).all secB = true) ∧ Below (w.heap.size + 1) (dbox w d ps N cs pp M cp) wr) (fun i _ => N - (intOf i).toNat)
  case atStart => exact ⟨0, Nat.zero_le _, rfl, Lib.hid (by simp), Below.refl _ _⟩
  case round =>
    obtain ⟨k, hk, rfl, HA, hb⟩ := hrel
    obtain ⟨c0, c1, c2, c3⟩ := boxed (Nat.lt_succ_self _) hb
    have hb2 : Below w.heap.size w wr := (one_new _ _).trans (hb.mono (by omega))
    by_cases hlt : k < N
    · obtain ⟨b, o, pu, L, cu, l, rfl, hbl, g0, HL, hu1, hu2⟩ := (HO.out.below hb2).secAt k hlt
      unfold maxLen at hu2
      by_cases hL : (L : Int) = 128
      · have HF : Hid (secB l = true) := Lib.hid (by unfold secB; rw [HL.out.2.1]; simp; omega)
        have hL1 : ((L : Int) != 128) = false := by simp [hL]
        clear hL
        go_wp2_with fail
        go_roundw
        case rel => exact ⟨k + 1, by omega, by go_num, Lib.hid (all_step HA.out HL.out.1 HF.out), hb⟩
        case measure => simp [intOf]; omega
      · have HF : Hid (secB l = false) := Lib.hid (by unfold secB; rw [HL.out.2.1]; simp; omega)
        have hL1 : ((L : Int) != 128) = true := by simp [hL]
        clear hL
        go_wp2_with fail
        go_ret
        exact ⟨ret_bool (by unfold okS; rw [all_fail HL.out.1 HF.out, Bool.and_false]), hb2⟩
    · go_wp2_with fail
      go_ret
      have hkN : k = N := by omega
      exact ⟨ret_bool (by unfold okS; rw [all_full HA.out (by rw [HO.out.n]; omega), HO.out.n]; simp; omega), hb2⟩
set_option maxHeartbeats 1000000 in
theorem vpen_any (v : Value) (d : D) (w : World) (h : DV w v d) : Calls Try.prog 30 #[v] w (Ret (.bool (okP d.s.length d.p)) w) := by
  obtain ⟨ps, N, cs, pp, M, cp, rfl, HO, hs1, hs2, hp1, hp2⟩ := h.op
  clear h
  by_cases h2 : 4096 < M
  · have HF : Hid (okP d.s.length d.p = false) := Lib.hid (by unfold okP; rw [HO.out.m]; have : decide (M ≤ 4096) = false := by simp; omega
                                                              rw [this, Bool.false_and])
    go_enter Try.func30, Try.ntmps30
    go_wp2_with fail
    go_ret
    exact ⟨ret_bool HF.out.symm, one_new _ _⟩
  go_enter Try.func30, Try.ntmps30
  go_wp2_with fail
  go_loopw [12] (fun i wr => ∃ k : Nat, k ≤ M ∧ i = .int .i64 k ∧ Hid ((d.p.take k).all (penB N) = true) ∧ Below (w.heap.size + 1) (dbox w d ps N cs pp M cp) wr) (fun i _ => M - (intOf i).toNat)
  case atStart => exact ⟨0, Nat.zero_le _, rfl, Lib.hid (by simp), Below.refl _ _⟩
  case round =>
    obtain ⟨k, hk, rfl, HA, hb⟩ := hrel
    obtain ⟨c0, c1, c2, c3⟩ := boxed (Nat.lt_succ_self _) hb
    have hb2 : Below w.heap.size w wr := (one_new _ _).trans (hb.mono (by omega))
    have hz : w.heap.size < wr.heap.size := by have := hb.size; simp at this; omega
    by_cases hlt : k < M
    · obtain ⟨b, o, n, pu, L, cu, l, rfl, hbl, g0, g1, HL, hu1, hu2, hw⟩ := (HO.out.below hb2).penAt k hlt
      unfold maxLen at hu2
      have HD := Lib.hid ((HO.out.below hb2).dv)
      have HW : ∀ w', Below wr.heap.size wr w' → Calls Try.prog 32 #[dval d ps N cs (some ⟨b, o, none⟩) M cp, .int .i64 n] w' (Ret (.bool (inB N n)) w') := fun w' hb' => by
        have := within_any _ d n w' (HD.out.below hb')
        rwa [HO.out.n] at this
      have HW := Lib.hid HW
      cases hi : inB N n
      all_goals
        have HI := Lib.hid hi
        by_cases hL : (L : Int) = 128
      all_goals
        first | (have hL1 : ((L : Int) != 128) = false := by simp [hL]) | (have hL1 : ((L : Int) != 128) = true := by simp [hL])
        have HLL := Lib.hid hL
        rw [hi] at HW
        clear hL hi
        go_wp2_with (go_at_call 32; refine (HW.out _ (one_new _ _)).mono ?_; rintro e w1 ⟨rfl, hb3⟩; have e1 : w1.cell? ⟨wr.heap.size, 1, none⟩ = some (.slice pu L cu) := (by rw [bcells hb3 (by simp)]; go_simp); have HB3 := Lib.hid ((one_new wr _).trans (hb3.mono (by simp))); clear hb3)
      · go_ret
        exact ⟨ret_bool (by unfold okP; rw [HO.out.n, all_fail HL.out.1 (by unfold penB; have := HI.out; unfold inB at this; rw [this, Bool.false_and]), Bool.and_false]), hb2.trans (HB3.out.mono (by omega))⟩
      · go_ret
        exact ⟨ret_bool (by unfold okP; rw [HO.out.n, all_fail HL.out.1 (by unfold penB; have := HI.out; unfold inB at this; rw [this, Bool.false_and]), Bool.and_false]), hb2.trans (HB3.out.mono (by omega))⟩
      · go_roundw
        case rel => exact ⟨k + 1, by omega, by go_num, Lib.hid (all_step HA.out HL.out.1 (by unfold penB; have := HI.out; unfold inB at this; rw [this, HL.out.2.1, Bool.true_and]; have := HLL.out; simp; omega)), hb.trans (HB3.out.mono (by omega))⟩
        case measure => simp [intOf]; omega
      · go_ret
        exact ⟨ret_bool (by unfold okP; rw [HO.out.n, all_fail HL.out.1 (by unfold penB; rw [HL.out.2.1]; have := HLL.out; have e : decide (L = 128) = false := (by simp; omega); rw [e, Bool.and_false]), Bool.and_false]), hb2.trans (HB3.out.mono (by omega))⟩
    · go_wp2_with fail
      go_ret
      have hkN : k = M := by omega
      exact ⟨ret_bool (by unfold okP; rw [HO.out.n, all_full HA.out (by rw [HO.out.m]; omega), HO.out.m]; simp; omega), hb2⟩
theorem w64_le {k : Int} (h : W64 k) : -9223372036854775808 ≤ k ∧ k ≤ 9223372036854775807 := h
theorem chk_no {d : D} (h : valid d = false) : chk d = 40 := by unfold chk; rw [h]; rfl
theorem chk_ok {d : D} (h : valid d = true) : chk d = 0 := by unfold chk; rw [h]; rfl
set_option maxHeartbeats 1000000 in
theorem check_any (v : Value) (d : D) (w : World) (h : DV w v d) : Calls Try.prog 15 #[v] w (Ret (.int .i64 (chk d)) w) := by
  obtain ⟨ps, N, cs, pp, M, cp, rfl, HO, hs1, hs2, hp1, hp2⟩ := h.op
  clear h
  have HS : Hid (∀ w', Below w.heap.size w w' → Calls Try.prog 29 #[dval d ps N cs pp M cp] w' (Ret (.bool (okS d.s)) w')) := Lib.hid fun w' hb => vsec_any _ d w' (HO.out.below hb).dv
  have HP : Hid (∀ w', Below w.heap.size w w' → Calls Try.prog 30 #[dval d ps N cs pp M cp] w' (Ret (.bool (okP d.s.length d.p)) w')) := Lib.hid fun w' hb => vpen_any _ d w' (HO.out.below hb).dv
  have HC : Hid (chk d = if (okS d.s && (okP d.s.length d.p && okL d.left)) = true then 0 else 40) := Lib.hid rfl
  cases hs : okS d.s
  all_goals
    cases hp : okP d.s.length d.p
  all_goals
    rw [hs] at HS HC
    rw [hp] at HP HC
    by_cases l1 : d.left < -1
  all_goals
    by_cases l2 : 65536 < d.left
  all_goals try (exfalso; omega; done)
  all_goals
    have HL : Hid (okL d.left = decide (-1 ≤ d.left ∧ d.left ≤ 65536)) := Lib.hid rfl
    clear hs hp
    go_enter Try.func15, Try.ntmps15
    go_wp2_with (first
      | (go_at_call 29; refine (HS.out _ (one_new _ _)).mono ?_; rintro e w1 ⟨rfl, hb1⟩; obtain ⟨c0, c1, c2, c3⟩ := boxed (Nat.lt_succ_self _) (hb1.mono (by simp)); have hz1 : w.heap.size < w1.heap.size := (by have := hb1.size; simp at this; omega); have HB := Lib.hid ((one_new w _).trans (hb1.mono (by simp))); clear hb1)
      | (go_at_call 30; refine (HP.out _ HB.out).mono ?_; rintro e w2 ⟨rfl, hb2⟩; have c2' := (bcells hb2 hz1 _).trans c2; have HB2 := Lib.hid (HB.out.trans (hb2.mono HB.out.size)); clear hb2 c0 c1 c2 c3))
  all_goals
    go_ret
    exact ⟨ret_int (by rw [HC.out, HL.out]; first | rfl | (simp [*]; done) | (simp [*]; omega)), by first | exact HB2.out | exact HB.out⟩
def runsB (d : D) : Bool := valid d && !d.st
theorem runs_any (v : Value) (d : D) (w : World) (h : DV w v d) : Calls Try.prog 31 #[v] w (Ret (.bool (runsB d)) w) := by
  obtain ⟨ps, N, cs, pp, M, cp, rfl, HO, hs1, hs2, hp1, hp2⟩ := h.op
  clear h
  have HC : Hid (∀ w', Below w.heap.size w w' → Calls Try.prog 15 #[dval d ps N cs pp M cp] w' (Ret (.int .i64 (chk d)) w')) := Lib.hid fun w' hb => check_any _ d w' (HO.out.below hb).dv
  have HR : Hid (runsB d = (valid d && !d.st)) := Lib.hid rfl
  cases hv : valid d
  all_goals
    first | (rw [chk_no hv] at HC) | (rw [chk_ok hv] at HC)
    rw [hv] at HR
    clear hv
    go_enter Try.func31, Try.ntmps31
    go_wp2_with (go_at_call 15; refine (HC.out _ (one_new _ _)).mono ?_; rintro e w1 ⟨rfl, hb1⟩; obtain ⟨c0, c1, c2, c3⟩ := boxed (Nat.lt_succ_self _) (hb1.mono (by simp)); have HB := Lib.hid ((one_new w _).trans (hb1.mono (by simp))); clear hb1)
    go_ret
    exact ⟨ret_bool (by rw [HR.out]; simp), HB.out⟩
end Go.Proofs.Ytanmhjbeookfiaa
