/-
  codec.depth and Depth of the reference.
-/
import Derived.Test.YtaahmfmelmjahaaWf
namespace Go.Proofs.Ytaahmfmelmjahaa
open Go Go.RowKit
def DepOK (k n : Int) (s : ByteArray) (q : F) : Prop := ∀ (L : Value) (w : World), Okv k n s → Sl w L q → depv k (F.dep q) ≤ 1000 → Calls Try.prog 31 #[val k n s L] w (Ret (.int .i64 (depv k (F.dep q))) w)
theorem max_int (m d : Nat) : (if m < d then (d : Int) else (m : Int)) = ((max m d : Nat) : Int) := by
  split <;> omega
theorem dep_drop {q : F} {k n : Int} {s : ByteArray} {a : F} {j m : Nat} (h : F.dep q = max m (F.dep (F.drop j q))) (h1 : F.drop j q = .cons k n s a (F.drop (j + 1) q)) :
    F.dep q = max (max m (depv k (F.dep a))) (F.dep (F.drop (j + 1) q)) := by
  rw [h, h1]
  simp [F.dep, Nat.max_assoc]
theorem depv_le {k : Int} {n m : Nat} (h : depv k n ≤ m) : n ≤ m ∨ k ≠ 3 := by
  unfold depv at h
  split at h
  · exact .inl (by omega)
  · exact .inr ‹_›
theorem dep_le {q : F} {k n : Int} {s : ByteArray} {a : F} {j : Nat} (h : F.dep q ≤ 1000) (h1 : F.drop j q = .cons k n s a (F.drop (j + 1) q)) (m : Nat) (h2 : F.dep q = max m (F.dep (F.drop j q))) : depv k (F.dep a) ≤ 1000 := by
  rw [h1] at h2
  simp only [F.dep] at h2
  omega
set_option maxHeartbeats 400000 in
theorem dep_leaf (k n : Int) (s : ByteArray) (p : Option Addr) (l c d : Nat) (w : World) (hk : ¬ k = 3) :
    Calls Try.prog 31 #[val k n s (.slice p l c)] w (Ret (.int .i64 (depv k d)) w) := by
  go_enter Try.func31, Try.ntmps31
  go_wp2_with fail
  go_ret
  exact ⟨ret_int (by simp [depv, hk]), one_new _ _⟩
set_option maxHeartbeats 1000000 in
theorem dep_list (n : Int) (s : ByteArray) (q : F) (p : Option Addr) (c len : Nat) (w : World) (hl : len ≤ 9223372036854775807) (hq : Hid (q.len = len)) (h : q.All DepOK)
    (h4 : Hid (len = 0 ∨ ∃ b o, p = some ⟨b, o, none⟩ ∧ b < w.heap.size ∧ Lies w q b o)) (hd : Hid (F.dep q ≤ 1000)) :
    Calls Try.prog 31 #[val 3 n s (.slice p len c)] w (Ret (.int .i64 (depv 3 (F.dep q))) w) := by
  go_enter Try.func31, Try.ntmps31
  go_wp2_with fail
  go_loopw [3, 12] (fun x i wr => ∃ (j m : Nat), j ≤ len ∧ i = .int .i64 j ∧ x = .int .i64 m ∧ m ≤ 1000 ∧ Hid (F.dep q = max m (F.dep (F.drop j q))) ∧ Below (w.heap.size + 1) (w.alloc (.cells #[.int .i64 3, .int .i64 n, .string s, .slice p len c] 24)) wr) (fun _ i _ => len - (intOf i).toNat)
  case atStart => exact ⟨0, 0, Nat.zero_le _, rfl, rfl, Nat.zero_le _, by simp [Hid, F.drop], Below.refl _ _⟩
  case round =>
    obtain ⟨j, m, hj, rfl, rfl, hm, hsame, hb⟩ := hrel
    obtain ⟨c0, c1, c2, c3⟩ := boxed hb
    have hb2 : Below w.heap.size w wr := (one_new _ _).trans (hb.mono (by simp))
    by_cases hlt : j < len
    · rcases h4.out with e | ⟨b, o, e, hb0, h5⟩
      · exfalso
        omega
      subst e
      obtain ⟨k1, n1, s1, q1, L1, d0, d1, d2, d3, hs1, hL1, hp1, hd1⟩ := h5.elt h j (by rw [hq.out]; exact hlt)
      have hS := Lib.hid (dep_drop hsame.out hd1)
      have hle := dep_le hd.out hd1 m hsame.out
      have g0 := (hb2.cell (p := ⟨b, o + j * 4, none⟩) hb0).trans d0
      have g1 := (hb2.cell (p := ⟨b, o + j * 4 + 1, none⟩) hb0).trans d1
      have g2 := (hb2.cell (p := ⟨b, o + j * 4 + 2, none⟩) hb0).trans d2
      have g3 := (hb2.cell (p := ⟨b, o + j * 4 + 3, none⟩) hb0).trans d3
      have hL1' := hL1.below hb2
      obtain ⟨p1, c1', e1, _⟩ := hL1'.shape
      subst e1
      have hL1a := fun x => hL1'.below (one_new wr x)
      clear d0 d1 d2 d3 hd1 hL1 hsame hL1'
      have hc : ∀ x, Calls Try.prog 31 #[val k1 n1 s1 (.slice p1 q1.len c1')] (wr.alloc x) (Ret (.int .i64 (depv k1 (F.dep q1))) (wr.alloc x)) := fun x => hp1 _ _ hs1 (hL1a x) hle
      generalize depv k1 (F.dep q1) = dv at hc hle hS
      have hz := hb.size
      simp at hz
      go_wp2_with (go_at_call 31; refine (hc _).mono ?_; rintro e w' ⟨rfl, hb'⟩)
      go_roundw
      case rel => exact ⟨j + 1, max m dv, by omega, by go_num, by rw [max_int], by omega, hS, hb.trans (((one_new _ _).mono hz).trans (hb'.mono (by simp; omega)))⟩
      case measure => simp [intOf]; omega
    · have hfin : F.dep q = m := by rw [hsame.out, drop_over q j (by rw [hq.out]; omega)]; simp [F.dep]
      have HF := Lib.hid hfin
      clear hfin
      go_wp2_with fail
      go_ret
      exact ⟨ret_int (by rw [HF.out]; simp [depv]; omega), hb2⟩
theorem dep_step (k n : Int) (s : ByteArray) (q : F) (h : q.All DepOK) : DepOK k n s q := by
  intro L w hs hL hd
  by_cases hk : k = 3
  · subst hk
    have hd' : F.dep q ≤ 1000 := by have := hd; unfold depv at this; rw [if_pos rfl] at this; omega
    rcases hL with ⟨p, c, rfl, rfl⟩ | ⟨b, o, cap, rfl, e1, e2, e3, e4⟩
    · exact dep_list n s .nil p c 0 w (by omega) rfl h (.inl rfl) hd'
    · exact dep_list n s q _ cap q.len w (by unfold maxLen at e2; omega) rfl h (.inr ⟨b, o, rfl, e3, e4⟩) hd'
  · obtain ⟨p, c, rfl, hl⟩ := hL.shape
    exact dep_leaf k n s p _ c _ w hk
theorem dep_any (k n : Int) (s : ByteArray) (q : F) : DepOK k n s q := (F.all_of dep_step (.cons k n s q .nil)).1
/-- Depth of the reference -/
def RdOK (k n : Int) (s : ByteArray) (q : F) : Prop := ∀ (L : Value) (w : World), Okv k n s → Sl w L q → depv k (F.dep q) ≤ 1000 → Calls Try.prog 33 #[val k n s L] w (Ret (.int .i64 (depv k (F.dep q))) w)
set_option maxHeartbeats 400000 in
theorem rd_leaf (k n : Int) (s : ByteArray) (p : Option Addr) (l c d : Nat) (w : World) (hk : ¬ k = 3) :
    Calls Try.prog 33 #[val k n s (.slice p l c)] w (Ret (.int .i64 (depv k d)) w) := by
  go_enter Try.func33, Try.ntmps33
  go_wp2_with fail
  go_ret
  exact ⟨ret_int (by simp [depv, hk]), one_new _ _⟩
set_option maxHeartbeats 1000000 in
theorem rd_list (n : Int) (s : ByteArray) (q : F) (p : Option Addr) (c len : Nat) (w : World) (hl : len ≤ 9223372036854775807) (hq : Hid (q.len = len)) (h : q.All RdOK)
    (h4 : Hid (len = 0 ∨ ∃ b o, p = some ⟨b, o, none⟩ ∧ b < w.heap.size ∧ Lies w q b o)) (hd : Hid (F.dep q ≤ 1000)) :
    Calls Try.prog 33 #[val 3 n s (.slice p len c)] w (Ret (.int .i64 (depv 3 (F.dep q))) w) := by
  go_enter Try.func33, Try.ntmps33
  go_wp2_with fail
  go_loopw [3, 4] (fun x i wr => ∃ (j m : Nat), j ≤ len ∧ i = .int .i64 j ∧ x = .int .i64 m ∧ m ≤ 1000 ∧ Hid (F.dep q = max m (F.dep (F.drop j q))) ∧ Below (w.heap.size + 1) (w.alloc (.cells #[.int .i64 3, .int .i64 n, .string s, .slice p len c] 24)) wr) (fun _ i _ => len - (intOf i).toNat)
  case atStart => exact ⟨0, 0, Nat.zero_le _, rfl, rfl, Nat.zero_le _, by simp [Hid, F.drop], Below.refl _ _⟩
  case round =>
    obtain ⟨j, m, hj, rfl, rfl, hm, hsame, hb⟩ := hrel
    obtain ⟨c0, c1, c2, c3⟩ := boxed hb
    have hb2 : Below w.heap.size w wr := (one_new _ _).trans (hb.mono (by simp))
    by_cases hlt : j < len
    · rcases h4.out with e | ⟨b, o, e, hb0, h5⟩
      · exfalso
        omega
      subst e
      obtain ⟨k1, n1, s1, q1, L1, d0, d1, d2, d3, hs1, hL1, hp1, hd1⟩ := h5.elt h j (by rw [hq.out]; exact hlt)
      have hS := Lib.hid (dep_drop hsame.out hd1)
      have hle := dep_le hd.out hd1 m hsame.out
      have g0 := (hb2.cell (p := ⟨b, o + j * 4, none⟩) hb0).trans d0
      have g1 := (hb2.cell (p := ⟨b, o + j * 4 + 1, none⟩) hb0).trans d1
      have g2 := (hb2.cell (p := ⟨b, o + j * 4 + 2, none⟩) hb0).trans d2
      have g3 := (hb2.cell (p := ⟨b, o + j * 4 + 3, none⟩) hb0).trans d3
      have hL1' := hL1.below hb2
      have hc := hp1 _ _ hs1 hL1' hle
      clear d0 d1 d2 d3 hd1 hL1 hsame hL1'
      generalize depv k1 (F.dep q1) = dv at hc hle hS
      have hz := hb.size
      simp at hz
      go_wp2_with (go_at_call 33; refine hc.mono ?_; rintro e w' ⟨rfl, hb'⟩)
      go_roundw
      case rel => exact ⟨j + 1, max m dv, by omega, by go_num, by rw [max_int], by omega, hS, hb.trans (hb'.mono (by omega))⟩
      case measure => simp [intOf]; omega
    · have hfin : F.dep q = m := by rw [hsame.out, drop_over q j (by rw [hq.out]; omega)]; simp [F.dep]
      have HF := Lib.hid hfin
      clear hfin
      go_wp2_with fail
      go_ret
      exact ⟨ret_int (by rw [HF.out]; simp [depv]), hb2⟩
theorem rd_step (k n : Int) (s : ByteArray) (q : F) (h : q.All RdOK) : RdOK k n s q := by
  intro L w hs hL hd
  by_cases hk : k = 3
  · subst hk
    have hd' : F.dep q ≤ 1000 := by have := hd; unfold depv at this; rw [if_pos rfl] at this; omega
    rcases hL with ⟨p, c, rfl, rfl⟩ | ⟨b, o, cap, rfl, e1, e2, e3, e4⟩
    · exact rd_list n s .nil p c 0 w (by omega) rfl h (.inl rfl) hd'
    · exact rd_list n s q _ cap q.len w (by unfold maxLen at e2; omega) rfl h (.inr ⟨b, o, rfl, e3, e4⟩) hd'
  · obtain ⟨p, c, rfl, hl⟩ := hL.shape
    exact rd_leaf k n s p _ c _ w hk
theorem rd_any (k n : Int) (s : ByteArray) (q : F) : RdOK k n s q := (F.all_of rd_step (.cons k n s q .nil)).1
/-- the code that Check returns -/
def chkv (k n : Int) (s : ByteArray) (q : F) : Int := if wfv k n s.size q.len (F.wf q) = true then (if 16 < depv k (F.dep q) then 2 else 0) else 1
set_option maxHeartbeats 400000 in
theorem chk_any (k n : Int) (s : ByteArray) (q : F) (L : Value) (w : World) (hs : Okv k n s) (hL : Sl w L q) (hd : depv k (F.dep q) ≤ 1000) : Calls Try.prog 16 #[val k n s L] w (Ret (.int .i64 (chkv k n s q)) w) := by
  have h1 := fun x => wf_any k n s q L _ hs (hL.below (one_new w x))
  have h2 := fun (w1 : World) (hb : Below w.heap.size w w1) => dep_any k n s q L w1 hs (hL.below hb) hd
  have hch : chkv k n s q = if wfv k n s.size q.len (F.wf q) = true then (if 16 < depv k (F.dep q) then 2 else 0) else 1 := rfl
  obtain ⟨p, c, rfl, hl⟩ := hL.shape
  generalize chkv k n s q = r at hch
  generalize wfv k n s.size q.len (F.wf q) = b at h1 hch
  generalize depv k (F.dep q) = dv at h2 hch
  have HC := Lib.hid hch
  have H1 := Lib.hid h1
  have H2 := Lib.hid h2
  clear h1 h2 hch hL
  go_enter Try.func16, Try.ntmps16
  go_wp2_with fail
  refine (H1.out _).mono ?_
  rintro e w1 ⟨rfl, hb1⟩
  obtain ⟨a0, a1, a2, a3⟩ := boxed (hb1.mono (by simp))
  have hb2 : Below w.heap.size w w1 := (one_new _ _).trans (hb1.mono (by simp))
  cases b
  · go_wp2_with fail
    go_ret
    exact ⟨ret_int (by rw [HC.out]; simp), hb2⟩
  · by_cases h16 : 16 < dv
    · go_wp2_with (go_at_call 31; refine (H2.out _ hb2).mono ?_; rintro e w' ⟨rfl, hb'⟩)
      go_ret
      exact ⟨ret_int (by rw [HC.out]; simp [h16]), hb2.trans (hb'.mono hb2.size)⟩
    · go_wp2_with (go_at_call 31; refine (H2.out _ hb2).mono ?_; rintro e w' ⟨rfl, hb'⟩)
      go_ret
      exact ⟨ret_int (by rw [HC.out]; simp [h16]), hb2.trans (hb'.mono hb2.size)⟩
set_option maxHeartbeats 400000 in
theorem rchk_any (k n : Int) (s : ByteArray) (q : F) (L : Value) (w : World) (hs : Okv k n s) (hL : Sl w L q) (hd : depv k (F.dep q) ≤ 1000) : Calls Try.prog 17 #[val k n s L] w (Ret (.int .i64 (chkv k n s q)) w) := by
  have h1 := fun x => rf_any k n s q L _ hs (hL.below (one_new w x))
  have h2 := fun (w1 : World) (hb : Below w.heap.size w w1) => rd_any k n s q L w1 hs (hL.below hb) hd
  have hch : chkv k n s q = if wfv k n s.size q.len (F.wf q) = true then (if 16 < depv k (F.dep q) then 2 else 0) else 1 := rfl
  obtain ⟨p, c, rfl, hl⟩ := hL.shape
  generalize chkv k n s q = r at hch
  generalize wfv k n s.size q.len (F.wf q) = b at h1 hch
  generalize depv k (F.dep q) = dv at h2 hch
  have HC := Lib.hid hch
  have H1 := Lib.hid h1
  have H2 := Lib.hid h2
  clear h1 h2 hch hL
  go_enter Try.func17, Try.ntmps17
  go_wp2_with fail
  refine (H1.out _).mono ?_
  rintro e w1 ⟨rfl, hb1⟩
  obtain ⟨a0, a1, a2, a3⟩ := boxed (hb1.mono (by simp))
  have hb2 : Below w.heap.size w w1 := (one_new _ _).trans (hb1.mono (by simp))
  cases b
  · go_wp2_with fail
    go_ret
    exact ⟨ret_int (by rw [HC.out]; simp), hb2⟩
  · by_cases h16 : 16 < dv
    · go_wp2_with (go_at_call 33; refine (H2.out _ hb2).mono ?_; rintro e w' ⟨rfl, hb'⟩)
      go_ret
      exact ⟨ret_int (by rw [HC.out]; simp [h16]), hb2.trans (hb'.mono hb2.size)⟩
    · go_wp2_with (go_at_call 33; refine (H2.out _ hb2).mono ?_; rintro e w' ⟨rfl, hb'⟩)
      go_ret
      exact ⟨ret_int (by rw [HC.out]; simp [h16]), hb2.trans (hb'.mono hb2.size)⟩
end Go.Proofs.Ytaahmfmelmjahaa
