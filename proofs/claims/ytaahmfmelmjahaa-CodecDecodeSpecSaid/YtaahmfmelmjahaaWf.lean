/-
  codec.wellFormed, allWellFormed, and Formed of the reference.
-/
import Derived.Test.YtaahmfmelmjahaaPure
import Derived.Test.YtaahmfmelmjahaaLater
namespace Go.Proofs.Ytaahmfmelmjahaa
open Go Go.RowKit
theorem one_new (w : World) (o : Obj) : Below w.heap.size w (w.alloc o) := (Below.refl _ _).alloc (Nat.le_refl _) _
theorem two_new (w : World) (o o' : Obj) : Below w.heap.size w ((w.alloc o).alloc o') := ((Below.refl _ _).alloc (Nat.le_refl _) _).alloc (by simp) _
theorem size0 {s : ByteArray} (h : s.toList = []) : s.size = 0 := by
  rw [ByteArray.toList_eq] at h
  have := congrArg List.length h
  rw [Array.length_toList] at this
  exact this
theorem size1 {s : ByteArray} (h : ¬ s.toList = []) : s.size ≠ 0 := fun e => h (by
  rw [ByteArray.toList_eq]
  exact List.eq_nil_of_length_eq_zero (by rw [Array.length_toList]; exact e))
theorem empt (s : ByteArray) : s.toList.isEmpty = (s.size == 0) := by
  by_cases h : s.toList = []
  · rw [h, size0 h]
    rfl
  · rw [Bool.eq_iff_iff]
    simp [h, size1 h]
theorem beqz (l : Nat) : ((l : Int) == 0) = (l == 0) := by
  rw [Bool.eq_iff_iff]
  simp
theorem boxed {w wr : World} {a b c d : Value} {T : TypeId} (hb : Below (w.heap.size + 1) (w.alloc (.cells #[a, b, c, d] T)) wr) :
    wr.cell? ⟨w.heap.size, 0, none⟩ = some a ∧ wr.cell? ⟨w.heap.size, 1, none⟩ = some b ∧ wr.cell? ⟨w.heap.size, 2, none⟩ = some c ∧ wr.cell? ⟨w.heap.size, 3, none⟩ = some d := by
  refine ⟨?_, ?_, ?_, ?_⟩ <;> (rw [hb.cell (by simp)]; go_simp)
def WfOK (k n : Int) (s : ByteArray) (q : F) : Prop := ∀ (L : Value) (w : World), Okv k n s → Sl w L q → Calls Try.prog 30 #[val k n s L] w (Ret (.bool (wfv k n s.size q.len (F.wf q))) w)
set_option maxHeartbeats 400000 in
theorem wf_leaf (k n : Int) (s : ByteArray) (p : Option Addr) (l c : Nat) (r : Bool) (w : World) (hk : k ≠ 3) (hs : s.size ≤ 9223372036854775807) (hl : l ≤ 9223372036854775807) :
    Calls Try.prog 30 #[val k n s (.slice p l c)] w (Ret (.bool (wfv k n s.size l r)) w) := by
  by_cases h1 : k = 1
  · subst h1
    go_enter Try.func30, Try.ntmps30
    go_wp2_with fail
    · have h0 := size0 ‹s.toList = []›
      go_ret
      exact ⟨ret_bool (by simp [wfv, h0, beqz]), one_new _ _⟩
    · have h0 := size1 ‹¬ s.toList = []›
      go_ret
      exact ⟨ret_bool (by simp [wfv, h0]), one_new _ _⟩
  · by_cases h2 : k = 2
    · subst h2
      go_enter Try.func30, Try.ntmps30
      go_wp2_with fail
      · have h0 : n = 0 := by assumption
        go_ret
        exact ⟨ret_bool (by simp [wfv, h0, beqz]), one_new _ _⟩
      · have h0 : ¬ n = 0 := by assumption
        go_ret
        exact ⟨ret_bool (by simp [wfv, h0]), one_new _ _⟩
    · go_enter Try.func30, Try.ntmps30
      go_wp2_with fail
      go_ret
      exact ⟨ret_bool (by simp [wfv, h1, h2, hk]), one_new _ _⟩
set_option maxHeartbeats 400000 in
theorem wf_list (n : Int) (s : ByteArray) (p : Option Addr) (l c : Nat) (r : Bool) (w : World) (hs : s.size ≤ 9223372036854775807) (hl : l ≤ 9223372036854775807)
    (h : ∀ x, Calls Try.prog 47 #[.slice p l c] (w.alloc x) (Ret (.bool r) (w.alloc x))) :
    Calls Try.prog 30 #[val 3 n s (.slice p l c)] w (Ret (.bool (wfv 3 n s.size l r)) w) := by
  have H := Lib.hid h
  clear h
  by_cases hn : n = 0
  · subst hn
    by_cases h0 : s.toList = []
    · have hz := Lib.hid (size0 h0)
      go_enter Try.func30, Try.ntmps30
      go_wp2_with (go_at_call 47; refine (H.out _).mono ?_; rintro e w' ⟨rfl, hb'⟩)
      go_ret
      exact ⟨ret_bool (by simp [wfv, hz.out]), (one_new _ _).trans (hb'.mono (by simp))⟩
    · have hz := Lib.hid (size1 h0)
      go_enter Try.func30, Try.ntmps30
      go_wp2_with fail
      go_ret
      exact ⟨ret_bool (by simp [wfv, hz.out]), one_new _ _⟩
  · go_enter Try.func30, Try.ntmps30
    go_wp2_with fail
    go_ret
    exact ⟨ret_bool (by simp [wfv, hn]), one_new _ _⟩
set_option maxHeartbeats 400000 in
theorem awf_nil (p : Option Addr) (c : Nat) (w : World) : Calls Try.prog 47 #[.slice p 0 c] w (Ret (.bool true) w) := by
  go_enter Try.func47, Try.ntmps47
  go_wp2_with fail
  go_loopw [7] (fun i wr => i = .int .i64 0 ∧ wr = w) (fun _ _ => 0)
  case atStart => exact ⟨rfl, rfl⟩
  case round =>
    obtain ⟨rfl, rfl⟩ := hrel
    go_wp2_with fail
    go_ret
    exact ⟨rfl, Below.refl _ _⟩
theorem wf_drop {q : F} {k n : Int} {s : ByteArray} {a : F} {j : Nat} (h : F.wf q = F.wf (F.drop j q)) (h1 : F.drop j q = .cons k n s a (F.drop (j + 1) q)) :
    F.wf q = (wfv k n s.size a.len (F.wf a) && F.wf (F.drop (j + 1) q)) := by
  rw [h, h1]
  simp [F.wf]
set_option maxHeartbeats 1000000 in
theorem awf_some (q : F) (b o c len : Nat) (w : World) (hl : len ≤ 9223372036854775807) (hq : Hid (q.len = len)) (h : q.All WfOK) (hb0 : b < w.heap.size) (h4 : Lies w q b o) :
    Calls Try.prog 47 #[.slice (some ⟨b, o, none⟩) len c] w (Ret (.bool (F.wf q)) w) := by
  go_enter Try.func47, Try.ntmps47
  go_wp2_with fail
  go_loopw [7] (fun i wr => ∃ j : Nat, j ≤ len ∧ i = .int .i64 j ∧ Hid (F.wf q = F.wf (F.drop j q)) ∧ Below w.heap.size w wr) (fun i _ => len - (intOf i).toNat)
  case atStart => exact ⟨0, Nat.zero_le _, rfl, rfl, Below.refl _ _⟩
  case round =>
    obtain ⟨j, hj, rfl, hsame, hb⟩ := hrel
    by_cases hlt : j < len
    · obtain ⟨k1, n1, s1, q1, L1, d0, d1, d2, d3, hs1, hL1, hp1, hd1⟩ := h4.elt h j (by rw [hq.out]; exact hlt)
      have hS := Lib.hid (wf_drop hsame.out hd1)
      have g0 := (hb.cell (p := ⟨b, o + j * 4, none⟩) hb0).trans d0
      have g1 := (hb.cell (p := ⟨b, o + j * 4 + 1, none⟩) hb0).trans d1
      have g2 := (hb.cell (p := ⟨b, o + j * 4 + 2, none⟩) hb0).trans d2
      have g3 := (hb.cell (p := ⟨b, o + j * 4 + 3, none⟩) hb0).trans d3
      have hz : w.heap.size ≤ wr.heap.size := hb.size
      have hL1' := hL1.below hb
      obtain ⟨p1, c1, e1, _⟩ := hL1'.shape
      subst e1
      have hL1a := fun x => hL1'.below (one_new wr x)
      have hb2 := fun x => hb.trans ((one_new wr x).mono hz)
      clear d0 d1 d2 d3 hd1 hL1 hsame hL1'
      cases he : wfv k1 n1 s1.size q1.len (F.wf q1)
      · have hc := fun x => hp1 _ _ hs1 (hL1a x)
        rw [he] at hc
        go_wp2_with (go_at_call 30; refine (hc _).mono ?_; rintro e w' ⟨rfl, hb'⟩)
        go_ret
        exact ⟨ret_bool (a := false) (by have e := hS.out; rw [he, Bool.false_and] at e; exact e.symm), (hb2 _).trans (hb'.mono (by simp; omega))⟩
      · have hc := fun x => hp1 _ _ hs1 (hL1a x)
        rw [he] at hc
        go_wp2_with (go_at_call 30; refine (hc _).mono ?_; rintro e w' ⟨rfl, hb'⟩)
        go_roundw
        case rel => exact ⟨j + 1, by omega, by go_num, by have e := hS.out; rw [he, Bool.true_and] at e; exact e, (hb2 _).trans (hb'.mono (by simp; omega))⟩
        case measure => simp [intOf]; omega
    · have hfin : F.wf q = true := by
        have e := hsame.out
        have e1 : j = len := by omega
        have e2 := F.drop_len q
        rw [hq.out] at e2
        rw [e, e1, e2]
        rfl
      have HF := Lib.hid hfin
      clear hfin
      go_wp2_with fail
      go_ret
      exact ⟨ret_bool (a := true) HF.out.symm, hb⟩
theorem awf_any (q : F) (L : Value) (w : World) (h : q.All WfOK) (hL : Sl w L q) : Calls Try.prog 47 #[L] w (Ret (.bool (F.wf q)) w) := by
  rcases hL with ⟨p, c, rfl, rfl⟩ | ⟨b, o, cap, rfl, e1, e2, e3, e4⟩
  · exact awf_nil p c w
  · exact awf_some q b o cap q.len w (by unfold maxLen at e2; omega) rfl h e3 e4
theorem wf_step (k n : Int) (s : ByteArray) (q : F) (h : q.All WfOK) : WfOK k n s q := by
  intro L w hs hL
  have hc := fun x => awf_any q L _ h (hL.below (one_new w x))
  obtain ⟨p, c, rfl, hl⟩ := hL.shape
  by_cases hk : k = 3
  · subst hk
    exact wf_list n s p _ c _ w (by have := hs.2.2; unfold maxLen at this; omega) hl hc
  · exact wf_leaf k n s p _ c _ w hk (by have := hs.2.2; unfold maxLen at this; omega) hl
theorem wf_any (k n : Int) (s : ByteArray) (q : F) : WfOK k n s q := (F.all_of wf_step (.cons k n s q .nil)).1
/-- Formed of the reference -/
def RfOK (k n : Int) (s : ByteArray) (q : F) : Prop := ∀ (L : Value) (w : World), Okv k n s → Sl w L q → Calls Try.prog 32 #[val k n s L] w (Ret (.bool (wfv k n s.size q.len (F.wf q))) w)
set_option maxHeartbeats 400000 in
theorem rf_leaf (k n : Int) (s : ByteArray) (p : Option Addr) (l c : Nat) (r : Bool) (w : World) (hk : k ≠ 3) (hs : s.size ≤ 9223372036854775807) (hl : l ≤ 9223372036854775807) :
    Calls Try.prog 32 #[val k n s (.slice p l c)] w (Ret (.bool (wfv k n s.size l r)) w) := by
  by_cases h1 : k = 1
  · subst h1
    go_enter Try.func32, Try.ntmps32
    go_wp2_with fail
    · have h0 := size0 ‹s.toList = []›
      go_ret
      exact ⟨ret_bool (by simp [wfv, h0, beqz]), one_new _ _⟩
    · have h0 := size1 ‹¬ s.toList = []›
      go_ret
      exact ⟨ret_bool (by simp [wfv, h0]), one_new _ _⟩
  · by_cases h2 : k = 2
    · subst h2
      go_enter Try.func32, Try.ntmps32
      go_wp2_with fail
      · have h0 : n = 0 := by assumption
        go_ret
        exact ⟨ret_bool (by simp [wfv, h0, beqz]), one_new _ _⟩
      · have h0 : ¬ n = 0 := by assumption
        go_ret
        exact ⟨ret_bool (by simp [wfv, h0]), one_new _ _⟩
    · go_enter Try.func32, Try.ntmps32
      go_wp2_with fail
      go_ret
      exact ⟨ret_bool (by simp [wfv, h1, h2, hk]), one_new _ _⟩
theorem wfv_three (n : Int) (s : ByteArray) (l : Nat) (sub : Bool) : wfv 3 n s.size l sub = (n == 0 && (s.size == 0 && sub)) := by simp [wfv]
theorem ref_end (n : Int) (s : ByteArray) (q : F) (j : Nat) (hj : F.wf q = F.wf (F.drop j q)) (he : F.drop j q = .nil) : wfv 3 n s.size q.len (F.wf q) = (n == 0 && s.size == 0) := by
  rw [hj, he, wfv_three]
  simp [F.wf]
theorem drop_over : ∀ (f : F) (j : Nat), f.len ≤ j → F.drop j f = .nil
  | .nil, 0, _ => rfl
  | .nil, j + 1, _ => rfl
  | .cons .., 0, h => by simp [F.len] at h
  | .cons k n s q r, j + 1, h => by
    show F.drop j r = .nil
    exact drop_over r j (by simp [F.len] at h; omega)
set_option maxHeartbeats 1000000 in
theorem rf_list (n : Int) (s : ByteArray) (q : F) (p : Option Addr) (c len : Nat) (w : World) (hs : s.size ≤ 9223372036854775807) (hl : len ≤ 9223372036854775807) (hq : Hid (q.len = len)) (h : q.All RfOK)
    (h4 : Hid (len = 0 ∨ ∃ b o, p = some ⟨b, o, none⟩ ∧ b < w.heap.size ∧ Lies w q b o)) :
    Calls Try.prog 32 #[val 3 n s (.slice p len c)] w (Ret (.bool (wfv 3 n s.size len (F.wf q))) w) := by
  go_enter Try.func32, Try.ntmps32
  go_wp2_with fail
  go_loopw [3] (fun i wr => ∃ j : Nat, j ≤ len ∧ i = .int .i64 j ∧ Hid (F.wf q = F.wf (F.drop j q)) ∧ Below (w.heap.size + 1) (w.alloc (.cells #[.int .i64 3, .int .i64 n, .string s, .slice p len c] 24)) wr) (fun i _ => len - (intOf i).toNat)
  case atStart => exact ⟨0, Nat.zero_le _, rfl, rfl, Below.refl _ _⟩
  case round =>
    obtain ⟨j, hj, rfl, hsame, hb⟩ := hrel
    obtain ⟨c0, c1, c2, c3⟩ := boxed hb
    have hb2 : Below w.heap.size w wr := (one_new _ _).trans (hb.mono (by simp))
    by_cases hlt : j < len
    · rcases h4.out with e | ⟨b, o, e, hb0, h5⟩
      · exfalso
        omega
      subst e
      obtain ⟨k1, n1, s1, q1, L1, d0, d1, d2, d3, hs1, hL1, hp1, hd1⟩ := h5.elt h j (by rw [hq.out]; exact hlt)
      have hS := Lib.hid (wf_drop hsame.out hd1)
      have g0 := (hb2.cell (p := ⟨b, o + j * 4, none⟩) hb0).trans d0
      have g1 := (hb2.cell (p := ⟨b, o + j * 4 + 1, none⟩) hb0).trans d1
      have g2 := (hb2.cell (p := ⟨b, o + j * 4 + 2, none⟩) hb0).trans d2
      have g3 := (hb2.cell (p := ⟨b, o + j * 4 + 3, none⟩) hb0).trans d3
      have hL1' := hL1.below hb2
      clear d0 d1 d2 d3 hd1 hL1 hsame
      cases he : wfv k1 n1 s1.size q1.len (F.wf q1)
      · have hc := hp1 _ _ hs1 hL1'
        rw [he] at hc
        go_wp2_with (go_at_call 32; refine hc.mono ?_; rintro e w' ⟨rfl, hb'⟩)
        go_ret
        refine ⟨ret_bool (a := false) ?_, hb2.trans (hb'.mono hb2.size)⟩
        have e := hS.out
        rw [he, Bool.false_and] at e
        rw [wfv_three, e]
        simp
      · have hc := hp1 _ _ hs1 hL1'
        rw [he] at hc
        go_wp2_with (go_at_call 32; refine hc.mono ?_; rintro e w' ⟨rfl, hb'⟩)
        go_roundw
        case rel => exact ⟨j + 1, by omega, by go_num, by have e := hS.out; rw [he, Bool.true_and] at e; exact e, hb.trans (hb'.mono (by have := hb.size; simp at this; omega))⟩
        case measure => simp [intOf]; omega
    · have hfin := ref_end n s q j hsame.out (drop_over q j (by rw [hq.out]; omega))
      rw [hq.out] at hfin
      have HF := Lib.hid hfin
      clear hfin
      go_wp2_with fail
      · have h0 : n = 0 := by assumption
        subst h0
        go_ret
        refine ⟨ret_bool ?_, hb2⟩
        rw [HF.out]
        simp [empt]
      · have h0 : ¬ n = 0 := by assumption
        go_ret
        exact ⟨ret_bool (a := false) (by rw [HF.out]; simp [h0]), hb2⟩
theorem rf_step (k n : Int) (s : ByteArray) (q : F) (h : q.All RfOK) : RfOK k n s q := by
  intro L w hs hL
  have hz : s.size ≤ 9223372036854775807 := by have := hs.2.2; unfold maxLen at this; omega
  by_cases hk : k = 3
  · subst hk
    rcases hL with ⟨p, c, rfl, rfl⟩ | ⟨b, o, cap, rfl, e1, e2, e3, e4⟩
    · exact rf_list n s .nil p c 0 w hz (by omega) rfl h (.inl rfl)
    · exact rf_list n s q _ cap q.len w hz (by unfold maxLen at e2; omega) rfl h (.inr ⟨b, o, rfl, e3, e4⟩)
  · obtain ⟨p, c, rfl, hl⟩ := hL.shape
    exact rf_leaf k n s p _ c _ w hk hz hl
theorem rf_any (k n : Int) (s : ByteArray) (q : F) : RfOK k n s q := (F.all_of rf_step (.cons k n s q .nil)).1
end Go.Proofs.Ytaahmfmelmjahaa
