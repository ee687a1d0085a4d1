import Derived.Test.YtaahmfmelmjahaaSame
namespace Go.Proofs.Ytaahmfmelmjahaa
open Go Go.RowKit
def CSameOK (k n : Int) (s : ByteArray) (q : F) : Prop := ∀ (k' n' : Int) (s' : ByteArray) (q' : F) (L L' : Value) (w : World), Okv k n s → Okv k' n' s' → Sl w L q → Sl w L' q' →
  Calls Try.prog 21 #[val k n s L, val k' n' s' L'] w (Ret (.bool (eqv k n s q k' n' s' q')) w)
theorem same_nil_r {q q' : F} (h : q.len = 0) (h' : q'.len = 0) : F.same q q' = true := by
  cases q with
  | cons => simp [F.len] at h
  | nil => cases q' with
    | cons => simp [F.len] at h'
    | nil => rfl
set_option maxHeartbeats 400000 in
theorem eqf_no (len len' c c' : Nat) (p p' : Option Addr) (w : World) (hl : len ≤ 9223372036854775807) (hl' : len' ≤ 9223372036854775807) (hno : Hid (len ≠ len')) :
    Calls Try.prog 38 #[.slice p len c, .slice p' len' c', .func (.func 21) #[] #[]] w (Ret (.bool false) w) := by
  go_enter Try.func38, Try.ntmps38
  go_wp2_with fail
  · go_ret
    exact ⟨rfl, Below.refl _ _⟩
  · exfalso
    exact hno.out (by have e := ‹((len : Int) != len') = false›; simp at e; omega)
set_option maxHeartbeats 400000 in
theorem eqf_nil (c c' : Nat) (p p' : Option Addr) (w : World) :
    Calls Try.prog 38 #[.slice p 0 c, .slice p' 0 c', .func (.func 21) #[] #[]] w (Ret (.bool true) w) := by
  go_enter Try.func38, Try.ntmps38
  go_wp2_with fail
  go_loopw [17] (fun i wr => i = .int .i64 0 ∧ wr = w) (fun _ _ => 0)
  case atStart => exact ⟨rfl, rfl⟩
  case round =>
    obtain ⟨rfl, rfl⟩ := hrel
    go_wp2_with fail
    go_ret
    exact ⟨rfl, Below.refl _ _⟩
set_option maxHeartbeats 1000000 in
theorem eqf_some (q q' : F) (b o c b' o' c' len : Nat) (w : World) (hl : len ≤ 9223372036854775807) (hq : Hid (q.len = len)) (hq' : Hid (q'.len = len)) (h : q.All CSameOK) (hb0 : b < w.heap.size) (hb0' : b' < w.heap.size) (h4 : Lies w q b o) (h4' : Lies w q' b' o') :
    Calls Try.prog 38 #[.slice (some ⟨b, o, none⟩) len c, .slice (some ⟨b', o', none⟩) len c', .func (.func 21) #[] #[]] w (Ret (.bool (F.same q q')) w) := by
  go_enter Try.func38, Try.ntmps38
  go_wp2_with fail
  go_loopw [17] (fun i wr => ∃ j : Nat, j ≤ len ∧ i = .int .i64 j ∧ Hid (F.same q q' = F.same (F.drop j q) (F.drop j q')) ∧ Below w.heap.size w wr) (fun i _ => len - (intOf i).toNat)
  case atStart => exact ⟨0, Nat.zero_le _, rfl, rfl, Below.refl _ _⟩
  case round =>
    obtain ⟨j, hj, rfl, hsame, hb⟩ := hrel
    by_cases hlt : j < len
    · obtain ⟨k1, n1, s1, q1, L1, d0, d1, d2, d3, hs1, hL1, hp1, hd1⟩ := h4.elt h j (by rw [hq.out]; exact hlt)
      obtain ⟨k2, n2, s2, q2, L2, f0, f1, f2, f3, hs2, hL2, _, hd2⟩ := h4'.elt (F.all_true _) j (by rw [hq'.out]; exact hlt)
      have hS := Lib.hid (same_drop hsame.out hd1 hd2)
      have g0 := (hb.cell (p := ⟨b, o + j * 4, none⟩) hb0).trans d0
      have g1 := (hb.cell (p := ⟨b, o + j * 4 + 1, none⟩) hb0).trans d1
      have g2 := (hb.cell (p := ⟨b, o + j * 4 + 2, none⟩) hb0).trans d2
      have g3 := (hb.cell (p := ⟨b, o + j * 4 + 3, none⟩) hb0).trans d3
      have i0 := (hb.cell (p := ⟨b', o' + j * 4, none⟩) hb0').trans f0
      have i1 := (hb.cell (p := ⟨b', o' + j * 4 + 1, none⟩) hb0').trans f1
      have i2 := (hb.cell (p := ⟨b', o' + j * 4 + 2, none⟩) hb0').trans f2
      have i3 := (hb.cell (p := ⟨b', o' + j * 4 + 3, none⟩) hb0').trans f3
      have hz : w.heap.size ≤ wr.heap.size := hb.size
      have hlt1 : b < wr.heap.size := by omega
      have hlt2 : b' < wr.heap.size := by omega
      have hL1' := hL1.below hb
      have hL2' := hL2.below hb
      obtain ⟨p1, c1, e1, _⟩ := hL1'.shape
      obtain ⟨p2, c2, e2, _⟩ := hL2'.shape
      subst e1
      subst e2
      have hL1a := fun x y => hL1'.below (two_new wr x y)
      have hL2a := fun x y => hL2'.below (two_new wr x y)
      have hb2 := fun x y => hb.trans ((two_new wr x y).mono hz)
      clear d0 d1 d2 d3 f0 f1 f2 f3 hd1 hd2 hL1 hL2 hsame hL1' hL2'
      cases he : eqv k1 n1 s1 q1 k2 n2 s2 q2
      · have hc := fun x y => hp1 k2 n2 s2 q2 _ _ _ hs1 hs2 (hL1a x y) (hL2a x y)
        rw [he] at hc
        go_wp2_with (go_at_call 21; refine (hc _ _).mono ?_; rintro e w' ⟨rfl, hb'⟩)
        go_ret
        exact ⟨ret_bool (a := false) (by have e := hS.out; rw [he, Bool.false_and] at e; exact e.symm), (hb2 _ _).trans (hb'.mono (by simp; omega))⟩
      · have hc := fun x y => hp1 k2 n2 s2 q2 _ _ _ hs1 hs2 (hL1a x y) (hL2a x y)
        rw [he] at hc
        go_wp2_with (go_at_call 21; refine (hc _ _).mono ?_; rintro e w' ⟨rfl, hb'⟩)
        go_roundw
        case rel => exact ⟨j + 1, by omega, by go_num, by have e := hS.out; rw [he, Bool.true_and] at e; exact e, (hb2 _ _).trans (hb'.mono (by simp; omega))⟩
        case measure => simp [intOf]; omega
    · have hfin : F.same q q' = true := by
        have e := hsame.out
        have e1 : j = len := by omega
        have e2 := F.drop_len q
        have e3 := F.drop_len q'
        rw [hq.out] at e2
        rw [hq'.out] at e3
        rw [e, e1, e2, e3]
        rfl
      have HF := Lib.hid hfin
      clear hfin
      go_wp2_with fail
      go_ret
      exact ⟨ret_bool (a := true) HF.out.symm, hb⟩
theorem eqf_any (q q' : F) (L L' : Value) (w : World) (h : q.All CSameOK) (hL : Sl w L q) (hL' : Sl w L' q') : Calls Try.prog 38 #[L, L', .func (.func 21) #[] #[]] w (Ret (.bool (F.same q q')) w) := by
  by_cases hlen : q.len = q'.len
  · rcases hL with ⟨p, c, rfl, rfl⟩ | ⟨b, o, cap, rfl, e1, e2, e3, e4⟩
    · obtain ⟨p', c', rfl, _⟩ := hL'.shape
      rw [same_nil_r rfl hlen.symm, ← hlen]
      exact eqf_nil c c' p p' w
    · rcases hL' with ⟨p', c', rfl, rfl⟩ | ⟨b', o', cap', rfl, f1, f2, f3, f4⟩
      · rw [same_nil_r hlen rfl, hlen]
        exact eqf_nil cap c' _ p' w
      · rw [← hlen]
        exact eqf_some q q' b o cap b' o' cap' q.len w (by unfold maxLen at e2; omega) rfl hlen.symm h e3 f3 e4 f4
  · obtain ⟨p, c, rfl, hl⟩ := hL.shape
    obtain ⟨p', c', rfl, hl'⟩ := hL'.shape
    have : F.same q q' = false := by
      cases e : F.same q q' with
      | false => rfl
      | true => exact (hlen (F.same_len e)).elim
    rw [this]
    exact eqf_no q.len q'.len c c' p p' w hl hl' hlen
set_option maxHeartbeats 400000 in
theorem csame_no (k n : Int) (s : ByteArray) (k' n' : Int) (s' : ByteArray) (l l' : Nat) (p p' : Option Addr) (c c' : Nat) (w : World) (hno : Hid (¬(k = k' ∧ n = n' ∧ s.toList = s'.toList))) :
    Calls Try.prog 21 #[val k n s (.slice p l c), val k' n' s' (.slice p' l' c')] w (Ret (.bool false) w) := by
  by_cases h1 : k = k'
  · by_cases h2 : n = n'
    · by_cases h3 : s.toList = s'.toList
      · exact (hno.out ⟨h1, h2, h3⟩).elim
      · clear hno
        subst h1
        subst h2
        go_enter Try.func21, Try.ntmps21
        go_wp2_with fail
        go_ret
        exact ⟨rfl, two_new _ _ _⟩
    · clear hno
      subst h1
      go_enter Try.func21, Try.ntmps21
      go_wp2_with fail
      go_ret
      exact ⟨rfl, two_new _ _ _⟩
  · clear hno
    go_enter Try.func21, Try.ntmps21
    go_wp2_with fail
    go_ret
    exact ⟨rfl, two_new _ _ _⟩
set_option maxHeartbeats 400000 in
theorem csame_yes (k n : Int) (s : ByteArray) (l l' : Nat) (p p' : Option Addr) (c c' : Nat) (w : World) (r : Bool) (h : ∀ x y, Calls Try.prog 38 #[.slice p l c, .slice p' l' c', .func (.func 21) #[] #[]] ((w.alloc x).alloc y) (Ret (.bool r) ((w.alloc x).alloc y))) :
    Calls Try.prog 21 #[val k n s (.slice p l c), val k n s (.slice p' l' c')] w (Ret (.bool r) w) := by
  have H := Lib.hid h
  clear h
  go_enter Try.func21, Try.ntmps21
  go_wp2_with (go_at_call 38; refine (H.out _ _).mono ?_; rintro e w' ⟨rfl, hb'⟩)
  go_ret
  exact ⟨rfl, (two_new _ _ _).trans (hb'.mono (by simp; omega))⟩
theorem csame_step (k n : Int) (s : ByteArray) (q : F) (h : q.All CSameOK) : CSameOK k n s q := by
  intro k' n' s' q' L L' w hs hs' hL hL'
  have hc := fun x y => eqf_any q q' L L' _ h (hL.below (two_new w x y)) (hL'.below (two_new w x y))
  obtain ⟨p, c, rfl, hl⟩ := hL.shape
  obtain ⟨p', c', rfl, hl'⟩ := hL'.shape
  by_cases hd : k = k' ∧ n = n' ∧ s.toList = s'.toList
  · obtain ⟨rfl, rfl, e⟩ := hd
    have := str_eq e
    subst this
    have ev : eqv k n s q k n s q' = F.same q q' := by simp [eqv]
    rw [ev]
    exact csame_yes k n s _ _ p p' c c' w _ hc
  · rw [eqv_no fun h => hd ⟨h.1, h.2.1, h.2.2.1⟩]
    exact csame_no k n s k' n' s' _ _ p p' c c' w hd
theorem csame_any (k n : Int) (s : ByteArray) (q : F) : CSameOK k n s q := (F.all_of csame_step (.cons k n s q .nil)).1
end Go.Proofs.Ytaahmfmelmjahaa
