import Derived.Test.YtaahmfmelmjahaaFew
import Derived.Test.YtaahmfmelmjahaaLater
namespace Go.Proofs.Ytaahmfmelmjahaa
open Go Go.RowKit
theorem str_eq {s s' : ByteArray} (h : s.toList = s'.toList) : s = s' := by
  rw [ByteArray.toList_eq, ByteArray.toList_eq] at h
  exact ByteArray.ext (Array.toList_inj.1 h)
/-- the values themselves are equal, down to their elements -/
def eqv (k n : Int) (s : ByteArray) (q : F) (k' n' : Int) (s' : ByteArray) (q' : F) : Bool := k == k' && n == n' && s.toList == s'.toList && F.same q q'
def SameOK (k n : Int) (s : ByteArray) (q : F) : Prop := ∀ (k' n' : Int) (s' : ByteArray) (q' : F) (L L' : Value) (w : World), Okv k n s → Okv k' n' s' → Sl w L q → Sl w L' q' →
  Calls Try.prog 20 #[val k n s L, val k' n' s' L'] w (Ret (.bool (eqv k n s q k' n' s' q')) w)
theorem eqv_no {k n : Int} {s : ByteArray} {q : F} {k' n' : Int} {s' : ByteArray} {q' : F} (h : ¬(k = k' ∧ n = n' ∧ s.toList = s'.toList ∧ q.len = q'.len)) : eqv k n s q k' n' s' q' = false := by
  cases e : eqv k n s q k' n' s' q' with
  | false => rfl
  | true =>
    exfalso
    simp only [eqv, Bool.and_eq_true, beq_iff_eq] at e
    exact h ⟨e.1.1.1, e.1.1.2, e.1.2, F.same_len e.2⟩

set_option maxHeartbeats 400000 in
theorem rsame_no (k n : Int) (s : ByteArray) (q : F) (k' n' : Int) (s' : ByteArray) (q' : F) (p p' : Option Addr) (c c' : Nat) (w : World) (hl : q.len ≤ 9223372036854775807) (hl' : q'.len ≤ 9223372036854775807)
    (hno : Hid (¬(k = k' ∧ n = n' ∧ s.toList = s'.toList ∧ q.len = q'.len))) :
    Calls Try.prog 20 #[val k n s (.slice p q.len c), val k' n' s' (.slice p' q'.len c')] w (Ret (.bool false) w) := by
  go_enter Try.func20, Try.ntmps20
  go_wp2_with fail
  · go_ret
    exact ⟨rfl, two_new _ _ _⟩
  · exfalso
    exact hno.out ⟨by assumption, by assumption, by assumption, by have e := ‹((q.len : Int) != q'.len) = false›; simp at e; omega⟩
  all_goals
    go_ret
    exact ⟨rfl, two_new _ _ _⟩
theorem boxed2 {w wr : World} {a b c d a' b' c' d' : Value} {T T' : TypeId} (hb : Below (w.heap.size + 2) ((w.alloc (.cells #[a, b, c, d] T)).alloc (.cells #[a', b', c', d'] T')) wr) :
    wr.cell? ⟨w.heap.size, 3, none⟩ = some d ∧ wr.cell? ⟨w.heap.size + 1, 3, none⟩ = some d' := by
  refine ⟨?_, ?_⟩ <;> (rw [hb.cell (by simp)]; go_simp)
theorem same_drop {q q' : F} {k n : Int} {s : ByteArray} {a : F} {k' n' : Int} {s' : ByteArray} {a' : F} {j : Nat} (h : F.same q q' = F.same (F.drop j q) (F.drop j q')) (h1 : F.drop j q = .cons k n s a (F.drop (j + 1) q))
    (h2 : F.drop j q' = .cons k' n' s' a' (F.drop (j + 1) q')) : F.same q q' = (eqv k n s a k' n' s' a' && F.same (F.drop (j + 1) q) (F.drop (j + 1) q')) := by
  rw [h, h1, h2]
  simp [F.same, eqv]
set_option maxHeartbeats 400000 in
theorem rsame_nil (k n : Int) (s : ByteArray) (p p' : Option Addr) (c c' : Nat) (w : World)  :
    Calls Try.prog 20 #[val k n s (.slice p 0 c), val k n s (.slice p' 0 c')] w (Ret (.bool true) w) := by
  go_enter Try.func20, Try.ntmps20
  go_wp2_with fail
  go_loopw [5] (fun i wr => i = .int .i64 0 ∧ Below (w.heap.size + 2) ((w.alloc (.cells #[.int .i64 k, .int .i64 n, .string s, .slice p 0 c] 24)).alloc (.cells #[.int .i64 k, .int .i64 n, .string s, .slice p' 0 c'] 24)) wr) (fun _ _ => 0)
  case atStart => exact ⟨rfl, Below.refl _ _⟩
  case round =>
    obtain ⟨rfl, hb⟩ := hrel
    obtain ⟨c3, d3⟩ := boxed2 hb
    go_wp2_with fail
    go_ret
    exact ⟨rfl, (two_new _ _ _).trans (hb.mono (by omega))⟩
set_option maxHeartbeats 1000000 in
theorem rsame_some (k n : Int) (s : ByteArray) (q q' : F) (b o c b' o' c' len : Nat) (w : World) (hl : len ≤ 9223372036854775807) (hq : Hid (q.len = len)) (hq' : Hid (q'.len = len)) (h : q.All SameOK) (hb0 : b < w.heap.size) (hb0' : b' < w.heap.size) (h4 : Lies w q b o) (h4' : Lies w q' b' o') :
    Calls Try.prog 20 #[val k n s (.slice (some ⟨b, o, none⟩) len c), val k n s (.slice (some ⟨b', o', none⟩) len c')] w (Ret (.bool (F.same q q')) w) := by
  go_enter Try.func20, Try.ntmps20
  go_wp2_with fail
  go_loopw [5] (fun i wr => ∃ j : Nat, j ≤ len ∧ i = .int .i64 j ∧ Hid (F.same q q' = F.same (F.drop j q) (F.drop j q')) ∧ Below (w.heap.size + 2) ((w.alloc (.cells #[.int .i64 k, .int .i64 n, .string s, .slice (some ⟨b, o, none⟩) len c] 24)).alloc (.cells #[.int .i64 k, .int .i64 n, .string s, .slice (some ⟨b', o', none⟩) len c'] 24)) wr) (fun i _ => len - (intOf i).toNat)
  case atStart => exact ⟨0, Nat.zero_le _, rfl, rfl, Below.refl _ _⟩
  case round =>
    obtain ⟨j, hj, rfl, hsame, hb⟩ := hrel
    obtain ⟨c3, d3⟩ := boxed2 hb
    have hb2 : Below w.heap.size w wr := (two_new _ _ _).trans (hb.mono (by omega))
    by_cases hlt : j < len
    · obtain ⟨k1, n1, s1, q1, L1, d0, d1, d2, d3', hs1, hL1, hp1, hd1⟩ := h4.elt h j (by rw [hq.out]; exact hlt)
      obtain ⟨k2, n2, s2, q2, L2, f0, f1, f2, f3, hs2, hL2, _, hd2⟩ := h4'.elt (F.all_true _) j (by rw [hq'.out]; exact hlt)
      have hS := Lib.hid (same_drop hsame.out hd1 hd2)
      have hd1' := Lib.hid hd1
      have hd2' := Lib.hid hd2
      have hz : w.heap.size + 2 ≤ wr.heap.size := by have := hb.size; simpa using this
      have hlt1 : b < wr.heap.size := by omega
      have hlt2 : b' < wr.heap.size := by omega
      have g0 := Later.cell hlt1 ((hb2.cell (p := ⟨b, o + j * 4, none⟩) hb0).trans d0)
      have g1 := Later.cell hlt1 ((hb2.cell (p := ⟨b, o + j * 4 + 1, none⟩) hb0).trans d1)
      have g2 := Later.cell hlt1 ((hb2.cell (p := ⟨b, o + j * 4 + 2, none⟩) hb0).trans d2)
      have g3 := Later.cell hlt1 ((hb2.cell (p := ⟨b, o + j * 4 + 3, none⟩) hb0).trans d3')
      have i0 := Later.cell hlt2 ((hb2.cell (p := ⟨b', o' + j * 4, none⟩) hb0').trans f0)
      have i1 := Later.cell hlt2 ((hb2.cell (p := ⟨b', o' + j * 4 + 1, none⟩) hb0').trans f1)
      have i2 := Later.cell hlt2 ((hb2.cell (p := ⟨b', o' + j * 4 + 2, none⟩) hb0').trans f2)
      have i3 := Later.cell hlt2 ((hb2.cell (p := ⟨b', o' + j * 4 + 3, none⟩) hb0').trans f3)
      have m0 := Later.cell (by omega) c3
      have m1 := Later.cell (by omega) d3
      have hL1' := fun x : Later wr => hL1.below (hb2.trans (x.b.mono (by omega)))
      have hL2' := fun x : Later wr => hL2.below (hb2.trans (x.b.mono (by omega)))
      clear d0 d1 d2 d3' f0 f1 f2 f3 hd1 hd2 hL1 hL2 hsame
      go_wp2_with fail
      refine wp_region_later (by kernel_rfl) (by kernel_rfl) ?_
      repeat (go_big_quiet_step ((go_at_call 20; exact Later.calls (hp1 _ _ _ _ _ _ _ hs1 hs2 (hL1' _) (hL2' _)))))
      refine wpQuiet_nil ?_
      intro _ hw'
      obtain ⟨x, hx⟩ := hw'
      subst hx
      have hb3 : Below w.heap.size w x.v := hb2.trans (x.b.mono (by omega))
      have hb4 := hb.trans (x.b.mono hz)
      cases he : eqv k1 n1 s1 q1 k2 n2 s2 q2
      · go_wp2_with fail
        go_ret
        exact ⟨ret_bool (a := false) (by have e := hS.out; rw [he, Bool.false_and] at e; exact e.symm), hb3⟩
      · go_wp2_with fail
        go_roundw
        case rel => exact ⟨j + 1, by omega, by go_num, by have e := hS.out; rw [he, Bool.true_and] at e; exact e, hb4⟩
        case measure => simp [intOf]; omega
    · have hfin : F.same q q' = true := by
        have e := hsame.out
        have e1 : j = len := by omega
        have e2 := F.drop_len q
        have e3 := F.drop_len q'
        rw [hq.out] at e2
        rw [hq'.out] at e3
        rw [e, e1, e2, e3]
        rfl
      have HF := Lib.hid hfin
      clear hfin
      go_wp2_with fail
      go_ret
      exact ⟨ret_bool (a := true) HF.out.symm, hb2⟩
theorem same_step (k n : Int) (s : ByteArray) (q : F) (h : q.All SameOK) : SameOK k n s q := by
  intro k' n' s' q' L L' w hs hs' hL hL'
  by_cases hd : k = k' ∧ n = n' ∧ s.toList = s'.toList ∧ q.len = q'.len
  · obtain ⟨rfl, rfl, e, hlen⟩ := hd
    have := str_eq e
    subst this
    have ev : eqv k n s q k n s q' = F.same q q' := by simp [eqv]
    rw [ev]
    rcases hL with ⟨p, c, rfl, rfl⟩ | ⟨b, o, cap, rfl, e1, e2, e3, e4⟩
    · have hn : q' = .nil := by
        cases q' with
        | nil => rfl
        | cons => simp [F.len] at hlen
      subst hn
      obtain ⟨p', c', rfl, _⟩ := hL'.shape
      exact rsame_nil k n s p p' c c' w
    · rcases hL' with ⟨p', c', rfl, rfl⟩ | ⟨b', o', cap', rfl, f1, f2, f3, f4⟩
      · have hn : q = .nil := by
          cases q with
          | nil => rfl
          | cons => simp [F.len] at hlen
        subst hn
        exact rsame_nil k n s _ p' cap c' w
      · rw [← hlen]
        exact rsame_some k n s q q' b o cap b' o' cap' q.len w (by unfold maxLen at e2; omega) rfl hlen.symm h e3 f3 e4 f4
  · obtain ⟨p, c, rfl, hl⟩ := hL.shape
    obtain ⟨p', c', rfl, hl'⟩ := hL'.shape
    rw [eqv_no hd]
    exact rsame_no k n s q k' n' s' q' p p' c c' w hl hl' hd
theorem rsame_any (k n : Int) (s : ByteArray) (q : F) : SameOK k n s q := (F.all_of same_step (.cons k n s q .nil)).1
end Go.Proofs.Ytaahmfmelmjahaa
