import Derived.Test.YtaahmfmelmjahaaCSame
namespace Go.Proofs.Ytaahmfmelmjahaa
open Go Go.RowKit
theorem boxed8 {w wr : World} {a b c d a' b' c' d' : Value} {T T' : TypeId} (hb : Below ((w.alloc (.cells #[a, b, c, d] T)).alloc (.cells #[a', b', c', d'] T')).heap.size ((w.alloc (.cells #[a, b, c, d] T)).alloc (.cells #[a', b', c', d'] T')) wr) :
    (wr.cell? ⟨w.heap.size, 0, none⟩ = some a ∧ wr.cell? ⟨w.heap.size, 1, none⟩ = some b ∧ wr.cell? ⟨w.heap.size, 2, none⟩ = some c ∧ wr.cell? ⟨w.heap.size, 3, none⟩ = some d) ∧
    (wr.cell? ⟨w.heap.size + 1, 0, none⟩ = some a' ∧ wr.cell? ⟨w.heap.size + 1, 1, none⟩ = some b' ∧ wr.cell? ⟨w.heap.size + 1, 2, none⟩ = some c' ∧ wr.cell? ⟨w.heap.size + 1, 3, none⟩ = some d') := by
  refine ⟨⟨?_, ?_, ?_, ?_⟩, ?_, ?_, ?_, ?_⟩ <;> (rw [hb.cell (by simp <;> omega)]; go_simp)
theorem two_lie {w : World} {k n : Int} {s : ByteArray} {q : F} {k' n' : Int} {s' : ByteArray} {q' : F} {L L' : Value} {T : TypeId} (hs : Okv k n s) (hs' : Okv k' n' s') (hL : Sl w L q) (hL' : Sl w L' q') :
    Sl (w.alloc (.cells #[.int .i64 k, .int .i64 n, .string s, L, .int .i64 k', .int .i64 n', .string s', L'] T)) (.slice (some ⟨w.heap.size, 0, none⟩) 2 2) (.cons k n s q (.cons k' n' s' q' .nil)) := by
  have hb : ∀ x, Below w.heap.size w (w.alloc x) := fun x => (Below.refl _ _).alloc (Nat.le_refl _) _
  refine .inr ⟨_, _, _, rfl, by simp [F.len], by unfold maxLen; omega, by simp, ?_⟩
  unfold Lies
  refine ⟨⟨L, by go_simp, by go_simp, by go_simp, by go_simp, hs, hL.below (hb _)⟩, ?_⟩
  unfold Lies
  refine ⟨⟨L', by go_simp, by go_simp, by go_simp, by go_simp, hs', hL'.below (hb _)⟩, ?_⟩
  unfold Lies
  trivial
set_option maxHeartbeats 1000000 in
theorem lawSame (k n : Int) (s : ByteArray) (q : F) (k' n' : Int) (s' : ByteArray) (q' : F) (L L' : Value) (w : World) (hs : Okv k n s) (hs' : Okv k' n' s') (hL : Sl w L q) (hL' : Sl w L' q')
    (hsane : ∀ w : World, Calls Try.prog 10 #[] w (Ret (.bool true) w)) :
    Calls Try.prog 5 #[val k n s L, val k' n' s' L'] w (Ret (.bool true) w) := by
  have HS := Lib.hid hsane
  clear hsane
  obtain ⟨p, c, e, _⟩ := hL.shape
  obtain ⟨p', c', e', _⟩ := hL'.shape
  subst e
  subst e'
  go_enter Try.func5, Try.ntmps5
  go_wp2_with fail
  refine (HS.out _).mono ?_
  rintro e w1 ⟨rfl, hb1⟩
  obtain ⟨⟨a0, a1, a2, a3⟩, b0, b1, b2, b3⟩ := boxed8 hb1
  have hz : w.heap.size + 2 ≤ w1.heap.size := by have := hb1.size; simp at this; omega
  have hb2 : Below w.heap.size w w1 := (two_new _ _ _).trans (hb1.mono (by simp; omega))
  clear hb1
  have hL1 := hL.below hb2
  have hL1' := hL'.below hb2
  have e1 : eqv k n s q k n s q = true := by simp [eqv, F.same_refl]
  have e2 : eqv k' n' s' q' k' n' s' q' = true := by simp [eqv, F.same_refl]
  have E1 := Lib.hid e1
  have E2 := Lib.hid e2
  clear hL hL' e1 e2
  go_wp2_with fail
  refine (few_any _ _ _ (two_lie hs hs' hL1 hL1')).mono ?_
  rintro e w2 ⟨⟨b, rfl⟩, hb3⟩
  have hb4 : Below w1.heap.size w1 w2 := ((Below.refl _ _).alloc (Nat.le_refl _) _).trans (hb3.mono (by simp))
  have hL2 := hL1.below hb4
  have hL2' := hL1'.below hb4
  have hb5 := hb2.trans (hb4.mono (by omega))
  have hz2 : w.heap.size + 2 ≤ w2.heap.size := Nat.le_trans hz hb4.size
  have A0 := Later.cell (w := w2) (by omega) ((hb4.cell (p := ⟨w.heap.size, 0, none⟩) (by simp; omega)).trans a0)
  have A1 := Later.cell (w := w2) (by omega) ((hb4.cell (p := ⟨w.heap.size, 1, none⟩) (by simp; omega)).trans a1)
  have A2 := Later.cell (w := w2) (by omega) ((hb4.cell (p := ⟨w.heap.size, 2, none⟩) (by simp; omega)).trans a2)
  have A3 := Later.cell (w := w2) (by omega) ((hb4.cell (p := ⟨w.heap.size, 3, none⟩) (by simp; omega)).trans a3)
  have B0 := Later.cell (w := w2) (by omega) ((hb4.cell (p := ⟨w.heap.size + 1, 0, none⟩) (by simp; omega)).trans b0)
  have B1 := Later.cell (w := w2) (by omega) ((hb4.cell (p := ⟨w.heap.size + 1, 1, none⟩) (by simp; omega)).trans b1)
  have B2 := Later.cell (w := w2) (by omega) ((hb4.cell (p := ⟨w.heap.size + 1, 2, none⟩) (by simp; omega)).trans b2)
  have B3 := Later.cell (w := w2) (by omega) ((hb4.cell (p := ⟨w.heap.size + 1, 3, none⟩) (by simp; omega)).trans b3)
  have HL := fun x : Later w2 => hL2.below x.b
  have HL' := fun x : Later w2 => hL2'.below x.b
  clear a0 a1 a2 a3 b0 b1 b2 b3 hL1 hL1' hb3 hb4 hb2
  have c1 := fun x : Later w2 => csame_any k n s q k' n' s' q' _ _ x.v hs hs' (HL x) (HL' x)
  have c2 := fun x : Later w2 => rsame_any k n s q k' n' s' q' _ _ x.v hs hs' (HL x) (HL' x)
  have c3 := fun x : Later w2 => csame_any k n s q k n s q _ _ x.v hs hs (HL x) (HL x)
  have c4 := fun x : Later w2 => csame_any k' n' s' q' k' n' s' q' _ _ x.v hs' hs' (HL' x) (HL' x)
  rw [E1.out] at c3
  rw [E2.out] at c4
  generalize eqv k n s q k' n' s' q' = r at c1 c2
  have C1 := Lib.hid c1
  have C2 := Lib.hid c2
  have C3 := Lib.hid c3
  have C4 := Lib.hid c4
  clear c1 c2 c3 c4 hL2 hL2'
  cases b
  · go_wp2_with fail
    go_ret
    exact ⟨rfl, hb5⟩
  · go_wp2_with fail
    refine wp_region_later (by kernel_rfl) (by kernel_rfl) ?_
    repeat (go_big_quiet_step (first | (go_at_call_of 21 k'; go_at_call_of 21 k; exact Later.calls (C1.out _)) | (go_at_call 20; exact Later.calls (C2.out _)) | (go_at_call_of 21 k; exact Later.calls (C3.out _)) | (go_at_call_of 21 k'; exact Later.calls (C4.out _))))
    refine wpQuiet_nil ?_
    intro _ hw'
    obtain ⟨x, hx⟩ := hw'
    subst hx
    go_wp2_with fail
    go_ret
    exact ⟨rfl, hb5.trans (x.b.mono (by omega))⟩
end Go.Proofs.Ytaahmfmelmjahaa
