import Derived.Test.YtaahmfmelmjahaaCount
namespace Go.Proofs.Ytaahmfmelmjahaa
open Go Go.RowKit
def SomeB (w : World) (e : Ending) (w' : World) : Prop := (∃ b, e = .returned (.bool b)) ∧ Below w.heap.size w w'
set_option maxHeartbeats 400000 in
theorem few1_any (k n : Int) (s : ByteArray) (kids : F) (L : Value) (d : Int) (w : World) (hs : Okv k n s) (hL : Sl w L kids) : Calls Try.prog 25 #[val k n s L, .int .i64 d] w (SomeB w) := by
  obtain ⟨p, c, e, _⟩ := hL.shape
  subst e
  have hb0 : Below w.heap.size w (w.alloc (.cells #[.int .i64 k, .int .i64 n, .string s, .slice p kids.len c] 24)) := (Below.refl _ _).alloc (Nat.le_refl _) _
  have hL' := hL.below hb0
  go_enter Try.func25, Try.ntmps25
  go_wp2_with (go_at_call 39; refine (count_any k n s kids _ d _ hs hL').mono ?_; rintro e w' ⟨⟨m', rfl⟩, hb'⟩)
  go_ret
  exact ⟨⟨_, rfl⟩, hb0.trans (hb'.mono (by simp))⟩
set_option maxHeartbeats 400000 in
theorem few_any (kids : F) (L : Value) (w : World) (hL : Sl w L kids) : Calls Try.prog 11 #[L] w (SomeB w) := by
  rcases hL with ⟨p, c, rfl, rfl⟩ | ⟨b, o, cap, rfl, e1, e2, e3, e4⟩
  · go_enter Try.func11, Try.ntmps11
    go_wp2_with fail
    go_loopw [7] (fun i wr => i = .int .i64 0 ∧ wr = w) (fun _ _ => 0)
    case atStart => exact ⟨rfl, rfl⟩
    case round =>
      obtain ⟨rfl, rfl⟩ := hrel
      go_wp2_with fail
      go_ret
      exact ⟨⟨_, rfl⟩, Below.refl _ _⟩
  · have hl : kids.len ≤ 9223372036854775807 := by unfold maxLen at e2; omega
    clear e1 e2
    go_enter Try.func11, Try.ntmps11
    go_wp2_with fail
    go_loopw [7] (fun i wr => ∃ j : Nat, j ≤ kids.len ∧ i = .int .i64 j ∧ Below w.heap.size w wr) (fun i _ => kids.len - (intOf i).toNat)
    case atStart => exact ⟨0, Nat.zero_le _, rfl, Below.refl _ _⟩
    case round =>
      obtain ⟨j, hj, rfl, hb⟩ := hrel
      by_cases hlt : j < kids.len
      · obtain ⟨k', n', s', q, L', d0, d1, d2, d3, hs', hL', _, hdrop⟩ := e4.elt (F.all_true _) j hlt
        have e0 := (hb.cell (p := ⟨b, o + j * 4, none⟩) e3).trans d0
        have e1 := (hb.cell (p := ⟨b, o + j * 4 + 1, none⟩) e3).trans d1
        have e2 := (hb.cell (p := ⟨b, o + j * 4 + 2, none⟩) e3).trans d2
        have e5 := (hb.cell (p := ⟨b, o + j * 4 + 3, none⟩) e3).trans d3
        have hL := hL'.below hb
        obtain ⟨p', c', hsh, _⟩ := hL.shape
        subst hsh
        have hb1 : ∀ x, Below wr.heap.size wr (wr.alloc x) := fun x => (Below.refl _ _).alloc (Nat.le_refl _) _
        have hL2 := fun x => hL.below (hb1 x)
        clear d0 d1 d2 d3 hdrop hL'
        go_wp2_with (go_at_call 25; refine (few1_any k' n' s' q _ _ _ hs' (hL2 _)).mono ?_; rintro e w' ⟨⟨m', rfl⟩, hb'⟩)
        · go_ret
          exact ⟨⟨_, rfl⟩, (hb.alloc hb.size _).trans (hb'.mono (by have := hb.size; simp; omega))⟩
        · go_roundw
          case rel => exact ⟨j + 1, by omega, by go_num, (hb.alloc hb.size _).trans (hb'.mono (by have := hb.size; simp; omega))⟩
          case measure => simp [intOf]; omega
      · go_wp2_with fail
        go_ret
        exact ⟨⟨_, rfl⟩, hb⟩
end Go.Proofs.Ytaahmfmelmjahaa
