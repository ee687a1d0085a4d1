import Derived.Test.YtaahmfmelmjahaaWf
import Derived.Lib.Hide
import Derived.WalkSpells
import Derived.WalkLawsBesides
namespace Go.Proofs.Ytaahmfmelmjahaa
open Go Go.RowKit
def SomeI (w : World) (e : Ending) (w' : World) : Prop := (∃ m, e = .returned (.int .i64 m)) ∧ Below w.heap.size w w'
def CountOK (k n : Int) (s : ByteArray) (kids : F) : Prop := ∀ (L : Value) (d : Int) (w : World), Okv k n s → Sl w L kids → Calls Try.prog 39 #[val k n s L, .int .i64 d] w (SomeI w)
set_option maxHeartbeats 400000 in
theorem count_nil (k n : Int) (s : ByteArray) (p : Option Addr) (c : Nat) (d : Int) (w : World) (hs : s.size ≤ maxLen) : Calls Try.prog 39 #[val k n s (.slice p 0 c), .int .i64 d] w (SomeI w) := by
  unfold maxLen at hs
  go_enter Try.func39, Try.ntmps39
  go_wp2_with fail
  · go_loopw [5, 6] (fun x i wr => ∃ m, i = .int .i64 0 ∧ x = .int .i64 m ∧ Below (w.heap.size + 1) (w.alloc (.cells #[.int .i64 k, .int .i64 n, .string s, .slice p 0 c] 24)) wr) (fun _ _ _ => 0)
    case atStart => exact ⟨_, rfl, rfl, Below.refl _ _⟩
    case round =>
      obtain ⟨m, rfl, rfl, hb⟩ := hrel
      obtain ⟨c0, c1, c2, c3⟩ := boxed hb
      go_wp2_with fail
      go_ret
      exact ⟨⟨_, rfl⟩, ((Below.refl _ _).alloc (Nat.le_refl _) _).trans (hb.mono (by simp))⟩
  · go_ret
    exact ⟨⟨_, rfl⟩, (Below.refl _ _).alloc (Nat.le_refl _) _⟩
set_option maxHeartbeats 400000 in
theorem count_some (k n : Int) (s : ByteArray) (kids : F) (h : kids.All CountOK) (b o cap : Nat) (d : Int) (w : World) (hs : s.size ≤ maxLen) (hl : kids.len ≤ 9223372036854775807) (h3 : b < w.heap.size) (h4 : Lies w kids b o) :
    Calls Try.prog 39 #[val k n s (.slice (some ⟨b, o, none⟩) kids.len cap), .int .i64 d] w (SomeI w) := by
  unfold maxLen at hs
  go_enter Try.func39, Try.ntmps39
  go_wp2_with fail
  · go_ret
    exact ⟨⟨_, rfl⟩, (Below.refl _ _).alloc (Nat.le_refl _) _⟩
  · go_loopw [5, 6] (fun x i wr => ∃ (j : Nat) (m : Int), j ≤ kids.len ∧ i = .int .i64 j ∧ x = .int .i64 m ∧ Below (w.heap.size + 1) (w.alloc (.cells #[.int .i64 k, .int .i64 n, .string s, .slice (some ⟨b, o, none⟩) kids.len cap] 24)) wr) (fun _ i _ => kids.len - (intOf i).toNat)
    case atStart => exact ⟨0, _, Nat.zero_le _, rfl, rfl, Below.refl _ _⟩
    case round =>
      obtain ⟨j, m, hj, rfl, rfl, hb⟩ := hrel
      obtain ⟨c0, c1, c2, c3⟩ := boxed hb
      by_cases hlt : j < kids.len
      · obtain ⟨k', n', s', q, L', d0, d1, d2, d3, hs', hL', hp, hdrop⟩ := h4.elt h j hlt
        have hw : b < w.heap.size + 1 := by omega
        have hb2 : Below w.heap.size w wr := ((Below.refl _ _).alloc (Nat.le_refl _) _).trans (hb.mono (by simp))
        have e0 := (hb2.cell (p := ⟨b, o + j * 4, none⟩) h3).trans d0
        have e1 := (hb2.cell (p := ⟨b, o + j * 4 + 1, none⟩) h3).trans d1
        have e2 := (hb2.cell (p := ⟨b, o + j * 4 + 2, none⟩) h3).trans d2
        have e3 := (hb2.cell (p := ⟨b, o + j * 4 + 3, none⟩) h3).trans d3
        have hL := hL'.below hb2
        clear d0 d1 d2 d3 hdrop
        go_wp2_with (go_at_call 39; refine (hp _ _ _ hs' hL).mono ?_; rintro e w' ⟨⟨m', rfl⟩, hb'⟩)
        · go_roundw
          case rel => exact ⟨j + 1, _, by omega, by go_num, rfl, hb.trans (hb'.mono (by have := hb.size; simp at this; omega))⟩
          case measure => simp [intOf]; omega
        · go_ret
          exact ⟨⟨_, rfl⟩, hb2⟩
      · go_wp2_with fail
        all_goals
          go_ret
          exact ⟨⟨_, rfl⟩, ((Below.refl _ _).alloc (Nat.le_refl _) _).trans (hb.mono (by simp))⟩
  · go_ret
    exact ⟨⟨_, rfl⟩, (Below.refl _ _).alloc (Nat.le_refl _) _⟩
theorem count_ok : ∀ f : F, f.All CountOK := F.all_of fun k n s kids h => by
  intro L d w hs hL
  rcases hL with ⟨p, c, rfl, rfl⟩ | ⟨b, o, cap, rfl, e1, e2, e3, e4⟩
  · exact count_nil k n s p c d w hs.2.2
  · exact count_some k n s kids h b o cap d w hs.2.2 (by unfold maxLen at e2; omega) e3 e4
theorem count_any (k n : Int) (s : ByteArray) (kids : F) : CountOK k n s kids := (count_ok (.cons k n s kids .nil)).1
end Go.Proofs.Ytaahmfmelmjahaa
