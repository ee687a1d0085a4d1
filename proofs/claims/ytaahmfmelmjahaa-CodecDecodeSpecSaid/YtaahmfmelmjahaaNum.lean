/-
  Numbers of the codec: unsigned, heading, numeralSize, size.
-/
import Derived.Test.YtaahmfmelmjahaaDep
namespace Go.Proofs.Ytaahmfmelmjahaa
open Go Go.RowKit
theorem uns_lt {n : Int} (h : W64 n) : uns n < 18446744073709551616 := by
  obtain ⟨h1, h2⟩ := h
  unfold uns
  split <;> omega
set_option maxHeartbeats 400000 in
theorem uns_any (n : Int) (w : World) (h : W64 n) : Calls Try.prog 56 #[.int .i64 n] w fun e w' => e = .returned (.int .u64 (uns n)) ∧ w = w' := by
  obtain ⟨h1, h2⟩ := h
  by_cases hn : 0 ≤ n
  · go_enter Try.func56, Try.ntmps56
    go_wp2_with fail
    go_ret
    exact ⟨ret_int (by unfold uns; rw [if_pos hn]; omega), rfl⟩
  · go_enter Try.func56, Try.ntmps56
    go_wp2_with fail
    go_ret
    exact ⟨ret_int (by unfold uns; rw [if_neg (by omega)]; omega), rfl⟩
set_option maxHeartbeats 400000 in
theorem runs_any (n : Int) (w : World) (h : W64 n) : Calls Try.prog 44 #[.int .i64 n] w fun e w' => e = .returned (.int .u64 (uns n)) ∧ w = w' := by
  obtain ⟨h1, h2⟩ := h
  by_cases hn : 0 ≤ n
  · go_enter Try.func44, Try.ntmps44
    go_wp2_with fail
    go_ret
    exact ⟨ret_int (by unfold uns; rw [if_pos hn]; omega), rfl⟩
  · go_enter Try.func44, Try.ntmps44
    go_wp2_with fail
    go_ret
    exact ⟨ret_int (by unfold uns; rw [if_neg (by omega)]; omega), rfl⟩
theorem numF_big {f u : Nat} (h : 128 ≤ u) : numF (f + 1) u = UInt8.ofNat (u % 128 + 128) :: numF f (u / 128) := by
  rw [numF, if_neg (by omega)]
theorem numF_small {f u : Nat} (h : u < 128) : numF (f + 1) u = [UInt8.ofNat u] := by
  rw [numF, if_pos h]
/-- a number of at most f digits more -/
def BdF (f u : Nat) : Prop := u < 2 * 128 ^ f
theorem BdF.next {f u : Nat} (h : BdF f u) (hu : 128 ≤ u) : ∃ g, f = g + 1 ∧ BdF g (u / 128) := by
  cases f with
  | zero => unfold BdF at h; simp at h; omega
  | succ g =>
    refine ⟨g, rfl, ?_⟩
    unfold BdF at h ⊢
    rw [Nat.pow_succ] at h
    omega
theorem BdF.start {u : Nat} (h : u < 18446744073709551616) : BdF 9 u := h
/-- a number of 64 bits without sign -/
def U64 (u : Nat) : Prop := u < 18446744073709551616
set_option maxRecDepth 100000 in
set_option maxHeartbeats 400000 in
theorem nlen_any (u : Nat) (w : World) (h : U64 u) : Calls Try.prog 45 #[.int .u64 u] w fun e w' => e = .returned (.int .i64 (nlen u)) ∧ w = w' := by
  have hs := BdF.start h
  have hst : Hid (nlen u + 1 = 1 + (numF (9 + 1) u).length) := by show (numF 10 u).length + 1 = 1 + (numF 10 u).length; omega
  go_enter Try.func45, Try.ntmps45
  go_wp2_with fail
  go_loop [0, 3] (fun x n => ∃ f v c : Nat, c ≤ 10 ∧ v ≤ 18446744073709551615 ∧ x = .int .u64 v ∧ n = .int .i64 c ∧ BdF f v ∧ Hid (c + f = 10) ∧ Hid (nlen u + 1 = c + (numF (f + 1) v).length)) (fun x _ => (intOf x).toNat)
  case atStart => exact ⟨9, u, 1, by omega, by unfold U64 at h; omega, rfl, rfl, hs, rfl, hst⟩
  case round =>
    obtain ⟨f, v, c, hc, hv, rfl, rfl, hbd, hf, hnl⟩ := hrel
    clear h hs hst
    by_cases hlt : 128 ≤ v
    · obtain ⟨g, e, hg⟩ := hbd.next hlt
      have hn2 := Lib.hid (hnl.out.trans (by rw [e, numF_big hlt, List.length_cons]))
      have hf2 : Hid (c + 1 + g = 10) := by have := hf.out; unfold Hid; omega
      have hc2 : c + 1 ≤ 10 := by have := hf2.out; omega
      clear hnl hbd e hf
      go_wp2_with fail
      go_round
      case rel => exact ⟨g, v / 128, c + 1, hc2, by omega, by go_num, by go_num, hg, hf2, by unfold Hid; have := hn2.out; omega⟩
      case measure => simp [intOf]; omega
    · have hn2 := Lib.hid (hnl.out.trans (by rw [numF_small (by omega), List.length_singleton]))
      clear hnl hbd
      go_wp2_with fail
      go_ret
      exact ⟨ret_int (by have := hn2.out; omega), rfl⟩
theorem hdv_lt {k n : Int} {s : ByteArray} {q : F} (h : Okv k n s) (hl : q.len ≤ 9223372036854775807) : hdv k n s.size q.len < 18446744073709551616 := by
  have h1 := uns_lt h.2.1
  have h2 := h.2.2
  unfold maxLen at h2
  unfold hdv
  split
  · omega
  · split <;> omega
set_option maxHeartbeats 400000 in
theorem hd_any (k n : Int) (s : ByteArray) (p : Option Addr) (l c : Nat) (w : World) (hs : Okv k n s) (hl : l ≤ 9223372036854775807) : Calls Try.prog 46 #[val k n s (.slice p l c)] w (Ret (.int .u64 (hdv k n s.size l)) w) := by
  have hu := fun w => uns_any n w hs.2.1
  have hz : s.size ≤ 9223372036854775807 := by have := hs.2.2; unfold maxLen at this; omega
  clear hs
  have HU := Lib.hid hu
  clear hu
  by_cases h2 : k = 2
  · subst h2
    go_enter Try.func46, Try.ntmps46
    go_wp2_with fail
    go_ret
    exact ⟨ret_int (by simp [hdv]), one_new _ _⟩
  · by_cases h3 : k = 3
    · subst h3
      go_enter Try.func46, Try.ntmps46
      go_wp2_with fail
      go_ret
      exact ⟨ret_int (by simp [hdv]), one_new _ _⟩
    · go_enter Try.func46, Try.ntmps46
      go_wp2_with (go_at_call 56; refine (HU.out _).mono ?_; rintro e w' ⟨rfl, rfl⟩)
      go_ret
      exact ⟨ret_int (by simp [hdv, h2, h3]), one_new _ _⟩
end Go.Proofs.Ytaahmfmelmjahaa
