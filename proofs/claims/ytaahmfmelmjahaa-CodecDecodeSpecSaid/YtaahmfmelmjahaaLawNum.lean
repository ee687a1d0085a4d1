/-
  CodecNumbers' own body: it returns true.
-/
import Derived.Test.YtaahmfmelmjahaaDec
import Derived.Test.YtaahmfmelmjahaaRe4
namespace Go.Proofs.Ytaahmfmelmjahaa
open Go Go.RowKit
theorem numF_mono : ∀ (f u u' : Nat), u ≤ u' → (numF f u).length ≤ (numF f u').length
  | 0, _, _, _ => Nat.le_refl _
  | f + 1, u, u', h => by
    have ih := numF_mono f (u / 128) (u' / 128) (Nat.div_le_div_right h)
    unfold numF
    split <;> split
    · simp
    · simp
    · omega
    · simpa using ih
theorem nlen_pos (u : Nat) : 1 ≤ nlen u := by
  unfold nlen num numF
  split <;> simp
theorem uns_mono {a b : Int} (h : (0 ≤ a ∧ a ≤ b) ∨ (a < 0 ∧ b ≤ a)) : nlen (uns a) ≤ nlen (uns b) := by
  refine numF_mono 10 _ _ ?_
  unfold uns
  split <;> split <;> omega
abbrev bnil : ByteArray := ByteArray.empty
theorem chk_int (n : Int) : chkv 1 n bnil .nil = 0 := by
  unfold chkv
  rw [if_pos (by simp [wfv, F.len]), if_neg (by simp [depv])]
theorem enc_int (n : Int) : encb 1 n bnil .nil = 1 :: num (uns n) := by
  unfold encb encv
  rw [if_pos (chk_int n)]
  simp [F.enc, hdv]
theorem sz_int (n : Int) : szv 1 n bnil .nil = 1 + nlen (uns n) := by
  unfold szv
  simp [F.sz, hdv]
theorem sl_nil (w : World) : Sl w (.slice none 0 0) .nil := .inl ⟨none, 0, rfl, rfl⟩
theorem ok_int {n : Int} (h : W64 n) : Okv 1 n bnil := ⟨by unfold W64; omega, h, by simp⟩
theorem size_int (n : Int) (h : W64 n) (w : World) : Calls Try.prog 14 #[val 1 n bnil (.slice none 0 0)] w (Ret2 (.int .i64 ((1 + nlen (uns n) : Nat) : Int)) (.int .i64 0) w) := by
  have := size_any 1 n bnil .nil (.slice none 0 0) w (ok_int h) (sl_nil w) (by simp [depv]) (by rw [sz_int]; have := nlen_le (uns n); omega)
  rw [chk_int, if_pos rfl, sz_int] at this
  exact this
theorem encode_int (n : Int) (h : W64 n) (w : World) : Calls Try.prog 12 #[val 1 n bnil (.slice none 0 0)] w (RetB (1 :: num (uns n)) 0 w) := by
  have := enc_any 1 n bnil .nil (.slice none 0 0) w (ok_int h) (sl_nil w) (by simp [depv]) (by rw [sz_int]; have := nlen_le (uns n); omega)
  rw [chk_int, enc_int] at this
  exact this
theorem int_any (n : Int) (w : World) : Calls Try.prog 23 #[.int .i64 n] w (Ret (val 1 n bnil (.slice none 0 0)) w) := by
  go_enter Try.func23, Try.ntmps23
  go_wp2_with fail
  exact bodyPost_ret (v := val 1 n bnil (.slice none 0 0)) (results_cell_row rfl _ _ w.heap.size 24 _ (0, 0) _ rfl (heap_alloc_new _ _) Try.underlying24 rfl (by kernel_rfl)) rfl ⟨rfl, one_new _ _⟩
set_option maxHeartbeats 2000000 in
theorem lawNum (a b : Int) (w : World) (ha : W64 a) (hb : W64 b) (hsane : ∀ w : World, Calls Try.prog 10 #[] w (Ret (.bool true) w)) :
    Calls Try.prog 9 #[.int .i64 a, .int .i64 b] w (Ret (.bool true) w) := by
  have HS := Lib.hid hsane
  have HI := Lib.hid int_any
  have hz1 := size_int a ha
  have hz2 := size_int b hb
  have he := encode_int a ha
  have hd := fun (g cap : Nat) (w : World) (h : OwnAt w g cap ((1 :: num (uns a)).map byt)) => dec_int g cap a w ha h
  have hm := @uns_mono a b
  have l1 := nlen_pos (uns a)
  have l2 := nlen_pos (uns b)
  have l3 := nlen_le (uns a)
  have l4 := nlen_le (uns b)
  unfold W64 at ha hb
  generalize nlen (uns a) = x at *
  generalize nlen (uns b) = y at *
  have HZ1 := Lib.hid hz1
  have HZ2 := Lib.hid hz2
  have HE := Lib.hid he
  have HD := Lib.hid hd
  clear hz1 hz2 he hd hsane
  go_enter Try.func9, Try.ntmps9
  go_wp2_with fail
  refine (HS.out _).mono ?_
  rintro e w1 ⟨rfl, hb1⟩
  go_wp2_with fail
  refine (HI.out _ _).mono ?_
  rintro e w2 ⟨rfl, hb2⟩
  replace hb2 := hb1.trans (hb2.mono hb1.size)
  go_wp2_with fail
  refine (HZ1.out _).mono ?_
  rintro e w3 ⟨rfl, hb3⟩
  replace hb3 := hb2.trans (hb3.mono hb2.size)
  go_wp2_with fail
  refine (HI.out _ _).mono ?_
  rintro e w4 ⟨rfl, hb4⟩
  replace hb4 := hb3.trans (hb4.mono hb3.size)
  go_wp2_with fail
  refine (HZ2.out _).mono ?_
  rintro e w5 ⟨rfl, hb5⟩
  replace hb5 := hb4.trans (hb5.mono hb4.size)
  clear hb1 hb2 hb3 hb4
  go_wp2_with fail
  all_goals
    clear hm
    refine (HI.out _ _).mono ?_
    rintro e w6 ⟨rfl, hb6⟩
    replace hb6 := hb5.trans (hb6.mono hb5.size)
    go_wp2_with fail
    refine (HE.out _).mono ?_
    rintro e w7 ⟨v7, rfl, hown, _, hb7⟩
    replace hb7 := hb6.trans (hb7.mono hb6.size)
    rcases hown with ⟨_, hx⟩ | ⟨g, cap, rfl, hown⟩
    · cases hx
    have HW := Lib.hid (HD.out _ _ _ hown)
    clear hown
    generalize (List.map byt (1 :: num (uns a))).length = N at *
    go_wp2_with fail
    refine HW.out.mono ?_
    rintro e w8 ⟨rfl, hb8⟩
    replace hb8 := hb7.trans (hb8.mono hb7.size)
    go_wp2_with fail
    go_ret
    exact ⟨rfl, hb8.alloc hb8.size _⟩
end Go.Proofs.Ytaahmfmelmjahaa
