/-
  Encode and Size of the reference.
-/
import Derived.Test.YtaahmfmelmjahaaRe3
import Derived.Test.YtaahmfmelmjahaaEnc
namespace Go.Proofs.Ytaahmfmelmjahaa
open Go Go.RowKit
theorem chk_wf {k n : Int} {s : ByteArray} {q : F} (h : chkv k n s q = 0) : wfv k n s.size q.len (F.wf q) = true := by
  unfold chkv at h
  split at h
  · assumption
  · cases h
set_option maxHeartbeats 1000000 in
theorem renc_any (k n : Int) (s : ByteArray) (q : F) (L : Value) (w : World) (hs : Okv k n s) (hL : Sl w L q) (hd : depv k (F.dep q) ≤ 1000) (hz : szv k n s q ≤ 1099511627776) :
    Calls Try.prog 13 #[val k n s L] w (RetB (encb k n s q) (chkv k n s q) w) := by
  have h1 := fun x => rchk_any k n s q L _ hs (hL.below (one_new w x)) hd
  by_cases hc : chkv k n s q = 0
  · have h2 := fun (w1 : World) (hb : Below w.heap.size w w1) => re_any k n s q L w1 hs (hL.below hb) (chk_wf hc) hz
    rw [show encb k n s q = encv k n s q from by unfold encb; rw [if_pos hc], hc]
    simp only [hc] at h1
    obtain ⟨p, c, rfl, hl⟩ := hL.shape
    generalize encv k n s q = en at *
    have H1 := Lib.hid h1
    have H2 := Lib.hid h2
    clear h1 h2 hc hL
    go_enter Try.func13, Try.ntmps13
    go_wp2_with fail
    refine (H1.out _).mono ?_
    rintro e w1 ⟨rfl, hb1⟩
    obtain ⟨a0, a1, a2, a3⟩ := boxed (hb1.mono (by simp))
    have hb2 : Below w.heap.size w w1 := (one_new _ _).trans (hb1.mono (by simp))
    go_wp2_with fail
    refine (H2.out _ hb2).mono ?_
    rintro e w2 ⟨v2, rfl, hown, hv2, hb3⟩
    go_wp2_with fail
    go_ret2
    exact ⟨v2, rfl, hown, fun j hj => by have := hv2 j hj; have := hb2.size; omega, hb2.trans (hb3.mono hb2.size)⟩
  · have hr2 : (chkv k n s q != 0) = true := by simp [hc]
    rw [show encb k n s q = [] from by unfold encb; rw [if_neg hc]]
    obtain ⟨p, c, rfl, hl⟩ := hL.shape
    generalize chkv k n s q = r at *
    have H1 := Lib.hid h1
    clear h1 hc hL
    go_enter Try.func13, Try.ntmps13
    go_wp2_with fail
    refine (H1.out _).mono ?_
    rintro e w1 ⟨rfl, hb1⟩
    have hb2 : Below w.heap.size w w1 := (one_new _ _).trans (hb1.mono (by simp))
    clear hb1
    go_wp2_with fail
    go_ret2
    exact ⟨.slice none 0 0, rfl, Own.nil _, (fun j hj => by cases hj), hb2⟩
theorem encb_length (k n : Int) (s : ByteArray) (q : F) : ((encb k n s q).length : Int) = if chkv k n s q = 0 then (szv k n s q : Int) else 0 := by
  unfold encb
  split
  · rw [encv_length]
  · rfl
theorem own_shape {w : World} {v : Value} {l : List UInt8} (h : Own w v (l.map byt)) : ∃ p c, v = .slice p l.length c := by
  rcases h with ⟨rfl, hx⟩ | ⟨g, cap, rfl, h⟩
  · have hl : l = [] := by simpa using hx
    subst hl
    exact ⟨none, 0, rfl⟩
  · exact ⟨some ⟨g, 0, none⟩, cap, by simp⟩
set_option maxHeartbeats 1000000 in
theorem rsize_any (k n : Int) (s : ByteArray) (q : F) (L : Value) (w : World) (hs : Okv k n s) (hL : Sl w L q) (hd : depv k (F.dep q) ≤ 1000) (hz : szv k n s q ≤ 1099511627776) :
    Calls Try.prog 15 #[val k n s L] w (Ret2 (.int .i64 (if chkv k n s q = 0 then (szv k n s q : Int) else 0)) (.int .i64 (chkv k n s q)) w) := by
  have h1 := fun x => renc_any k n s q L _ hs (hL.below (one_new w x)) hd hz
  rw [← encb_length]
  have hle : (encb k n s q).length ≤ 1099511627776 := by
    have := encb_length k n s q
    split at this <;> omega
  obtain ⟨p, c, rfl, hl⟩ := hL.shape
  generalize encb k n s q = en at *
  generalize chkv k n s q = r at *
  have H1 := Lib.hid h1
  clear h1 hL
  go_enter Try.func15, Try.ntmps15
  go_wp2_with fail
  refine (H1.out _).mono ?_
  rintro e w1 ⟨v1, rfl, hown, hv1, hb1⟩
  have hb2 : Below w.heap.size w w1 := (one_new _ _).trans (hb1.mono (by simp))
  obtain ⟨p1, c1, e1⟩ := own_shape hown
  subst e1
  clear hb1
  go_wp2_with fail
  go_ret2
  exact ⟨rfl, hb2⟩
end Go.Proofs.Ytaahmfmelmjahaa
