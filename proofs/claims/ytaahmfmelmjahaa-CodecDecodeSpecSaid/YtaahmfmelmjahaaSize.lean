/-
  codec.size and codec.Size.
-/
import Derived.Test.YtaahmfmelmjahaaNum
namespace Go.Proofs.Ytaahmfmelmjahaa
open Go Go.RowKit
def szv (k n : Int) (s : ByteArray) (q : F) : Nat := 1 + nlen (hdv k n s.size q.len) + s.size + F.sz q
def SzOK (k n : Int) (s : ByteArray) (q : F) : Prop := ∀ (L : Value) (w : World), Okv k n s → Sl w L q → szv k n s q ≤ 1099511627776 → Calls Try.prog 29 #[val k n s L] w (Ret (.int .i64 (szv k n s q)) w)
theorem sz_drop {q : F} {k n : Int} {s : ByteArray} {a : F} {j m : Nat} (h : F.sz q = m + F.sz (F.drop j q)) (h1 : F.drop j q = .cons k n s a (F.drop (j + 1) q)) :
    F.sz q = (m + szv k n s a) + F.sz (F.drop (j + 1) q) := by
  rw [h, h1]
  simp only [F.sz, szv]
  omega
set_option maxHeartbeats 1000000 in
theorem sz_list (k n : Int) (s : ByteArray) (q : F) (p : Option Addr) (c len hd m0 : Nat) (w : World) (hs : s.size ≤ 1099511627776) (hl : len ≤ 9223372036854775807) (hq : Hid (q.len = len)) (h : q.All SzOK) (hm0 : m0 ≤ 10)
    (h4 : Hid (len = 0 ∨ ∃ b o, p = some ⟨b, o, none⟩ ∧ b < w.heap.size ∧ Lies w q b o)) (ht : 1 + m0 + s.size + F.sz q ≤ 1099511627776)
    (h46 : ∀ w', Calls Try.prog 46 #[val k n s (.slice p len c)] w' (Ret (.int .u64 hd) w')) (h45 : ∀ w', Calls Try.prog 45 #[.int .u64 hd] w' fun e w'' => e = .returned (.int .i64 m0) ∧ w' = w'') :
    Calls Try.prog 29 #[val k n s (.slice p len c)] w (Ret (.int .i64 (1 + m0 + s.size + F.sz q : Nat)) w) := by
  have H46 := Lib.hid h46
  have H45 := Lib.hid h45
  clear h46 h45
  generalize ht' : F.sz q = tot at *
  have HT := Lib.hid ht'
  clear ht'
  go_enter Try.func29, Try.ntmps29
  go_wp2_with fail
  generalize hw1 : w.alloc _ = w1
  have hb1 : Below (w.heap.size + 1) (w.alloc (.cells #[.int .i64 k, .int .i64 n, .string s, .slice p len c] 24)) w1 := by rw [hw1]; exact Below.refl _ _
  have hb0 : Below w.heap.size w w1 := (one_new _ _).trans (hb1.mono (by simp))
  have hz1 : w.heap.size + 1 ≤ w1.heap.size := by have := hb1.size; simpa using this
  obtain ⟨c0, c1, c2, c3⟩ := boxed hb1
  have C0 := Later.cell (w := w1) (by omega) c0
  have C1 := Later.cell (w := w1) (by omega) c1
  have C2 := Later.cell (w := w1) (by omega) c2
  have C3 := Later.cell (w := w1) (by omega) c3
  clear hw1 c0 c1 c2 c3
  refine wp_region_later (by kernel_rfl) (by kernel_rfl) ?_
  repeat (go_big_quiet_step (first | (go_at_call 46; exact Later.calls (H46.out _)) | (go_at_call 45; exact Later.calls ((H45.out _).mono fun e w'' ⟨he, hw⟩ => by subst hw; exact ⟨he, Below.refl _ _⟩))))
  refine wpQuiet_nil ?_
  intro _ hw'
  obtain ⟨x, hx⟩ := hw'
  subst hx
  go_wp2_with fail
  have hbx : Below w.heap.size w x.v := hb0.trans (x.b.mono (by omega))
  have hst : Hid (1 + m0 + s.size + tot = (1 + m0 + s.size) + F.sz (F.drop 0 q)) := by unfold Hid; rw [← HT.out]; rfl
  clear C0 C1 C2 C3 hb0 hb1 hz1 H45 H46
  generalize x.v = wx at *
  clear x
  have hms : 1 + m0 + s.size ≤ 1099511627776 := by omega
  go_loopw [3, 17] (fun y i wr => ∃ j m : Nat, j ≤ len ∧ m ≤ 1099511627776 ∧ i = .int .i64 j ∧ y = .int .i64 m ∧ Hid (1 + m0 + s.size + tot = m + F.sz (F.drop j q)) ∧ Below w.heap.size w wr) (fun _ i _ => len - (intOf i).toNat)
  case atStart => exact ⟨0, _, Nat.zero_le _, hms, rfl, by go_num, hst, hbx⟩
  case round =>
    obtain ⟨j, m, hj, hm, rfl, rfl, hsame, hb⟩ := hrel
    clear hbx hst
    by_cases hlt : j < len
    · rcases h4.out with e | ⟨b, o, e, hb0, h5⟩
      · exfalso
        omega
      subst e
      obtain ⟨k1, n1, s1, q1, L1, d0, d1, d2, d3, hs1, hL1, hp1, hd1⟩ := h5.elt h j (by rw [hq.out]; exact hlt)
      have hS : 1 + m0 + s.size + tot = (m + szv k1 n1 s1 q1) + F.sz (F.drop (j + 1) q) := by
        rw [hsame.out, hd1]
        simp only [F.sz, szv]
        omega
      have hle : szv k1 n1 s1 q1 ≤ 1099511627776 := by omega
      have g0 := (hb.cell (p := ⟨b, o + j * 4, none⟩) hb0).trans d0
      have g1 := (hb.cell (p := ⟨b, o + j * 4 + 1, none⟩) hb0).trans d1
      have g2 := (hb.cell (p := ⟨b, o + j * 4 + 2, none⟩) hb0).trans d2
      have g3 := (hb.cell (p := ⟨b, o + j * 4 + 3, none⟩) hb0).trans d3
      have hL1' := hL1.below hb
      obtain ⟨p1, c1', e1, _⟩ := hL1'.shape
      subst e1
      have hL1a := fun x => hL1'.below (one_new wr x)
      have hc := fun x => hp1 _ _ hs1 (hL1a x) hle
      clear d0 d1 d2 d3 hd1 hL1 hsame hL1' hL1a hp1
      generalize szv k1 n1 s1 q1 = dv at hc hle hS
      have hm2 : m + dv ≤ 1099511627776 := by omega
      have HS := Lib.hid hS
      clear hS
      have hz := hb.size
      go_wp2_with (go_at_call 29; refine (hc _).mono ?_; rintro e w' ⟨rfl, hb'⟩)
      go_roundw
      case rel => exact ⟨j + 1, m + dv, by omega, hm2, by go_num, by go_num, HS, hb.trans (((one_new _ _).mono hz).trans (hb'.mono (by simp; omega)))⟩
      case measure => simp [intOf]; omega
    · have hfin : 1 + m0 + s.size + tot = m := by rw [hsame.out, drop_over q j (by rw [hq.out]; omega)]; rfl
      have HF := Lib.hid hfin
      clear hfin
      go_wp2_with fail
      go_ret
      exact ⟨ret_int (by rw [HF.out]), hb⟩
theorem sz_step (k n : Int) (s : ByteArray) (q : F) (h : q.All SzOK) : SzOK k n s q := by
  intro L w hs hL hd
  have hd' : 1 + nlen (hdv k n s.size q.len) + s.size + F.sz q ≤ 1099511627776 := hd
  have hz : s.size ≤ 1099511627776 := by omega
  obtain ⟨p0, c0, e0, hl0⟩ := hL.shape
  have h46 := fun (p : Option Addr) (c : Nat) w' => hd_any k n s p q.len c w' hs hl0
  have h45 := fun w' => nlen_any (hdv k n s.size q.len) w' (hdv_lt hs hl0)
  have hn := nlen_le (hdv k n s.size q.len)
  rcases hL with ⟨p, c, rfl, rfl⟩ | ⟨b, o, cap, rfl, e1, e2, e3, e4⟩
  · exact sz_list k n s .nil p c 0 _ _ w hz (by omega) rfl h hn (.inl rfl) hd' (h46 p c) h45
  · exact sz_list k n s q _ cap q.len _ _ w hz (by omega) rfl h hn (.inr ⟨b, o, rfl, e3, e4⟩) hd' (h46 _ cap) h45
theorem sz_any (k n : Int) (s : ByteArray) (q : F) : SzOK k n s q := (F.all_of sz_step (.cons k n s q .nil)).1
/-- it returns these two -/
def Ret2 (v v' : Value) (w : World) (e : Ending) (w' : World) : Prop := e = .returned (.tuple #[v, v']) ∧ Below w.heap.size w w'
set_option maxHeartbeats 400000 in
theorem size_any (k n : Int) (s : ByteArray) (q : F) (L : Value) (w : World) (hs : Okv k n s) (hL : Sl w L q) (hd : depv k (F.dep q) ≤ 1000) (hz : szv k n s q ≤ 1099511627776) :
    Calls Try.prog 14 #[val k n s L] w (Ret2 (.int .i64 (if chkv k n s q = 0 then (szv k n s q : Int) else 0)) (.int .i64 (chkv k n s q)) w) := by
  have h1 := fun x => chk_any k n s q L _ hs (hL.below (one_new w x)) hd
  have h2 := fun (w1 : World) (hb : Below w.heap.size w w1) => sz_any k n s q L w1 hs (hL.below hb) hz
  obtain ⟨p, c, rfl, hl⟩ := hL.shape
  generalize chkv k n s q = r at h1
  generalize szv k n s q = z at h2 hz
  have H1 := Lib.hid h1
  have H2 := Lib.hid h2
  clear h1 h2 hL
  by_cases hr : r = 0
  · subst hr
    go_enter Try.func14, Try.ntmps14
    go_wp2_with fail
    refine (H1.out _).mono ?_
    rintro e w1 ⟨rfl, hb1⟩
    obtain ⟨a0, a1, a2, a3⟩ := boxed (hb1.mono (by simp))
    have hb2 : Below w.heap.size w w1 := (one_new _ _).trans (hb1.mono (by simp))
    go_wp2_with (go_at_call 29; refine (H2.out _ hb2).mono ?_; rintro e w' ⟨rfl, hb'⟩)
    go_ret2
    exact ⟨by simp, hb2.trans (hb'.mono hb2.size)⟩
  · have hr2 : (r != 0) = true := by simp [hr]
    go_enter Try.func14, Try.ntmps14
    go_wp2_with fail
    refine (H1.out _).mono ?_
    rintro e w1 ⟨rfl, hb1⟩
    have hb2 : Below w.heap.size w w1 := (one_new _ _).trans (hb1.mono (by simp))
    go_wp2_with fail
    go_ret2
    exact ⟨by simp [hr], hb2⟩
end Go.Proofs.Ytaahmfmelmjahaa
