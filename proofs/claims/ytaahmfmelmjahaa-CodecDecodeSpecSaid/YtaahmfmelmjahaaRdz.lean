/-
  The reader of the codec: values of each kind, whatever the bytes.
-/
import Derived.Test.YtaahmfmelmjahaaRdy
namespace Go.Proofs.Ytaahmfmelmjahaa
open Go Go.RowKit
theorem next_kind {g b : Nat} {c : UInt8} {t : List UInt8} {w : World} {m : Nat} (h : Rd w g b (c :: t)) (hl : (c :: t).length ≤ 1099511627776) (hc : c.toNat = m) (x : Obj) :
    Calls Try.prog 48 #[.pointer (some ⟨g, 0, none⟩)] (w.alloc x) (fun e w' => e = .returned (.int .u8 (m : Int)) ∧ Rd w' g b t ∧ Chg g (w.alloc x) w') := by
  have hn := next_ok g b c t (w.alloc x) (h.alloc x) (by simp at hl; omega)
  unfold Nxt byt at hn
  rw [hc] at hn
  exact hn
set_option maxHeartbeats 2000000 in
theorem value_num (d g b : Nat) (c : UInt8) (t : List UInt8) (w : World) (h : Rd w g b (c :: t)) (hb : b < w.heap.size) (hl : (c :: t).length ≤ 1099511627776) (hk : c.toNat = 1) :
    Calls Try.prog 35 #[.pointer (some ⟨g, 0, none⟩), .int .i64 d] w (ValA g b d (c :: t) w) := by
  have hlt := h.lt
  have hn := fun x => next_kind h hl hk x
  have h2 := fun (w1 : World) (hr : Rd w1 g b t) => num_all g b t w1 hr (by simp at hl; omega)
  have HN := Lib.hid hn
  unfold NumA at h2
  cases hdn : dnum t with
  | none =>
    have hno : decv d (c :: t) = none := by unfold decv; rw [if_pos hk, hdn]
    simp only [hdn] at h2
    have H2 := Lib.hid h2
    have HNO := Lib.hid hno
    clear hn h2 hno hdn h hk
    go_enter Try.func35, Try.ntmps35
    go_wp2_with fail
    refine (HN.out _).mono ?_
    rintro e w1 ⟨rfl, hr1, hc1⟩
    go_wp2_with (go_at_call 50; refine (H2.out _ hr1).mono ?_; rintro e w' ⟨rfl, hc2⟩)
    exact ⟨rfl, valA_no HNO.out (hc1.trans hc2).alloc⟩
  | some a =>
    obtain ⟨u, r⟩ := a
    have hu := (dnum_only hdn).2
    have hdec : decv d (c :: t) = some ⟨1, sgn u, ByteArray.empty, .nil, r⟩ := by unfold decv; rw [if_pos hk, hdn]
    have hs := sgn_any (sgn u) (sgn_w64 hu)
    rw [uns_sgn] at hs
    simp only [hdn] at h2
    have hw := sgn_w64 hu
    generalize sgn u = n at *
    have H2 := Lib.hid h2
    have HD := Lib.hid hdec
    have HS := Lib.hid hs
    have HW := Lib.hid hw
    clear hn h2 hdec hdn h hk hs hw
    go_enter Try.func35, Try.ntmps35
    go_wp2_with fail
    refine (HN.out _).mono ?_
    rintro e w1 ⟨rfl, hr1, hc1⟩
    go_wp2_with fail
    refine (H2.out _ hr1).mono ?_
    rintro e w2 ⟨rfl, hr2, hc2⟩
    have hc3 := hc1.trans hc2
    obtain ⟨⟨a0, a1, a2, a3⟩, f0, f1, f2, f3⟩ := four_at hc3 hlt
    go_wp2_with (go_at_call 49; refine (HS.out _).mono ?_; rintro e w' ⟨rfl, rfl⟩)
    obtain ⟨v1, v2⟩ := val_fin HD.out ⟨by unfold W64; omega, HW.out, by simp⟩ hlt hb hr2 hc3 (.inl ⟨none, 0, rfl, rfl⟩)
    exact bodyPost_ret (results_cell_row rfl _ _ w.heap.size 24 _ (0, 0) _ rfl v2 Try.underlying24 rfl (by kernel_rfl)) rfl v1
end Go.Proofs.Ytaahmfmelmjahaa
