/-
  The reader of the codec: values, whatever the bytes.
-/
import Derived.Test.YtaahmfmelmjahaaRdw
namespace Go.Proofs.Ytaahmfmelmjahaa
open Go Go.RowKit
theorem valA_no {g b d : Nat} {l : List UInt8} {w w' : World} (h : decv d l = none) (hc : Chg g w w') : ValA g b d l w (.panicked bad) w' := by
  unfold ValA
  rw [h]
  exact ⟨rfl, hc⟩
theorem val_fin {g b d : Nat} {l r : List UInt8} {k n : Int} {s : ByteArray} {q : F} {L v0 v1 v2 v3 : Value} {w w' : World} (hdec : decv d l = some ⟨k, n, s, q, r⟩) (hok : Okv k n s) (hg : g < w.heap.size) (hb : b < w.heap.size)
    (hr : Rd w' g b r) (hc : Chg g (w.alloc (.cells #[v0, v1, v2, v3] 24)) w') (hL : Sl (Cut (old (w.heap.size + 1)) w') L q) :
    ValA g b d l w (.returned (val k n s L)) ((((w'.setCell ⟨w.heap.size, 0, none⟩ (.int .i64 k)).setCell ⟨w.heap.size, 1, none⟩ (.int .i64 n)).setCell ⟨w.heap.size, 2, none⟩ (.string s)).setCell ⟨w.heap.size, 3, none⟩ L) ∧
    ((((w'.setCell ⟨w.heap.size, 0, none⟩ (.int .i64 k)).setCell ⟨w.heap.size, 1, none⟩ (.int .i64 n)).setCell ⟨w.heap.size, 2, none⟩ (.string s)).setCell ⟨w.heap.size, 3, none⟩ L).heap[w.heap.size]? = some (.cells #[.int .i64 k, .int .i64 n, .string s, L] 24) := by
  have hk := hc.block w.heap.size (by simp) (by omega)
  rw [heap_alloc_new] at hk
  have hbg : w.heap.size ≠ g := by omega
  have hbb : w.heap.size ≠ b := by omega
  refine ⟨?_, set_four hk⟩
  unfold ValA
  rw [hdec]
  refine ⟨L, rfl, hok, ?_, (((hr.set hbg hbb _).set hbg hbb _).set hbg hbb _).set hbg hbb _, ((((hc.alloc).set (Nat.le_refl _) _).set (Nat.le_refl _) _).set (Nat.le_refl _) _).set (Nat.le_refl _) _⟩
  refine cut_mono (by simp [World.setCell]) (fun j hj hz => ?_) hL
  simp only [old, decide_eq_false_iff_not] at hz ⊢
  refine ⟨by omega, ?_⟩
  rw [Below.heap_setCell _ _ _ _ (by simp only; omega), Below.heap_setCell _ _ _ _ (by simp only; omega), Below.heap_setCell _ _ _ _ (by simp only; omega), Below.heap_setCell _ _ _ _ (by simp only; omega)]
theorem u8_ext {c : UInt8} {m : Nat} (hm : m < 256) (h : c.toNat = m) : byt c = .int .u8 (m : Int) := by
  unfold byt
  rw [h]
set_option maxHeartbeats 2000000 in
/-- no byte, or a byte that names no kind -/
theorem value_none (d g b : Nat) (l : List UInt8) (w : World) (h : Rd w g b l) (hl : l.length ≤ 1099511627776) (hk : l = [] ∨ ∃ c t, l = c :: t ∧ c.toNat ≠ 1 ∧ c.toNat ≠ 2 ∧ c.toNat ≠ 3) :
    Calls Try.prog 35 #[.pointer (some ⟨g, 0, none⟩), .int .i64 d] w (ValA g b d l w) := by
  rcases hk with rfl | ⟨c, t, rfl, h1, h2, h3⟩
  · have hn := fun x => next_no g b (w.alloc x) (h.alloc x)
    have hno : decv d [] = none := by unfold decv; rfl
    have HN := Lib.hid hn
    have HNO := Lib.hid hno
    clear hn hno h
    go_enter Try.func35, Try.ntmps35
    go_wp2_with (go_at_call 48; refine (HN.out _).mono ?_; rintro e w' ⟨rfl, hc2⟩)
    exact ⟨rfl, valA_no HNO.out hc2.alloc⟩
  · have hn := fun x => next_ok g b c t (w.alloc x) (h.alloc x) (by simp at hl; omega)
    have hno : decv d (c :: t) = none := by unfold decv; rw [if_neg h1, if_neg h2, if_neg h3]
    have hm : c.toNat < 256 := c.toNat_lt
    have hb := u8_ext hm rfl
    unfold Nxt byt at hn
    generalize c.toNat = m at *
    have HN := Lib.hid hn
    have HNO := Lib.hid hno
    clear hn hno h hb
    go_enter Try.func35, Try.ntmps35
    go_wp2_with (go_at_call 48; refine (HN.out _).mono ?_; rintro e w' ⟨rfl, _, hc2⟩)
    exact ⟨rfl, valA_no HNO.out hc2.alloc⟩
end Go.Proofs.Ytaahmfmelmjahaa
