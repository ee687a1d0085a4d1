/-
  The reader of the codec: numbers are read.
-/
import Derived.Test.YtaahmfmelmjahaaRdn
import Derived.Test.YtaahmfmelmjahaaInj
namespace Go.Proofs.Ytaahmfmelmjahaa
open Go Go.RowKit
set_option maxRecDepth 100000 in
set_option maxHeartbeats 400000 in
theorem sgn_any (n : Int) (h : W64 n) (w : World) : Calls Try.prog 49 #[.int .u64 (uns n : Nat)] w fun e w' => e = .returned (.int .i64 n) ∧ w' = w := by
  unfold W64 at h
  unfold uns
  by_cases h0 : 0 ≤ n
  · rw [if_pos h0]
    obtain ⟨m, rfl⟩ := Int.eq_ofNat_of_zero_le h0
    have hm : m ≤ 9223372036854775807 := by omega
    clear h h0
    rw [show (Int.toNat (m : Int)) = m from Int.toNat_natCast m]
    go_enter Try.func49, Try.ntmps49
    go_wp2_with fail
    all_goals go_ret
    all_goals exact ⟨ret_int (by omega), rfl⟩
  · rw [if_neg h0]
    obtain ⟨m, hm⟩ : ∃ m : Nat, n = -(m : Int) - 1 := ⟨(-(n + 1)).toNat, by omega⟩
    subst hm
    have hm : m ≤ 9223372036854775807 := by omega
    rw [show (-(-(m : Int) - 1 + 1)).toNat = m from by omega]
    clear h h0
    go_enter Try.func49, Try.ntmps49
    go_wp2_with fail
    all_goals go_ret
    all_goals exact ⟨ret_int (by omega), rfl⟩
theorem four_at {w w' : World} {g : Nat} {a b c d : Value} {T : TypeId} (hc : Chg g (w.alloc (.cells #[a, b, c, d] T)) w') (hg : g < w.heap.size) :
    (w'.cell? ⟨w.heap.size, 0, none⟩ = some a ∧ w'.cell? ⟨w.heap.size, 1, none⟩ = some b ∧ w'.cell? ⟨w.heap.size, 2, none⟩ = some c ∧ w'.cell? ⟨w.heap.size, 3, none⟩ = some d) ∧
    (w'.frozen? ⟨w.heap.size, 0, none⟩ = false ∧ w'.frozen? ⟨w.heap.size, 1, none⟩ = false ∧ w'.frozen? ⟨w.heap.size, 2, none⟩ = false ∧ w'.frozen? ⟨w.heap.size, 3, none⟩ = false) := by
  have hk := hc.block w.heap.size (by simp) (by omega)
  have h1 : ∀ j, w'.cell? ⟨w.heap.size, j, none⟩ = (w.alloc (.cells #[a, b, c, d] T)).cell? ⟨w.heap.size, j, none⟩ := fun j => World.cell?_of_block (a := ⟨w.heap.size, j, none⟩) hk
  have h2 : ∀ j, w'.frozen? ⟨w.heap.size, j, none⟩ = (w.alloc (.cells #[a, b, c, d] T)).frozen? ⟨w.heap.size, j, none⟩ := fun j => World.frozen?_of_block (a := ⟨w.heap.size, j, none⟩) hk
  refine ⟨⟨?_, ?_, ?_, ?_⟩, ?_, ?_, ?_, ?_⟩ <;> first | (rw [h1]; go_simp) | (rw [h2]; go_simp)
theorem set_four {w : World} {g : Nat} {a b c d v x y u : Value} {T : TypeId} {fr : Nat × Nat} (h : w.heap[g]? = some (.cells #[a, b, c, d] T fr)) :
    ((((w.setCell ⟨g, 0, none⟩ v).setCell ⟨g, 1, none⟩ x).setCell ⟨g, 2, none⟩ y).setCell ⟨g, 3, none⟩ u).heap[g]? = some (.cells #[v, x, y, u] T fr) := by
  simp [World.setCell, Array.getElem?_modify, h]
/-- a number was read -/
def IntR (g b : Nat) (n : Int) (l : List UInt8) (w : World) (e : Ending) (w' : World) : Prop := e = .returned (val 1 n ByteArray.empty (.slice none 0 0)) ∧ Rd w' g b l ∧ Chg g w w'
set_option maxHeartbeats 1000000 in
theorem value_int (g b d : Nat) (n : Int) (l : List UInt8) (w : World) (hn : W64 n) (h : Rd w g b (1 :: (num (uns n) ++ l))) (hb : b < w.heap.size) (hl : l.length ≤ 1099511627776) :
    Calls Try.prog 35 #[.pointer (some ⟨g, 0, none⟩), .int .i64 d] w (IntR g b n l w) := by
  have hlt := h.lt
  have hnl : (num (uns n)).length ≤ 10 := numF_length 10 _
  have h1 : ∀ x, Calls Try.prog 48 #[.pointer (some ⟨g, 0, none⟩)] (w.alloc x) (fun e w' => e = .returned (.int .u8 1) ∧ Rd w' g b (num (uns n) ++ l) ∧ Chg g (w.alloc x) w') := fun x => next_ok g b 1 (num (uns n) ++ l) (w.alloc x) (h.alloc x) (by rw [List.length_append]; omega)
  have h2 := fun (w1 : World) (hr : Rd w1 g b (num (uns n) ++ l)) => num_ok g b (uns n) l w1 (uns_lt64 hn) hr hl
  have h3 := sgn_any n hn
  generalize uns n = u at *
  have HN := Lib.hid hn
  have H1 := Lib.hid h1
  have H2 := Lib.hid h2
  have H3 := Lib.hid h3
  clear h1 h2 h3 h hnl hn
  go_enter Try.func35, Try.ntmps35
  go_wp2_with fail
  refine (H1.out _).mono ?_
  rintro e w1 ⟨rfl, hr1, hc1⟩
  go_wp2_with fail
  refine (H2.out _ hr1).mono ?_
  rintro e w2 ⟨rfl, hr2, hc2⟩
  have hc3 := hc1.trans hc2
  obtain ⟨⟨a0, a1, a2, a3⟩, f0, f1, f2, f3⟩ := four_at hc3 hlt
  go_wp2_with (go_at_call 49; refine (H3.out _).mono ?_; rintro e w' ⟨rfl, rfl⟩)
  have hk := hc3.block w.heap.size (by simp) (by omega)
  rw [heap_alloc_new] at hk
  have hbg : w.heap.size ≠ g := by omega
  have hbb : w.heap.size ≠ b := by omega
  refine bodyPost_ret (v := val 1 n ByteArray.empty (.slice none 0 0)) (results_cell_row rfl _ _ w.heap.size 24 _ (0, 0) _ rfl (set_four hk) Try.underlying24 rfl (by kernel_rfl)) rfl ⟨rfl, ?_, ?_⟩
  · exact (((hr2.set hbg hbb _).set hbg hbb _).set hbg hbb _).set hbg hbb _
  · exact ((((hc3.alloc).set (Nat.le_refl _) _).set (Nat.le_refl _) _).set (Nat.le_refl _) _).set (Nat.le_refl _) _
end Go.Proofs.Ytaahmfmelmjahaa
