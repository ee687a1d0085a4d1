/-
  Digest: Climb, the program's and the reference's, where the count or the place is out of range.
-/
import Derived.Test.YtekboemijafplaaDoorClx
namespace Go.Proofs.YtekboemijafplaaDoor
open Go Go.RowKit
set_option maxRecDepth 100000 in
set_option maxHeartbeats 1000000 in
theorem climb_bad (d : List UInt8) (i n : Int) (q : Option Addr) (m cap : Nat) (w : World) (hb : n < 1 ∨ 1099511627776 < n ∨ i < 0 ∨ n ≤ i) :
    Calls Tryd.prog 22 #[dgv d, .int .i64 i, .int .i64 n, .slice q m cap] w (ClimbR zeros 1 w) := by
  have H2 := Lib.hid (two w d)
  by_cases c1 : n < 1
  · have d1 : decide (n < 1) = true := decide_eq_true c1
    go_enter Tryd.func22, Tryd.ntmps22
    go_wp2_with (first
      | (refine dg_store rfl (.tmp 8) (.tmp 33) rfl (w.heap.size + 1) (List.replicate 32 0) zeros H2.out.z List.length_replicate (by simp [zeros]) rfl rfl ?_; rintro w2 hd2 hc2))
    exact bodyPost_ret (res2 rfl _ _ (w.heap.size + 1) zeros rfl hd2.out (by simp [zeros])) rfl ⟨rfl, Chg.below H2.out.below (by simp; omega) (by omega) hc2⟩
  have d1 : decide (n < 1) = false := decide_eq_false c1
  by_cases c2 : 1099511627776 < n
  · have d2 : decide (1099511627776 < n) = true := decide_eq_true c2
    go_enter Tryd.func22, Tryd.ntmps22
    go_wp2_with (first
      | (refine dg_store rfl (.tmp 8) (.tmp 33) rfl (w.heap.size + 1) (List.replicate 32 0) zeros H2.out.z List.length_replicate (by simp [zeros]) rfl rfl ?_; rintro w2 hd2 hc2))
    exact bodyPost_ret (res2 rfl _ _ (w.heap.size + 1) zeros rfl hd2.out (by simp [zeros])) rfl ⟨rfl, Chg.below H2.out.below (by simp; omega) (by omega) hc2⟩
  have d2 : decide (1099511627776 < n) = false := decide_eq_false c2
  by_cases c3 : i < 0
  · have d3 : decide (i < 0) = true := decide_eq_true c3
    go_enter Tryd.func22, Tryd.ntmps22
    go_wp2_with (first
      | (refine dg_store rfl (.tmp 8) (.tmp 33) rfl (w.heap.size + 1) (List.replicate 32 0) zeros H2.out.z List.length_replicate (by simp [zeros]) rfl rfl ?_; rintro w2 hd2 hc2))
    exact bodyPost_ret (res2 rfl _ _ (w.heap.size + 1) zeros rfl hd2.out (by simp [zeros])) rfl ⟨rfl, Chg.below H2.out.below (by simp; omega) (by omega) hc2⟩
  have d3 : decide (i < 0) = false := decide_eq_false c3
  have d4 : decide (n ≤ i) = true := decide_eq_true (by omega)
  go_enter Tryd.func22, Tryd.ntmps22
  go_wp2_with (first
    | (refine dg_store rfl (.tmp 8) (.tmp 33) rfl (w.heap.size + 1) (List.replicate 32 0) zeros H2.out.z List.length_replicate (by simp [zeros]) rfl rfl ?_; rintro w2 hd2 hc2))
  exact bodyPost_ret (res2 rfl _ _ (w.heap.size + 1) zeros rfl hd2.out (by simp [zeros])) rfl ⟨rfl, Chg.below H2.out.below (by simp; omega) (by omega) hc2⟩
set_option maxRecDepth 100000 in
set_option maxHeartbeats 1000000 in
theorem rclimb_bad (d : List UInt8) (i n : Int) (q : Option Addr) (m cap : Nat) (w : World) (hb : n < 1 ∨ 1099511627776 < n ∨ i < 0 ∨ n ≤ i) :
    Calls Tryd.prog 23 #[dgv d, .int .i64 i, .int .i64 n, .slice q m cap] w (ClimbR zeros 1 w) := by
  have H2 := Lib.hid (two w d)
  by_cases c1 : n < 1
  · have d1 : decide (n < 1) = true := decide_eq_true c1
    go_enter Tryd.func23, Tryd.ntmps23
    go_wp2_with (first
      | (refine dg_store rfl (.tmp 8) (.tmp 33) rfl (w.heap.size + 1) (List.replicate 32 0) zeros H2.out.z List.length_replicate (by simp [zeros]) rfl rfl ?_; rintro w2 hd2 hc2))
    exact bodyPost_ret (res2 rfl _ _ (w.heap.size + 1) zeros rfl hd2.out (by simp [zeros])) rfl ⟨rfl, Chg.below H2.out.below (by simp; omega) (by omega) hc2⟩
  have d1 : decide (n < 1) = false := decide_eq_false c1
  by_cases c2 : 1099511627776 < n
  · have d2 : decide (1099511627776 < n) = true := decide_eq_true c2
    go_enter Tryd.func23, Tryd.ntmps23
    go_wp2_with (first
      | (refine dg_store rfl (.tmp 8) (.tmp 33) rfl (w.heap.size + 1) (List.replicate 32 0) zeros H2.out.z List.length_replicate (by simp [zeros]) rfl rfl ?_; rintro w2 hd2 hc2))
    exact bodyPost_ret (res2 rfl _ _ (w.heap.size + 1) zeros rfl hd2.out (by simp [zeros])) rfl ⟨rfl, Chg.below H2.out.below (by simp; omega) (by omega) hc2⟩
  have d2 : decide (1099511627776 < n) = false := decide_eq_false c2
  by_cases c3 : i < 0
  · have d3 : decide (i < 0) = true := decide_eq_true c3
    go_enter Tryd.func23, Tryd.ntmps23
    go_wp2_with (first
      | (refine dg_store rfl (.tmp 8) (.tmp 33) rfl (w.heap.size + 1) (List.replicate 32 0) zeros H2.out.z List.length_replicate (by simp [zeros]) rfl rfl ?_; rintro w2 hd2 hc2))
    exact bodyPost_ret (res2 rfl _ _ (w.heap.size + 1) zeros rfl hd2.out (by simp [zeros])) rfl ⟨rfl, Chg.below H2.out.below (by simp; omega) (by omega) hc2⟩
  have d3 : decide (i < 0) = false := decide_eq_false c3
  have d4 : decide (n ≤ i) = true := decide_eq_true (by omega)
  go_enter Tryd.func23, Tryd.ntmps23
  go_wp2_with (first
    | (refine dg_store rfl (.tmp 8) (.tmp 33) rfl (w.heap.size + 1) (List.replicate 32 0) zeros H2.out.z List.length_replicate (by simp [zeros]) rfl rfl ?_; rintro w2 hd2 hc2))
  exact bodyPost_ret (res2 rfl _ _ (w.heap.size + 1) zeros rfl hd2.out (by simp [zeros])) rfl ⟨rfl, Chg.below H2.out.below (by simp; omega) (by omega) hc2⟩
set_option maxRecDepth 100000 in
set_option maxHeartbeats 1000000 in
theorem rclimb_len (d : List UInt8) (at' n : Nat) (q : Option Addr) (m cap : Nat) (w : World) (h1 : 1 ≤ n) (h64 : n ≤ 1099511627776) (hat : at' < n) (hm : m ≠ QL at' n) :
    Calls Tryd.prog 23 #[dgv d, .int .i64 (at' : Int), .int .i64 (n : Int), .slice q m cap] w (ClimbR zeros 1 w) := by
  have HP := Lib.hid (rlen_all n h1 h64 at')
  have c1 : decide ((n : Int) < 1) = false := by simp; omega
  have c2 : decide ((1099511627776 : Int) < (n : Int)) = false := by simp; omega
  have c3 : decide ((at' : Int) < 0) = false := by simp
  have c4 : decide ((n : Int) ≤ (at' : Int)) = false := by simp; omega
  have c5 : ¬ (n ≤ at') := by omega
  have c6 : ((m : Int) == (QL at' n : Int)) = false := by simp; omega
  go_enter Tryd.func23, Tryd.ntmps23
  have H2 := Lib.hid (two w d)
  go_wp2_with (first
    | (go_at_call 43; refine (HP.out _ hat).mono ?_; rintro e w1 ⟨rfl, hb1⟩; have H3 : Hid (Below w.heap.size w w1 ∧ Dg w1 (w.heap.size + 1) (List.replicate 32 0)) := Lib.hid ⟨H2.out.below.trans (hb1.mono (Nat.le_trans (Nat.le_add_right _ 2) (Nat.le_of_eq H2.out.size.symm))), H2.out.z.below hb1⟩; have hs1 := Nat.le_trans (Nat.le_of_eq H2.out.size.symm) hb1.size; clear hb1)
    | (refine dg_store rfl (.tmp 8) (.tmp 33) rfl (w.heap.size + 1) _ zeros H3.out.2 (by simp) (by simp [zeros]) rfl rfl ?_; rintro w2 hd2 hc2))
  exact bodyPost_ret (res2 rfl _ _ (w.heap.size + 1) zeros rfl hd2.out (by simp [zeros])) rfl ⟨rfl, Chg.below H3.out.1 (by omega) (by omega) hc2⟩
end Go.Proofs.YtekboemijafplaaDoor
