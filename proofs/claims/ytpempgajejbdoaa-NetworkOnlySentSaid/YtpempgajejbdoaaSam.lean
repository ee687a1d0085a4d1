/-
  Links: the reference's SamePacket, Same and Few.
-/
import Derived.Test.YtpempgajejbdoaaApt
import Derived.Test.YtpempgajejbdoaaChecked
import Derived.Lib.SmallJoins
import Derived.Deep.Slices
namespace Go.Proofs.Ytpempgajejbdoaa
open Go Go.RowKit
variable {F G : Nat → Prop}
theorem strOf_byt (l : List UInt8) : strOfNums (l.map fun c => (c.toNat : Int)) = ⟨l.toArray⟩ := by
  unfold strOfNums
  rw [List.map_map]
  congr 2
  induction l with
  | nil => rfl
  | cons c l ih => rw [List.map_cons, ih]; simp
theorem bv_string {w : World} {p : Option Addr} {N cap : Nat} {l : List UInt8} (h : BV F w (.slice p N cap) l) : (convert 26 9 (.slice p N cap)).run Try.prog w = .ok (.string ⟨l.toArray⟩) w := by
  obtain ⟨b, cap', p', hv, h1, h2, h3, h4⟩ := h
  cases hv
  rcases h4 with rfl | ⟨o, rfl, c2, c3⟩
  · change (convert 26 9 (.slice p 0 cap)).run Try.prog w = _
    rw [run_convert_bytes_string w 26 9 5 p 0 cap Try.underlying26 (by kernel_rfl) Try.underlying9]
    cases p
    · simp [Conv.bytesToString]
      rfl
    · have hl : ∀ a : Addr, (loadCells a 0).run Try.prog w = .ok #[] w := fun a => by
        have := run_loadCells_list (P := Try.prog) w a [] (fun j v hj => by simp at hj)
        simpa using this
      simp [Conv.bytesToString, hl]
      rfl
  · rw [← strOf_byt]
    refine run_convert_bytes_arg w 26 5 Try.underlying26 (by kernel_rfl) b o l.length cap (l.map fun c => (c.toNat : Int)) (by simp) (fun i hi => ?_) 9 Try.underlying9
    rw [c3 i _ (List.getElem?_eq_getElem hi)]
    simp [byt, List.getD, List.getElem?_eq_getElem hi]
/-- are two packets equal? -/
def sameP (x y : Pk) : Bool := decide (x = y)
theorem sameP_eq (a b : Int) (l : List UInt8) (c d : Int) (m : List UInt8) : sameP (a, b, l) (c, d, m) = ((a == c && b == d) && (l == m)) := by
  unfold sameP
  by_cases h1 : a = c <;> by_cases h2 : b = d <;> by_cases h3 : l = m <;> simp [h1, h2, h3]
set_option maxHeartbeats 1000000 in
theorem samep_any (u v : Value) (x y : Pk) (w : World) (h : PKV F w u x) (k : PKV G w v y) : Calls Try.prog 22 #[u, v] w (Ret (.bool (sameP x y)) w) := by
  obtain ⟨p, L, cu, rfl, HX, h1, h2⟩ := h.open
  obtain ⟨q, M, cv, rfl, HY, h3, h4⟩ := k.open
  obtain ⟨a, b, l⟩ := x
  obtain ⟨c, d, m⟩ := y
  have HS := Lib.hid (sameP_eq a b l c d m)
  clear h k
  by_cases e1 : a = c
  · have d1 : (a == c) = true := by simp [e1]
    have HE1 := Lib.hid e1
    clear e1
    by_cases e2 : b = d
    · have d2 : (b == d) = true := by simp [e2]
      rw [d1, d2] at HS
      clear e2
      have hx := HX.out.2
      have hy := HY.out.2
      obtain ⟨_, e, _, _, hbx⟩ := hx
      cases e
      obtain ⟨_, e, _, _, hby⟩ := hy
      cases e
      have HBX := Lib.hid hbx
      have HBY := Lib.hid hby
      clear hbx hby HX HY
      have S1 := bv_string (HBX.out.below (two_below w (.cells #[.int .i64 a, .int .i64 b, .slice p L cu] 28) (.cells #[.int .i64 c, .int .i64 d, .slice q M cv] 28)))
      have S2 := bv_string (HBY.out.below (two_below w (.cells #[.int .i64 a, .int .i64 b, .slice p L cu] 28) (.cells #[.int .i64 c, .int .i64 d, .slice q M cv] 28)))
      go_enter Try.func22, Try.ntmps22
      go_wp2_with fail
      all_goals
        go_ret
        exact ⟨ret_bool (by rw [HS.out]; simp), two_below _ _ _⟩
    · have d2 : (b == d) = false := by simp [e2]
      rw [d2] at HS
      clear e2
      go_enter Try.func22, Try.ntmps22
      go_wp2_with fail
      go_ret
      exact ⟨ret_bool (by rw [HS.out]; simp), two_below _ _ _⟩
  · have d1 : (a == c) = false := by simp [e1]
    rw [d1] at HS
    clear e1
    go_enter Try.func22, Try.ntmps22
    go_wp2_with fail
    go_ret
    exact ⟨ret_bool (by rw [HS.out]; simp), two_below _ _ _⟩
def fewB (n : Nt) : Bool := decide (n.q.length ≤ 40) && decide (n.a.length ≤ 40)
theorem few_any (v : Value) (n : Nt) (w : World) (h : NV F w v n) : Calls Try.prog 10 #[v] w (Ret (.bool (fewB n)) w) := by
  obtain ⟨pq, N, cq, pa, M, ca, rfl, HO, hq1, hq2, ha1, ha2⟩ := h.op
  have HF : Hid (fewB n = (decide (N ≤ 40) && decide (M ≤ 40))) := Lib.hid (by unfold fewB; rw [HO.out.nq, HO.out.na])
  clear h
  by_cases h1 : (N : Int) ≤ 40
  by_cases h2 : (M : Int) ≤ 40
  all_goals
    go_enter Try.func10, Try.ntmps10
    go_wp2_with fail
    go_ret
    exact ⟨ret_bool (by rw [HF.out]; simp; omega), one_new _ _⟩
end Go.Proofs.Ytpempgajejbdoaa
