/-
  Links: Check, the program's, on all links.
-/
import Derived.Test.YtpempgajejbdoaaVap
namespace Go.Proofs.Ytpempgajejbdoaa
open Go Go.RowKit Go.Sort
variable {F : Nat → Prop}
def okQ (q : List Pk) : Bool := decide (q.length ≤ 4096) && q.all pkB
def okN (n : Nt) : Bool := okQ n.q && okA n.a
def chk (n : Nt) : Int := if okN n then 0 else 60
theorem chk_no {n : Nt} (h : okN n = false) : chk n = 60 := by unfold chk; rw [h]; rfl
theorem chk_ok {n : Nt} (h : okN n = true) : chk n = 0 := by unfold chk; rw [h]; rfl
theorem okN_len {n : Nt} (h : okN n = true) : n.q.length ≤ 4096 := by
  unfold okN okQ at h
  simp only [Bool.and_eq_true, decide_eq_true_eq] at h
  exact h.1.1
set_option maxHeartbeats 1000000 in
theorem check_any (v : Value) (n : Nt) (w : World) (h : NV F w v n) : Calls Try.prog 13 #[v] w (Ret (.int .i64 (chk n)) w) := by
  obtain ⟨pq, N, cq, pa, M, ca, rfl, HO, hq1, hq2, ha1, ha2⟩ := h.op
  clear h
  have HS : Hid (∀ w', Below w.heap.size w w' → Calls Try.prog 31 #[.slice pq N cq] w' (Ret (.bool (okQ n.q)) w')) := Lib.hid fun w' hb => vqueue_any _ _ w' (HO.out.below hb).que
  have HP : Hid (∀ w', Below w.heap.size w w' → Calls Try.prog 32 #[.slice pa M ca] w' (Ret (.bool (okA n.a)) w')) := Lib.hid fun w' hb => vapart_any _ _ w' (HO.out.below hb).apa
  have HC : Hid (chk n = if (okQ n.q && okA n.a) = true then 0 else 60) := Lib.hid rfl
  cases hs : okQ n.q
  all_goals
    cases hp : okA n.a
  all_goals
    rw [hs] at HS
    rw [hp] at HP
    rw [hs, hp] at HC
    clear hs hp
    go_enter Try.func13, Try.ntmps13
    go_wp2_with (first
      | (go_at_call 31; refine (HS.out _ (one_new _ _)).mono ?_; rintro e w1 ⟨rfl, hb1⟩; obtain ⟨c0, c1⟩ := boxed (Nat.lt_succ_self _) (hb1.mono (by simp)); have hz1 : w.heap.size < w1.heap.size := (by have := hb1.size; simp at this; omega); have HB := Lib.hid ((one_new w _).trans (hb1.mono (by simp))); clear hb1)
      | (go_at_call 32; refine (HP.out _ HB.out).mono ?_; rintro e w2 ⟨rfl, hb2⟩; have HB2 := Lib.hid (HB.out.trans (hb2.mono HB.out.size)); clear hb2 c0 c1))
  all_goals
    go_ret
    exact ⟨ret_int (by rw [HC.out]; rfl), by first | exact HB2.out | exact HB.out⟩
end Go.Proofs.Ytpempgajejbdoaa
