/-
  Disks: performed.
-/
import Derived.Test.YtanmhjbeookfiaaChk
namespace Go.Proofs.Ytanmhjbeookfiaa
open Go Go.RowKit
def many (d : D) : Int := if d.left = -1 then (d.p.length : Int) else if d.left < d.p.length then d.left else d.p.length
set_option maxHeartbeats 1000000 in
theorem performed_any (v : Value) (d : D) (w : World) (h : DV w v d) : Calls Try.prog 36 #[v] w (Ret (.int .i64 (many d)) w) := by
  obtain ⟨ps, N, cs, pp, M, cp, rfl, HO, hs1, hs2, hp1, hp2⟩ := h.op
  have HW := Lib.hid HO.out.left
  clear h
  by_cases h1 : d.left = -1
  · have HR : Hid (many d = (M : Int)) := Lib.hid (by unfold many; rw [if_pos h1, HO.out.m])
    have e1 : (d.left == -1) = true := by simp [h1]
    clear h1
    go_enter Try.func36, Try.ntmps36
    go_wp2_with fail
    go_ret
    exact ⟨ret_int HR.out.symm, one_new _ _⟩
  have e1 : (d.left == -1) = false := by simp [h1]
  by_cases h2 : d.left ≤ M
  · have HR : Hid (many d = d.left) := Lib.hid (by unfold many; rw [if_neg h1, HO.out.m]; split <;> omega)
    clear h1
    go_enter Try.func36, Try.ntmps36
    go_wp2_with fail
    go_ret
    exact ⟨ret_int HR.out.symm, one_new _ _⟩
  · have HR : Hid (many d = (M : Int)) := Lib.hid (by unfold many; rw [if_neg h1, HO.out.m, if_neg (by omega)])
    clear h1
    go_enter Try.func36, Try.ntmps36
    go_wp2_with fail
    go_ret
    exact ⟨ret_int HR.out.symm, one_new _ _⟩
end Go.Proofs.Ytanmhjbeookfiaa
