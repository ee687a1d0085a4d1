/-
  Merkle: the chapter's examples, as data; Collide, where it returns nothing.
-/
import Derived.Test.YteeabenmfmeooaaDoorCn
namespace Go.Proofs.YteeabenmfmeooaaDoor
open Go Go.RowKit
set_option maxRecDepth 100000 in
theorem ne56 : (sha (leafT [5]) == sha (leafT [6])) = false := by decide +kernel
theorem plen_one (i : Nat) : plen i 1 = 0 := by unfold plen; rw [stepsL_nil (by omega)]; rfl
theorem climbB_one (i : Nat) (a : List UInt8) (p : List (List UInt8)) : climbB i 1 a p = sha (leafT a) := by unfold climbB; rw [stepsL_nil (by omega)]; rfl
theorem chk_one : chkP 1 0 0 = 0 := by
  unfold chkP
  rw [if_pos (by decide), show Int.toNat 0 = 0 from rfl, show Int.toNat 1 = 1 from rfl, plen_one]
  rfl
theorem climbD_one (a : List UInt8) : climbD 1 0 a [] = sha (leafT a) := by
  unfold climbD
  rw [if_pos (show chkP 1 0 ([] : List (List UInt8)).length = 0 from chk_one)]
  exact climbB_one 0 a []
theorem chk_none : chkP 0 0 0 = 1 := by unfold chkP; rw [if_neg (by decide)]
theorem climbD_none (a : List UInt8) : climbD 0 0 a [] = zeros := by unfold climbD; rw [if_neg (by rw [show ([] : List (List UInt8)).length = 0 from rfl, chk_none]; decide)]
theorem plen_two : plen 0 2 = 1 := by unfold plen; rw [stepsL_cons (by omega), stepsL_nil (by omega)]; rfl
theorem chk_short : chkP 2 0 0 = 70 := by
  unfold chkP
  rw [if_pos (by decide), show Int.toNat 0 = 0 from rfl, show Int.toNat 2 = 2 from rfl, plen_two]
  rfl
theorem climbD_short (a : List UInt8) : climbD 2 0 a [] = zeros := by unfold climbD; rw [if_neg (by rw [show ([] : List (List UInt8)).length = 0 from rfl, chk_short]; decide)]
theorem coll56 : collB 1 0 [5] [6] [] [] = false := by
  unfold collB
  rw [climbD_one, climbD_one, ne56]
  simp
theorem nextL_two (a b : List UInt8) : nextL [a, b] = [joinD [a, b]] := by
  unfold nextL
  rw [show ([a, b].length + 1) / 2 = 1 by simp]
  simp [List.range_succ, piece]
theorem nextL_three (a b c : List UInt8) : nextL [a, b, c] = [joinD [a, b], c] := by
  have h : joinD [c] = c := rfl
  unfold nextL
  rw [show ([a, b, c].length + 1) / 2 = 2 by simp]
  simp [List.range_succ, piece, h]
theorem rootD_two (a b : List UInt8) : rootD [a, b] = joinD [leafD a, leafD b] := by
  unfold rootD rootL
  rw [if_neg (by simp)]
  show topL [leafD a, leafD b] = _
  rw [topL_next (by simp), nextL_two, topL_one (by simp)]
  rfl
theorem pathL_one (a : List UInt8) : pathL 0 [a] = [] := by unfold pathL; rw [show [a].length = 1 from rfl, stepsL_nil (by omega)]; rfl
theorem pathL_three (a b c : List UInt8) : pathL 2 [a, b, c] = [rootD [a, b]] := by
  unfold pathL
  rw [show [a, b, c].length = 3 from rfl, stepsL_cons (by omega), stepsL_cons (by omega), stepsL_nil (by omega), rootD_two]
  show (pst (1, 2) (pst (2, 3) ([leafD a, leafD b, leafD c], []))).2 = _
  unfold pst
  rw [if_pos (by decide), if_neg (by decide)]
  show [(nextL [leafD a, leafD b, leafD c]).getD (oth 1) []] = _
  rw [nextL_three]
  rfl
theorem proveD_three (a b c : List UInt8) : proveD [a, b, c] 2 = [rootD [a, b]] ∧ proveE [a, b, c] 2 = 0 := by
  unfold proveD proveE
  have h : placeB ([a, b, c].length : Int) 2 = true := by show placeB (3 : Int) 2 = true; decide
  rw [if_pos h, if_pos h]
  exact ⟨pathL_three a b c, rfl⟩
theorem proveD_one (a : List UInt8) : proveD [a] 0 = [] ∧ proveE [a] 0 = 0 := by
  unfold proveD proveE
  have h : placeB ([a].length : Int) 0 = true := by show placeB (1 : Int) 0 = true; decide
  rw [if_pos h, if_pos h]
  exact ⟨pathL_one a, rfl⟩
theorem proveD_out (a b c : List UInt8) : proveD [a, b, c] 3 = [] ∧ proveE [a, b, c] 3 = 1 := by
  unfold proveD proveE
  have h : ¬ placeB ([a, b, c].length : Int) 3 = true := by show ¬ placeB (3 : Int) 3 = true; decide
  rw [if_neg h, if_neg h]
  exact ⟨rfl, rfl⟩
set_option maxRecDepth 100000 in
set_option maxHeartbeats 2000000 in
theorem Collide_no (n i : Int) (u v x y : Value) (a b : List UInt8) (p q : List (List UInt8)) (w : World) (hu : BV w u a) (hv' : BV w v b) (ha : a.length ≤ 1000000) (hb : b.length ≤ 1000000) (hx : LD w x p) (hy : LD w y q) (hp : D32 p) (hq : D32 q) (hk : KOK w) (hno : collB n i a b p q = false) :
    Calls Tryd.prog 19 #[.int .i64 n, .int .i64 i, u, v, x, y] w (NoneR w) := by
  have H := Lib.hid (collide_no n i u v x y a b p q w hu hv' ha hb hx hy hp hq hk hno)
  clear hu hv' hx hy hp hq hk hno
  go_enter Tryd.func19, Tryd.ntmps19
  go_wp2_with (go_at_call 33; refine H.out.mono ?_; rintro e w1 ⟨rfl, hb1⟩)
  go_ret3
  exact ⟨rfl, hb1⟩
end Go.Proofs.YteeabenmfmeooaaDoor
