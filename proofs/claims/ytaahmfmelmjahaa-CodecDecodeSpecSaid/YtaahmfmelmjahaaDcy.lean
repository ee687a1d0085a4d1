/-
  Decode of the codec, where all bytes are read.
-/
import Derived.Test.YtaahmfmelmjahaaDcl
namespace Go.Proofs.Ytaahmfmelmjahaa
open Go Go.RowKit
/-- it returns the value, OK; its elements lie as the reader left them, but for the two result cells -/
def DecYes (k n : Int) (s : ByteArray) (q : F) (S : World → Value → Prop) (w : World) (e : Ending) (w' : World) : Prop :=
  ∃ p c, e = .returned (.tuple #[val k n s (.slice p q.len c), .int .i64 0]) ∧ Below w.heap.size w w' ∧
    ∃ w1, S w1 (.slice p q.len c) ∧ w1.heap.size ≤ w'.heap.size ∧ ∀ j, j ≠ w.heap.size → j ≠ w.heap.size + 1 → w'.heap[j]? = w1.heap[j]?
set_option maxHeartbeats 1000000 in
theorem dec_done (b N cap : Nat) (p : Option Addr) (l : List UInt8) (k n : Int) (s : ByteArray) (q : F) (r : List UInt8) (S : Nat → World → Value → F → Prop) (w : World) (hN : l.length = N) (hc : N ≤ cap) (hm : cap ≤ 9223372036854775807) (hb : BArg w b p l) (hr : r.length = 0)
    (hv : ∀ (g : Nat) (w1 : World), Rd w1 g b l → Calls Try.prog 35 #[.pointer (some ⟨g, 0, none⟩), .int .i64 16] w1 (GotR g b k n s q r S w1)) :
    Calls Try.prog 18 #[.slice p N cap] w (DecYes k n s q (fun w' L => S (w.heap.size + 1 + 1) w' L q) w) := by
  have hmf : ∀ (fn : Fn) (first cap : Array Value) (w : World), (Instr.makeFunc fn first cap).run Try.prog w = .ok (.func fn first cap) w := fun _ _ _ _ => rfl
  have HX := Lib.hid (fun (c : Bool) (h : c = true) (w : World) => require_of h w)
  have HV := Lib.hid hv
  have HB := Lib.hid hb
  have HN := Lib.hid hN
  clear hv hb hN
  go_enter_defers Try.func18, Try.ntmps18
  go_wp2_with fail
  refine (HV.out _ _ (rd_begin HB.out HN.out)).mono ?_
  rintro e w1 ⟨pL, cL, rfl, hS, ⟨p', hp', _⟩, hc1⟩
  have HSS := Lib.hid hS
  clear hS
  have r0 : w1.cell? ⟨w.heap.size + 1 + 1, 0, none⟩ = some (.slice p' r.length r.length) := by simp [World.cell?, hp']
  obtain ⟨⟨a0, a1, a2, a3, c0⟩, ⟨f0, f1, f2, f3, g0⟩, ⟨x0, x1⟩, hb1⟩ := chg_cells hc1
  have X0 := Lib.hid x0
  have X1 := Lib.hid x1
  have HB1 := Lib.hid hb1
  clear hc1 hp' x0 x1 hb1
  rw [hr] at r0
  go_wp2_with (go_at_call 36; refine (HX.out _ (by first | rfl | (simp; done) | (simp; omega)) _).mono ?_; rintro e w' ⟨rfl, hw⟩; subst w')
  refine leaves_cons (f := 34) (args := #[.pointer (some ⟨w.heap.size, 0, none⟩), .pointer (some ⟨w.heap.size + 1, 0, none⟩)]) (by simp) (by simp [go_sem]) ?_
  refine (catch_idle ⟨w.heap.size, 0, none⟩ ⟨w.heap.size + 1, 0, none⟩ _).mono ?_
  rintro e u' w'' ⟨rfl, rfl, rfl⟩
  have hfin : Below w.heap.size w (((((((((w1.setCell ⟨w.heap.size, 0, none⟩ (.int .i64 k)).setCell ⟨w.heap.size, 1, none⟩ (.int .i64 n)).setCell ⟨w.heap.size, 2, none⟩ (.string s)).setCell ⟨w.heap.size, 3, none⟩ (.slice pL q.len cL)).setCell ⟨w.heap.size, 0, none⟩ (.int .i64 k)).setCell ⟨w.heap.size, 1, none⟩ (.int .i64 n)).setCell ⟨w.heap.size, 2, none⟩ (.string s)).setCell ⟨w.heap.size, 3, none⟩ (.slice pL q.len cL)).setCell ⟨w.heap.size + 1, 0, none⟩ (.int .i64 0)) := (below_set (below_set (below_set (below_set (below_set (below_set (below_set (below_set (below_set HB1.out (Nat.le_refl _) _) (Nat.le_refl _) _) (Nat.le_refl _) _) (Nat.le_refl _) _) (Nat.le_refl _) _) (Nat.le_refl _) _) (Nat.le_refl _) _) (Nat.le_refl _) _) (Nat.le_succ _) _)
  have y0 : (((((((((w1.setCell ⟨w.heap.size, 0, none⟩ (.int .i64 k)).setCell ⟨w.heap.size, 1, none⟩ (.int .i64 n)).setCell ⟨w.heap.size, 2, none⟩ (.string s)).setCell ⟨w.heap.size, 3, none⟩ (.slice pL q.len cL)).setCell ⟨w.heap.size, 0, none⟩ (.int .i64 k)).setCell ⟨w.heap.size, 1, none⟩ (.int .i64 n)).setCell ⟨w.heap.size, 2, none⟩ (.string s)).setCell ⟨w.heap.size, 3, none⟩ (.slice pL q.len cL)).setCell ⟨w.heap.size + 1, 0, none⟩ (.int .i64 0)).heap[w.heap.size]? = some (.cells #[.int .i64 k, .int .i64 n, .string s, .slice pL q.len cL] 24 (0, 0)) := by
    rw [Below.heap_setCell _ _ _ _ (by simp)]
    exact set_four (set_four X0.out)
  have y1 : (((((((((w1.setCell ⟨w.heap.size, 0, none⟩ (.int .i64 k)).setCell ⟨w.heap.size, 1, none⟩ (.int .i64 n)).setCell ⟨w.heap.size, 2, none⟩ (.string s)).setCell ⟨w.heap.size, 3, none⟩ (.slice pL q.len cL)).setCell ⟨w.heap.size, 0, none⟩ (.int .i64 k)).setCell ⟨w.heap.size, 1, none⟩ (.int .i64 n)).setCell ⟨w.heap.size, 2, none⟩ (.string s)).setCell ⟨w.heap.size, 3, none⟩ (.slice pL q.len cL)).setCell ⟨w.heap.size + 1, 0, none⟩ (.int .i64 0)).heap[w.heap.size + 1]? = some (.cells #[.int .i64 0] 28 (0, 0)) := by
    simp [World.setCell, Array.getElem?_modify, X1.out]
  have y2 : w1.heap.size ≤ (((((((((w1.setCell ⟨w.heap.size, 0, none⟩ (.int .i64 k)).setCell ⟨w.heap.size, 1, none⟩ (.int .i64 n)).setCell ⟨w.heap.size, 2, none⟩ (.string s)).setCell ⟨w.heap.size, 3, none⟩ (.slice pL q.len cL)).setCell ⟨w.heap.size, 0, none⟩ (.int .i64 k)).setCell ⟨w.heap.size, 1, none⟩ (.int .i64 n)).setCell ⟨w.heap.size, 2, none⟩ (.string s)).setCell ⟨w.heap.size, 3, none⟩ (.slice pL q.len cL)).setCell ⟨w.heap.size + 1, 0, none⟩ (.int .i64 0)).heap.size ∧ ∀ j, j ≠ w.heap.size → j ≠ w.heap.size + 1 → (((((((((w1.setCell ⟨w.heap.size, 0, none⟩ (.int .i64 k)).setCell ⟨w.heap.size, 1, none⟩ (.int .i64 n)).setCell ⟨w.heap.size, 2, none⟩ (.string s)).setCell ⟨w.heap.size, 3, none⟩ (.slice pL q.len cL)).setCell ⟨w.heap.size, 0, none⟩ (.int .i64 k)).setCell ⟨w.heap.size, 1, none⟩ (.int .i64 n)).setCell ⟨w.heap.size, 2, none⟩ (.string s)).setCell ⟨w.heap.size, 3, none⟩ (.slice pL q.len cL)).setCell ⟨w.heap.size + 1, 0, none⟩ (.int .i64 0)).heap[j]? = w1.heap[j]? := by
    refine ⟨by simp [World.setCell], fun j h1 h2 => ?_⟩
    simp only [World.setCell, Array.getElem?_modify]
    simp [Ne.symm h1, Ne.symm h2]
  clear a0 a1 a2 a3 c0 f0 f1 f2 f3 g0 r0 X0 X1 HB1
  generalize (((((((((w1.setCell ⟨w.heap.size, 0, none⟩ (.int .i64 k)).setCell ⟨w.heap.size, 1, none⟩ (.int .i64 n)).setCell ⟨w.heap.size, 2, none⟩ (.string s)).setCell ⟨w.heap.size, 3, none⟩ (.slice pL q.len cL)).setCell ⟨w.heap.size, 0, none⟩ (.int .i64 k)).setCell ⟨w.heap.size, 1, none⟩ (.int .i64 n)).setCell ⟨w.heap.size, 2, none⟩ (.string s)).setCell ⟨w.heap.size, 3, none⟩ (.slice pL q.len cL)).setCell ⟨w.heap.size + 1, 0, none⟩ (.int .i64 0)) = W at *
  have z0 : W.cell? ⟨w.heap.size, 0, none⟩ = some (.int .i64 k) := by simp [World.cell?, y0]
  have z1 : W.cell? ⟨w.heap.size, 1, none⟩ = some (.int .i64 n) := by simp [World.cell?, y0]
  have z2 : W.cell? ⟨w.heap.size, 2, none⟩ = some (.string s) := by simp [World.cell?, y0]
  have z3 : W.cell? ⟨w.heap.size, 3, none⟩ = some (.slice pL q.len cL) := by simp [World.cell?, y0]
  have z4 : W.cell? ⟨w.heap.size + 1, 0, none⟩ = some (.int .i64 0) := by simp [World.cell?, y1]
  clear y0 y1
  have HF := Lib.hid hfin
  have HY := Lib.hid y2
  clear hfin y2
  simp [Leaves, settle, results, Try.results18, go_sem, z0, z1, z2, z3, z4]
  exact ⟨pL, cL, rfl, HF.out, w1, HSS.out, HY.out⟩
end Go.Proofs.Ytaahmfmelmjahaa
