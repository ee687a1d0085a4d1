/-
  Decode of the codec, where bytes are left.
-/
import Derived.Test.YtaahmfmelmjahaaDcx
namespace Go.Proofs.Ytaahmfmelmjahaa
open Go Go.RowKit
/-- the reader returns this value, its elements under some header, and leaves r -/
def GotR (g b : Nat) (k n : Int) (s : ByteArray) (q : F) (r : List UInt8) (S : Nat → World → Value → F → Prop) (w : World) (e : Ending) (w' : World) : Prop :=
  ∃ p c, e = .returned (val k n s (.slice p q.len c)) ∧ S g w' (.slice p q.len c) q ∧ Rd w' g b r ∧ Chg g w w'
set_option maxHeartbeats 1000000 in
theorem dec_left (b N cap : Nat) (p : Option Addr) (l : List UInt8) (k n : Int) (s : ByteArray) (q : F) (r : List UInt8) (S : Nat → World → Value → F → Prop) (w : World) (hN : l.length = N) (hc : N ≤ cap) (hm : cap ≤ 9223372036854775807) (hb : BArg w b p l) (hr : r.length ≠ 0) (hr2 : r.length ≤ 9223372036854775807)
    (hv : ∀ (g : Nat) (w1 : World), Rd w1 g b l → Calls Try.prog 35 #[.pointer (some ⟨g, 0, none⟩), .int .i64 16] w1 (GotR g b k n s q r S w1)) :
    Calls Try.prog 18 #[.slice p N cap] w (DecNo w) := by
  have hmf : ∀ (fn : Fn) (first cap : Array Value) (w : World), (Instr.makeFunc fn first cap).run Try.prog w = .ok (.func fn first cap) w := fun _ _ _ _ => rfl
  have HX := Lib.hid (fun (c : Bool) (h : c = false) (w : World) => require_refuse h w)
  have HV := Lib.hid hv
  have HB := Lib.hid hb
  have HN := Lib.hid hN
  clear hv hb hN
  go_enter_defers Try.func18, Try.ntmps18
  go_wp2_with fail
  refine (HV.out _ _ (rd_begin HB.out HN.out)).mono ?_
  rintro e w1 ⟨pL, cL, rfl, _, ⟨p', hp', _⟩, hc1⟩
  have r0 : w1.cell? ⟨w.heap.size + 1 + 1, 0, none⟩ = some (.slice p' r.length r.length) := by simp [World.cell?, hp']
  obtain ⟨⟨a0, a1, a2, a3, c0⟩, ⟨f0, f1, f2, f3, g0⟩, ⟨x0, x1⟩, hb1⟩ := chg_cells hc1
  have X0 := Lib.hid x0
  have X1 := Lib.hid x1
  have HB1 := Lib.hid hb1
  clear hc1 hp' x0 x1 hb1
  generalize hL : Value.slice pL q.len cL = L at *
  generalize r.length = R at *
  subst hL
  go_wp2_with (go_at_call 36; refine (HX.out _ (by first | rfl | (simp; done) | (simp; omega)) _).mono ?_; rintro e w' ⟨rfl, hw⟩; subst w')
  have x0 : ((((w1.setCell ⟨w.heap.size, 0, none⟩ (.int .i64 k)).setCell ⟨w.heap.size, 1, none⟩ (.int .i64 n)).setCell ⟨w.heap.size, 2, none⟩ (.string s)).setCell ⟨w.heap.size, 3, none⟩ (.slice pL q.len cL)).heap[w.heap.size]? = some (.cells #[.int .i64 k, .int .i64 n, .string s, .slice pL q.len cL] 24 (0, 0)) := set_four X0.out
  have x1 : ((((w1.setCell ⟨w.heap.size, 0, none⟩ (.int .i64 k)).setCell ⟨w.heap.size, 1, none⟩ (.int .i64 n)).setCell ⟨w.heap.size, 2, none⟩ (.string s)).setCell ⟨w.heap.size, 3, none⟩ (.slice pL q.len cL)).heap[w.heap.size + 1]? = some (.cells #[.int .i64 0] 28 (0, 0)) := by
    simp [World.setCell, Array.getElem?_modify, X1.out]
  have hb1 : Below w.heap.size w ((((w1.setCell ⟨w.heap.size, 0, none⟩ (.int .i64 k)).setCell ⟨w.heap.size, 1, none⟩ (.int .i64 n)).setCell ⟨w.heap.size, 2, none⟩ (.string s)).setCell ⟨w.heap.size, 3, none⟩ (.slice pL q.len cL)) := (below_set (below_set (below_set (below_set HB1.out (Nat.le_refl _) _) (Nat.le_refl _) _) (Nat.le_refl _) _) (Nat.le_refl _) _)
  clear X0 X1 HB1 a0 a1 a2 a3 c0 f0 f1 f2 f3 g0 r0
  generalize ((((w1.setCell ⟨w.heap.size, 0, none⟩ (.int .i64 k)).setCell ⟨w.heap.size, 1, none⟩ (.int .i64 n)).setCell ⟨w.heap.size, 2, none⟩ (.string s)).setCell ⟨w.heap.size, 3, none⟩ (.slice pL q.len cL)) = w2 at *
  refine leaves_cons (f := 34) (args := #[.pointer (some ⟨w.heap.size, 0, none⟩), .pointer (some ⟨w.heap.size + 1, 0, none⟩)]) (by simp) (by simp [go_sem]) ?_
  refine (catch_panicking w.heap.size (w.heap.size + 1) _ _ _ _ _ _ _ w2 x0 x1 (by omega)).mono ?_
  rintro e u' w'' ⟨rfl, rfl, rfl⟩
  have hfin : Below w.heap.size w (((((w2.setCell ⟨w.heap.size, 0, none⟩ (.int .i64 0)).setCell ⟨w.heap.size, 1, none⟩ (.int .i64 0)).setCell ⟨w.heap.size, 2, none⟩ (.string ⟨#[]⟩)).setCell ⟨w.heap.size, 3, none⟩ (.slice none 0 0)).setCell ⟨w.heap.size + 1, 0, none⟩ (.int .i64 10)) := (below_set (below_set (below_set (below_set (below_set hb1 (Nat.le_refl _) _) (Nat.le_refl _) _) (Nat.le_refl _) _) (Nat.le_refl _) _) (Nat.le_succ _) _)
  have y0 : (((((w2.setCell ⟨w.heap.size, 0, none⟩ (.int .i64 0)).setCell ⟨w.heap.size, 1, none⟩ (.int .i64 0)).setCell ⟨w.heap.size, 2, none⟩ (.string ⟨#[]⟩)).setCell ⟨w.heap.size, 3, none⟩ (.slice none 0 0)).setCell ⟨w.heap.size + 1, 0, none⟩ (.int .i64 10)).heap[w.heap.size]? = some (.cells #[.int .i64 0, .int .i64 0, .string ⟨#[]⟩, .slice none 0 0] 24 (0, 0)) := by
    rw [Below.heap_setCell _ _ _ _ (by simp)]
    exact set_four x0
  have y1 : (((((w2.setCell ⟨w.heap.size, 0, none⟩ (.int .i64 0)).setCell ⟨w.heap.size, 1, none⟩ (.int .i64 0)).setCell ⟨w.heap.size, 2, none⟩ (.string ⟨#[]⟩)).setCell ⟨w.heap.size, 3, none⟩ (.slice none 0 0)).setCell ⟨w.heap.size + 1, 0, none⟩ (.int .i64 10)).heap[w.heap.size + 1]? = some (.cells #[.int .i64 10] 28 (0, 0)) := by
    simp [World.setCell, Array.getElem?_modify, x1]
  clear x0 x1 hb1
  generalize (((((w2.setCell ⟨w.heap.size, 0, none⟩ (.int .i64 0)).setCell ⟨w.heap.size, 1, none⟩ (.int .i64 0)).setCell ⟨w.heap.size, 2, none⟩ (.string ⟨#[]⟩)).setCell ⟨w.heap.size, 3, none⟩ (.slice none 0 0)).setCell ⟨w.heap.size + 1, 0, none⟩ (.int .i64 10)) = W at *
  have z0 : W.cell? ⟨w.heap.size, 0, none⟩ = some (.int .i64 0) := by simp [World.cell?, y0]
  have z1 : W.cell? ⟨w.heap.size, 1, none⟩ = some (.int .i64 0) := by simp [World.cell?, y0]
  have z2 : W.cell? ⟨w.heap.size, 2, none⟩ = some (.string ⟨#[]⟩) := by simp [World.cell?, y0]
  have z3 : W.cell? ⟨w.heap.size, 3, none⟩ = some (.slice none 0 0) := by simp [World.cell?, y0]
  have z4 : W.cell? ⟨w.heap.size + 1, 0, none⟩ = some (.int .i64 10) := by simp [World.cell?, y1]
  clear y0 y1
  have HF := Lib.hid hfin
  clear hfin
  simp [Leaves, settle, results, Try.results18, go_sem, z0, z1, z2, z3, z4]
  exact ⟨rfl, HF.out⟩
end Go.Proofs.Ytaahmfmelmjahaa
