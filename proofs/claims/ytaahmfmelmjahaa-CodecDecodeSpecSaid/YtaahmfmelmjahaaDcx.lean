/-
  Decode of the codec: the deferred closure where the reader has panicked.
-/
import Derived.Test.YtaahmfmelmjahaaDec
import Derived.Test.YtaahmfmelmjahaaRdx
namespace Go.Proofs.Ytaahmfmelmjahaa
open Go Go.RowKit
theorem catch_panicking (k k' : Nat) (a b c d x : Value) (T T' : TypeId) (w : World) (h : w.heap[k]? = some (.cells #[a, b, c, d] T)) (h' : w.heap[k']? = some (.cells #[x] T')) (hk : k ≠ k') :
    CallsD Try.prog 34 #[.pointer (some ⟨k, 0, none⟩), .pointer (some ⟨k', 0, none⟩)] (.panicking bad) w fun e u' w' =>
      e = .returned (.tuple #[]) ∧ u' = .panicking [{ v := .iface 28 (.int .i64 10), recovered := true }] ∧
      w' = ((((w.setCell ⟨k, 0, none⟩ (.int .i64 0)).setCell ⟨k, 1, none⟩ (.int .i64 0)).setCell ⟨k, 2, none⟩ (.string ⟨#[]⟩)).setCell ⟨k, 3, none⟩ (.slice none 0 0)).setCell ⟨k', 0, none⟩ (.int .i64 10) := by
  have c0 : w.cell? ⟨k, 0, none⟩ = some a := by simp [World.cell?, h]
  have c1 : w.cell? ⟨k, 1, none⟩ = some b := by simp [World.cell?, h]
  have c2 : w.cell? ⟨k, 2, none⟩ = some c := by simp [World.cell?, h]
  have c3 : w.cell? ⟨k, 3, none⟩ = some d := by simp [World.cell?, h]
  have c4 : w.cell? ⟨k', 0, none⟩ = some x := by simp [World.cell?, h']
  have f0 : w.frozen? ⟨k, 0, none⟩ = false := by simp [World.frozen?, h]
  have f1 : w.frozen? ⟨k, 1, none⟩ = false := by simp [World.frozen?, h]
  have f2 : w.frozen? ⟨k, 2, none⟩ = false := by simp [World.frozen?, h]
  have f3 : w.frozen? ⟨k, 3, none⟩ = false := by simp [World.frozen?, h]
  have f4 : w.frozen? ⟨k', 0, none⟩ = false := by simp [World.frozen?, h']
  clear h h'
  refine callsD_of_wpS Try.func34 rfl fun c₀ cs hu => ?_
  apply wpS_seq
  apply wpS_region
  simp [wpOpsS, go_sem, recoverD, hu, bad, Try.ntmps34, Exit.thenS]
  refine wpS_cond (t := true) (by simp [Act.eval, Array.replicate]) ?_
  simp only [if_true]
  apply wpS_region
  simp [wpOpsS, go_sem, c0, c1, c2, c3, c4, f0, f1, f2, f3, f4, hk, Ne.symm hk, bodyPostS, results, Try.results34]
/-- a slice of bytes that is handed in -/
def BArg (w : World) (b : Nat) (p : Option Addr) (l : List UInt8) : Prop := l = [] ∨ ∃ o, p = some ⟨b, o, none⟩ ∧ b < w.heap.size ∧ ∀ (j : Nat) (c : UInt8), l[j]? = some c → w.cell? ⟨b, o + j, none⟩ = some (byt c)
theorem rd_begin {w : World} {b N : Nat} {p : Option Addr} {l : List UInt8} {A B : Obj} (h : BArg w b p l) (hN : l.length = N) :
    Rd (((w.alloc A).alloc B).alloc (.cells #[.slice p N N] 56)) (w.heap.size + 1 + 1) b l := by
  subst hN
  refine ⟨p, ?_, ?_⟩
  · have := heap_alloc_new ((w.alloc A).alloc B) (.cells #[.slice p l.length l.length] 56)
    simpa using this
  · rcases h with h | ⟨o, e, hlt, hc⟩
    · exact .inl h
    · refine .inr ⟨o, e, by omega, by simp; omega, fun j c hj => ?_⟩
      rw [World.cell?_alloc_lt _ _ _ (by simp; omega), World.cell?_alloc_lt _ _ _ (by simp; omega), World.cell?_alloc_lt _ _ _ hlt]
      exact hc j c hj
def DecNo (w : World) (e : Ending) (w' : World) : Prop := e = .returned (.tuple #[val 0 0 ⟨#[]⟩ (.slice none 0 0), .int .i64 10]) ∧ Below w.heap.size w w'
set_option maxHeartbeats 1000000 in
/-- the reader panics: the zero value, and the error -/
theorem dec_refused (b N cap : Nat) (p : Option Addr) (l : List UInt8) (w : World) (hN : l.length = N) (hc : N ≤ cap) (hm : cap ≤ 9223372036854775807) (hb : BArg w b p l)
    (hv : ∀ (g : Nat) (w1 : World), Rd w1 g b l → Calls Try.prog 35 #[.pointer (some ⟨g, 0, none⟩), .int .i64 16] w1 (Refused g w1)) :
    Calls Try.prog 18 #[.slice p N cap] w (DecNo w) := by
  have hmf : ∀ (fn : Fn) (first cap : Array Value) (w : World), (Instr.makeFunc fn first cap).run Try.prog w = .ok (.func fn first cap) w := fun _ _ _ _ => rfl
  have HV := Lib.hid hv
  have HB := Lib.hid hb
  have HN := Lib.hid hN
  clear hv hb hN
  go_enter_defers Try.func18, Try.ntmps18
  go_wp2_with fail
  refine (HV.out _ _ (rd_begin HB.out HN.out)).mono ?_
  rintro e w1 ⟨rfl, hc1⟩
  obtain ⟨_, _, ⟨x0, x1⟩, hb1⟩ := chg_cells hc1
  clear hc1
  refine leaves_cons (f := 34) (args := #[.pointer (some ⟨w.heap.size, 0, none⟩), .pointer (some ⟨w.heap.size + 1, 0, none⟩)]) (by simp) (by simp [go_sem]) ?_
  refine (catch_panicking w.heap.size (w.heap.size + 1) _ _ _ _ _ _ _ w1 x0 x1 (by omega)).mono ?_
  rintro e u' w'' ⟨rfl, rfl, rfl⟩
  have hfin : Below w.heap.size w (((((w1.setCell ⟨w.heap.size, 0, none⟩ (.int .i64 0)).setCell ⟨w.heap.size, 1, none⟩ (.int .i64 0)).setCell ⟨w.heap.size, 2, none⟩ (.string ⟨#[]⟩)).setCell ⟨w.heap.size, 3, none⟩ (.slice none 0 0)).setCell ⟨w.heap.size + 1, 0, none⟩ (.int .i64 10)) := (below_set (below_set (below_set (below_set (below_set hb1 (Nat.le_refl _) _) (Nat.le_refl _) _) (Nat.le_refl _) _) (Nat.le_refl _) _) (Nat.le_succ _) _)
  have y0 : (((((w1.setCell ⟨w.heap.size, 0, none⟩ (.int .i64 0)).setCell ⟨w.heap.size, 1, none⟩ (.int .i64 0)).setCell ⟨w.heap.size, 2, none⟩ (.string ⟨#[]⟩)).setCell ⟨w.heap.size, 3, none⟩ (.slice none 0 0)).setCell ⟨w.heap.size + 1, 0, none⟩ (.int .i64 10)).heap[w.heap.size]? = some (.cells #[.int .i64 0, .int .i64 0, .string ⟨#[]⟩, .slice none 0 0] 24 (0, 0)) := by
    rw [Below.heap_setCell _ _ _ _ (by simp)]
    exact set_four x0
  have y1 : (((((w1.setCell ⟨w.heap.size, 0, none⟩ (.int .i64 0)).setCell ⟨w.heap.size, 1, none⟩ (.int .i64 0)).setCell ⟨w.heap.size, 2, none⟩ (.string ⟨#[]⟩)).setCell ⟨w.heap.size, 3, none⟩ (.slice none 0 0)).setCell ⟨w.heap.size + 1, 0, none⟩ (.int .i64 10)).heap[w.heap.size + 1]? = some (.cells #[.int .i64 10] 28 (0, 0)) := by
    simp [World.setCell, Array.getElem?_modify, x1]
  clear x0 x1 hb1
  generalize (((((w1.setCell ⟨w.heap.size, 0, none⟩ (.int .i64 0)).setCell ⟨w.heap.size, 1, none⟩ (.int .i64 0)).setCell ⟨w.heap.size, 2, none⟩ (.string ⟨#[]⟩)).setCell ⟨w.heap.size, 3, none⟩ (.slice none 0 0)).setCell ⟨w.heap.size + 1, 0, none⟩ (.int .i64 10)) = W at *
  have z0 : W.cell? ⟨w.heap.size, 0, none⟩ = some (.int .i64 0) := by simp [World.cell?, y0]
  have z1 : W.cell? ⟨w.heap.size, 1, none⟩ = some (.int .i64 0) := by simp [World.cell?, y0]
  have z2 : W.cell? ⟨w.heap.size, 2, none⟩ = some (.string ⟨#[]⟩) := by simp [World.cell?, y0]
  have z3 : W.cell? ⟨w.heap.size, 3, none⟩ = some (.slice none 0 0) := by simp [World.cell?, y0]
  have z4 : W.cell? ⟨w.heap.size + 1, 0, none⟩ = some (.int .i64 10) := by simp [World.cell?, y1]
  clear y0 y1
  have HF := Lib.hid hfin
  clear hfin
  simp [Leaves, settle, results, Try.results18, go_sem, z0, z1, z2, z3, z4]
  exact ⟨rfl, HF.out⟩
end Go.Proofs.Ytaahmfmelmjahaa
