/-
  Links: what happens (function 27), its variables.
-/
import Derived.Test.YtpempgajejbdoaaCts
namespace Go.Proofs.Ytpempgajejbdoaa
open Go Go.RowKit
variable {F : Nat → Prop}
/-- a move as data: kind, at, a, b, data -/
structure Mv where
  k : Nat
  i : Nat
  a : Nat
  b : Nat
  d : UInt8
def hapI (n : Nt) (m : Mv) : Int := if 0 < n.q.length then ((m.i % n.q.length : Nat) : Int) else 0
def hapA (m : Mv) : Int := ((m.a % 24 : Nat) : Int)
def hapB (m : Mv) : Int := ((m.b % 24 : Nat) : Int)
def hapN (n : Nt) (m : Mv) : Nt := match m.k % 6 with
  | 0 => sendN n (hapA m, hapB m, [m.d])
  | 1 => loseN n (hapI n m)
  | 2 => loseN n (hapI n m)
  | 3 => repN n (hapI n m)
  | 4 => cutN n (hapA m) (hapB m) true
  | _ => cutN n (hapA m) (hapB m) false
def hapE (n : Nt) (m : Mv) : Int := match m.k % 6 with
  | 0 => sendE n (hapA m, hapB m, [m.d])
  | 1 => askE n (hapI n m)
  | 2 => askE n (hapI n m)
  | 3 => repE n (hapI n m)
  | 4 => cutE n (hapA m) (hapB m)
  | _ => cutE n (hapA m) (hapB m)
def hapP (n : Nt) (m : Mv) : Pk := match m.k % 6 with
  | 1 => delP n (hapI n m)
  | _ => pk0
/-- the variables of a call of happens: the links, the move, and the two results -/
structure Bx4 (w w1 : World) (c0 c1 : Value) (ms : Array Value) (a b x y z : Value) : Prop where
  n0 : w1.cell? ⟨w.heap.size, 0, none⟩ = some c0
  n1 : w1.cell? ⟨w.heap.size, 1, none⟩ = some c1
  m : ∀ j u, ms[j]? = some u → w1.cell? ⟨w.heap.size + 1, j, none⟩ = some u
  r : w1.heap[w.heap.size + 2]? = some (.cells #[a, b] 25 (0, 0))
  p : w1.heap[w.heap.size + 3]? = some (.cells #[x, y, z] 28 (0, 0))
  hz : w.heap.size + 3 < w1.heap.size
  below : Below w.heap.size w w1
theorem Bx4.later {w w1 w2 : World} {c0 c1 : Value} {ms : Array Value} {a b x y z : Value} (h : Bx4 w w1 c0 c1 ms a b x y z) (hb : Below w1.heap.size w1 w2) : Bx4 w w2 c0 c1 ms a b x y z :=
  ⟨(bcells hb (by have := h.hz; omega) _).trans h.n0, (bcells hb (by have := h.hz; omega) _).trans h.n1, fun j u hj => (bcells hb (by have := h.hz; omega) _).trans (h.m j u hj), (hb.block _ (by have := h.hz; omega)).trans h.r, (hb.block _ h.hz).trans h.p, Nat.lt_of_lt_of_le h.hz hb.size, h.below.trans (hb.mono h.below.size)⟩
theorem Bx4.nt {w w1 w2 : World} {c0 c1 : Value} {ms : Array Value} {a b x y z a' b' : Value} (h : Bx4 w w1 c0 c1 ms a b x y z) (hr : w2.heap[w.heap.size + 2]? = some (.cells #[a', b'] 25 (0, 0))) (hc : Chg (w.heap.size + 2) w1 w2) : Bx4 w w2 c0 c1 ms a' b' x y z :=
  ⟨(hc.cell (by have := h.hz; omega) (by omega)).trans h.n0, (hc.cell (by have := h.hz; omega) (by omega)).trans h.n1, fun j u hj => (hc.cell (by have := h.hz; omega) (by omega)).trans (h.m j u hj), hr, (hc.block _ h.hz (by omega)).trans h.p, Nat.lt_of_lt_of_le h.hz hc.size, Chg.below h.below h.below.size (by omega) hc⟩
theorem Bx4.pk {w w1 w2 : World} {c0 c1 : Value} {ms : Array Value} {a b x y z x' y' z' : Value} (h : Bx4 w w1 c0 c1 ms a b x y z) (hp : w2.heap[w.heap.size + 3]? = some (.cells #[x', y', z'] 28 (0, 0))) (hc : Chg (w.heap.size + 3) w1 w2) : Bx4 w w2 c0 c1 ms a b x' y' z' :=
  ⟨(hc.cell (by have := h.hz; omega) (by omega)).trans h.n0, (hc.cell (by have := h.hz; omega) (by omega)).trans h.n1, fun j u hj => (hc.cell (by have := h.hz; omega) (by omega)).trans (h.m j u hj), (hc.block _ (by have := h.hz; omega) (by omega)).trans h.r, hp, Nat.lt_of_lt_of_le h.hz hc.size, Chg.below h.below h.below.size (by omega) hc⟩
theorem bx4 (w : World) (c0 c1 m0 m1 m2 m3 m4 a b x y z : Value) (T : TypeId) : Bx4 w ((((w.alloc (.cells #[c0, c1] 25)).alloc (.cells #[m0, m1, m2, m3, m4] T)).alloc (.cells #[a, b] 25)).alloc (.cells #[x, y, z] 28)) c0 c1 #[m0, m1, m2, m3, m4] a b x y z := by
  have e0 : ((((w.alloc (.cells #[c0, c1] 25)).alloc (.cells #[m0, m1, m2, m3, m4] T)).alloc (.cells #[a, b] 25)).alloc (.cells #[x, y, z] 28)).heap[w.heap.size]? = some (.cells #[c0, c1] 25) :=
    (heap_alloc_old _ _ (by simp <;> omega)).trans ((heap_alloc_old _ _ (by simp <;> omega)).trans ((heap_alloc_old _ _ (by simp)).trans (heap_alloc_new w _)))
  have e1 : ((((w.alloc (.cells #[c0, c1] 25)).alloc (.cells #[m0, m1, m2, m3, m4] T)).alloc (.cells #[a, b] 25)).alloc (.cells #[x, y, z] 28)).heap[w.heap.size + 1]? = some (.cells #[m0, m1, m2, m3, m4] T) := by
    have := heap_alloc_new (w.alloc (.cells #[c0, c1] 25)) (.cells #[m0, m1, m2, m3, m4] T)
    rw [World.size_alloc] at this
    exact (heap_alloc_old _ _ (by simp <;> omega)).trans ((heap_alloc_old _ _ (by simp)).trans this)
  have e2 : ((((w.alloc (.cells #[c0, c1] 25)).alloc (.cells #[m0, m1, m2, m3, m4] T)).alloc (.cells #[a, b] 25)).alloc (.cells #[x, y, z] 28)).heap[w.heap.size + 2]? = some (.cells #[a, b] 25) := by
    have := heap_alloc_new ((w.alloc (.cells #[c0, c1] 25)).alloc (.cells #[m0, m1, m2, m3, m4] T)) (.cells #[a, b] 25)
    rw [World.size_alloc, World.size_alloc] at this
    exact (heap_alloc_old _ _ (by simp)).trans this
  have e3 : ((((w.alloc (.cells #[c0, c1] 25)).alloc (.cells #[m0, m1, m2, m3, m4] T)).alloc (.cells #[a, b] 25)).alloc (.cells #[x, y, z] 28)).heap[w.heap.size + 3]? = some (.cells #[x, y, z] 28) := by
    have := heap_alloc_new (((w.alloc (.cells #[c0, c1] 25)).alloc (.cells #[m0, m1, m2, m3, m4] T)).alloc (.cells #[a, b] 25)) (.cells #[x, y, z] 28)
    rw [World.size_alloc, World.size_alloc, World.size_alloc] at this
    exact this
  refine ⟨by unfold World.cell?; simp only [e0]; rfl, by unfold World.cell?; simp only [e0]; rfl, fun j u hj => ?_, e2, e3, by simp, ?_⟩
  · unfold World.cell?
    simp only [e1]
    simpa using hj
  · exact (three_below w _ _ _).alloc (by simp <;> omega) _
theorem results_np {fn : Func} {p q r : Tmp} (h : fn.results = #[.cell q 25, .cell p 28, .tmp r]) (tmps : Array Value) (w : World) (g g' : Nat) (x y z c0 c1 e : Value) (hp : tmps.getD p undef = .pointer (some ⟨g, 0, none⟩)) (hq : tmps.getD q undef = .pointer (some ⟨g', 0, none⟩)) (he : tmps.getD r undef = e)
    (hg : w.heap[g]? = some (.cells #[x, y, z] 28 (0, 0))) (hg' : w.heap[g']? = some (.cells #[c0, c1] 25 (0, 0))) :
    (results fn tmps).run Try.prog w = .ok (.tuple #[.agg #[c0, c1], .agg #[x, y, z], e]) w := by
  have hp' : tmps[p]?.getD undef = .pointer (some ⟨g, 0, none⟩) := by simpa using hp
  have hq' : tmps[q]?.getD undef = .pointer (some ⟨g', 0, none⟩) := by simpa using hq
  have he' : tmps[r]?.getD undef = e := by simpa using he
  simp [results, h, hp', hq', he', asAddr, run_loadVar_row w g 28 28 #[x, y, z] (0, 0) _ hg Try.underlying28 rfl (by rw [info28]; rfl), run_loadVar_row w g' 25 25 #[c0, c1] (0, 0) _ hg' Try.underlying25 rfl (by rw [info25]; rfl)]
/-- it returns links, a packet and an error -/
def RetH (F : Nat → Prop) (n : Nt) (x : Pk) (e : Int) (w : World) (en : Ending) (w' : World) : Prop := ∃ v u, en = .returned (.tuple #[v, u, .int .i64 e]) ∧ NV (Nw F w) w' v n ∧ PKV (Nw F w) w' u x ∧ Below w.heap.size w w'
end Go.Proofs.Ytpempgajejbdoaa
