/-
  Disks: slices.Grow of nil, and slices.Concat of two lists of writes.
-/
import Derived.Test.YtanmhjbeookfiaaFil
import Derived.Test.YtanmhjbeookfiaaOwnN
import Derived.Test.YtanmhjbeookfiaaSim1
namespace Go.Proofs.Ytanmhjbeookfiaa
open Go Go.RowKit
theorem info54 : (Try.prog.info? 54).map (fun i => (i.zero, i.size, i.bytes)) = some (some (.agg #[.int .i64 0, .slice none 0 0]), 2, 32) := by kernel_rfl
theorem inf54 : ∃ i, Try.prog.info? 54 = some i ∧ i.zero = some (.agg #[.int .i64 0, .slice none 0 0]) ∧ i.size = 2 ∧ i.bytes = 32 := by
  have h := info54
  cases hi : Try.prog.info? 54 with
  | none => rw [hi] at h; cases h
  | some i =>
    rw [hi] at h
    simp only [Option.map_some, Option.some.injEq, Prod.mk.injEq] at h
    exact ⟨i, rfl, h⟩
theorem zeros_sz (z : Array Value) (k : Nat) : (Builtin.zeroCells z k).size = k * z.size := by simp [Builtin.zeroCells]
open Simul in
theorem append_zero_cap {P : Program} {w : World} {ts : Array TypeId} {t elem : TypeId} {«as» : Array Value} {i : TypeInfo} {t0 t1 : TypeId} {kd : IntKind} {m : Int} {z : Value} (h0 : ts[0]? = some t0) (h1 : ts[1]? = some t1) (u0 : P.underlying t0 = some (.slice elem)) (u1 : P.underlying t1 = some (.int kd)) (a0 : «as»[0]? = some (.slice none 0 0)) (a1 : «as»[1]? = some (.int .i64 m))
    (hi : P.info? elem = some i) (hz : i.zero = some z) (hm0 : 0 < m) (hm : m ≤ 1048576) (hb : i.bytes ≤ 65536) (hs : 0 < i.size) :
    ∃ (c : Nat) (W : World), W.heap = w.heap ∧ W.os = w.os ∧ W.tape = w.tape ∧ W.output = w.output ∧ m.toNat ≤ c ∧ c ≤ maxLen ∧
      (Builtin.append_ ts t «as»).run P w = .ok (.slice (some ⟨w.heap.size, 0, none⟩) m.toNat c) (W.alloc (.cells (Builtin.zeroCells z.cells m.toNat ++ Builtin.zeroCells z.cells (c - m.toNat)) elem)) := by
  refine ⟨grownCap w m.toNat 0 elem, w.drew, rfl, rfl, rfl, rfl, ?_, grownCap_le_maxLen w m.toNat 0 elem (by unfold maxLen; omega), ?_⟩
  · exact grownCap_ge w m.toNat 0 elem
  have hw : IntKind.i64.wrap m = m := by rw [IntKind.wrap_i64]; omega
  have hmb : ¬ (m * (i.bytes : Int) > 2 ^ 48) := by
    have h1 : m * (i.bytes : Int) ≤ 1048576 * 65536 := Int.mul_le_mul hm (by omega) (by omega) (by omega)
    omega
  have hcap : Builtin.nextslicecap m.toNat 0 * i.bytes ≤ 2 ^ 48 := by
    have h1 := grow_le m.toNat 0 (by omega)
    have h2 : Builtin.nextslicecap m.toNat 0 * i.bytes ≤ (2 * 1048576 + 1024) * 65536 := Nat.mul_le_mul (by omega) hb
    omega
  have hms : ¬ (m.toNat * i.size = 0) := by
    have := Nat.mul_pos (show 0 < m.toNat by omega) hs
    omega
  have hold : ∀ W : World, (Builtin.firstCells i.size 0 (.slice none 0 0)).run P W = .ok #[] W := fun W => by simp [Builtin.firstCells]
  have q1 : ¬ (m < 0) := by omega
  have q2 : ¬ (281474976710656 < m * (i.bytes : Int)) := by simpa using hmb
  have q3 : ¬ (m ≤ 0) := by omega
  have q4 : ¬ (9223372036854775807 < m) := by omega
  have q5 : ¬ (281474976710656 < Builtin.nextslicecap m.toNat 0 * i.bytes) := by simpa using hcap
  have q6 : ¬ m.toNat = 0 := by omega
  have q7 : ¬ i.size = 0 := by omega
  have q8 : ((m.toNat : Nat) : Int) = m := by omega
  have q9 : max m 0 = m := by omega
  have hask : ∀ n W', (askRoom n).run P W' = .ok () W' := run_room
  simp [Builtin.append_, h0, h1, a0, a1, run_underlying u0, run_underlying u1, sizeOf, typeInfo, zeroValue, hi, hz, asInt, hw, q1, q2, q3, q4, q5, q9, hask, hold, newRow, asIntOf, Question.forced, grownCap]
  intro h
  exact absurd h hms
theorem zeros_run {w : World} (t : TypeId) (m : Nat) (hm0 : 0 < m) (hm : m ≤ 1048576) {i : TypeInfo} (hi : Try.prog.info? 54 = some i) (hz : i.zero = some (.agg #[.int .i64 0, .slice none 0 0])) (hsz : i.size = 2) (hby : i.bytes = 32) :
    ∃ (c : Nat) (W : World), W.heap = w.heap ∧ W.os = w.os ∧ W.tape = w.tape ∧ W.output = w.output ∧ m ≤ c ∧ c ≤ maxLen ∧
      (Builtin.append_ #[23, 3] t #[.slice none 0 0, .int .i64 (m : Int)]).run Try.prog w = .ok (.slice (some ⟨w.heap.size, 0, none⟩) m c) (W.alloc (.cells (Builtin.zeroCells (Value.agg #[.int .i64 0, .slice none 0 0]).cells m ++ Builtin.zeroCells (Value.agg #[.int .i64 0, .slice none 0 0]).cells (c - m)) 54)) := by
  obtain ⟨c, W, e1, e2, e3, e4, hc, hmx, hrun⟩ := append_zero_cap (P := Try.prog) (w := w) (ts := #[23, 3]) (t := t) («as» := #[.slice none 0 0, .int .i64 (m : Int)]) rfl rfl Try.underlying23 Try.underlying3 rfl rfl hi hz (by omega) (by omega) (by omega) (by omega)
  rw [Int.toNat_natCast] at hc hrun
  exact ⟨c, W, e1, e2, e3, e4, hc, hmx, hrun⟩
/-- append of zeros to nil -/
theorem wpList_zeros {ops : Array Oper} {rest : List Oper} {o : Oper} {a : Act} {w : World} {Q : Exit → Act → World → Prop} (hgd : o.guard = none) (s x : Operand) (ho : o.op = .call { callee := .builtin .append, args := #[s, x], argTypes := #[23, 3] }) (m : Nat)
    (hs : a.eval s = .slice none 0 0) (hx : a.eval x = .int .i64 (m : Int)) (hm0 : 0 < m) (hm : m ≤ 1048576)
    (h : ∀ (c : Nat) (w' : World), m ≤ c → c ≤ maxLen → OwnN 2 w' (.slice (some ⟨w.heap.size, 0, none⟩) 0 c) 0 [] → Below w.heap.size w w' → wpList Try.prog ops Q rest (a.put o.dst (.slice (some ⟨w.heap.size, 0, none⟩) m c)) w') : wpList Try.prog ops Q (o :: rest) a w := by
  obtain ⟨i, hi, hz, hsz, hby⟩ := inf54
  obtain ⟨c, W, e1, e2, e3, e4, hc, hmx, hrun⟩ := zeros_run (w := w) o.type m hm0 hm hi hz hsz hby
  have hcells : (Builtin.zeroCells (Value.agg #[.int .i64 0, .slice none 0 0]).cells m ++ Builtin.zeroCells (Value.agg #[.int .i64 0, .slice none 0 0]).cells (c - m)).size = c * 2 := by
    simp only [Array.size_append, zeros_sz]
    rw [← Nat.add_mul, show m + (c - m) = c by omega]
    rfl
  generalize hcs : (Builtin.zeroCells (Value.agg #[.int .i64 0, .slice none 0 0]).cells m ++ Builtin.zeroCells (Value.agg #[.int .i64 0, .slice none 0 0]).cells (c - m)) = cs at hrun hcells
  have hk : (W.alloc (.cells cs 54)).heap[w.heap.size]? = some (.cells cs 54) := by
    have := heap_alloc_new W (.cells cs 54)
    rwa [e1] at this
  have hb : Below w.heap.size w (W.alloc (.cells cs 54)) := by
    have h0 : Below w.heap.size w W := ⟨e2, e3, e4, by rw [e1]; exact Nat.le_refl _, fun k _ => by rw [e1]⟩
    exact h0.alloc (by rw [e1]; exact Nat.le_refl _) _
  refine wpList_plain hgd fun K hK => ?_
  unfold Oper.wp execOp
  simp only [ho, resolve, invoke, builtin, Sem.run_bind, Sem.run_pure, Result.andThen_ok, List.map_toArray, List.map_cons, List.map_nil, hs, hx, hrun]
  refine hK _ _ (h c _ hc hmx (.inr ⟨w.heap.size, c, rfl, ⟨Nat.zero_le _, hmx, (Array.getElem?_eq_some_iff.1 hk).1, by simp, fun j hj => ?_, fun j => by simp [World.frozen?, hk], fun j u hu => by simp at hu⟩⟩) hb)
  have : j < cs.size := by omega
  simp [World.cell?, hk, this]
end Go.Proofs.Ytanmhjbeookfiaa
