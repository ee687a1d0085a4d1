/-
  The writer of the codec: its state in memory, and numerals that are written.
-/
import Derived.Test.YtaahmfmelmjahaaNum
import Derived.Test.YtaahmfmelmjahaaOwn
namespace Go.Proofs.Ytaahmfmelmjahaa
open Go Go.RowKit
/-- a byte as a value -/
def byt (c : UInt8) : Value := .int .u8 (c.toNat : Int)
/-- the writer at block b has written l; its slice is v -/
structure WSt (w : World) (b : Nat) (v : Value) (l : List UInt8) : Prop where
  blk : w.heap[b]? = some (.cells #[v, .nilFunc, .func (.func 40) #[] #[], .func (.func 41) #[] #[], .func (.func 42) #[] #[]] 51 (0, 0))
  own : Own w v (l.map byt)
  ne : v.ownBlock ≠ some b
/-- only the writer, and what its slice leads to, have changed -/
structure Wrote (b : Nat) (v : Value) (w : World) (v' : Value) (w' : World) : Prop where
  os : w'.os = w.os
  tape : w'.tape = w.tape
  output : w'.output = w.output
  size : w.heap.size ≤ w'.heap.size
  block : ∀ k, k < w.heap.size → k ≠ b → some k ≠ v.ownBlock → w'.heap[k]? = w.heap[k]?
  own : ∀ k, v'.ownBlock = some k → v.ownBlock = some k ∨ w.heap.size ≤ k
theorem Wrote.refl (b : Nat) (v : Value) (w : World) : Wrote b v w v w := ⟨rfl, rfl, rfl, Nat.le_refl _, fun _ _ _ _ => rfl, fun _ h => .inl h⟩
theorem Wrote.trans {b : Nat} {v v1 v2 : Value} {w w1 w2 : World} (h : Wrote b v w v1 w1) (k : Wrote b v1 w1 v2 w2) : Wrote b v w v2 w2 :=
  ⟨k.os.trans h.os, k.tape.trans h.tape, k.output.trans h.output, Nat.le_trans h.size k.size, fun j hj hb hv => by
    rw [k.block j (Nat.lt_of_lt_of_le hj h.size) hb (fun e => by
      rcases h.own j e.symm with e1 | e1
      · exact hv e1.symm
      · omega)]
    exact h.block j hj hb hv, fun j hj => by
    rcases k.own j hj with e | e
    · exact h.own j e
    · exact .inr (Nat.le_trans h.size e)⟩
/-- .. where the call has made other blocks too -/
theorem Wrote.alloc {b : Nat} {v v' : Value} {w w' : World} {o : Obj} (h : Wrote b v (w.alloc o) v' w') : Wrote b v w v' w' :=
  ⟨h.os, h.tape, h.output, by have := h.size; simp at this; omega, fun k hk hb hv => by
    rw [h.block k (by simp; omega) hb hv]
    exact heap_alloc_old w o hk, fun k hk => by
    rcases h.own k hk with e | e
    · exact .inl e
    · exact .inr (by simp at e; omega)⟩
theorem WSt.alloc {w : World} {b : Nat} {v : Value} {l : List UInt8} (h : WSt w b v l) (o : Obj) : WSt (w.alloc o) b v l :=
  ⟨by rw [heap_alloc_old w o (Array.getElem?_eq_some_iff.1 h.blk).1]; exact h.blk, h.own.alloc o, h.ne⟩
theorem WSt.lt {w : World} {b : Nat} {v : Value} {l : List UInt8} (h : WSt w b v l) : b < w.heap.size := (Array.getElem?_eq_some_iff.1 h.blk).1
theorem WSt.cell {w : World} {b : Nat} {v : Value} {l : List UInt8} (h : WSt w b v l) : w.cell? ⟨b, 0, none⟩ = some v ∧ w.frozen? ⟨b, 0, none⟩ = false := by
  refine ⟨?_, ?_⟩
  · simp [World.cell?, h.blk]
  · simp [World.frozen?, h.blk]
/-- behind an append and the store of its result -/
theorem WSt.step {w w' : World} {b : Nat} {v v' : Value} {l new : List UInt8} {g n cap : Nat} (h : WSt w b v l) (hown : Own w' v' (l.map byt ++ new.map byt)) (hg : w.grownBy w' v.ownBlock)
    (hnew : v'.ownBlock = v.ownBlock ∨ ∃ k, v'.ownBlock = some k ∧ w.heap.size ≤ k) (hv : v' = .slice (some ⟨g, 0, none⟩) n cap) :
    WSt (w'.setCell ⟨b, 0, none⟩ v') b v' (l ++ new) ∧ Wrote b v w v' (w'.setCell ⟨b, 0, none⟩ v') := by
  have hlt := h.lt
  have hb' : w'.heap[b]? = w.heap[b]? := hg.block b hlt (fun e => h.ne e.symm)
  have hne : v'.ownBlock ≠ some b := by
    rcases hnew with e | ⟨k, e, hk⟩
    · rw [e]; exact h.ne
    · rw [e]
      intro e2
      have : k = b := by simpa using e2
      omega
  have hblk : (w'.setCell ⟨b, 0, none⟩ v').heap[b]? = some (.cells #[v', .nilFunc, .func (.func 40) #[] #[], .func (.func 41) #[] #[], .func (.func 42) #[] #[]] 51 (0, 0)) := by
    simp only [World.setCell, Array.getElem?_modify, if_true, hb', h.blk]
    rfl
  have hoth : ∀ k, k ≠ b → (w'.setCell ⟨b, 0, none⟩ v').heap[k]? = w'.heap[k]? := fun k hk => Below.heap_setCell _ _ _ _ hk
  have hsz : (w'.setCell ⟨b, 0, none⟩ v').heap.size = w'.heap.size := by simp [World.setCell]
  refine ⟨⟨hblk, ?_, hne⟩, ⟨hg.os, hg.tape, hg.output, by rw [hsz]; exact hg.size, fun k hk hkb hkv => ?_, fun k hk => ?_⟩⟩
  · rw [List.map_append]
    exact hown.keep (by rw [hsz]; exact Nat.le_refl _) fun k hk => hoth k (fun e => hne (by rw [hk, e]))
  · rw [hoth k hkb]
    exact hg.block k hk hkv
  · rcases hnew with e | ⟨j, e, hj⟩
    · exact .inl (by rw [← e]; exact hk)
    · right
      rw [e] at hk
      have : j = k := by simpa using hk
      omega
theorem Try.info5 : (Try.prog.info? 5).map (fun i => (i.zero, i.size, i.bytes)) = some (some (.int .u8 0), 1, 1) := by kernel_rfl
theorem src_one {w : World} {g : Nat} {x : Value} (hc : w.cell? ⟨g, 0, none⟩ = some x) (h1 : x.oneCell' = true) : Src Try.prog 1 27 (.slice (some ⟨g, 0, none⟩) 1 1) 1 [x] w :=
  Src.ofSlice w Try.underlying27 ⟨g, 0, none⟩ 1 1 [x] rfl (fun j u hj => by
    match j, hj with
    | 0, hj =>
      simp at hj
      subst hj
      simpa [Addr.add] using hc) (fun u hu => by simp at hu; subst hu; exact h1)
theorem byt_ofNat {x : Nat} (h : x < 256) : byt (UInt8.ofNat x) = .int .u8 (x : Int) := by
  unfold byt
  rw [UInt8.toNat_ofNat_of_lt' h]
/-- what stands behind an append of one byte to the writer's slice, before the store -/
theorem WSt.after {w w' : World} {b : Nat} {v v' : Value} {l : List UInt8} {c : UInt8} {x : Value} {o : Obj} (h : WSt w b v l) (hx : x = byt c) (hown : Own w' v' (l.map byt ++ [x])) (hg : (w.alloc o).grownBy w' v.ownBlock)
    (hnew0 : v'.ownBlock = v.ownBlock ∨ ∃ k, v'.ownBlock = some k ∧ w.heap.size + 1 ≤ k) :
    ∃ g cap n, v' = .slice (some ⟨g, 0, none⟩) n cap ∧ w'.cell? ⟨b, 0, none⟩ = some v ∧ w'.frozen? ⟨b, 0, none⟩ = false ∧
      WSt (w'.setCell ⟨b, 0, none⟩ (.slice (some ⟨g, 0, none⟩) n cap)) b (.slice (some ⟨g, 0, none⟩) n cap) (l ++ [c]) ∧ Wrote b v w (.slice (some ⟨g, 0, none⟩) n cap) (w'.setCell ⟨b, 0, none⟩ (.slice (some ⟨g, 0, none⟩) n cap)) := by
  subst hx
  have hnew : v'.ownBlock = v.ownBlock ∨ ∃ k, v'.ownBlock = some k ∧ (w.alloc o).heap.size ≤ k := by simpa using hnew0
  have h1 := h.alloc o
  obtain ⟨c0, f0⟩ := h1.cell
  have hb' : w'.heap[b]? = (w.alloc o).heap[b]? := hg.block b h1.lt (fun e => h.ne e.symm)
  obtain ⟨g, cap, e, _⟩ := hown.form (by simp)
  generalize (l.map byt ++ [byt c]).length = n at e
  subst e
  obtain ⟨s1, s2⟩ := h1.step (new := [c]) hown hg hnew rfl
  exact ⟨g, cap, n, rfl, by rw [World.cell?_of_block (w := w.alloc o) (a := ⟨b, 0, none⟩) hb']; exact c0, by rw [World.frozen?_of_block (w := w.alloc o) (a := ⟨b, 0, none⟩) hb']; exact f0, s1, s2.alloc⟩
set_option maxRecDepth 100000 in
set_option maxHeartbeats 1000000 in
theorem wnum_any (b u : Nat) (v : Value) (l : List UInt8) (w : World) (hu : U64 u) (h : WSt w b v l) (hlen : l.length + 10 ≤ 1099511627999) :
    Calls Try.prog 55 #[.pointer (some ⟨b, 0, none⟩), .int .u64 u] w fun e w' => e = .returned (.tuple #[]) ∧ ∃ v', WSt w' b v' (l ++ num u) ∧ Wrote b v w v' w' := by
  obtain ⟨i0, hi, hz0, hz1, hz2⟩ := info_parts Try.info5
  have hs := BdF.start hu
  go_enter Try.func55, Try.ntmps55
  go_wp2_with fail
  go_loopw [1] (fun x wr => ∃ (f y : Nat) (vr : Value) (pre : List UInt8), y ≤ 18446744073709551615 ∧ x = .int .u64 y ∧ BdF f y ∧ Hid (pre.length + f = 9) ∧ Hid (num u = pre ++ numF (f + 1) y) ∧ WSt wr b vr (l ++ pre) ∧ Wrote b v w vr wr) (fun x _ => (intOf x).toNat)
  case atStart => exact ⟨9, u, v, [], by unfold U64 at hu; omega, rfl, hs, rfl, rfl, by simpa using h, Wrote.refl _ _ _⟩
  case round =>
    obtain ⟨f, y, vr, pre, hy, rfl, hbd, hf, hnum, hst, hwr⟩ := hrel
    obtain ⟨c0, f0⟩ := hst.cell
    have hpl : pre.length + 10 ≤ 19 := by have := hf.out; omega
    have hll : ((l ++ pre).map byt).length + 1 ≤ 1099511628099 := by have := hf.out; rw [List.length_map, List.length_append]; omega
    clear h hs hu
    by_cases hlt : 128 ≤ y
    · obtain ⟨g, e, hg⟩ := hbd.next hlt
      subst e
      have hblt := hst.lt
      have hbx : (Value.int .u8 ((y : Int) % 128 + 128)) = byt (UInt8.ofNat (y % 128 + 128)) := by rw [byt_ofNat (by omega)]; congr 1
      have HB := Lib.hid hbx
      clear hbx
      go_wp2_with (at_builtin; refine wpList_own rfl (.tmp 10) (.tmp 15) 27 27 rfl 5 i0 (.int .u8 0) 1 Try.underlying27 hi hz0 hz1 hz2 rfl vr _ _ rfl (hst.own.alloc _) 1 [.int .u8 ((y : Int) % 128 + 128)] rfl (src_one (by rw [World.cell?_alloc_new]; rfl) rfl) (by unfold maxLen; omega) (by omega) ?next)
      case next =>
        intro v' w' hown hgrow hnew
        obtain ⟨g', cap', n', e', c1, f1, s1, s2⟩ := hst.after HB.out (by simpa using hown) hgrow hnew
        subst e'
        go_wp2
        go_roundw
        case rel => exact ⟨g, y / 128, _, pre ++ [UInt8.ofNat (y % 128 + 128)], by omega, by go_num, hg, by unfold Hid; have := hf.out; rw [List.length_append, List.length_singleton]; omega, by unfold Hid; rw [hnum.out, numF_big hlt, List.append_assoc]; rfl, by rw [← List.append_assoc]; exact s1, hwr.trans s2⟩
        case measure => simp [intOf]; omega
    · have hn2 : num u = pre ++ [UInt8.ofNat y] := by rw [hnum.out, numF_small (by omega)]
      have HN := Lib.hid hn2
      have hbx : (Value.int .u8 (y : Int)) = byt (UInt8.ofNat y) := (byt_ofNat (by omega)).symm
      have HB := Lib.hid hbx
      clear hn2 hbx
      have hblt := hst.lt
      go_wp2_with (at_builtin; refine wpList_own rfl (.tmp 25) (.tmp 28) 27 27 rfl 5 i0 (.int .u8 0) 1 Try.underlying27 hi hz0 hz1 hz2 rfl vr _ _ rfl (hst.own.alloc _) 1 [.int .u8 (y : Int)] rfl (src_one (by rw [World.cell?_alloc_new]; rfl) rfl) (by unfold maxLen; omega) (by omega) ?nexu)
      case nexu =>
        intro v' w' hown hgrow hnew
        obtain ⟨g', cap', n', e', c1, f1, s1, s2⟩ := hst.after HB.out (by simpa using hown) hgrow hnew
        subst e'
        go_wp2
        go_end0
        exact ⟨rfl, _, by rw [HN.out, ← List.append_assoc]; exact s1, hwr.trans s2⟩
end Go.Proofs.Ytaahmfmelmjahaa
