/-
  What NetworkMoveSpec's walk wants: lists of numbers that the call owns, a result stored behind another.
-/
import Derived.Test.YtpempgajejbdoaaRcy
import Derived.Test.YtpempgajejbdoaaTee
namespace Go.Proofs.Ytpempgajejbdoaa
open Go Go.RowKit
theorem inf3 : ∃ i, Try.prog.info? 3 = some i ∧ i.zero = some (.int .i64 0) ∧ i.size = 1 ∧ i.bytes = 8 := by
  cases h : Try.prog.info? 3 with
  | none => exact absurd (show (Try.prog.info? 3).isSome = true by kernel_rfl) (by rw [h]; simp)
  | some i =>
    refine ⟨i, rfl, ?_, ?_, ?_⟩
    · have : (Try.prog.info? 3).bind (·.zero) = some (.int .i64 0) := by kernel_rfl
      rw [h] at this; exact this
    · have : (Try.prog.info? 3).map (·.size) = some 1 := by kernel_rfl
      rw [h] at this; simpa using this
    · have : (Try.prog.info? 3).map (·.bytes) = some 8 := by kernel_rfl
      rw [h] at this; simpa using this
/-- numbers in a new block -/
structure OwnI (m : Nat) (w : World) (v : Value) (s : List Int) : Prop where
  own : OwnN 1 w v s.length (s.map (.int .i64))
  new : ∀ k, v.ownBlock = some k → m ≤ k
theorem int_vl {w : World} {x : Value} {T : TypeId} (h : x.oneCell' = true) : VL 1 (w.alloc (.cells #[x] T)) (.slice (some ⟨w.heap.size, 0, none⟩) 1 1) 1 [x] :=
  ⟨_, 1, rfl, Nat.le_refl _, by unfold maxLen; omega, (fun e => by cases e), rfl, (fun u hu => by
    simp only [List.mem_cons, List.not_mem_nil, or_false] at hu
    rw [hu]; exact h), .inr ⟨_, 0, rfl, by simp, fun j u hu => by
    rw [Nat.zero_add, World.cell?_alloc_new]
    simpa using hu⟩⟩
theorem ownI_one (w : World) (z : Int) (T : TypeId) : OwnI w.heap.size (w.alloc (.cells #[.int .i64 z] T)) (.slice (some ⟨w.heap.size, 0, none⟩) 1 1) [z] := by
  have hk := heap_alloc_new w (.cells #[.int .i64 z] T)
  refine ⟨.inr ⟨w.heap.size, 1, rfl, ⟨Nat.le_refl _, by unfold maxLen; omega, by simp, rfl, fun j hj => ?_, fun j => ?_, fun j u hu => ?_⟩⟩, fun k hk => by simp [Value.ownBlock] at hk; omega⟩
  · obtain rfl : j = 0 := by omega
    unfold World.cell?; simp only [hk]; rfl
  · unfold World.frozen?; simp only [hk]; simp
  · rw [World.cell?_alloc_new]
    simpa using hu
theorem OwnI.below {m : Nat} {w w' : World} {v : Value} {s : List Int} (h : OwnI m w v s) (hb : Below w.heap.size w w') : OwnI m w' v s := ⟨h.own.keep hb.size fun k hk => hb.block k (h.own.lt hk), h.new⟩
theorem OwnI.next {m : Nat} {w w5 : World} {v v5 : Value} {s : List Int} {x : Int} {o : Obj} (h : OwnI m w v s) (hm : m ≤ w.heap.size) (ho : OwnN 1 w5 v5 (s.length + 1) (s.map (.int .i64) ++ [.int .i64 x])) (hn : v5.ownBlock = v.ownBlock ∨ ∃ k, v5.ownBlock = some k ∧ (w.alloc o).heap.size ≤ k) : OwnI m w5 v5 (s ++ [x]) :=
  ⟨by rw [List.length_append, List.map_append]; exact ho, fun k hk => by
    rcases hn with h1 | ⟨k', h1, h2⟩
    · exact h.new k (by rw [← h1]; exact hk)
    · rw [h1] at hk; cases hk; simp at h2; omega⟩
theorem OwnI.some {m : Nat} {w : World} {v : Value} {s : List Int} (h : OwnI m w v s) (hs : s ≠ []) : ∃ g c, v = .slice (.some ⟨g, 0, none⟩) s.length c ∧ m ≤ g ∧ g < w.heap.size ∧ s.length ≤ c ∧ c ≤ maxLen ∧ ∀ (j : Nat) (z : Int), s[j]? = some z → w.cell? ⟨g, j, none⟩ = some (.int .i64 z) := by
  rcases h.own with ⟨_, hn, _⟩ | ⟨g, cap, rfl, ho⟩
  · exact absurd (List.eq_nil_of_length_eq_zero hn) hs
  · exact ⟨g, cap, rfl, h.new g rfl, ho.lt, ho.le, ho.mx, fun j z hz => ho.cells j _ (by rw [List.getElem?_map, hz]; rfl)⟩
theorem own_below {m : Nat} {w2 w4 w5 : World} {v : Value} {s : List Int} {o : Obj} (h : OwnI m w4 v s) (hw : w2.heap.size ≤ m) (hb : Below w2.heap.size w2 w4) (hg : (w4.alloc o).grownBy w5 v.ownBlock) : Below w2.heap.size w2 w5 := by
  have hs := hb.size
  exact ⟨hg.os.trans hb.os, hg.tape.trans hb.tape, hg.output.trans hb.output, (by have h1 := hg.size; simp at h1; omega), fun k hk => ((hg.block k (by simp; omega) (fun e => by have := h.new k e.symm; omega)).trans (heap_alloc_old w4 _ (by omega))).trans (hb.block k hk)⟩
theorem rcut_g {F : Nat → Prop} {W : World} {n : Nt} {pq pa : Option Addr} {N cq M ca : Nat} (HO : Op F W n pq N cq pa M ca) (a b : Int) (on : Bool) : Calls Try.prog 19 #[nval pq N cq pa M ca, .int .i64 a, .int .i64 b, .bool on] W (GN (cutN n a b on) (cutE n a b) W) := (rcut_any _ n a b on W HO.nv).mono fun _ _ h => h.g
end Go.Proofs.Ytpempgajejbdoaa
