/-
  Links: slices.SortFunc of a list of pairs that the call owns.
-/
import Derived.Test.YtpempgajejbdoaaSrl
import Derived.Test.YtpempgajejbdoaaMen
namespace Go.Proofs.Ytpempgajejbdoaa
open Go Go.RowKit Go.Shelf Go.Sort Go.Lib
def encL (z : Lk) : List Value := [.int .i64 z.1, .int .i64 z.2]
theorem ltOf_cmp (x y : Lk) : ltOf cmpL x y = ltL x y := (ltL_cmp x y).symm
theorem swoL : SWO (ltOf cmpL) where
  irrefl x := by rw [ltOf_cmp]; unfold ltL; simp
  trans x y z h1 h2 := by rw [ltOf_cmp] at *; unfold ltL at *; simp at *; omega
  ntrans x y z h1 h2 := by rw [ltOf_cmp] at *; unfold ltL at *; simp at *; omega
theorem totL (x y : Lk) (h1 : ltOf cmpL x y = false) (h2 : ltOf cmpL y x = false) : x = y := by
  rw [ltOf_cmp] at *
  obtain ⟨a, b⟩ := x
  obtain ⟨c, d⟩ := y
  unfold ltL at *
  simp at *
  omega
theorem flat_lcs : ∀ (s : List Lk) (t : Nat), t < s.length * 2 → (lcs s)[t]? = some ((encL (s.toArray[t / 2]!))[t % 2]!)
  | [], t, h => by simp at h
  | z :: r, 0, h => by simp [lcs, encL]
  | z :: r, 1, h => by simp [lcs, encL]
  | z :: r, t + 2, h => by
    have ih := flat_lcs r t (by simp at h; omega)
    have e1 : (t + 2) / 2 = t / 2 + 1 := by omega
    have e2 : (t + 2) % 2 = t % 2 := by omega
    rw [e1, e2]
    simpa [lcs] using ih
theorem holds_own {w : World} {g cap : Nat} {s : List Lk} (h : OwnB 2 w g cap s.length (lcs s)) : HoldsK encL 2 w g 0 s.toArray := fun t ht => by
  rw [size_flatK] at ht
  have ht' : t < s.length * 2 := by simpa using ht
  rw [Nat.zero_add, get_flatK _ _ _ _ ht]
  exact ⟨h.cells _ _ (flat_lcs s t ht'), h.free t⟩
theorem put_chg (w : World) (g n : Nat) (d : Array Lk) (os : Array Obj) : Chg g w (sortWorldK encL 2 w g 0 n d os) := by
  refine ⟨rfl, rfl, rfl, ?_, fun k hk hg => ?_⟩
  · simp [sortWorldK, grow, putRowK, putRow, mapBlock, Sort.ahead]
  · show ((w.heap.modify g _) ++ os)[k]? = _
    rw [Array.getElem?_append_left (by simpa using hk), Array.getElem?_modify, if_neg (fun e => hg e.symm)]
/-- the pairs in order -/
def srt (s : List Lk) : List Lk := s.mergeSort fun x y => !(ltOf cmpL) y x
theorem srt_len (s : List Lk) : (srt s).length = s.length := List.length_mergeSort ..
/-- it has put the row of block g in order -/
def Sorted (g : Nat) (s : List Lk) (w : World) (e : Ending) (w' : World) : Prop := e = .returned (.tuple #[]) ∧ Chg g w w' ∧ ∀ (j : Nat) (z : Lk), (srt s)[j]? = some z → w'.cell? ⟨g, j * 2, none⟩ = some (.int .i64 z.1) ∧ w'.cell? ⟨g, j * 2 + 1, none⟩ = some (.int .i64 z.2)
theorem sort_any (g cap : Nat) (s : List Lk) (w : World) (h : OwnB 2 w g cap s.length (lcs s)) (hlen : s.length ≤ 1048576) : Calls Try.prog 37 #[.slice (some ⟨g, 0, none⟩) s.length cap, .func (.func 38) #[] #[]] w (Sorted g s w) := by
  have eg : ∀ args w, (callFunc 38 args).run Try.prog w = .ok (.enter 38 args) w := enters_of Try.func38 (by kernel_rfl) rfl
  have hH := holds_own h
  have hcon := AnyQ.slices_SortFunc_total sortL 2 Try.isAgg55 Try.sizeOf55 encL (fun _ => rfl) (fun x v hv => by simp [encL] at hv; rcases hv with rfl | rfl <;> rfl) cmpL swoL 38 #[] g 0 cap s.toArray w eg
    (fun _ _ _ _ x y => cmpl_any x y _) hH h.lt (by simp; omega) totL
  have hs : s.toArray.size = s.length := by simp
  rw [hs] at hcon
  refine Calls.mono (f := 37) hcon ?_
  rintro e w' ⟨rfl, n, os, rfl⟩
  refine ⟨rfl, put_chg _ _ _ _ _, fun j z hz => ?_⟩
  have hsz : ((s.toArray.toList.mergeSort fun x y => !(ltOf cmpL) y x).toArray).size = s.toArray.size := by simp
  have h1 := holdsK_grow encL 2 (putRowK encL 2 (Sort.ahead w n) g 0 (s.toArray.toList.mergeSort fun x y => !(ltOf cmpL) y x).toArray) os g 0 _ (by simpa [putRowK, putRow, mapBlock, Sort.ahead] using h.lt) (holdsK_putRowK encL 2 (Sort.ahead w n) g 0 s.toArray (s.toArray.toList.mergeSort fun x y => !(ltOf cmpL) y x).toArray (holdsK_ahead encL 2 w n g 0 _ hH) hsz)
  have hj : j < ((s.toArray.toList.mergeSort fun x y => !(ltOf cmpL) y x).toArray).size := by
    have := (List.getElem?_eq_some_iff.1 hz).1
    rw [srt_len] at this
    rw [hsz, hs]
    exact this
  have hz' : (s.toArray.toList.mergeSort fun x y => !(ltOf cmpL) y x).toArray[j]! = z := by
    have := hz
    unfold srt at this
    simp [this]
  have c0 := (h1.cell hj (c := 0) (by omega)).1
  have c1 := (h1.cell hj (c := 1) (by omega)).1
  rw [hz'] at c0 c1
  rw [Nat.zero_add] at c0 c1
  exact ⟨c0, c1⟩
end Go.Proofs.Ytpempgajejbdoaa
