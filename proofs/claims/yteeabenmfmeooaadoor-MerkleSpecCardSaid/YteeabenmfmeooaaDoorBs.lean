/-
  Merkle: slices of digests that are written out.
-/
import Derived.Test.YteeabenmfmeooaaDoorTxt
namespace Go.Proofs.YteeabenmfmeooaaDoor
open Go Go.RowKit
theorem fold_row : ∀ (l : List Value) (k : Nat) (cs : Array Value), k + l.length ≤ cs.size → List.foldl (fun (cs : Array Value) (x : Value × Nat) => cs.setIfInBounds x.snd x.fst) cs (l.zipIdx k) = (cs.toList.take k ++ l ++ cs.toList.drop (k + l.length)).toArray
  | [], k, cs, h => by simp
  | a :: r, k, cs, h => by
    rw [List.length_cons] at h
    rw [List.zipIdx_cons, List.foldl_cons, fold_row r (k + 1) _ (by simp; omega)]
    congr 1
    have hk : k < cs.toList.length := by rw [Array.length_toList]; omega
    rw [Array.toList_setIfInBounds, List.take_add_one, List.take_set_of_le (Nat.le_refl k), List.getElem?_set_self hk, List.drop_set_of_lt (by omega)]
    simp [Nat.add_assoc, Nat.add_comm 1]
theorem fold_off (d : Nat) : ∀ (l : List Value) (k : Nat) (cs : Array Value), d + k + l.length ≤ cs.size → List.foldl (fun (cs : Array Value) (x : Value × Nat) => cs.setIfInBounds (d + x.snd) x.fst) cs (l.zipIdx k) = (cs.toList.take (d + k) ++ l ++ cs.toList.drop (d + k + l.length)).toArray
  | [], k, cs, h => by simp
  | a :: r, k, cs, h => by
    rw [List.length_cons] at h
    rw [List.zipIdx_cons, List.foldl_cons, fold_off d r (k + 1) _ (by simp; omega)]
    congr 1
    have hk : d + k < cs.toList.length := by rw [Array.length_toList]; omega
    rw [Array.toList_setIfInBounds, show d + (k + 1) = d + k + 1 by omega, List.take_add_one, List.take_set_of_le (Nat.le_refl _), List.getElem?_set_self hk, List.drop_set_of_lt (by omega)]
    simp [Nat.add_assoc, Nat.add_comm 1]
theorem bs1_run (a : List UInt8) (ha : a.length = 32) (w : World) : (Instr.buildSlice 25 1 #[(0, dgv a)]).run Tryd.prog w = .ok (.slice (some ⟨w.heap.size, 0, none⟩) 1 1) (w.alloc (.cells (a.map byt).toArray 30)) := by
  unfold Instr.buildSlice
  go_simp
  rw [fold_row (a.map byt) 0 _ (by simp [ha])]
  simp [ha]
theorem two_part {a b z : List Value} {n : Nat} (ha : a.length = n) (hb : b.length = n) (hz : z.length = n) : ((a ++ z).take n ++ b ++ (a ++ z).drop (n + n)) = a ++ b := by
  rw [List.take_append_of_le_length (by omega), List.take_of_length_le (by omega), List.drop_of_length_le (by rw [List.length_append]; omega), List.append_nil]
theorem bs2_run (a b : List UInt8) (ha : a.length = 32) (hb : b.length = 32) (w : World) : (Instr.buildSlice 25 2 #[(0, dgv a), (1, dgv b)]).run Tryd.prog w = .ok (.slice (some ⟨w.heap.size, 0, none⟩) 2 2) (w.alloc (.cells ((a ++ b).map byt).toArray 30)) := by
  unfold Instr.buildSlice
  go_simp
  rw [fold_row (a.map byt) 0 _ (by simp [ha])]
  rw [if_neg (by simp [ha])]
  rw [fold_off 32 (b.map byt) 0 _ (by simp [ha, hb])]
  simp only [List.length_map, ha, hb, Nat.zero_add, List.take_zero, List.nil_append, Nat.add_zero]
  rw [two_part (n := 32) (by simp [ha]) (by simp [hb]) (by simp)]
  go_simp
end Go.Proofs.YteeabenmfmeooaaDoor
