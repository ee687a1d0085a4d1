/-
  Digest: a state as a digest.
-/
import Derived.Test.YteeabenmfmeooaaDoorPad
namespace Go.Proofs.YteeabenmfmeooaaDoor
open Go Go.RowKit
def u8i (x : Int) : UInt8 := UInt8.ofNat (x % 256).toNat
theorem u8i_byt (x : Int) : byt (u8i x) = .int .u8 (x % 256) := by
  unfold byt u8i
  rw [UInt8.toNat_ofNat']
  congr 1
  omega
/-- a byte of a state -/
def sb (s : R8) (i : Nat) : UInt8 := u8i (nth8 s (i / 4) / 2 ^ (8 * (3 - i % 4)))
def digof (s : R8) : List UInt8 := (List.range 32).map (sb s)
theorem digof_len (s : R8) : (digof s).length = 32 := by simp [digof]
/-- the bytes of a digest lie in block g -/
def Dg (w : World) (g : Nat) (l : List UInt8) : Prop := w.heap[g]? = some (.cells (l.map byt).toArray 30 (0, 0))
abbrev dgv (l : List UInt8) : Value := .agg (l.map byt).toArray
theorem Dg.get {w : World} {g : Nat} {l : List UInt8} (h : Dg w g l) (i : Nat) (hi : i < l.length) : w.cell? ⟨g, i, none⟩ = some (byt (l.getD i 0)) := by
  unfold Dg at h
  simp [World.cell?, h, List.getD, List.getElem?_eq_getElem hi]
theorem Dg.free {w : World} {g : Nat} {l : List UInt8} (h : Dg w g l) (i : Nat) : w.frozen? ⟨g, i, none⟩ = false := by
  unfold Dg at h
  simp [World.frozen?, h]
theorem Dg.set {w : World} {g : Nat} {l : List UInt8} (h : Dg w g l) (i : Nat) (c : UInt8) : Dg (w.setCell ⟨g, i, none⟩ (byt c)) g (l.set i c) := by
  unfold Dg at h ⊢
  simp only [World.setCell, Array.getElem?_modify, h]
  simp [List.map_set]
theorem info30 : (Tryd.prog.info? 30).map (·.size) = some 32 := by kernel_rfl
theorem dg_size {l : List UInt8} (h : l.length = 32) : (Tryd.prog.info? 30).map (·.size) = some (l.map byt).toArray.size := by
  rw [info30]
  simp [h]
theorem byt_one (l : List UInt8) : ((l.map byt).toArray).all (·.oneCell') = true := by
  rw [Array.all_eq_true_iff_forall_mem]
  intro v hv
  rw [List.mem_toArray] at hv
  obtain ⟨x, _, rfl⟩ := List.mem_map.1 hv
  rfl
theorem dg_load {ops : Array Oper} {rest : List Oper} {o : Oper} {a : Act} {w : World} {Q : Exit → Act → World → Prop} (hgd : o.guard = none) (x : Operand) (ho : o.op = .load 30 x) (g : Nat) (l : List UInt8) (hl : Dg w g l) (hx : l.length = 32)
    (hp : a.eval x = .pointer (some ⟨g, 0, none⟩)) (h : wpList Tryd.prog ops Q rest (a.put o.dst (dgv l)) w) : wpList Tryd.prog ops Q (o :: rest) a w :=
  wpList_load_row hgd 30 x ho g hp 30 _ (0, 0) _ hl Tryd.underlying30 rfl (dg_size hx) h
theorem dg_store {ops : Array Oper} {rest : List Oper} {o : Oper} {a : Act} {w : World} {Q : Exit → Act → World → Prop} (hgd : o.guard = none) (x y : Operand) (ho : o.op = .store 30 x y) (g : Nat) (l' l : List UInt8) (hl : Dg w g l') (hy : l'.length = 32) (hx : l.length = 32)
    (hp : a.eval x = .pointer (some ⟨g, 0, none⟩)) (hv : a.eval y = dgv l) (h : ∀ w2 : World, Hid (Dg w2 g l) → Chg g w w2 → wpList Tryd.prog ops Q rest (a.put o.dst undef) w2) : wpList Tryd.prog ops Q (o :: rest) a w :=
  wpList_store_row hgd 30 x y ho g _ hp hv 30 _ hl (dg_size hx) (by simp [hx, hy]) (byt_one l) (h _ (Lib.hid (setRow_heap _ _ _ _ _ _ hl)) (chg_row _ _ _))
def part32 (s : R8) (k : Nat) : List UInt8 := (digof s).take k ++ List.replicate (32 - k) 0
theorem part_len (s : R8) {k : Nat} (h : k ≤ 32) : (part32 s k).length = 32 := by
  unfold part32
  rw [List.length_append, List.length_take, List.length_replicate, digof_len]
  omega
theorem part_set (s : R8) {k : Nat} (h : k < 32) : (part32 s k).set k (sb s k) = part32 s (k + 1) := by
  apply List.ext_getElem?
  intro i
  have hk : ((digof s).take k).length = k := by rw [List.length_take, digof_len]; omega
  have hk1 : ((digof s).take (k + 1)).length = k + 1 := by rw [List.length_take, digof_len]; omega
  have hg : (digof s)[k]? = some (sb s k) := by simp [digof, List.getElem?_range h]
  rw [List.getElem?_set]
  by_cases e : k = i
  · subst e
    rw [if_pos rfl, if_pos (by rw [part_len s (by omega)]; exact h)]
    unfold part32
    rw [List.getElem?_append_left (by omega), List.getElem?_take, if_pos (by omega), hg]
  · rw [if_neg e]
    unfold part32
    simp only [List.getElem?_append, hk, hk1]
    by_cases h1 : i < k
    · rw [if_pos h1, if_pos (by omega), List.getElem?_take, List.getElem?_take, if_pos h1, if_pos (by omega)]
    · rw [if_neg h1, if_neg (by omega), List.getElem?_replicate, List.getElem?_replicate]
      by_cases h2 : i < 32
      · rw [if_pos (by omega), if_pos (by omega)]
      · rw [if_neg (by omega), if_neg (by omega)]
theorem part_full (s : R8) : part32 s 32 = digof s := by
  unfold part32
  rw [List.take_of_length_le (by rw [digof_len]; omega)]
  simp
def DigR (s : R8) (w : World) (e : Ending) (w' : World) : Prop := e = .returned (dgv (digof s)) ∧ Below w.heap.size w w'
set_option maxRecDepth 100000 in
set_option maxHeartbeats 1000000 in
theorem digest_any (g : Nat) (s : R8) (w : World) (hs : St w g s) : Calls Tryd.prog 38 #[.pointer (some ⟨g, 0, none⟩)] w (DigR s w) := by
  have HS := Lib.hid hs
  have hg := hs.lt
  clear hs
  go_enter Tryd.func38, Tryd.ntmps38
  go_wp2_with fail
  go_loopw [4] (fun i wr => ∃ k : Nat, k ≤ 32 ∧ i = .int .i64 k ∧ Dg wr w.heap.size (part32 s k) ∧ Below w.heap.size w wr) (fun i _ => 32 - (intOf i).toNat)
  case atStart => exact ⟨0, Nat.zero_le _, rfl, heap_alloc_new _ _, one_new _ _⟩
  case round =>
    obtain ⟨k, hk, rfl, hd, hb⟩ := hrel
    by_cases hlt : k < 32
    · have hst : St wr g s := HS.out.keep (hb.block g hg)
      have c1 := hst.cell (show k / 4 < 8 by omega)
      have c2 := hd.get k (by rw [part_len s hk]; exact hlt)
      have f2 := hd.free k
      have r2 := hd.set k (sb s k)
      rw [part_set s hlt] at r2
      have HR := Lib.hid r2
      have hsb : byt (sb s k) = .int .u8 (nth8 s (k / 4) / 2 ^ (8 * (3 - k % 4)) % 256) := u8i_byt _
      have HB := Lib.hid hsb
      unfold byt at c2
      clear hst hd r2 hsb
      go_wp2_with fail
      go_roundw
      case rel => exact ⟨k + 1, by omega, by go_num, by rw [← HB.out]; exact HR.out, below_set hb (Nat.le_refl _) _⟩
      case measure => simp [intOf]; omega
    · have hd32 : Dg wr w.heap.size (part32 s 32) := by
        have e : k = 32 := by omega
        rw [e] at hd
        exact hd
      have HR := Lib.hid hd32
      clear hd hd32
      go_wp2_with (first | (refine dg_load rfl (.tmp 2) rfl w.heap.size _ HR.out (part_len s (by omega)) rfl ?_) | (refine dg_store rfl (.tmp 2) (.tmp 23) rfl w.heap.size _ _ HR.out (part_len s (by omega)) (part_len s (by omega)) rfl rfl ?_; rintro w2 hd2 hc2))
      rw [part_full] at hd2
      exact bodyPost_ret (results_cell_row rfl _ _ w.heap.size 30 _ (0, 0) _ rfl hd2.out Tryd.underlying30 rfl (dg_size (digof_len s))) rfl ⟨rfl, Chg.below hb hb.size (Nat.le_refl _) hc2⟩
end Go.Proofs.YteeabenmfmeooaaDoor
