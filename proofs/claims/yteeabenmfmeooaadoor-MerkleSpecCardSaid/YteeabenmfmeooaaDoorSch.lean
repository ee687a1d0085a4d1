/-
  Digest: the schedule of a block.
-/
import Derived.Test.YteeabenmfmeooaaDoorRor
import Derived.Test.YteeabenmfmeooaaDoorFrm
import Derived.Laws.Tables
import Derived.BigQuiet
namespace Go.Proofs.YteeabenmfmeooaaDoor
open Go Go.RowKit
def u32v (x : Int) : Value := .int .u32 x
/-- so many words, then zeros -/
def arr (xs : List Int) : Array Value := (xs.map u32v ++ List.replicate (64 - xs.length) (u32v 0)).toArray
theorem arr_get (xs : List Int) (_h : xs.length ≤ 64) (i : Nat) (hi : i < 64) : (arr xs)[i]? = some (.int .u32 (xs.getD i 0)) := by
  unfold arr u32v
  rw [List.getElem?_toArray]
  by_cases hx : i < xs.length
  · rw [List.getElem?_append_left (by simpa using hx)]
    simp [List.getD, List.getElem?_eq_getElem hx]
  · rw [List.getElem?_append_right (by simp; omega)]
    simp [List.getD, List.getElem?_eq_none (show xs.length ≤ i by omega), List.getElem?_replicate]
    omega
theorem arr_size (xs : List Int) (h : xs.length ≤ 64) : (arr xs).size = 64 := by
  unfold arr
  simp
  omega
theorem arr_snoc (xs : List Int) (h : xs.length < 64) (v : Int) : (arr xs).setIfInBounds xs.length (.int .u32 v) = arr (xs ++ [v]) := by
  apply Array.ext_getElem?
  intro i
  have h1 := arr_size xs (by omega)
  have h2 := arr_size (xs ++ [v]) (by simp; omega)
  by_cases hi : i < 64
  · rw [arr_get (xs ++ [v]) (by simp; omega) i hi, Array.getElem?_setIfInBounds]
    by_cases e : xs.length = i
    · subst e
      simp [List.getD, h1, hi]
    · rw [if_neg e, arr_get xs (by omega) i hi]
      simp only [List.getD, List.getElem?_append]
      by_cases hx : i < xs.length
      · rw [if_pos hx]
      · rw [if_neg hx, List.getElem?_eq_none (show xs.length ≤ i by omega), List.getElem?_eq_none (show [v].length ≤ i - xs.length by simp; omega)]
  · rw [Array.getElem?_eq_none (by rw [Array.size_setIfInBounds]; omega), Array.getElem?_eq_none (by omega)]
/-- the words lie in block g -/
def Lay (w : World) (g : Nat) (xs : List Int) : Prop := w.heap[g]? = some (.cells (arr xs) 76 (0, 0))
theorem Lay.get {w : World} {g : Nat} {xs : List Int} (h : Lay w g xs) (hx : xs.length ≤ 64) (i : Nat) (hi : i < 64) : w.cell? ⟨g, i, none⟩ = some (.int .u32 (xs.getD i 0)) := by
  unfold Lay at h
  have := arr_get xs hx i hi
  simp [World.cell?, h, this]
theorem Lay.free {w : World} {g : Nat} {xs : List Int} (h : Lay w g xs) (i : Nat) : w.frozen? ⟨g, i, none⟩ = false := by
  unfold Lay at h
  simp [World.frozen?, h]
theorem Lay.set {w : World} {g : Nat} {xs : List Int} (h : Lay w g xs) (hx : xs.length < 64) (v : Int) : Lay (w.setCell ⟨g, xs.length, none⟩ (.int .u32 v)) g (xs ++ [v]) := by
  unfold Lay at h ⊢
  simp only [World.setCell, Array.getElem?_modify, h]
  simp [← arr_snoc xs hx v]
theorem Lay.lt {w : World} {g : Nat} {xs : List Int} (h : Lay w g xs) : g < w.heap.size := by
  unfold Lay at h
  exact (Array.getElem?_eq_some_iff.1 h).1
theorem info76 : (Tryd.prog.info? 76).map (·.size) = some 64 := by kernel_rfl
theorem arr_one (xs : List Int) : (arr xs).all (·.oneCell') = true := by
  rw [Array.all_eq_true_iff_forall_mem]
  intro v hv
  unfold arr at hv
  rw [List.mem_toArray, List.mem_append] at hv
  rcases hv with hv | hv
  · obtain ⟨x, _, rfl⟩ := List.mem_map.1 hv
    rfl
  · rw [(List.mem_replicate.1 hv).2]
    rfl
/-- all words at once, out of memory and into it -/
theorem lay_load {ops : Array Oper} {rest : List Oper} {o : Oper} {a : Act} {w : World} {Q : Exit → Act → World → Prop} (hgd : o.guard = none) (x : Operand) (ho : o.op = .load 76 x) (g : Nat) (xs : List Int) (hl : Lay w g xs) (hx : xs.length = 64)
    (hp : a.eval x = .pointer (some ⟨g, 0, none⟩)) (h : wpList Tryd.prog ops Q rest (a.put o.dst (.agg (arr xs))) w) : wpList Tryd.prog ops Q (o :: rest) a w :=
  wpList_load_row hgd 76 x ho g hp 76 (arr xs) (0, 0) _ hl Tryd.underlying76 rfl (by rw [arr_size xs (by omega)]; exact info76) h
theorem lay_store {ops : Array Oper} {rest : List Oper} {o : Oper} {a : Act} {w : World} {Q : Exit → Act → World → Prop} (hgd : o.guard = none) (x y : Operand) (ho : o.op = .store 76 x y) (g : Nat) (ys xs : List Int) (hl : Lay w g ys) (hy : ys.length ≤ 64) (hx : xs.length = 64)
    (hp : a.eval x = .pointer (some ⟨g, 0, none⟩)) (hv : a.eval y = .agg (arr xs)) (h : wpList Tryd.prog ops Q rest (a.put o.dst undef) (w.setRow g (arr xs))) : wpList Tryd.prog ops Q (o :: rest) a w :=
  wpList_store_row hgd 76 x y ho g (arr xs) hp hv 76 (arr ys) hl (by rw [arr_size xs (by omega)]; exact info76) (by rw [arr_size xs (by omega), arr_size ys hy]) (arr_one xs) h
/-- the word behind so many -/
def nextw (xs : List Int) : Int :=
  (xs.getD (xs.length - 16) 0 + bits .xor .u32 (bits .xor .u32 (rotr (xs.getD (xs.length - 15) 0) 7) (rotr (xs.getD (xs.length - 15) 0) 18)) (xs.getD (xs.length - 15) 0 / 8) + xs.getD (xs.length - 7) 0 +
    bits .xor .u32 (bits .xor .u32 (rotr (xs.getD (xs.length - 2) 0) 17) (rotr (xs.getD (xs.length - 2) 0) 19)) (xs.getD (xs.length - 2) 0 / 1024)) % 4294967296
def sched (f : Nat → Int) : Nat → List Int
  | 0 => []
  | t + 1 => (fun xs => xs ++ [if t < 16 then wacc (fun k => f (t * 4 + k)) 4 else nextw xs]) (sched f t)
theorem sched_len (f : Nat → Int) : ∀ t, (sched f t).length = t
  | 0 => rfl
  | t + 1 => by simp [sched, sched_len f t]
set_option maxHeartbeats 4000000 in
theorem sched_any (b o : Nat) (f : Nat → Int) (cap : Nat) (w : World) (hcap : 64 ≤ cap) (hcap2 : cap ≤ 9223372036854775807) (hf : ∀ k, 0 ≤ f k ∧ f k < 256) (hb : b < w.heap.size) (hc : ∀ k, k < 64 → w.cell? ⟨b, o + k, none⟩ = some (.int .u8 (f k))) :
    Calls Tryd.prog 52 #[.slice (some ⟨b, o, none⟩) 64 cap] w fun e w' => e = .returned (.agg (arr (sched f 64))) ∧ Below w.heap.size w w' := by
  have HC := Lib.hid hc
  have HF := Lib.hid hf
  clear hc hf
  go_enter Tryd.func52, Tryd.ntmps52
  go_wp2_with fail
  go_loopw [7] (fun i wr => ∃ k : Nat, k ≤ 16 ∧ i = .int .i64 k ∧ Lay wr w.heap.size (sched f k) ∧ Below w.heap.size w wr) (fun i _ => 16 - (intOf i).toNat)
  case atStart => exact ⟨0, Nat.zero_le _, rfl, heap_alloc_new _ _, (Below.refl _ _).alloc (Nat.le_refl _) _⟩
  case round =>
    obtain ⟨k, hk, rfl, hlay, hbl⟩ := hrel
    have hlen := sched_len f k
    by_cases hlt : k < 16
    · have hw := fun w1 => word_any b (o + k * 4) (fun j => f (k * 4 + j)) (64 - k * 4) (cap - k * 4) w1 (by omega) (by omega) (fun j => HF.out _)
      have hcell := hlay.get (by omega) k (by omega)
      have hfr := hlay.free k
      have hset := fun v => hlay.set (by omega) v
      rw [hlen] at hset
      have hcs : ∀ j, j < 4 → wr.cell? ⟨b, o + k * 4 + j, none⟩ = some (.int .u8 (f (k * 4 + j))) := fun j hj => by
        rw [hbl.cell (p := ⟨b, o + k * 4 + j, none⟩) hb, Nat.add_assoc]
        exact HC.out _ (by omega)
      have H := Lib.hid (hw wr hcs)
      have HS := Lib.hid hset
      clear hw hcs hset hlen
      go_wp2_with fail
      refine H.out.mono ?_
      rintro e w' ⟨rfl, rfl⟩
      go_wp2_with fail
      go_roundw
      case rel => exact ⟨k + 1, by omega, by go_num, by have := HS.out (wacc (fun j => f (k * 4 + j)) 4); simpa [sched, hlt] using this, below_set hbl (Nat.le_refl _) _⟩
      case measure => simp [intOf]; omega
    · have hlay : Lay wr w.heap.size (sched f 16) := by rw [← show k = 16 from by omega]; exact hlay
      clear hlen
      go_wp2_with fail
      go_loopw [4] (fun i wr => ∃ k : Nat, 16 ≤ k ∧ k ≤ 64 ∧ i = .int .i64 k ∧ Lay wr w.heap.size (sched f k) ∧ Below w.heap.size w wr) (fun i _ => 64 - (intOf i).toNat)
      case atStart => exact ⟨16, by omega, by omega, rfl, hlay, hbl⟩
      case round =>
        clear hlay hbl hlt hk
        obtain ⟨k, hk0, hk, rfl, hlay, hbl⟩ := hrel
        have hlen := sched_len f k
        by_cases hlt : k < 64
        · have HL := Lib.hid hlay
          have n1 : sched f (k + 1) = sched f k ++ [nextw (sched f k)] := by simp only [sched]; rw [if_neg (by omega)]
          unfold nextw at n1
          rw [hlen] at n1
          have g1 := hlay.get (by omega) (k - 16) (by omega)
          have g2 := hlay.get (by omega) (k - 15) (by omega)
          have g3 := hlay.get (by omega) (k - 7) (by omega)
          have g4 := hlay.get (by omega) (k - 2) (by omega)
          have g5 := hlay.get (by omega) k hlt
          have g6 := hlay.free k
          generalize (sched f k).getD (k - 15) 0 = x2 at *
          generalize (sched f k).getD (k - 2) 0 = x4 at *
          have hset := hlay.set (by omega) 
          rw [hlen] at hset
          have HS := Lib.hid hset
          have HN := Lib.hid n1
          clear hset hlen hlay n1 HS
          go_wp2_with fail
          have s15 : IntKind.i64.wrap ((k : Int) - 15) = ((k - 15 : Nat) : Int) := by rw [IntWalk.i64_in _ (by omega)]; omega
          have s2 : IntKind.i64.wrap ((k : Int) - 2) = ((k - 2 : Nat) : Int) := by rw [IntWalk.i64_in _ (by omega)]; omega
          have s16 : IntKind.i64.wrap ((k : Int) - 16) = ((k - 16 : Nat) : Int) := by rw [IntWalk.i64_in _ (by omega)]; omega
          have s7 : IntKind.i64.wrap ((k : Int) - 7) = ((k - 7 : Nat) : Int) := by rw [IntWalk.i64_in _ (by omega)]; omega
          have b15 : ((k - 15 : Nat) : Int) < 64 := by omega
          have b2 : ((k - 2 : Nat) : Int) < 64 := by omega
          have b16 : ((k - 16 : Nat) : Int) < 64 := by omega
          have b7 : ((k - 7 : Nat) : Int) < 64 := by omega
          go_quiet (fail)
          have hb2 : Below w.heap.size w (wr.drewN nq) := ⟨hbl.os, hbl.tape, hbl.output, hbl.size, hbl.block⟩
          have hl2 : Lay (wr.drewN nq) w.heap.size (sched f k) := HL.out
          clear HL g1 g2 g3 g4 g5 g6 hbl
          generalize wr.drewN nq = wq at *
          have hlen := sched_len f k
          have g1 := hl2.get (by omega) (k - 16) (by omega)
          have g3 := hl2.get (by omega) (k - 7) (by omega)
          have g5 := hl2.get (by omega) k hlt
          have g6 := hl2.free k
          generalize (sched f k).getD (k - 16) 0 = x1 at *
          generalize (sched f k).getD (k - 7) 0 = x3 at *
          have HL := Lib.hid hl2
          have HK := Lib.hid hlen
          clear hl2 hlen
          go_wp2_with fail
          refine wp_region_still_tail 29 (by kernel_rfl) (by kernel_rfl) ?_
          simp only [List.take_succ_cons, List.take_zero, List.drop_succ_cons, List.drop_zero]
          iterate 6 still_step
          still_call (ror7 _ _)
          still_step
          still_call (ror18 _ _)
          iterate 11 still_step
          still_call (ror17 _ _)
          still_step
          still_call (ror19 _ _)
          iterate 6 still_step
          refine wpStill_nil ?_
          change wpList _ _ _ _ _ wq.drew
          have hb3 : Below w.heap.size w wq.drew := ⟨hb2.os, hb2.tape, hb2.output, hb2.size, hb2.block⟩
          have hl3 : Lay wq.drew w.heap.size (sched f k) := HL.out
          clear g1 g3 g5 g6 HL hb2 s15 s2 s7 s16 b15 b2 b16 b7
          generalize wq.drew = w2 at *
          have hset := fun v => hl3.set (by rw [HK.out]; exact hlt) v
          have g5 := hl3.get (by rw [HK.out]; omega) k hlt
          have g6 := hl3.free k
          rw [HK.out] at hset
          have HS := Lib.hid hset
          clear hset hl3
          go_wp2_with fail
          go_roundw
          case rel => exact ⟨k + 1, by omega, by omega, by go_num, by rw [HN.out]; exact HS.out _, below_set hb3 (Nat.le_refl _) _⟩
          case measure => simp [intOf]; omega
        · have HL := Lib.hid (show Lay wr w.heap.size (sched f 64) by rw [← show k = 64 from by omega]; exact hlay)
          clear hlay hlen
          go_wp2_with (first | (refine lay_load rfl (.tmp 2) rfl w.heap.size _ HL.out (sched_len f 64) rfl ?_) | (refine lay_store rfl (.tmp 2) (.tmp 59) rfl w.heap.size _ _ HL.out (Nat.le_of_eq (sched_len f 64)) (sched_len f 64) rfl rfl ?_; rw [setRow_self _ _ _ _ _ HL.out]))
          exact bodyPost_ret (results_cell_row rfl _ _ w.heap.size 76 _ (0, 0) _ rfl HL.out Tryd.underlying76 rfl (by rw [arr_size _ (Nat.le_of_eq (sched_len f 64))]; exact info76)) rfl ⟨rfl, hbl⟩
end Go.Proofs.YteeabenmfmeooaaDoor
