/-
  Links: the iterator over all pairs but one.
-/
import Derived.RangeFuncNested
import Derived.RangeFuncBound
import Derived.RangeFuncCalls
import Derived.RangeFuncLeaves
import Derived.Shelf.Abstract
import Derived.Shelf.RegionOpen
import Derived.WalkKit
import Derived.OwnWalkIn
import Derived.TacticsInMore
import Derived.LoopNIn
import Derived.LoopIn
import Derived.Test.YtpempgajejbdoaaVap
namespace Go.Proofs.Ytpempgajejbdoaa
open Go Go.RowKit Go.Shelf
attribute [local go_sem] Oper.semAt_some
/-- all pairs but one -/
def but (s : List Lk) (l : Lk) : List Lk := s.filter fun z => !(z.1 == l.1 && z.2 == l.2)
theorem but_take_no {s : List Lk} {l : Lk} {k : Nat} {z : Lk} (hz : s[k]? = some z) (h : (z.1 == l.1 && z.2 == l.2) = true) : but (s.take (k + 1)) l = but (s.take k) l := by
  unfold but
  rw [List.take_add_one, hz, List.filter_append, Option.toList_some, List.filter_cons, h]
  simp
theorem but_take_yes {s : List Lk} {l : Lk} {k : Nat} {z : Lk} (hz : s[k]? = some z) (h : (z.1 == l.1 && z.2 == l.2) = false) : but (s.take (k + 1)) l = but (s.take k) l ++ [z] := by
  unfold but
  rw [List.take_add_one, hz, List.filter_append, Option.toList_some, List.filter_cons, h]
  simp
theorem but_len (s : List Lk) (l : Lk) (k : Nat) : (but (s.take k) l).length ≤ k := by
  unfold but
  exact Nat.le_trans (List.length_filter_le _ _) (by rw [List.length_take]; omega)
/-- what lies below n, and block B, is kept -/
structure KpB (n B : Nat) (A C : World) : Prop where
  below : Below n A C
  blk : C.heap[B]? = A.heap[B]?
theorem KpB.refl (n B : Nat) (A : World) : KpB n B A A := ⟨Below.refl _ _, rfl⟩
theorem KpB.trans {n B : Nat} {A C D : World} (h : KpB n B A C) (k : KpB n B C D) : KpB n B A D := ⟨h.below.trans k.below, k.blk.trans h.blk⟩
theorem KpB.alloc {n B : Nat} {A C : World} (h : KpB n B A C) (hn : n ≤ C.heap.size) (hB : B < C.heap.size) (o : Obj) : KpB n B A (C.alloc o) := ⟨h.below.alloc hn o, (Below.heap_alloc C o B hB).trans h.blk⟩
theorem KpB.cell {n B : Nat} {A C : World} (h : KpB n B A C) (o : Nat) : C.cell? ⟨B, o, none⟩ = A.cell? ⟨B, o, none⟩ := World.cell?_of_block (w := A) (a := ⟨B, o, none⟩) h.blk
set_option maxRecDepth 100000 in
set_option maxHeartbeats 2000000 in
theorem oth1_in (F : Fence) (n : Nat) (h51 : F.fn 51) (hro : F.round = none) (hn : 1 ≤ n) (l Bl Bk n₀ M ca : Nat) (pa : Option Addr) (s : List Lk) (x y : Int) (hM : s.length = M) (hM1 : M ≤ ca) (hM2 : ca ≤ 9223372036854775807) (J Jx : List Lk → World → Prop) (hJ : ∀ pre W o, J pre W → n₀ ≤ W.heap.size → J pre (W.alloc o))
    (hY : ∀ (pre : List Lk) (z : Lk) (W : World), J pre W → pre.length < M → YieldAt F (n - 1) Try.prog l #[.agg #[.int .i64 z.1, .int .i64 z.2]] W fun e W' =>
      (e = .returned (.bool true) ∧ J (pre ++ [z]) W' ∧ KpB n₀ Bk W W') ∨ (e = .returned (.bool false) ∧ Jx (pre ++ [z]) W'))
    (W : World) (hB1 : W.cell? ⟨Bl, 0, none⟩ = some (.slice pa M ca)) (hB2 : W.cell? ⟨Bk, 0, none⟩ = some (.int .i64 x)) (hB3 : W.cell? ⟨Bk, 1, none⟩ = some (.int .i64 y)) (hB20 : Bk < W.heap.size) (hn0 : n₀ ≤ W.heap.size)
    (hc : ∀ (j : Nat) (z : Lk), s[j]? = some z → ∃ b o, pa = some ⟨b, o, none⟩ ∧ b < n₀ ∧ W.cell? ⟨b, o + j * 2, none⟩ = some (.int .i64 z.1) ∧ W.cell? ⟨b, o + j * 2 + 1, none⟩ = some (.int .i64 z.2)) (h0 : J [] W) :
    CallsIn F n Try.prog 51 #[.func (.yield l) #[] #[], .pointer (some ⟨Bl, 0, none⟩), .pointer (some ⟨Bk, 0, none⟩)] W fun e W' => (∃ v, e = .returned v) ∧
      ((∃ ys, ys = but s (x, y) ∧ J ys W') ∨ (∃ pre, (∃ k, k ≤ M ∧ pre.length ≤ k) ∧ Jx pre W')) := by
  refine callsIn_of_wp Try.func51 rfl h51 ?_ hro
  simp only [Try.ntmps51, List.size_toArray, List.length_cons, List.length_nil, Nat.reduceAdd, Nat.reduceSub, Array.replicate_succ, Array.replicate_zero, List.push_toArray, List.append_toArray, List.nil_append, List.cons_append]
  have HM := Lib.hid hM
  clear hM
  gi_wp2
  gi_loopw [8] (fun i wr => ∃ k : Nat, k ≤ M ∧ i = .int .i64 k ∧ J (but (s.take k) (x, y)) wr ∧ KpB n₀ Bk W wr) (fun i _ => M - (intOf i).toNat)
  case atStart => exact ⟨0, Nat.zero_le _, rfl, by simpa [but] using h0, KpB.refl _ _ _⟩
  case round =>
    obtain ⟨k, hk, rfl, hJs, hnx⟩ := hrel
    by_cases hlt : k < M
    · obtain ⟨z, hz⟩ : ∃ z, s[k]? = some z := ⟨_, List.getElem?_eq_getElem (by rw [HM.out]; exact hlt)⟩
      obtain ⟨b, o, rfl, hb, hc1, hc2⟩ := hc k z hz
      have hd1 := (hnx.below.cell (p := ⟨b, o + k * 2, none⟩) hb).trans hc1
      have hd2 := (hnx.below.cell (p := ⟨b, o + k * 2 + 1, none⟩) hb).trans hc2
      have hk1 := (hnx.cell 0).trans hB2
      have hk2 := (hnx.cell 1).trans hB3
      have hnr : n₀ ≤ wr.heap.size := Nat.le_trans hn0 hnx.below.size
      have hkl : Bk < wr.heap.size := Nat.lt_of_lt_of_le hB20 hnx.below.size
      have LE := fun W => lk_equal z.1 z.2 x y W
      have hJ2 := hJ _ _ (.cells #[.int .i64 z.1, .int .i64 z.2] 55) hJs hnr
      have hB4 : KpB n₀ Bk W (wr.alloc (.cells #[.int .i64 z.1, .int .i64 z.2] 55)) := hnx.alloc hnr hkl _
      cases hs : (z.1 == x && z.2 == y)
      · simp only [hs] at LE
        obtain ⟨fn, tmps, assign, body, hy, hR⟩ := hY _ z _ hJ2 (Nat.lt_of_le_of_lt (but_len s (x, y) k) hlt)
        have HT := Lib.hid (but_take_yes (l := (x, y)) hz hs)
        have HB4 := Lib.hid hB4
        have HRR := Lib.hid hR
        clear hs hJ2 hB4 hR
        gi_wp2
        refine HRR.out.mono ?_
        rintro e W3 (⟨rfl, hJ3, hk3⟩ | ⟨rfl, hJx3⟩)
        · gi_wp2
          go_roundw
          case rel => exact ⟨k + 1, by omega, by go_num, by rw [HT.out]; exact hJ3, HB4.out.trans hk3⟩
          case measure => simp [intOf]; omega
        · gi_wp2
          refine bodyPost_ret (results_none rfl _ _ _) rfl ?_
          exact ⟨⟨_, rfl⟩, .inr ⟨_, ⟨M, Nat.le_refl _, by rw [List.length_append]; have := but_len s (x, y) k; simp; omega⟩, hJx3⟩⟩
      · simp only [hs] at LE
        have HT := Lib.hid (but_take_no (l := (x, y)) hz hs)
        clear hs
        gi_wp2
        refine ⟨fun _ h => (by cases h), ?_⟩
        gi_wp2
        go_roundw
        case rel => exact ⟨k + 1, by omega, by go_num, by rw [HT.out]; exact hJ2, hB4⟩
        case measure => simp [intOf]; omega
    · gi_wp2
      go_end0
      refine ⟨⟨_, rfl⟩, .inl ⟨_, rfl, ?_⟩⟩
      rw [List.take_of_length_le (by rw [HM.out]; omega)] at hJs
      exact hJs
theorem oth_stops (F : Fence) (n : Nat) (h51 : F.fn 51) (hro : F.round = none) (hn : 1 ≤ n) (Bl Bk n₀ M ca : Nat) (pa : Option Addr) (s : List Lk) (x y : Int) (hM : s.length = M) (hM1 : M ≤ ca) (hM2 : ca ≤ 9223372036854775807) (w : World) (hn₀ : n₀ ≤ w.heap.size)
    (hB1 : w.cell? ⟨Bl, 0, none⟩ = some (.slice pa M ca)) (hB10 : Bl < w.heap.size) (hB2 : w.cell? ⟨Bk, 0, none⟩ = some (.int .i64 x)) (hB3 : w.cell? ⟨Bk, 1, none⟩ = some (.int .i64 y)) (hB20 : Bk < w.heap.size)
    (hc : ∀ (j : Nat) (z : Lk), s[j]? = some z → ∃ b o, pa = some ⟨b, o, none⟩ ∧ b < n₀ ∧ w.cell? ⟨b, o + j * 2, none⟩ = some (.int .i64 z.1) ∧ w.cell? ⟨b, o + j * 2 + 1, none⟩ = some (.int .i64 z.2)) :
    SeqStopsK F n Try.prog 51 #[.pointer (some ⟨Bl, 0, none⟩), .pointer (some ⟨Bk, 0, none⟩)] (fun z : Lk => #[.agg #[.int .i64 z.1, .int .i64 z.2]]) (KpB n₀ Bk) (fun ys => ys = but s (x, y))
      (fun pre => ∃ k, k ≤ M ∧ pre.length ≤ k) M w := fun l J Jx W hW hJ _ hY h0 => by
  refine oth1_in F n h51 hro hn l Bl Bk n₀ M ca pa s x y hM hM1 hM2 J Jx (fun pre W' o hs hl => ?_) hY W ((hW.cell (p := ⟨Bl, 0, none⟩) hB10).trans hB1) ((hW.cell (p := ⟨Bk, 0, none⟩) hB20).trans hB2) ((hW.cell (p := ⟨Bk, 1, none⟩) hB20).trans hB3) (Nat.lt_of_lt_of_le hB20 hW.size) (Nat.le_trans hn₀ hW.size) (fun j z hz => ?_) h0
  · exact hJ pre W' (W'.alloc o) none hs (World.grownBy_alloc W' o none) (fun r e => by cases e)
  · obtain ⟨b, o, e, h1, h2, h3⟩ := hc j z hz
    exact ⟨b, o, e, h1, (hW.cell (p := ⟨b, o + j * 2, none⟩) (Nat.lt_of_lt_of_le h1 hn₀)).trans h2, (hW.cell (p := ⟨b, o + j * 2 + 1, none⟩) (Nat.lt_of_lt_of_le h1 hn₀)).trans h3⟩
set_option maxHeartbeats 1000000 in
theorem others_in (F : Fence) (n : Nat) (h46 : F.fn 46) (hro : F.round = none) (a : Option Addr) (len cap : Nat) (x y : Int) (w : World) :
    CallsIn F n Try.prog 46 #[.slice a len cap, .agg #[.int .i64 x, .int .i64 y]] w fun e w' => e = .returned (.func (.func 51) #[] #[.pointer (some ⟨w.heap.size, 0, none⟩), .pointer (some ⟨w.heap.size + 1, 0, none⟩)]) ∧ w' = (w.alloc (.cells #[.slice a len cap] 23)).alloc (.cells #[.int .i64 x, .int .i64 y] 55) := by
  refine callsIn_of_wp Try.func46 rfl h46 ?_ hro
  simp only [Try.ntmps46, List.size_toArray, List.length_cons, List.length_nil, Nat.reduceAdd, Nat.reduceSub, Array.replicate_succ, Array.replicate_zero, List.push_toArray, List.append_toArray, List.nil_append, List.cons_append]
  gi_wp2
  go_ret
  exact ⟨rfl, rfl⟩
end Go.Proofs.Ytpempgajejbdoaa
